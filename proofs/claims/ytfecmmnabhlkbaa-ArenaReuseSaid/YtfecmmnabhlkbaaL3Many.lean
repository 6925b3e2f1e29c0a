/- ArenaMany: a contract of the walk. -/
import Derived.Test.YtfecmmnabhlkbaaL3Full
namespace Go.Proofs.Ytfecmmnabhlkbaa
open Go Go.RowKit Go.ChangeAt

/-- The numbers from 0 on. -/
def upTo (n : Nat) : List Int := (List.range n).map (fun i : Nat => (i : Int))
theorem upTo_len (n : Nat) : (upTo n).length = n := by simp [upTo]
theorem upTo_succ (n : Nat) : upTo (n + 1) = upTo n ++ [(n : Int)] := by simp [upTo, List.range_succ]
theorem upTo_get {n i : Nat} (h : i < n) : (upTo n).getD i 0 = (i : Int) := by
  unfold upTo
  rw [List.getD_eq_getElem?_getD, List.getElem?_map, List.getElem?_range h]
  rfl
theorem mem_upTo {n : Nat} {k : Int} : k ∈ upTo n ↔ 0 ≤ k ∧ k < n := by
  unfold upTo
  rw [List.mem_map]
  constructor
  · rintro ⟨i, hi, rfl⟩
    have := List.mem_range.1 hi
    omega
  · intro h
    exact ⟨k.toNat, List.mem_range.2 (by omega), by omega⟩
/-- A list is good if its numbers are taken and none is there twice. -/
theorem Ar.good_of {l : List Int} : ∀ {T : List Bool}, l.Nodup → (∀ k ∈ l, Ar.is T k = true) → Ar.good T l = true := by
  induction l with
  | nil => intro T _ _; rfl
  | cons j l ih =>
    intro T hn h
    have hj := h j List.mem_cons_self
    have hj0 := (Ar.is_lt hj).1
    obtain ⟨h1, h2⟩ := List.nodup_cons.1 hn
    show (Ar.is T j && Ar.good (T.set j.toNat false) l) = true
    rw [hj, ih h2 (fun k hk => by rw [Ar.is_set hj0, h k (List.mem_cons_of_mem _ hk)]; have : j ≠ k := fun e => h1 (e ▸ hk); simp [this])]
    rfl
theorem nodup_upTo (n : Nat) : (upTo n).Nodup := by
  induction n with
  | zero => exact List.nodup_nil
  | succ n ih =>
    rw [upTo_succ, List.nodup_append]
    refine ⟨ih, by simp, fun a ha b hb e => ?_⟩
    have := (mem_upTo.1 ha).2
    simp at hb
    omega
theorem good_upTo (n : Nat) : Ar.good (allT n) (upTo n) = true := Ar.good_of (nodup_upTo n) (fun _ hk => is_all (mem_upTo.1 hk).1 (mem_upTo.1 hk).2)
/-- Where one is none, all fails. -/
theorem fr_bad {T : List Bool} {F l : List Int} {k : Int} (hm : k ∈ l) (h : Ar.is T k = false) : Ar.fr T F l = (7, T, F) := by
  unfold Ar.fr
  rw [if_neg]
  intro hg
  have := (Ar.good_mem _ _ hg).2 k hm
  rw [h] at this
  cases this
theorem is_none {n : Nat} {k : Int} (h : (n : Int) ≤ k) : Ar.is (allT n) k = false := Ar.is_out (.inr (by rw [allT_len]; exact h))
/-- Those behind the first i stand at true. -/
def tail (n i : Nat) (T : List Bool) : Prop := T.length = n ∧ ∀ j : Nat, i ≤ j → j < n → T.getD j false = true
theorem fr_upTo (n : Nat) : Ar.fr (allT n) [] (upTo n) = (0, Ar.setAll (allT n) false (upTo n), upTo n) := by
  unfold Ar.fr
  rw [if_pos (good_upTo n), List.nil_append]
/-- Taken back from the end on. -/
theorem tk_upTo {m i : Nat} {T : List Bool} : Ar.tk m T (upTo (i + 1)) = ((i : Int), 0, T.set ((i : Int)).toNat true, upTo i) := by
  rw [upTo_succ, Ar.tk_snoc]

/-- A slice of the call's own, of n integers. -/
abbrev OwnN (base : Nat) (w : World) (v : Value) (n : Nat) (l : List Int) : Prop := w.ownsRow base 3 1 v n (l.map (Value.int .i64))
theorem OwnN.own {base : Nat} {w : World} {v : Value} {n : Nat} {l : List Int} (h : OwnN base w v n l) : l.length = n ∧ OwnI base w v l := by
  have h1 := h.1
  rw [List.length_map, Nat.mul_one] at h1
  subst h1
  exact ⟨rfl, h⟩
theorem OwnI.set {base : Nat} {w : World} {b cap n : Nat} {l : List Int} (h : OwnN base w (.slice (some ⟨b, 0, none⟩) n cap) n l) (j : Nat) (x : Int) :
    OwnN base (w.setCell ⟨b, j, none⟩ (.int .i64 x)) (.slice (some ⟨b, 0, none⟩) n cap) n (l.set j x) := by
  have := (World.ownsRow.stored (w := w) h j (.int .i64 x)).1
  unfold OwnN
  rw [List.map_set]
  exact this
theorem key_modu (k : Int) (m : Nat) (h0 : 0 < m) (hm : m < 9223372036854775808) : ∃ n : Nat, n < m ∧ (IntKind.u64.wrap k).tmod m = (n : Int) := by
  have h0' : 0 ≤ k % 18446744073709551616 := Int.emod_nonneg _ (by decide)
  have h2 : (k % 18446744073709551616).tmod m = k % 18446744073709551616 % m := Int.tmod_eq_emod_of_nonneg h0'
  rw [IntKind.wrap_u64, h2]
  have h3 : 0 ≤ k % 18446744073709551616 % m := Int.emod_nonneg _ (by omega)
  have h4 : k % 18446744073709551616 % m < m := Int.emod_lt_of_pos _ (by omega)
  exact ⟨(k % 18446744073709551616 % m).toNat, by omega, by omega⟩
/-- A copy: append([]int{}, l...). -/
theorem wp_copy {P : Program} (w : World) {ops : Array Oper} {rest : List Oper} {o : Oper} {a : Act} {Q : Exit → Act → World → Prop} (hgd : o.guard = none) (s x : Operand) (t : TypeId)
    (ho : o.op = .call { callee := .builtin .append, args := #[s, x], argTypes := #[t, t] })
    (i : TypeInfo) (ht : P.underlying t = some (.slice 3)) (hi : P.info? 3 = some i) (hz : i.zero = some (.int .i64 0)) (hsize : i.size = 1) (hby : i.bytes = 8)
    (hs : a.eval s = .slice (some ⟨w.heap.size, 0, none⟩) 0 0) (b : Option Addr) (c n : Nat) (l : List Int) (hn : l.length = n) (hx : a.eval x = .slice b n c) (hl : RdL w b c l) (hm : l.length ≤ 1099511627776)
    (h : ∀ v' w', OwnN w.heap.size w' v' n l → Below w.heap.size w w' → wpList P ops Q rest (a.put o.dst v') w') :
    wpList P ops Q (o :: rest) a (w.alloc (.cells #[] 3)) := by
  subst hn
  have hb : Below w.heap.size w (w.alloc (.cells #[] 3)) := (Below.refl _ _).alloc (Nat.le_refl _) _
  refine wp_append_list _ hgd s x t ho w.heap.size 3 i ht hi hz hsize hby _ ([] : List Int) hs (World.ownsRow_made w #[] 0 (Nat.le_refl _) (by decide) rfl) b c l hx (hl.below hb) (by simp; exact hm) hb.size ?_
  intro v' w' h1 h2 _
  simp only [List.length_nil, Nat.zero_add, List.nil_append] at h1
  exact h v' w' h1 (hb.grown h2 hb.size (fun q hq => by cases hq; exact Nat.le_refl _))
theorem OwnN.open {base : Nat} {w : World} {v : Value} {n : Nat} {l : List Int} (h : OwnN base w v n l) (hp : 0 < n) : ∃ b cap, v = .slice (some ⟨b, 0, none⟩) n cap ∧ base ≤ b ∧ b < w.heap.size ∧ (∀ i, i < n → w.cell? ⟨b, i, none⟩ = some (.int .i64 (l.getD i 0))) ∧ (∀ i, w.frozen? ⟨b, i, none⟩ = false) ∧ n ≤ cap ∧ cap ≤ maxLen := by
  obtain ⟨hl, ho⟩ := h.own
  obtain ⟨a, cap, rfl, h1, h2⟩ := own_form h
  subst hl
  obtain ⟨b, rfl, h3, h4, h5, h6⟩ := OwnI.open ho hp
  exact ⟨b, cap, rfl, h3, h4, h5, h6, h1, h2⟩
theorem OwnN.rd {base : Nat} {w : World} {a : Option Addr} {n cap : Nat} {l : List Int} (h : OwnN base w (.slice a n cap) n l) : RdL w a cap l := by
  obtain ⟨hl, ho⟩ := h.own
  subst hl
  exact OwnI.rd ho
set_option maxRecDepth 100000 in
set_option maxHeartbeats 1600000 in
theorem many_w (a0 a1 : Int) (W : World) (_ : (Lit.int .i64 a0).wf = true) (_ : (Lit.int .i64 a1).wf = true) : Calls Try.prog 7 #[.int .i64 a0, .int .i64 a1] W fun e w' => e = .returned (.bool true) ∧ Below W.heap.size W w' := by
  obtain ⟨i0, hi, hz0, hz1, hz2⟩ := info_parts infoI
  obtain ⟨n0, hn0, hkey⟩ := key_mod a0 19 (by decide) (by decide)
  have HKEY := Lib.hid hkey
  clear hkey
  go_enter Try.func7, Try.ntmps7
  go_wp2_with (first
    | (go_at_call 8; refine (knew 100 W W (by decide) (Below.refl _ _)).mono ?_; rintro e w1 ⟨rfl, h1, _⟩))
  obtain ⟨n, hn⟩ : ∃ n, n0 + 2 = n := ⟨_, rfl⟩
  obtain ⟨g, hg⟩ : ∃ g, W.heap.size = g := ⟨_, rfl⟩
  rw [hg] at h1 ⊢
  have HG := Lib.hid hg
  have e19 : wrap64 (2 + wrap64 ((IntKind.u64.wrap a0).tmod 19)) = (n : Int) := by
    have e0 : (19 : Int) = ((19 : Nat) : Int) := rfl
    rw [e0, HKEY.out]
    unfold RowKit.wrap64
    omega
  have E19 := Lib.hid e19
  clear hg e19 HKEY
  have hn2 : 2 ≤ n := by omega
  have hn20 : n ≤ 20 := by omega
  have H1 := Lib.hid h1
  clear h1 hn hn0
  go_wp2_with fail
  rw [E19.out]
  clear E19
  go_loopw [7, 8] (fun v i wr => ∃ (m : Nat) (A : Nat → Prop), m ≤ n ∧ i = .int .i64 m ∧ Kp W wr A g 100 (allT m) [] ∧ OwnN W.heap.size wr v m (upTo m) ∧ ∀ k, v.ownBlock = some k → ¬ A k) (fun _ i _ => n - (intOf i).toNat)
  case atStart => exact ⟨0, _, Nat.zero_le _, rfl, H1.out, World.ownsRow_nil _ _ _ _, fun k hk => by cases hk⟩
  case round =>
    obtain ⟨m, A, hmn, rfl, hk, hown, hsep⟩ := hrel
    clear H1
    by_cases hlt : m < n
    · have h1' : (m : Int) < n := by omega
      have htk : Ar.tk 100 (allT m) [] = ((m : Int), 0, allT (m + 1), []) := by
        rw [Ar.tk_new 100 (allT m) (by rw [allT_len]; omega), allT_len]
        unfold allT
        rw [List.replicate_succ']
      have c := ktake hk htk
      have HOWN := Lib.hid hown
      have HSEP := Lib.hid hsep
      clear hown hsep htk
      obtain ⟨va, vc, rfl, hvc, hvm⟩ := own_form HOWN.out
      go_wp2_with (first
        | (go_at_call 9; (with_reducible refine c.mono ?_); rintro e w2 ⟨rfl, A2, h2, hst2, hA2⟩;
           (have hown2 : OwnN W.heap.size w2 (.slice va m vc) m (upTo m) := ownsRow_stay HOWN.out hst2 HSEP.out); (have hbase : W.heap.size ≤ w2.heap.size := h2.2.2.size))
        | (at_builtin; (refine wpList_append_own_at _ rfl (.tmp 28) (.tmp 30) 26 rfl W.heap.size 3 i0 (.int .i64 0) 1 8 Try.underlying26 hi hz0 hz1 hz2 rfl (by decide) _ _ _ rfl (World.ownsRow.alloc hown2 _) ⟨w2.heap.size, 0, none⟩ 1 1 [.int .i64 m] rfl rfl (cell_one_new _ _ _) (fun u hu => by simp at hu; subst hu; rfl) (by unfold maxLen; omega) (by omega) (by simp; omega) ?_); intro v3 w3 hown3 hgrow3 hnil3 hat3))
      clear c
      have hg3 := grown_stay hgrow3
      have hst3 : Stay (fun i => (Value.slice va m vc).ownBlock = some i) w2 w3 := Stay.trans ((Stay.refl _ _).alloc _) hg3 (fun i _ e => e)
      have hsep2 : ∀ k, A2 k → ¬ (Value.slice va m vc).ownBlock = some k := fun k hk e => by
        rcases hA2 k hk with h | h
        · exact HSEP.out k e h
        · have := (HOWN.out.lt k e).2; omega
      have h3 : Kp W w3 A2 g 100 (allT (m + 1)) [] := ⟨h2.1.stay hst3 hsep2, h2.2.1, h2.2.2.trans (hst3.below hbase (fun i _ e => (HOWN.out.lt i e).1))⟩
      have hown4 : OwnN W.heap.size w3 v3 (m + 1) (upTo (m + 1)) := by unfold OwnN; rw [upTo_succ, List.map_append]; exact hown3
      have hsep4 : ∀ k, v3.ownBlock = some k → ¬ A2 k := by
        intro k hk hA
        rcases hat3 with e | e
        · rw [e] at hk; exact hsep2 k hA hk
        · rw [e] at hk
          have h5 := (h2.1.lt k hA).2
          have h6 : w2.heap.size + 1 = k := by have := Option.some.inj hk; simpa using this
          omega
      go_wp2_with fail
      go_roundw
      case rel => exact ⟨m + 1, A2, hlt, by go_num, h3, hown4, hsep4⟩
      case measure => simp [intOf]; omega
    · have hmn' : m = n := by omega
      subst hmn'
      have h1' : ¬ (m : Int) < m := by omega
      have HSEP := Lib.hid hsep
      clear hsep
      obtain ⟨vb, vc, rfl, hvbase, hvlt, _, _, hvc, hvm⟩ := OwnN.open hown (by omega)
      have HOWN := Lib.hid hown
      obtain ⟨q, hq, hmod⟩ := key_modu a1 m (by omega) (by omega)
      have hq' : (q : Int) < m := by omega
      have hX : (50 : Int) ∈ (upTo m).set q 50 := List.mem_set (by rw [upTo_len]; exact hq) _
      have HFR := Lib.hid (fr_bad (T := allT m) (F := []) hX (is_none (by omega)))
      have HFA := Lib.hid (fr_upTo m)
      have HLX := Lib.hid (show ((upTo m).set q 50).length = m by rw [List.length_set, upTo_len])
      have hnA : ¬ A vb := HSEP.out vb rfl
      have hbw := hk.2.2.size
      clear hown hX
      go_wp2_with (first
        | (at_builtin; (refine wp_copy _ rfl (.tmp 32) (.tmp 33) 26 rfl i0 Try.underlying26 hi hz0 hz1 hz2 rfl (some ⟨vb, 0, none⟩) vc m (upTo m) (upTo_len m) rfl (OwnN.rd HOWN.out) (by rw [upTo_len]; omega) ?_); intro v1 w2 hown1 hb1;
           (obtain ⟨xb, xc, rfl, hxbase, hxlt, hxc, hxf, hxn, hxm⟩ := OwnN.open hown1 (by omega));
           (have hxcell := hxc q hq); (have hxfr := hxf q); (have hk2 := hk.below hb1);
           (have HO1 := Lib.hid hown1); clear hxc hxf hown1))
      have hb3 : Below wr.heap.size wr (w2.setCell ⟨xb, q, none⟩ (.int .i64 50)) := hb1.setCell (p := ⟨xb, q, none⟩) hxbase _
      have ho3 : OwnN wr.heap.size (w2.setCell ⟨xb, q, none⟩ (.int .i64 50)) (.slice (some ⟨xb, 0, none⟩) m xc) m ((upTo m).set q 50) := OwnI.set HO1.out q 50
      have hk3 := hk.below hb3
      have hown3 : OwnN W.heap.size (w2.setCell ⟨xb, q, none⟩ (.int .i64 50)) (.slice (some ⟨vb, 0, none⟩) m vc) m (upTo m) := ownsRow_below HOWN.out hb3
      have hxlt3 : xb < (w2.setCell ⟨xb, q, none⟩ (.int .i64 50)).heap.size := ho3.lt xb rfl |>.2
      clear hk2 hxcell hxfr hb1 HO1 hxlt
      generalize w2.setCell ⟨xb, q, none⟩ (.int .i64 50) = w3 at *
      have hxA : ∀ ad : Addr, some (⟨xb, 0, none⟩ : Addr) = some ad → ad.block < w3.heap.size → ¬ A ad.block := by
        intro ad e _ hA
        cases e
        have := (hk.1.lt _ hA).2
        simp at hxbase this
        omega
      have c := kfree hk3 (some ⟨xb, 0, none⟩) xc m ((upTo m).set q 50) HLX.out (OwnN.rd ho3) (fun _ => hxA) HFR.out
      (with_reducible refine c.mono ?_)
      clear c
      rintro e w4 ⟨rfl, A4, h4, hst4, hA4⟩
      have hown4 : OwnN W.heap.size w4 (.slice (some ⟨vb, 0, none⟩) m vc) m (upTo m) := ownsRow_stay hown3 hst4 HSEP.out
      have hvA4 : ¬ A4 vb := fun hA => by
        rcases hA4 vb hA with h | h
        · exact hnA h
        · have := hb3.size; omega
      clear ho3 hk3 hown3 hxA hk HFR HLX HSEP HOWN
      go_wp2_with (first
        | (go_at_call 13; (have c := klive (n := m) h4 (by rw [allT_len]; rfl)); (with_reducible refine c.mono ?_); clear c; rintro e w5 ⟨rfl, n5, hw5⟩; (have h5 := h4.drewN n5); (have ho5 : OwnN W.heap.size (w4.drewN n5) (.slice (some ⟨vb, 0, none⟩) m vc) m (upTo m) := hown4); (rw [← hw5] at h5 ho5); clear hw5 hown4 h4)
        | (go_at_call 10; (have c := kfree h5 (some ⟨vb, 0, none⟩) vc m (upTo m) (upTo_len m) (OwnN.rd ho5) (fun _ ad e _ hA => by cases e; exact hvA4 hA) HFA.out); (with_reducible refine c.mono ?_); clear c; rintro e w6 ⟨rfl, A6, h6, _, _⟩; clear h5 ho5 hvA4)
        | (go_at_call 13; (have c := klive (n := 0) h6 (by rw [Ar.setAll_length, allT_len, upTo_len]; omega)); refine c.mono ?_; clear c; rintro e w7 ⟨rfl, n7, hw7⟩; (have h7 := h6.drewN n7); (rw [← hw7] at h7); clear hw7 h6))
      obtain ⟨T7, hT7⟩ : ∃ T7, Ar.setAll (allT m) false (upTo m) = T7 := ⟨_, rfl⟩
      have hl7 : T7.length = m := by rw [← hT7, Ar.setAll_length, allT_len]
      rw [hT7] at h7
      have H7 := Lib.hid h7
      clear hT7 h7
      go_loopw [10, 11, 12] (fun i _ _ wr => ∃ (j : Nat) (A : Nat → Prop) (T : List Bool), j ≤ m ∧ i = .int .i64 ((j : Int) - 1) ∧ T.length = m ∧ Kp W wr A g 100 T (upTo j)) (fun i _ _ _ => ((intOf i) + 1).toNat)
      case atStart => exact ⟨m, _, T7, Nat.le_refl _, rfl, hl7, H7.out⟩
      case round =>
        obtain ⟨j, A, T, hjm, rfl, hTl, hk⟩ := hrel
        clear H7 hl7
        by_cases hj : j = 0
        · subst hj
          have HK := Lib.hid hk
          have HTL := Lib.hid hTl
          clear hk hTl
          go_wp2_with (first
            | (go_at_call 12; refine (told_any _).mono ?_; rintro e w8 ⟨rfl, hb8⟩; (have h8 := HK.out.below hb8))
            | (go_at_call 18; (have c := kmade (n := m) h8 HTL.out); (with_reducible refine c.mono ?_); clear c; rintro e w9 ⟨rfl, rfl⟩))
          go_ret
          exact ⟨rfl, h8.2.2⟩
        · obtain ⟨i, rfl⟩ : ∃ i, j = i + 1 := ⟨j - 1, by omega⟩
          have e1 : (((i + 1 : Nat) : Int) - 1) = (i : Int) := by omega
          rw [e1]
          have c := ktake hk tk_upTo
          have HTL := Lib.hid (show (T.set ((i : Int)).toNat true).length = m by rw [List.length_set]; exact hTl)
          have h0 : (0 : Int) ≤ i := by omega
          clear e1 hTl hj hk
          go_wp2_with (first
            | (go_at_call 9; (with_reducible refine c.mono ?_); rintro e w2 ⟨rfl, A2, h2, _, _⟩))
          clear c
          go_roundw
          case rel => exact ⟨i, A2, _, by omega, by go_num, HTL.out, h2⟩
          case measure => simp [intOf]
end Go.Proofs.Ytfecmmnabhlkbaa
