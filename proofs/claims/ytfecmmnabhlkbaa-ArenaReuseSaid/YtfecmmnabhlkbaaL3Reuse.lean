/- ArenaReuse: a contract of the walk. -/
import Derived.Test.YtfecmmnabhlkbaaL3Many
namespace Go.Proofs.Ytfecmmnabhlkbaa
open Go Go.RowKit Go.ChangeAt

/-- A row that came in, as it is read. -/
theorem RdL.of_row {w : World} {a : Option Addr} {len cap : Nat} {zs : List Int} (h : IsRow .i64 w a len cap zs) : RdL w a cap (zs.take len) ∧ (zs.take len).length = len ∧ ∀ z ∈ zs.take len, -9223372036854775808 ≤ z ∧ z ≤ 9223372036854775807 := by
  rcases h with ⟨rfl, rfl, rfl, rfl⟩ | ⟨x, rfl, hlc, hm, hz, hcell, hwf⟩
  · exact ⟨RdL.nil w, rfl, fun z hz => by cases hz⟩
  · have hl : (zs.take len).length = len := by rw [List.length_take]; omega
    refine ⟨⟨by omega, hm, (fun e => by cases e), fun hpos => ?_⟩, hl, fun z hz => by have := bounds_i64 (hwf z (List.mem_of_mem_take hz)); exact ⟨this.1, this.2⟩⟩
    obtain ⟨b, off, rfl, hc⟩ := ints_at hcell (by omega)
    refine ⟨b, off, rfl, block_lt_of_cell (hc 0 (by omega)), fun i hi => ?_⟩
    rw [hc i (by omega), List.getD_eq_getElem?_getD, List.getD_eq_getElem?_getD, List.getElem?_take_of_lt (by omega)]
/-- What a Take makes of it. -/
theorem reuse_take {T : List Bool} {F : List Int} {m : Nat} (hs : Ar.S 1000 T F) (hT : T.length ≤ m) (hm : m < 150) : ∃ (k : Nat) (T' : List Bool) (F' : List Int), Ar.tk 1000 T F = ((k : Int), 0, T', F') ∧ k < 200 ∧ T.getD k false = false ∧
    T'.length - F'.length = T.length - F.length + 1 ∧ T'.length = max T.length (T.length - F.length + 1) ∧ T'.length ≤ m + 1 ∧ ∀ j, T'.getD j false = if k = j then true else T.getD j false := by
  by_cases hF : F = []
  · subst hF
    refine ⟨T.length, T ++ [true], [], Ar.tk_new _ _ (by omega), by omega, by rw [List.getD_eq_getElem?_getD, List.getElem?_eq_none (Nat.le_refl _)]; rfl, by simp, by simp, by simp; omega, fun j => ?_⟩
    rw [List.getD_eq_getElem?_getD, List.getD_eq_getElem?_getD]
    by_cases hj : T.length = j
    · subst hj; simp
    · rw [if_neg hj]
      by_cases hlt : j < T.length
      · rw [List.getElem?_append_left hlt]
      · rw [List.getElem?_eq_none (by simp; omega), List.getElem?_eq_none (by omega)]
  · obtain ⟨G, k, rfl⟩ := Ar.snoc_of hF
    obtain ⟨h0, h1, h2, _⟩ := hs.old
    have hl := hs.len
    rw [List.length_append] at hl
    obtain ⟨q, rfl⟩ := Int.eq_ofNat_of_zero_le h0
    refine ⟨q, _, G, Ar.tk_snoc _ _ _ _, by omega, by simpa using h2, ?_, ?_, ?_, fun j => ?_⟩
    · rw [List.length_set, List.length_append]; simp at hl ⊢; omega
    · rw [List.length_set, List.length_append]; simp at hl ⊢; omega
    · rw [List.length_set]; omega
    · rw [Ar.getD_set]
      by_cases hj : q = j
      · subst hj; rw [if_pos ⟨by simp, by omega⟩, if_pos rfl]
      · rw [if_neg (by simp; omega), if_neg hj]
theorem key200 (z : Int) : ∃ n : Nat, RowKit.wrap64 ((IntKind.u64.wrap ((IntKind.u64.wrap z).tdiv 2)).tmod 200) = (n : Int) ∧ n < 200 := by
  rw [IntKind.wrap_u64 z]
  have h0 : 0 ≤ z % 18446744073709551616 := Int.emod_nonneg _ (by decide)
  have h1 : z % 18446744073709551616 < 18446744073709551616 := Int.emod_lt_of_pos _ (by decide)
  generalize z % 18446744073709551616 = u at *
  rw [Int.tdiv_eq_ediv_of_nonneg h0, IntKind.wrap_u64, Int.tmod_eq_emod_of_nonneg (by omega)]
  refine ⟨(u / 2 % 18446744073709551616 % 200).toNat, ?_, by omega⟩
  unfold RowKit.wrap64
  omega

theorem infoM : (Try.prog.info? 42).map (fun i => i.zero) = some (some (.agg (Array.replicate 200 (.bool false)))) := by kernel_rfl
theorem zeroM : ∃ zs : Array Value, (∀ w, (zeroValue 42).run Try.prog w = .ok (.agg zs) w) ∧ zs.size = 200 ∧ ∀ j, j < 200 → zs[j]? = some (.bool false) := by
  refine ⟨Array.replicate 200 (.bool false), fun w => ?_, Array.size_replicate, fun j hj => by rw [Array.getElem?_replicate, if_pos hj]⟩
  obtain ⟨i, hi, hz⟩ := Option.map_eq_some_iff.1 infoM
  simp [zeroValue, typeInfo, hi, hz]
theorem Kp.stay {W w w' : World} {A S : Nat → Prop} {g most : Nat} {T : List Bool} {F : List Int} (h : Kp W w A g most T F) (hb : Stay S w w') (hs : ∀ k, A k → ¬ S k) (hw : ∀ k, S k → W.heap.size ≤ k) : Kp W w' A g most T F :=
  ⟨h.1.stay hb hs, h.2.1, h.2.2.trans (hb.below h.2.2.size (fun k _ hk => hw k hk))⟩
/-- The numbers were laid down just now, behind a draw. -/
theorem kfree_newd {W w : World} {A : Nat → Prop} {g most n : Nat} {T : List Bool} {F : List Int} (h : Kp W w A g most T F) (l : List Int) (cs : Array Value) (hn : l.length = n) (hcs : cs = (l.map (Value.int .i64)).toArray) (hm : l.length ≤ maxLen) {e : Int} {T' : List Bool} {F' : List Int} (ht : Ar.fr T F l = (e, T', F')) :
    Calls Try.prog 10 #[.pointer (some ⟨g, 0, none⟩), .slice (some ⟨w.heap.size, 0, none⟩) n n] (w.alloc (.cells cs 3)).drew fun x w' => x = .returned (.int .i64 e) ∧ Kq W w w' A g most T' F' := by
  subst hn hcs
  have hb : Below w.heap.size w (w.alloc (.cells (l.map (Value.int .i64)).toArray 3)).drew := ((Below.refl _ _).alloc (Nat.le_refl _) _).drew
  have hrd : RdL (w.alloc (.cells (l.map (Value.int .i64)).toArray 3)).drew (some ⟨w.heap.size, 0, none⟩) l.length l := (RdL.made l hm).stay ((Stay.refl (fun _ => False) _).drew) (fun _ _ _ _ h => h)
  refine (kfree (h.below hb) _ _ _ l rfl hrd (fun _ ad e _ hA => by cases e; exact absurd (h.1.lt _ hA).2 (Nat.lt_irrefl _)) ht).mono ?_
  rintro x w' ⟨hx, A', h1, h2, h3⟩
  exact ⟨hx, A', h1, (Stay.of_below hb).trans h2 (fun _ _ h => h), fun k hk => (h3 k hk).imp id (fun h => by have := hb.size; omega)⟩
/-- Free of one number. -/
theorem fr_other {T : List Bool} {F : List Int} {k : Int} (h : Ar.is T k = false) : Ar.fr T F [k] = (7, T, F) := fr_bad (List.mem_singleton.2 rfl) h
theorem is_nat {T : List Bool} {k : Nat} : Ar.is T (k : Int) = T.getD k false := by
  unfold Ar.is
  rw [decide_eq_true (by omega)]
  rfl
/-- The law's own marks: which of the numbers below 200 are taken. -/
def Marks (w : World) (b : Nat) (T : List Bool) : Prop := ∃ cs : Array Value, w.heap[b]? = some (.cells cs 42 (0, 0)) ∧ cs.size = 200 ∧ ∀ j, j < 200 → cs[j]? = some (.bool (T.getD j false))
theorem Marks.stay {w w' : World} {S : Nat → Prop} {b : Nat} {T : List Bool} (h : Marks w b T) (hb : Stay S w w') (hs : ¬ S b) : Marks w' b T := by
  obtain ⟨cs, h1, h2⟩ := h
  exact ⟨cs, hb.kept h1 hs, h2⟩
theorem Marks.cell {w : World} {b : Nat} {T : List Bool} (h : Marks w b T) {j : Nat} (hj : j < 200) : w.cell? ⟨b, j, none⟩ = some (.bool (T.getD j false)) := by
  obtain ⟨cs, h1, h2, h3⟩ := h
  exact (cell_of h1).trans (h3 j hj)
theorem Marks.frozen {w : World} {b : Nat} {T : List Bool} (h : Marks w b T) (j : Nat) : w.frozen? ⟨b, j, none⟩ = false := by
  obtain ⟨cs, h1, h2, h3⟩ := h
  exact free_of h1
theorem Marks.lt {w : World} {b : Nat} {T : List Bool} (h : Marks w b T) : b < w.heap.size := by
  obtain ⟨cs, h1, h2, h3⟩ := h
  exact lt_of_block h1
theorem Marks.set {w : World} {b k : Nat} {T T' : List Bool} {x : Bool} (h : Marks w b T) (hT : ∀ j, T'.getD j false = if k = j then x else T.getD j false) : Marks (w.setCell ⟨b, k, none⟩ (.bool x)) b T' := by
  obtain ⟨cs, h1, h2, h3⟩ := h
  refine ⟨cs.setIfInBounds k (.bool x), set_of h1 _, by simpa using h2, fun j hj => ?_⟩
  rw [Array.getElem?_setIfInBounds, hT]
  by_cases hk : k = j
  · subst hk; simp [h2, hj]
  · rw [if_neg hk, if_neg hk]; exact h3 j hj
set_option maxRecDepth 100000 in
set_option maxHeartbeats 1600000 in
theorem reuse_w (a0 : Option Addr) (len0 cap0 : Nat) (z0 : List Int) (W : World) (w0 : IsRow .i64 W a0 len0 cap0 z0) : Calls Try.prog 5 #[.slice a0 len0 cap0] W fun e w' => e = .returned (.bool true) ∧ Below W.heap.size W w' := by
  obtain ⟨hrd, hlen, hbd⟩ := RdL.of_row w0
  obtain ⟨l, hl⟩ : ∃ l, z0.take len0 = l := ⟨_, rfl⟩
  rw [hl] at hrd hlen hbd
  clear hl w0
  obtain ⟨zs, hzv, hzs, hzg⟩ := zeroM
  have HZS := Lib.hid hzs
  have HZG := Lib.hid hzg
  clear hzs hzg
  go_enter Try.func5, Try.ntmps5
  go_wp2_with (first
    | (go_at_call 8; refine (knew 1000 W W (by decide) (Below.refl _ _)).mono ?_; rintro e w1 ⟨rfl, h1, _⟩))
  obtain ⟨g, hg⟩ : ∃ g, W.heap.size = g := ⟨_, rfl⟩
  rw [hg] at h1 ⊢
  have HG := Lib.hid hg
  have H1 := Lib.hid (h1.below ((Below.refl _ _).alloc (Nat.le_refl _) (.cells zs 42)))
  have HM1 : Hid (Marks (w1.alloc (.cells zs 42)) w1.heap.size []) := Lib.hid ⟨zs, alloc_of, HZS.out, fun j hj => by rw [HZG.out j hj]; rfl⟩
  have HA1 : Hid (¬ (w1.heap.size = g)) := Lib.hid (fun e => by have := (h1.1.lt g rfl).2; omega)
  have HHS := Lib.hid h1.2.2.size
  clear hg h1
  generalize hw2 : w1.alloc (.cells zs 42) = w2 at *
  clear hw2
  obtain ⟨b, hb⟩ : ∃ b, w1.heap.size = b := ⟨_, rfl⟩
  rw [hb] at HM1 HA1 HHS ⊢
  clear hb
  go_loopw [5, 6, 7, 8, 9, 10] (fun n t i _ _ _ wr => ∃ (m : Nat) (A : Nat → Prop) (T : List Bool) (F : List Int), m ≤ len0 ∧ m ≤ 150 ∧ i = .int .i64 m ∧ n = .int .i64 ((T.length - F.length : Nat) : Int) ∧ t = .int .i64 T.length ∧ Kp W wr A g 1000 T F ∧ T.length ≤ m ∧ Marks wr b T ∧ ¬ A b) (fun _ _ i _ _ _ _ => 150 - (intOf i).toNat)
  case atStart => exact ⟨0, _, [], [], Nat.zero_le _, Nat.zero_le _, rfl, rfl, rfl, H1.out, Nat.zero_le _, HM1.out, HA1.out⟩
  case round =>
    obtain ⟨m, A, T, F, hml, hm150, rfl, rfl, rfl, hk, hTm, hmk, hAb⟩ := hrel
    clear H1 HM1 HA1
    obtain ⟨n, hn⟩ : ∃ n, T.length - F.length = n := ⟨_, rfl⟩
    obtain ⟨t, ht⟩ : ∃ t, T.length = t := ⟨_, rfl⟩
    rw [hn]
    rw [ht]
    have HT := Lib.hid ht
    have HN := Lib.hid hn
    have HK := Lib.hid hk
    have HMK := Lib.hid hmk
    have HAB := Lib.hid hAb
    by_cases hlt : m < len0 ∧ m < 150
    · obtain ⟨hlt1, hlt2⟩ := hlt
      have h1' : (m : Int) < len0 := by omega
      have h2' : (m : Int) < 150 := by omega
      obtain ⟨b0, off, rfl, hbb, hc⟩ := hrd.2.2.2 (by omega)
      obtain ⟨z, hz⟩ : ∃ z, l.getD m 0 = z := ⟨_, rfl⟩
      have hcell : wr.cell? ⟨b0, off + m, none⟩ = some (.int .i64 z) := (hk.2.2.cell (p := ⟨b0, off + m, none⟩) hbb).trans ((hc m (by omega)).trans (by rw [hz]))
      clear hc hz
      by_cases hd : bits BinOp.and IntKind.i64 z 1 = 0
      · obtain ⟨k, T', F', htk, hk200, hTk, hn', ht', htm', hget⟩ := reuse_take hk.2.1 hTm hlt2
        have c := ktake HK.out htk
        have hk0 : (0 : Int) ≤ k := by omega
        have hk2 : (k : Int) < 200 := by omega
        have HTK := Lib.hid hTk
        have HN2 := Lib.hid (show T'.length - F'.length = n + 1 by rw [hn', hn])
        have HT2 := Lib.hid (show T'.length = max t (n + 1) by rw [ht', hn, ht])
        have HGET := Lib.hid hget
        have HTM := Lib.hid htm'
        have HB := Lib.hid (show b < wr.heap.size from hmk.lt)
        have hn200 : n ≤ 150 := by omega
        have ht200 : t ≤ 150 := by omega
        clear hTk hn' ht' hget htm' hk hTm hmk hAb hn ht htk
        have hd1 : decide ((k : Int) < 0) = false := decide_eq_false (by omega)
        have hd2 : decide ((200 : Int) ≤ k) = false := decide_eq_false (by omega)
        have en : ((n + 1 : Nat) : Int) = (n : Int) + 1 := by omega
        have EN := Lib.hid en
        clear en
        by_cases hx : n + 1 ≤ t
        · have hx1 : ¬ (t : Int) < n + 1 := by omega
          have hx2 : (n : Int) + 1 ≤ t := by omega
          have HT3 := Lib.hid (show T'.length = t by rw [HT2.out]; omega)
          go_wp2_with (first
            | (go_at_call 9; (with_reducible refine c.mono ?_); rintro e w3 ⟨rfl, A3, h3, hst3, hA3⟩;
               (have hmk3 : Marks w3 b T := HMK.out.stay hst3 HAB.out); (have hcell3 := hmk3.cell hk200); (rw [HTK.out] at hcell3);
               (have hfr3 := hmk3.frozen k);
               (have hA3b : ¬ A3 b := fun h => (hA3 b h).elim HAB.out (fun h => by have := HB.out; omega));
               (have hk4 : Kp W (w3.setCell ⟨b, k, none⟩ (.bool true)) A3 g 1000 T' F' := h3.stay (Stay.setCell (S := fun i => i = b) (Stay.refl _ _) (p := ⟨b, k, none⟩) (.inr rfl) _) (fun i hi e => hA3b (by have e' : i = b := e; rw [← e']; exact hi)) (fun i hi => by have e' : i = b := hi; rw [e']; exact HHS.out));
               (have hmk4 : Marks (w3.setCell ⟨b, k, none⟩ (.bool true)) b T' := hmk3.set HGET.out); (have HK4 := Lib.hid hk4); (have HM4 := Lib.hid hmk4); clear h3 hmk3 hk4 hmk4 hst3)
            | (go_at_call 13; (have c2 := klive (n := n + 1) HK4.out HN2.out); (rw [EN.out] at c2); (with_reducible refine c2.mono ?_); clear c2; rintro e w5 ⟨rfl, n5, hw5⟩; (have hk5 := HK4.out.drewN n5); (have hm5 : Marks ((w3.setCell ⟨b, k, none⟩ (.bool true)).drewN n5) b T' := HM4.out); (rw [← hw5] at hk5 hm5); clear hw5)
            | (go_at_call 18; (have c2 := kmade (n := t) hk5 HT3.out); (with_reducible refine c2.mono ?_); clear c2; rintro e w6 ⟨rfl, rfl⟩))
          go_roundw
          case rel => exact ⟨m + 1, A3, T', F', by omega, by omega, by go_num, by rw [HN2.out, EN.out], by rw [HT3.out], hk5, HTM.out, hm5, hA3b⟩
          case measure => simp [intOf]; omega
        · have hx1 : (t : Int) < n + 1 := by omega
          have hx2 : ¬ (n : Int) + 1 ≤ t := by omega
          have HT3 := Lib.hid (show T'.length = n + 1 by rw [HT2.out]; omega)
          go_wp2_with (first
            | (go_at_call 9; (with_reducible refine c.mono ?_); rintro e w3 ⟨rfl, A3, h3, hst3, hA3⟩;
               (have hmk3 : Marks w3 b T := HMK.out.stay hst3 HAB.out); (have hcell3 := hmk3.cell hk200); (rw [HTK.out] at hcell3);
               (have hfr3 := hmk3.frozen k);
               (have hA3b : ¬ A3 b := fun h => (hA3 b h).elim HAB.out (fun h => by have := HB.out; omega));
               (have hk4 : Kp W (w3.setCell ⟨b, k, none⟩ (.bool true)) A3 g 1000 T' F' := h3.stay (Stay.setCell (S := fun i => i = b) (Stay.refl _ _) (p := ⟨b, k, none⟩) (.inr rfl) _) (fun i hi e => hA3b (by have e' : i = b := e; rw [← e']; exact hi)) (fun i hi => by have e' : i = b := hi; rw [e']; exact HHS.out));
               (have hmk4 : Marks (w3.setCell ⟨b, k, none⟩ (.bool true)) b T' := hmk3.set HGET.out); (have HK4 := Lib.hid hk4); (have HM4 := Lib.hid hmk4); clear h3 hmk3 hk4 hmk4 hst3)
            | (go_at_call 13; (have c2 := klive (n := n + 1) HK4.out HN2.out); (rw [EN.out] at c2); (with_reducible refine c2.mono ?_); clear c2; rintro e w5 ⟨rfl, n5, hw5⟩; (have hk5 := HK4.out.drewN n5); (have hm5 : Marks ((w3.setCell ⟨b, k, none⟩ (.bool true)).drewN n5) b T' := HM4.out); (rw [← hw5] at hk5 hm5); clear hw5)
            | (go_at_call 18; (have c2 := kmade (n := n + 1) hk5 HT3.out); (rw [EN.out] at c2); (with_reducible refine c2.mono ?_); clear c2; rintro e w6 ⟨rfl, rfl⟩))
          go_roundw
          case rel => exact ⟨m + 1, A3, T', F', by omega, by omega, by go_num, by rw [HN2.out, EN.out], by rw [HT3.out, EN.out], hk5, HTM.out, hm5, hA3b⟩
          case measure => simp [intOf]; omega
      · obtain ⟨k, hkey, hk200⟩ := key200 z
        have HKEY := Lib.hid hkey
        clear hkey
        have HB := Lib.hid (show b < wr.heap.size from hmk.lt)
        have hbl : b < wr.heap.size := hmk.lt
        have hcellk := hmk.cell hk200
        have HTM := Lib.hid hTm
        have HS := Lib.hid hk.2.1
        have hn200 : n ≤ 150 := by omega
        have ht200 : t ≤ 150 := by omega
        have hk2 : (k : Int) < 200 := by omega
        clear hk hTm hmk hAb hn ht
        cases hTk : T.getD k false with
        | true =>
          rw [hTk] at hcellk
          have hfr := fr_one (T := T) (F := F) (k := (k : Int)) (by rw [is_nat, hTk])
          have c := kfree_newd (n := 1) HK.out [(k : Int)] #[.int .i64 k] rfl rfl (by simp [maxLen]) hfr
          have HTK := Lib.hid hTk
          have hs2 := HS.out.freed (Ar.good_of (l := [(k : Int)]) (T := T) (by simp) (fun j hj => by rw [List.mem_singleton.1 hj, is_nat, hTk]))
          have hln := hs2.len
          rw [Ar.setAll_length, List.length_append] at hln
          have hln2 : F.length + 1 ≤ T.length := hln
          obtain ⟨T', hT'⟩ : ∃ T', T.set ((k : Int)).toNat false = T' := ⟨_, rfl⟩
          obtain ⟨F', hF'⟩ : ∃ F', F ++ [(k : Int)] = F' := ⟨_, rfl⟩
          rw [hT', hF'] at c
          have HGET : Hid (∀ j, T'.getD j false = if k = j then false else T.getD j false) := Lib.hid (fun j => by
            rw [← hT', Ar.getD_set]
            by_cases hj : k = j
            · subst hj
              by_cases hkl : k < T.length
              · rw [if_pos ⟨by simp, hkl⟩, if_pos rfl]
              · rw [if_neg (fun h => hkl h.2), if_pos rfl, List.getD_eq_getElem?_getD, List.getElem?_eq_none (by omega)]; rfl
            · rw [if_neg (by simp; omega), if_neg hj])
          have HT2 := Lib.hid (show T'.length = t by rw [← hT', List.length_set]; exact HT.out)
          have hnt := HN.out
          have HN2 := Lib.hid (show T'.length - F'.length = n - 1 by rw [← hT', ← hF', List.length_set, List.length_append]; simp; omega)
          have EN := Lib.hid (show ((n - 1 : Nat) : Int) = (n : Int) - 1 by omega)
          clear hTk hfr hs2 hln hln2 hT' hF' hnt
          go_wp2_with fail
          rw [HKEY.out]
          go_region_law (first
            | (go_simp; (go_at_call 10; (with_reducible refine c.mono ?_); rintro e w3 ⟨rfl, A3, h3, hst3, hA3⟩);
               (have hcell3 : w3.cell? ⟨b, k, none⟩ = some (.bool true) := (hst3.cell (p := ⟨b, k, none⟩) hbl HAB.out).trans hcellk)))
          all_goals
            have hmk3 : Marks w3 b T := HMK.out.stay hst3 HAB.out
            have hfr3 := hmk3.frozen k
            have hA3b : ¬ A3 b := fun h => (hA3 b h).elim HAB.out (fun h => by have := HB.out; omega)
            have HK4 := Lib.hid (h3.stay (Stay.setCell (S := fun i => i = b) (Stay.refl _ _) (p := ⟨b, k, none⟩) (.inr rfl) (.bool false)) (fun i hi e => hA3b (by have e' : i = b := e; rw [← e']; exact hi)) (fun i hi => by have e' : i = b := hi; rw [e']; exact HHS.out))
            have HM4 := Lib.hid (hmk3.set HGET.out)
            clear h3 hmk3 hst3 c
            go_wp2_with (first
              | (go_at_call 13; (have c2 := klive (n := n - 1) HK4.out HN2.out); (rw [EN.out] at c2); (with_reducible refine c2.mono ?_); clear c2; rintro e w5 ⟨rfl, n5, hw5⟩; (have hk5 := HK4.out.drewN n5); (have hm5 : Marks ((w3.setCell ⟨b, k, none⟩ (.bool false)).drewN n5) b T' := HM4.out); (rw [← hw5] at hk5 hm5); clear hw5)
              | (go_at_call 18; (have c2 := kmade (n := t) hk5 HT2.out); (with_reducible refine c2.mono ?_); clear c2; rintro e w6 ⟨rfl, rfl⟩))
            go_roundw
            case rel => exact ⟨m + 1, A3, T', F', by omega, by omega, by go_num, by rw [HN2.out, EN.out], by rw [HT2.out], hk5, by have := HTM.out; rw [HT2.out, ← HT.out]; omega, hm5, hA3b⟩
            case measure => simp [intOf]; omega
        | false =>
          rw [hTk] at hcellk
          have hfr := fr_other (T := T) (F := F) (k := (k : Int)) (by rw [is_nat, hTk])
          have c := kfree_newd (n := 1) HK.out [(k : Int)] #[.int .i64 k] rfl rfl (by simp [maxLen]) hfr
          clear hTk hfr
          go_wp2_with fail
          rw [HKEY.out]
          go_region_law (first
            | (go_simp; (go_at_call 10; (with_reducible refine c.mono ?_); rintro e w3 ⟨rfl, A3, h3, hst3, hA3⟩);
               (have hcell3 : w3.cell? ⟨b, k, none⟩ = some (.bool false) := (hst3.cell (p := ⟨b, k, none⟩) hbl HAB.out).trans hcellk)))
          all_goals
            have HMK3 : Hid (Marks w3 b T) := Lib.hid (HMK.out.stay hst3 HAB.out)
            have hA3b : ¬ A3 b := fun h => (hA3 b h).elim HAB.out (fun h => by have := HB.out; omega)
            have HK4 := Lib.hid h3
            clear h3 hst3 c
            go_wp2_with (first
              | (go_at_call 13; (have c2 := klive (n := n) HK4.out HN.out); (with_reducible refine c2.mono ?_); clear c2; rintro e w5 ⟨rfl, n5, hw5⟩; (have hk5 := HK4.out.drewN n5); (have hm5 : Marks (w3.drewN n5) b T := HMK3.out); (rw [← hw5] at hk5 hm5); clear hw5)
              | (go_at_call 18; (have c2 := kmade (n := t) hk5 HT.out); (with_reducible refine c2.mono ?_); clear c2; rintro e w6 ⟨rfl, rfl⟩))
            go_roundw
            case rel => exact ⟨m + 1, A3, T, F, by omega, by omega, by go_num, by rw [HN.out], by rw [HT.out], hk5, by have := HTM.out; omega, hm5, hA3b⟩
            case measure => simp [intOf]; omega
    · have h1' : ¬ ((m : Int) < len0 ∧ (m : Int) < 150) := by omega
      have HX := Lib.hid (show Below W.heap.size W wr from hk.2.2)
      by_cases hm1 : (m : Int) < len0
      · have hm2 : ¬ (m : Int) < 150 := by omega
        clear hk hTm hmk hAb hn ht HK HMK HAB hrd
        go_wp2_with (first
          | (go_at_call 12; refine (told_any _).mono ?_; rintro e w9 ⟨rfl, hb9⟩))
        go_ret
        exact ⟨rfl, HX.out.trans ⟨hb9.os, hb9.tape, hb9.output, hb9.size, fun k hk => hb9.block k (Nat.lt_of_lt_of_le hk HX.out.size)⟩⟩
      · clear hk hTm hmk hAb hn ht HK HMK HAB hrd
        go_wp2_with (first
          | (go_at_call 12; refine (told_any _).mono ?_; rintro e w9 ⟨rfl, hb9⟩))
        go_ret
        exact ⟨rfl, HX.out.trans ⟨hb9.os, hb9.tape, hb9.output, hb9.size, fun k hk => hb9.block k (Nat.lt_of_lt_of_le hk HX.out.size)⟩⟩
end Go.Proofs.Ytfecmmnabhlkbaa
