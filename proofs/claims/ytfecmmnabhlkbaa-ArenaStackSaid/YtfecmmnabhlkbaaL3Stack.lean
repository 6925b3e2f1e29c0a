/- ArenaStack: a contract of the walk. -/
import Derived.Test.YtfecmmnabhlkbaaL3Many
namespace Go.Proofs.Ytfecmmnabhlkbaa
open Go Go.RowKit Go.ChangeAt

theorem tk_upto {n m i : Nat} (h : i < n) (hm : n ≤ m) : Ar.tk m (allT i) [] = ((i : Int), 0, allT (i + 1), []) := by
  rw [Ar.tk_new m (allT i) (by rw [allT_len]; omega), allT_len]
  unfold allT
  rw [List.replicate_succ']
/-- The slice's block lies apart from the arena's. -/
def Apart (A : Nat → Prop) (v : Value) : Prop := ∀ k, v.ownBlock = some k → ¬ A k
/-- All from m on are taken. -/
def On (m : Nat) (T : List Bool) : Prop := T.length = 20 ∧ ∀ j : Nat, m ≤ j → j < 20 → T.getD j false = true
theorem On.all : On 0 (allT 20) := by
  refine ⟨allT_len 20, fun j _ hj => ?_⟩
  unfold allT
  rw [List.getD_eq_getElem?_getD, List.getElem?_replicate, if_pos hj]
  rfl
theorem On.is {m : Nat} {T : List Bool} (h : On m T) (hm : m < 20) : Ar.is T (m : Int) = true := Ar.is_of (by omega) (by have := h.2 m (Nat.le_refl _) hm; simpa using this)
theorem On.skip {m : Nat} {T : List Bool} (h : On m T) : On (m + 1) T := ⟨h.1, fun j hj hj2 => h.2 j (by omega) hj2⟩
theorem On.set {m : Nat} {T : List Bool} (h : On m T) : On (m + 1) (T.set ((m : Int)).toNat false) := by
  refine ⟨by rw [List.length_set]; exact h.1, fun j hj hj2 => ?_⟩
  rw [Ar.getD_set, if_neg (by omega)]
  exact h.2 j (by omega) hj2
theorem is_gone {T : List Bool} {m : Nat} : Ar.is (T.set ((m : Int)).toNat false) (m : Int) = false := by
  rw [Ar.is_set (by omega)]
  simp
set_option maxRecDepth 100000 in
set_option maxHeartbeats 1600000 in
theorem stack_w (a0 : Int) (W : World) (wf0 : (Lit.int .i64 a0).wf = true) : Calls Try.prog 3 #[.int .i64 a0] W fun e w' => e = .returned (.bool true) ∧ Below W.heap.size W w' := by
  obtain ⟨i0, hi, hz0, hz1, hz2⟩ := info_parts infoI
  have hb0 := bounds_i64 wf0
  go_enter Try.func3, Try.ntmps3
  go_wp2_with (first
    | (go_at_call 8; refine (knew 20 W W (by decide) (Below.refl _ _)).mono ?_; rintro e w1 ⟨rfl, h1, _⟩))
  obtain ⟨g, hg⟩ : ∃ g, W.heap.size = g := ⟨_, rfl⟩
  rw [hg] at h1 ⊢
  have HG := Lib.hid hg
  have H1 := Lib.hid h1
  clear hg h1
  go_wp2_with fail
  go_loopw [4] (fun i wr => ∃ (m : Nat) (A : Nat → Prop), m ≤ 20 ∧ i = .int .i64 m ∧ Kp W wr A g 20 (allT m) []) (fun i _ => 20 - (intOf i).toNat)
  case atStart => exact ⟨0, _, Nat.zero_le _, rfl, H1.out⟩
  case round =>
    obtain ⟨m, A, hmn, rfl, hk⟩ := hrel
    clear H1
    by_cases hlt : m < 20
    · have h1' : (m : Int) < 20 := by omega
      have c := ktake hk (tk_upto hlt (Nat.le_refl _))
      clear hk
      go_wp2_with (first
        | (go_at_call 9; (with_reducible refine c.mono ?_); rintro e w2 ⟨rfl, A2, h2, _, _⟩))
      clear c
      go_roundw
      case rel => exact ⟨m + 1, A2, hlt, by go_num, h2⟩
      case measure => simp [intOf]; omega
    · have hmn' : m = 20 := by omega
      subst hmn'
      have h1' : ¬ (20 : Int) < 20 := by omega
      have HK := Lib.hid hk
      clear hk
      go_wp2_with fail
      obtain ⟨wo, rfl⟩ : ∃ wo : World, wo = wr := ⟨_, rfl⟩
      go_loopw [5, 6] (fun v i wr => ∃ (m : Nat) (A : Nat → Prop) (T : List Bool) (L : List Int), m ≤ 20 ∧ i = .int .i64 m ∧ Kp W wr A g 20 T L ∧ On m T ∧ L.length ≤ m ∧ OwnI W.heap.size wr v L ∧ Apart A v) (fun _ i _ => 20 - (intOf i).toNat)
      case atStart => exact ⟨0, A, allT 20, [], Nat.zero_le _, rfl, HK.out, On.all, Nat.zero_le _, World.ownsRow_nil _ _ _ _, fun k hk => by cases hk⟩
      case round =>
        obtain ⟨m, A, T, L, hmn, rfl, hk, hon, hLm, hown, hap⟩ := hrel
        clear HK
        obtain ⟨va, vc, rfl, hvc, hvm⟩ := own_form hown
        by_cases hlt : m < 20
        · have h1' : (m : Int) < 20 := by omega
          have h2' : (m : Int) < 64 := by omega
          have hLm' : (L.length : Int) ≤ m := by omega
          have HOWN := Lib.hid hown
          have HAP := Lib.hid hap
          have HON := Lib.hid hon
          have HK := Lib.hid hk
          clear hown hap hon hk
          by_cases hd : bits BinOp.and IntKind.i64 (a0 / 2 ^ m) 1 = 1
          · have c := kfree_new (n := 1) HK.out [(m : Int)] #[.int .i64 m] rfl rfl (by simp [maxLen]) (fr_one (HON.out.is hlt))
            obtain ⟨L2, hL2⟩ : ∃ L2, L ++ [(m : Int)] = L2 := ⟨_, rfl⟩
            rw [hL2] at c
            have HL2 := Lib.hid hL2
            clear hL2
            go_wp2_with (first
              | (go_at_call 10; (with_reducible refine c.mono ?_); rintro e w2 ⟨rfl, A2, h2, hst2, hA2⟩)
              | (go_at_call 11; (have c2 := kis h2 (m : Int) is_gone); (with_reducible refine c2.mono ?_); clear c2; rintro e w3 ⟨rfl, rfl⟩;
                 (have hown2 : OwnI W.heap.size w2 (.slice va L.length vc) L := ownsRow_stay HOWN.out hst2 HAP.out); (have hbase : W.heap.size ≤ w2.heap.size := h2.2.2.size))
              | (at_builtin; (refine wpList_append_own_at _ rfl (.tmp 41) (.tmp 43) 26 rfl W.heap.size 3 i0 (.int .i64 0) 1 8 Try.underlying26 hi hz0 hz1 hz2 rfl (by decide) _ _ _ rfl (World.ownsRow.alloc hown2 _) ⟨w2.heap.size, 0, none⟩ 1 1 [.int .i64 m] rfl rfl (cell_one_new _ _ _) (fun u hu => by simp at hu; subst hu; rfl) (by unfold maxLen; omega) (by omega) (by simp; omega) ?_); intro v3 w3 hown3 hgrow3 hnil3 hat3))
            clear c
            have hg3 := grown_stay hgrow3
            have hst3 : Stay (fun i => (Value.slice va L.length vc).ownBlock = some i) w2 w3 := Stay.trans ((Stay.refl _ _).alloc _) hg3 (fun i _ e => e)
            have hsep2 : ∀ k, A2 k → ¬ (Value.slice va L.length vc).ownBlock = some k := fun k hk e => by
              rcases hA2 k hk with h | h
              · exact HAP.out k e h
              · have := (HOWN.out.lt k e).2; omega
            have h3 := h2.1.stay hst3 hsep2
            have h3' : Kp W w3 A2 g 20 (T.set ((m : Int)).toNat false) L2 := ⟨h3, h2.2.1, h2.2.2.trans (hst3.below hbase (fun i _ e => (HOWN.out.lt i e).1))⟩
            have hown4 : OwnI W.heap.size w3 v3 L2 := by rw [← HL2.out]; unfold OwnI; rw [List.length_append, List.map_append]; exact hown3
            have hsep4 : Apart A2 v3 := by
              intro k hk hA
              rcases hat3 with e | e
              · rw [e] at hk; exact hsep2 k hA hk
              · rw [e] at hk
                have h5 := (h2.1.lt k hA).2
                have h6 : w2.heap.size + 1 = k := by have := Option.some.inj hk; simpa using this
                omega
            have hlen2 : L2.length ≤ m + 1 := by rw [← HL2.out, List.length_append]; simp; omega
            go_wp2_with fail
            go_roundw
            case rel => exact ⟨m + 1, A2, _, L2, hlt, by go_num, h3', HON.out.set, hlen2, hown4, hsep4⟩
            case measure => simp [intOf]; omega
          · go_wp2_with fail
            go_roundw
            case rel => exact ⟨m + 1, A, T, L, hlt, by go_num, HK.out, HON.out.skip, by omega, HOWN.out, HAP.out⟩
            case measure => simp [intOf]; omega
        · have hm20 : m = 20 := by omega
          subst hm20
          have h1' : ¬ (20 : Int) < 20 := by omega
          have h2' : (L.length : Int) ≤ 20 := by omega
          have HTL := Lib.hid hon.1
          have HK := Lib.hid hk
          have HOWN := Lib.hid hown
          have HAP := Lib.hid hap
          clear hon hk hown hap
          go_wp2_with fail
          go_loopw [7, 8, 9] (fun i _ _ wr => ∃ (j : Nat) (A : Nat → Prop) (T : List Bool), j ≤ L.length ∧ i = .int .i64 ((j : Int) - 1) ∧ Kp W wr A g 20 T (L.take j) ∧ T.length = 20 ∧ OwnI W.heap.size wr (.slice va L.length vc) L ∧ Apart A (.slice va L.length vc)) (fun i _ _ _ => ((intOf i) + 1).toNat)
          case atStart => exact ⟨L.length, A, T, Nat.le_refl _, rfl, by rw [List.take_length]; exact HK.out, HTL.out, HOWN.out, HAP.out⟩
          case round =>
            clear HK HOWN HAP HTL
            obtain ⟨j, A, T, hjm, rfl, hk, hTl, hown, hap⟩ := hrel
            by_cases hj : j = 0
            · subst hj
              have htk := Ar.tk_full 20 T (by omega)
              have c := ktake hk htk
              have HTL := Lib.hid hTl
              clear hk hTl htk hown hap
              go_wp2_with (first
                | (go_at_call 9; (with_reducible refine c.mono ?_); rintro e w8 ⟨rfl, A8, h8, _, _⟩)
                | (go_at_call 12; refine (told_any _).mono ?_; rintro e w9 ⟨rfl, hb9⟩; (have h9 := h8.below hb9))
                | (go_at_call 13; refine (klive (n := 20) h9 (by rw [HTL.out]; rfl)).mono ?_; rintro e w10 ⟨rfl, n10, hw10⟩; (have h10 := h9.drewN n10); (rw [← hw10] at h10); clear hw10 h9))
              go_ret
              exact ⟨rfl, h10.2.2⟩
            · obtain ⟨i, rfl⟩ : ∃ i, j = i + 1 := ⟨j - 1, by omega⟩
              have e1 : (((i + 1 : Nat) : Int) - 1) = (i : Int) := by omega
              rw [e1]
              rw [Ar.take_succ L i (by omega)] at hk
              obtain ⟨k, hLk⟩ : ∃ k, L.getD i 0 = k := ⟨_, rfl⟩
              rw [hLk] at hk
              have c := ktake hk (Ar.tk_snoc 20 T (L.take i) k)
              obtain ⟨vb, rfl, hvbase, hvlt, _, _⟩ := OwnI.open hown (by omega)
              have HTL := Lib.hid (show (T.set k.toNat true).length = 20 by rw [List.length_set]; exact hTl)
              have HOWN := Lib.hid hown
              have HAP := Lib.hid hap
              have HLK := Lib.hid hLk
              have h0 : (0 : Int) ≤ i := by omega
              have h1 : (i : Int) < L.length := by omega
              clear e1 hTl hj hk hown hap hLk
              go_wp2_with (first
                | (go_at_call 9; (with_reducible refine c.mono ?_); rintro e w2 ⟨rfl, A2, h2, hst2, hA2⟩;
                   (have hown2 : OwnI W.heap.size w2 (.slice (some ⟨vb, 0, none⟩) L.length vc) L := ownsRow_stay HOWN.out hst2 HAP.out);
                   (have hcell : w2.cell? ⟨vb, i, none⟩ = some (.int .i64 k) := by (obtain ⟨vb', e, _, _, hc, _⟩ := OwnI.open hown2 (by omega); cases e; rw [hc i (by omega), HLK.out]));
                   (have HO2 := Lib.hid hown2); clear hown2))
              clear c
              go_roundw
              case rel => exact ⟨i, A2, _, by omega, by go_num, h2, HTL.out, HO2.out, fun q hq hA => (hA2 q hA).elim (HAP.out q hq) (fun h => by have := (HOWN.out.lt q hq).2; omega)⟩
              case measure => simp [intOf]
end Go.Proofs.Ytfecmmnabhlkbaa
