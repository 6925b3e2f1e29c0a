/- Layer 9's statements as walks: SortedAhead, SortedTwice. -/
import Derived.Test.YtfncjkkdemeclaaSoH
import Derived.Test.YtfncjkkdemeclaaLsR
namespace Go.Proofs.Ytfncjkkdemeclaa
open Go Go.RowKit Go.ChangeAt

/-- 'append(s, t...)' of bytes, t a slice of the call's own, nil or not. -/
theorem append_u {w : World} {ops : Array Oper} {rest : List Oper} {o : Oper} {a : Act} {Q : Exit → Act → World → Prop} (hgd : o.guard = none) (s x : Operand)
    (ho : o.op = .call { callee := .builtin .append, args := #[s, x], argTypes := #[23, 23] })
    (base base2 : Nat) (v : Value) (n : Nat) (xs : List Value) (hs : a.eval s = v) (hown : w.ownsRow base 5 1 v n xs) (u : Value) (t : List UInt8) (hx : a.eval x = u) (hu : OwnU base2 w u t)
    (h63 : n + t.length ≤ 1000000000) (hbase : base ≤ w.heap.size)
    (h : ∀ v' w', w'.ownsRow base 5 1 v' (n + t.length) (xs ++ byv t) → w.grownBy w' v.ownBlock → wpList Try.prog ops Q rest (a.put o.dst v') w') : wpList Try.prog ops Q (o :: rest) a w := by
  obtain ⟨i0, hi, hz0, hz1, hz2⟩ := info_parts infoU
  have hu' := hu
  rcases hu.2 with ⟨hv, h0⟩ | ⟨g, cap, cur, hv, hb, hg, hn, hm, hsz, ht⟩
  · have htn : t = [] := List.length_eq_zero_iff.1 h0
    subst htn
    refine wpList_append_own_none hgd s x 23 ho base 5 i0 1 Try.underlying23 hi v n xs hs hown (hx.trans hv) ?_
    refine h v w ?_ (World.grownBy.refl w _)
    rw [show byv [] = [] from rfl, List.append_nil]
    exact hown
  · subst hv
    refine wpList_append_own w hgd s x 23 ho base 5 i0 (.int .u8 0) 1 1 Try.underlying23 hi hz0 hz1 hz2 rfl (by decide) v n xs hs hown ⟨g, 0, none⟩ t.length cap (byv t) hx (by rw [byv_len]; omega) (World.ownsRow.cells hu' rfl) (byv_one t) (by unfold maxLen; omega) (by omega) hbase fun v' w' h1 h2 _ => h v' w' h1 h2

/-- What stands behind the first d places, counted from there, in the order of rows. -/
def lateL (d : Nat) (R : List Nat) : List Int := (R.filter fun p => decide (d ≤ p)).map fun p => ((p - d : Nat) : Int)
theorem late_next {d : Nat} {R : List Nat} {k : Nat} (hk : k < R.length) : lateL d (R.take (k + 1)) = if d ≤ R.getD k 0 then lateL d (R.take k) ++ [((R.getD k 0 - d : Nat) : Int)] else lateL d (R.take k) := by
  unfold lateL
  rw [List.take_succ_eq_append_getElem hk, List.filter_append, List.map_append, List.getD_eq_getElem?_getD, List.getElem?_eq_getElem hk]
  by_cases h : d ≤ R[k]
  · rw [if_pos (by exact h)]
    simp [h]
  · rw [if_neg (by exact h)]
    simp [h]
theorem late_few (d : Nat) (R : List Nat) (k : Nat) : (lateL d (R.take k)).length ≤ k := by
  unfold lateL
  rw [List.length_map]
  exact Nat.le_trans (List.length_filter_le _ _) (List.length_take_le _ _)
theorem late_all {A t : List UInt8} {d : Nat} (hd : A.length = d) : lateL d (Rx (A ++ t)) = rxi t := by
  have h1 := Rx_is (A ++ t)
  rw [ub_app, Bw.sy_app] at h1
  have h2 := h1.tail
  rw [List.length_map, ub_len, hd] at h2
  have h3 := h2.unique (Rx_is t)
  unfold rxi
  rw [← h3, List.map_map]
  rfl
theorem ahead_cells (m : Nat) : ((m : Int) + 1 + 1 == (m : Int) + 1 + 1) = true := by simp

set_option maxHeartbeats 3200000 in
theorem sortedahead_w (a : Option Addr) (n cap : Nat) (zs : List Int) (few : Bool) (c : Int) (W : World) (hrow : IsRow .i64 W a n cap zs) (hc : (Lit.int .u8 c).wf = true) :
    Calls Try.prog 3 #[.slice a n cap, .bool few, .int .u8 c] W fun e w' => e = .returned (.bool true) ∧ Below W.heap.size W w' := by
  obtain ⟨j0, hj, hy0, hy1, hy2⟩ := info_parts infoI
  have hcb := bounds_u8 hc
  obtain ⟨u, hu⟩ := u8_mod c
  rw [Int.emod_eq_of_lt (by omega) (by omega)] at hu
  have HU := Lib.hid hu
  have key := ktext_r (a := a) (n := n) (cap := cap) 50 50 few W (RdZ.of_row hrow) (by decide) rfl
  clear hrow hc hu
  go_enter Try.func3, Try.ntmps3
  go_wp2_with fail
  (with_reducible refine key.mono ?_); rintro e w1 ⟨a1, cap1, m, t, rfl, htl, hm, hr, hown, hb1⟩
  clear key
  have hm50 : m ≤ 50 := by omega
  have key := krows w1 hr htl (by omega)
  have HM := Lib.hid hm
  have HTL := Lib.hid htl
  have HOW := Lib.hid hown
  have HB1 := Lib.hid hb1
  clear hm htl hr hown hb1
  go_wp2_with fail
  (with_reducible refine key.mono ?_); rintro e w2 ⟨rb, rc, rfl, -, hR, hb2⟩
  clear key
  have hlit : (w2.alloc (.cells #[.int .u8 c] 5)).ownsRow w2.heap.size 5 1 (.slice (some ⟨w2.heap.size, 0, none⟩) 1 1) 1 (byv [u]) := by
    have := World.ownsRow_lit w2 (base := w2.heap.size) (e := 5) (size := 1) #[Value.int .u8 c] 1 (Nat.le_refl _) (by decide) rfl
    rw [HU.out] at this ⊢
    exact this
  have hal : Below w2.heap.size w2 (w2.alloc (.cells #[.int .u8 c] 5)) := (Below.refl _ _).alloc (Nat.le_refl _) _
  have hown2 : OwnU W.heap.size (w2.alloc (.cells #[.int .u8 c] 5)) (.slice a1 m cap1) t := ownsRow_below (ownsRow_below HOW.out hb2) hal
  have hrbl := hR.lt
  have HA := Lib.hid hR
  have HB2 := Lib.hid (HB1.out.trans (hb2.mono HB1.out.size))
  have htm : t.length ≤ 50 := by rw [HTL.out]; exact hm50
  clear hR hb2 hal
  go_wp2_with (first
    | (at_builtin; (refine append_u rfl (.tmp 18) (.tmp 19) rfl w2.heap.size W.heap.size _ 1 (byv [u]) rfl hlit _ t rfl hown2 (by omega) (by simp) ?_); intro v3 w3 hown3 hgrow3))
  have hb4 : Below w2.heap.size (w2.alloc (.cells #[.int .u8 c] 5)) w3 := (Below.refl w2.heap.size _).grown hgrow3 (by simp) (by intro q hq; cases hq; exact Nat.le_refl _)
  have hown4 : OwnU w2.heap.size w3 v3 ([u] ++ t) := by
    unfold OwnU
    rw [List.length_append, byv_app]
    exact hown3
  obtain ⟨a4, c4, rfl, hr4⟩ := OwnU.form (m + 1) hown4 (by rw [List.length_append, HTL.out]; simp; omega)
  have hb5 : Below w2.heap.size w2 w3 := ((Below.refl w2.heap.size w2).alloc (Nat.le_refl _) _).trans hb4
  have HA := Lib.hid (HA.out.below hb5)
  have HBW := Lib.hid (HB2.out.trans (hb5.mono HB2.out.size))
  have key := krows w3 hr4 (n := m + 1) (by rw [List.length_append, HTL.out]; simp; omega) (by omega)
  clear hown3 hgrow3 hb4 hown4 hr4 hb5 hlit hown2
  go_wp2_with fail
  (with_reducible refine key.mono ?_); rintro e w4 ⟨lb, lc, rfl, hlbl, hB, hb6⟩
  clear key
  obtain ⟨N, hN⟩ : ∃ N, m + 1 + 1 = N := ⟨_, rfl⟩
  rw [hN] at hB
  have HN := Lib.hid hN
  have hmN : ((m + 1 + 1 : Nat) : Int) = N := by omega
  have HA := Lib.hid (HA.out.below hb6)
  have HBW := Lib.hid (HBW.out.trans (hb6.mono HBW.out.size))
  have HLB := Lib.hid hB
  have hRl : (Rx ([u] ++ t)).length = N := by rw [Rx_len, List.length_append, HTL.out]; simp; omega
  have HRL := Lib.hid hRl
  have hRlt : ∀ k, k < N → (Rx ([u] ++ t)).getD k 0 < N := fun k hk => by
    have := Rx_lt (t := [u] ++ t) (k := k) (by rw [Rx_len] at hRl; omega)
    rw [Rx_len] at hRl
    omega
  have HRLT := Lib.hid hRlt
  have HLATE : Hid (lateL 1 (Rx ([u] ++ t)) = rxi t) := Lib.hid (late_all rfl)
  obtain ⟨R, hR⟩ : ∃ R, Rx ([u] ++ t) = R := ⟨_, rfl⟩
  rw [hR] at HLATE HRL HRLT HLB
  have hN9 : N ≤ 52 := by omega
  have hlbs := HLB.out.lt
  clear hRl hRlt hR hB hb6
  go_wp2_with fail
  clear hN hmN
  go_loopw [10, 11] (fun v i wr => ∃ k : Nat, k ≤ N ∧ i = .int .i64 k ∧ OwnI w4.heap.size wr v (lateL 1 (R.take k)) ∧ Below w4.heap.size w4 wr) (fun _ i _ => N - (intOf i).toNat)
  case atStart => exact ⟨0, Nat.zero_le _, rfl, World.ownsRow_nil _ _ _ _, Below.refl _ _⟩
  case round =>
    obtain ⟨k, hk, rfl, hown, hb⟩ := hrel
    by_cases hlt : k < N
    · have hlt' : (k : Int) < N := by omega
      have c0 := (HLB.out.below hb).cell hlt
      have hnx := late_next (d := 1) (R := R) (k := k) (by rw [HRL.out]; exact hlt)
      have hpl := HRLT.out k hlt
      obtain ⟨p, hp⟩ : ∃ p, R.getD k 0 = p := ⟨_, rfl⟩
      rw [hp] at c0 hnx hpl
      by_cases hp1 : 1 ≤ p
      · have hp1' : (p : Int) > 0 := by omega
        rw [if_pos hp1] at hnx
        obtain ⟨q, hq⟩ : ∃ q, p - 1 = q := ⟨_, rfl⟩
        have hpq : (p : Int) - 1 = q := by omega
        rw [hq] at hnx
        have hfew := late_few 1 R k
        have hown' := hown
        unfold OwnI at hown'
        obtain ⟨L, hL⟩ : ∃ L, lateL 1 (R.take k) = L := ⟨_, rfl⟩
        rw [hL] at hnx hfew hown' hown
        obtain ⟨ll, hll⟩ : ∃ ll, L.length = ll := ⟨_, rfl⟩
        rw [hll] at hown' hfew
        have HNX := Lib.hid hnx
        have HLL := Lib.hid hll
        have hbs := hb.size
        have hpi : (p : Int) ≤ 52 := by omega
        clear hnx hL hll hp hq
        go_wp2_with (first
          | (at_builtin; (refine wpList_append_own _ rfl (.tmp 33) (.tmp 39) 22 rfl w4.heap.size 3 j0 (.int .i64 0) 1 8 Try.underlying22 hj hy0 hy1 hy2 rfl (by decide) _ _ _ rfl (World.ownsRow.alloc hown' _) ⟨wr.heap.size, 0, none⟩ 1 1 [.int .i64 (q : Int)] rfl rfl (cell_one_new _ _ _) (fun u hu => by simp at hu; subst hu; rfl) (by unfold maxLen; omega) (by omega) (by simp; omega) ?_); intro v3 w5 hown5 hgrow5 hnil5))
        have hb7 : Below w4.heap.size w4 w5 := (hb.alloc hbs _).grown hgrow5 (by simp; omega) (fun q hq => (hown.lt q hq).1)
        have HX := Lib.hid (And.intro (Lr.push HLL.out hown5) hb7)
        clear hown hown' hb hown5 hgrow5 hnil5 hb7
        go_wp2_with fail
        go_roundw
        case rel => exact ⟨k + 1, by omega, by go_num, by rw [HNX.out]; exact HX.out.1, HX.out.2⟩
        case measure => simp [intOf]; omega
      · have hp1' : ¬ (p : Int) > 0 := by omega
        rw [if_neg hp1] at hnx
        have HX := Lib.hid (And.intro (hnx ▸ hown) hb)
        clear hnx hp hown hb
        go_wp2_with fail
        go_roundw
        case rel => exact ⟨k + 1, by omega, by go_num, HX.out.1, HX.out.2⟩
        case measure => simp [intOf]; omega
    · have hlt' : ¬ (k : Int) < N := by omega
      have hkN : k = N := by omega
      have hfin : lateL 1 (R.take k) = rxi t := by rw [hkN, List.take_of_length_le (by rw [HRL.out]; exact Nat.le_refl _)]; exact HLATE.out
      rw [hfin] at hown
      obtain ⟨va, vc, rfl, hrl⟩ := Lr.form (m + 1) hown ((rxi_len t).trans (by rw [HTL.out]))
      have HRL2 := Lib.hid hrl
      have HA := Lib.hid (HA.out.below hb)
      have HBW := Lib.hid (HBW.out.trans (hb.mono HBW.out.size))
      have heq : ((N : Int) == (m : Int) + 1 + 1) = true := by
        have := HN.out
        simp
        omega
      clear hfin hown hrl hb hkN hk hlt
      go_wp2_with fail
      refine (told9 _).mono ?_; rintro e w7 ⟨rfl, hb7⟩
      have key := ssame true w7 ((HA.out.below hb7).rows (by rw [HTL.out])) (HRL2.out.below hb7) ((rxi_len t).trans (by rw [HTL.out])) ((rxi_len t).trans (by rw [HTL.out])) (decide_eq_true rfl)
      have HBW := Lib.hid (HBW.out.trans (hb7.mono HBW.out.size))
      clear hb7
      go_wp2_with fail
      (with_reducible refine key.mono ?_); rintro e w8 ⟨rfl, hd8⟩
      clear key
      have HBW := Lib.hid (HBW.out.drawn hd8)
      clear hd8
      go_wp2_with fail
      go_ret
      exact ⟨rfl, HBW.out⟩

set_option maxHeartbeats 3200000 in
theorem sortedtwice_w (a : Option Addr) (n cap : Nat) (zs : List Int) (W : World) (hrow : IsRow .i64 W a n cap zs) :
    Calls Try.prog 7 #[.slice a n cap] W fun e w' => e = .returned (.bool true) ∧ Below W.heap.size W w' := by
  obtain ⟨j0, hj, hy0, hy1, hy2⟩ := info_parts infoI
  have key := ktext_r (a := a) (n := n) (cap := cap) 40 40 true W (RdZ.of_row hrow) (by decide) rfl
  clear hrow
  go_enter Try.func7, Try.ntmps7
  go_wp2_with fail
  (with_reducible refine key.mono ?_); rintro e w1 ⟨a1, cap1, m, t, rfl, htl, hm, hr, hown, hb1⟩
  clear key
  have hm40 : m ≤ 40 := by omega
  have HTL := Lib.hid htl
  have HOW := Lib.hid hown
  have HR := Lib.hid hr
  have HB1 := Lib.hid hb1
  clear hm htl hr hown hb1
  by_cases hm1 : m < 1
  · have hm1' : (m : Int) < 1 := by omega
    go_wp2_with fail
    refine (told9 _).mono ?_; rintro e w7 ⟨rfl, hb7⟩
    have HBW := Lib.hid (HB1.out.trans (hb7.mono HB1.out.size))
    clear hb7
    go_wp2_with fail
    go_ret
    exact ⟨rfl, HBW.out⟩
  have hm1' : ¬ (m : Int) < 1 := by omega
  have htm : t.length ≤ 40 := by rw [HTL.out]; exact hm40
  have hmade := World.ownsRow_made w1 (base := w1.heap.size) (e := 5) (size := 1) #[] 0 (Nat.le_refl _) (by decide) rfl
  have hal : Below w1.heap.size w1 (w1.alloc (.cells #[] 5)) := (Below.refl _ _).alloc (Nat.le_refl _) _
  have hown2 : OwnU W.heap.size (w1.alloc (.cells #[] 5)) (.slice a1 m cap1) t := ownsRow_below HOW.out hal
  go_wp2_with (first
    | (at_builtin; (refine append_u rfl (.tmp 15) (.tmp 16) rfl w1.heap.size W.heap.size _ 0 [] rfl hmade _ t rfl hown2 (by omega) (by simp) ?_); intro v3 w3 hown3 hgrow3;
       (have hb3 : Below w1.heap.size w1 w3 := hal.grown hgrow3 (by simp) (by intro q hq; cases hq; exact Nat.le_refl _));
       (have hown4 : OwnU W.heap.size w3 (.slice a1 m cap1) t := ownsRow_below HOW.out hb3);
       (rw [Nat.zero_add, List.nil_append] at hown3); clear hgrow3 hown2 hmade)
    | (at_builtin; (refine append_u rfl (.tmp 17) (.tmp 18) rfl w1.heap.size W.heap.size _ t.length (byv t) rfl hown3 _ t rfl hown4 (by omega) hb3.size ?_); intro v5 w5 hown5 hgrow5))
  have hb5 : Below w1.heap.size w1 w5 := hb3.grown hgrow5 hb3.size (fun q hq => (hown3.lt q hq).1)
  have hown6 : OwnU w1.heap.size w5 v5 (t ++ t) := by
    unfold OwnU
    rw [List.length_append, byv_app]
    exact hown5
  obtain ⟨a4, c4, rfl, hr4⟩ := OwnU.form (m + m) hown6 (by rw [List.length_append, HTL.out])
  have key := krows w5 (HR.out.below hb5) HTL.out (by omega)
  have HBW := Lib.hid (HB1.out.trans (hb5.mono HB1.out.size))
  have HR4 := Lib.hid hr4
  clear hown3 hown4 hown5 hgrow5 hb3 hb5 hown6 hr4 hal
  go_wp2_with fail
  (with_reducible refine key.mono ?_); rintro e w6 ⟨rb, rc, rfl, -, hA, hb6⟩
  clear key
  have key := krows w6 (HR4.out.below hb6) (n := m + m) (by rw [List.length_append, HTL.out]) (by omega)
  have HA := Lib.hid hA
  have HBW := Lib.hid (HBW.out.trans (hb6.mono HBW.out.size))
  clear hA hb6
  go_wp2_with fail
  (with_reducible refine key.mono ?_); rintro e w4 ⟨lb, lc, rfl, hlbl, hB, hb6⟩
  clear key
  obtain ⟨N, hN⟩ : ∃ N, m + m + 1 = N := ⟨_, rfl⟩
  rw [hN] at hB
  have HN := Lib.hid hN
  have HA := Lib.hid (HA.out.below hb6)
  have HBW := Lib.hid (HBW.out.trans (hb6.mono HBW.out.size))
  have HLB := Lib.hid hB
  have hRl : (Rx (t ++ t)).length = N := by rw [Rx_len, List.length_append, HTL.out]; exact hN
  have HRL := Lib.hid hRl
  have hRlt : ∀ k, k < N → (Rx (t ++ t)).getD k 0 < N := fun k hk => by
    have := Rx_lt (t := t ++ t) (k := k) (by rw [Rx_len] at hRl; omega)
    rw [Rx_len] at hRl
    omega
  have HRLT := Lib.hid hRlt
  have HLATE : Hid (lateL m (Rx (t ++ t)) = rxi t) := Lib.hid (late_all HTL.out)
  obtain ⟨R, hR⟩ : ∃ R, Rx (t ++ t) = R := ⟨_, rfl⟩
  rw [hR] at HLATE HRL HRLT HLB
  have hN9 : N ≤ 81 := by omega
  have hlbs := HLB.out.lt
  clear hRl hRlt hR hB hb6
  go_wp2_with fail
  clear hN
  go_loopw [7, 8] (fun v i wr => ∃ k : Nat, k ≤ N ∧ i = .int .i64 k ∧ OwnI w4.heap.size wr v (lateL m (R.take k)) ∧ Below w4.heap.size w4 wr) (fun _ i _ => N - (intOf i).toNat)
  case atStart => exact ⟨0, Nat.zero_le _, rfl, World.ownsRow_nil _ _ _ _, Below.refl _ _⟩
  case round =>
    obtain ⟨k, hk, rfl, hown, hb⟩ := hrel
    by_cases hlt : k < N
    · have hlt' : (k : Int) < N := by omega
      have c0 := (HLB.out.below hb).cell hlt
      have hnx := late_next (d := m) (R := R) (k := k) (by rw [HRL.out]; exact hlt)
      have hpl := HRLT.out k hlt
      obtain ⟨p, hp⟩ : ∃ p, R.getD k 0 = p := ⟨_, rfl⟩
      rw [hp] at c0 hnx hpl
      by_cases hp1 : m ≤ p
      · have hp1' : (p : Int) ≥ m := by omega
        rw [if_pos hp1] at hnx
        obtain ⟨q, hq⟩ : ∃ q, p - m = q := ⟨_, rfl⟩
        have hpq : (p : Int) - m = q := by omega
        rw [hq] at hnx
        have hfew := late_few m R k
        have hown' := hown
        unfold OwnI at hown'
        obtain ⟨L, hL⟩ : ∃ L, lateL m (R.take k) = L := ⟨_, rfl⟩
        rw [hL] at hnx hfew hown' hown
        obtain ⟨ll, hll⟩ : ∃ ll, L.length = ll := ⟨_, rfl⟩
        rw [hll] at hown' hfew
        have HNX := Lib.hid hnx
        have HLL := Lib.hid hll
        have hbs := hb.size
        have hpi : (p : Int) ≤ 81 := by omega
        clear hnx hL hll hp hq
        go_wp2_with (first
          | (at_builtin; (refine wpList_append_own _ rfl (.tmp 37) (.tmp 45) 22 rfl w4.heap.size 3 j0 (.int .i64 0) 1 8 Try.underlying22 hj hy0 hy1 hy2 rfl (by decide) _ _ _ rfl (World.ownsRow.alloc hown' _) ⟨wr.heap.size, 0, none⟩ 1 1 [.int .i64 (q : Int)] rfl rfl (cell_one_new _ _ _) (fun u hu => by simp at hu; subst hu; rfl) (by unfold maxLen; omega) (by omega) (by simp; omega) ?_); intro v3 w5 hown5 hgrow5 hnil5))
        have hb7 : Below w4.heap.size w4 w5 := (hb.alloc hbs _).grown hgrow5 (by simp; omega) (fun q hq => (hown.lt q hq).1)
        have HX := Lib.hid (And.intro (Lr.push HLL.out hown5) hb7)
        clear hown hown' hb hown5 hgrow5 hnil5 hb7
        go_wp2_with fail
        go_roundw
        case rel => exact ⟨k + 1, by omega, by go_num, by rw [HNX.out]; exact HX.out.1, HX.out.2⟩
        case measure => simp [intOf]; omega
      · have hp1' : ¬ (p : Int) ≥ m := by omega
        rw [if_neg hp1] at hnx
        have HX := Lib.hid (And.intro (hnx ▸ hown) hb)
        clear hnx hp hown hb
        go_wp2_with fail
        go_roundw
        case rel => exact ⟨k + 1, by omega, by go_num, HX.out.1, HX.out.2⟩
        case measure => simp [intOf]; omega
    · have hlt' : ¬ (k : Int) < N := by omega
      have hkN : k = N := by omega
      have hfin : lateL m (R.take k) = rxi t := by rw [hkN, List.take_of_length_le (by rw [HRL.out]; exact Nat.le_refl _)]; exact HLATE.out
      rw [hfin] at hown
      obtain ⟨va, vc, rfl, hrl⟩ := Lr.form (m + 1) hown ((rxi_len t).trans (by rw [HTL.out]))
      have HRL2 := Lib.hid hrl
      have HA := Lib.hid (HA.out.below hb)
      have HBW := Lib.hid (HBW.out.trans (hb.mono HBW.out.size))
      clear hfin hown hrl hb hkN hk hlt
      go_wp2_with fail
      refine (told9 _).mono ?_; rintro e w7 ⟨rfl, hb7⟩
      have key := r6same_is true w7 ((HA.out.below hb7).rows (by rw [HTL.out])) (HRL2.out.below hb7) ((rxi_len t).trans (by rw [HTL.out])) ((rxi_len t).trans (by rw [HTL.out])) (decide_eq_true rfl)
      have HBW := Lib.hid (HBW.out.trans (hb7.mono HBW.out.size))
      clear hb7
      go_wp2_with fail
      (with_reducible refine key.mono ?_); rintro e w8 ⟨rfl, hd8⟩
      clear key
      have HBW := Lib.hid (HBW.out.drawn hd8)
      clear hd8
      go_wp2_with fail
      go_ret
      exact ⟨rfl, HBW.out⟩
end Go.Proofs.Ytfncjkkdemeclaa
