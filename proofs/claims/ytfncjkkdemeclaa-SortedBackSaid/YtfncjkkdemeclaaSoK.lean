/- Layer 9's statements as walks: SortedWrong. -/
import Derived.Test.YtfncjkkdemeclaaSoH
namespace Go.Proofs.Ytfncjkkdemeclaa
open Go Go.RowKit Go.ChangeAt

theorem mod_u (k : Int) (m : Nat) (h0 : 0 < m) : ∃ n : Nat, n < m ∧ (IntKind.u64.wrap k).tmod m = (n : Int) := by
  rw [IntKind.wrap_u64]
  have h2 : 0 ≤ k % 18446744073709551616 := Int.emod_nonneg _ (by decide)
  rw [Int.tmod_eq_emod_of_nonneg h2]
  generalize k % 18446744073709551616 = x at h2 ⊢
  have h3 : 0 ≤ x % (m : Int) := Int.emod_nonneg _ (by omega)
  have h4 : x % (m : Int) < m := Int.emod_lt_of_pos _ (by omega)
  exact ⟨(x % m).toNat, by omega, by omega⟩
theorem getD_set (l : List Int) (k i : Nat) (v : Int) (hi : i < l.length) : (l.set k v).getD i 0 = if i = k then v else l.getD i 0 := by
  rw [List.getD_eq_getElem?_getD, List.getElem?_set, List.getD_eq_getElem?_getD]
  by_cases h : k = i
  · subst h
    rw [if_pos rfl, if_pos hi, if_pos rfl]
    rfl
  · rw [if_neg h, if_neg (Ne.symm h)]
theorem mem_set_self {l : List Int} {k : Nat} {v : Int} (hk : k < l.length) : v ∈ l.set k v := by
  have h : (l.set k v)[k]'(by rw [List.length_set]; exact hk) = v := by simp
  exact List.mem_of_getElem h
theorem no_bad {l : List Int} {k : Nat} {v : Int} (hk : k < l.length) (hv : ¬ (0 ≤ v ∧ v ≤ 256)) : ∀ t, Lx t ≠ l.set k v := fun t e => hv ((Lx_iff.1 ⟨t, e⟩).1 v (mem_set_self hk))
theorem no_two {l : List Int} {k : Nat} (hk : k < l.length) (hl : l.count 0 = 1) (hv : l.getD k 0 ≠ 0) : ∀ t, Lx t ≠ l.set k 0 := fun t e => by
  have h1 := (Lx_iff.1 ⟨t, e⟩).2.1
  rw [List.getD_eq_getElem?_getD, List.getElem?_eq_getElem hk] at hv
  have hv : l[k] ≠ 0 := hv
  rw [List.count_set hk, hl, if_neg (by simpa using hv), if_pos (by simp)] at h1
  omega
theorem no_more {l : List Int} (hl : l.count 0 = 1) : ∀ t, Lx t ≠ l ++ [0] := fun t e => by
  have h1 := (Lx_iff.1 ⟨t, e⟩).2.1
  rw [List.count_append, hl] at h1
  have : [(0 : Int)].count 0 = 1 := rfl
  omega
def five (s : Int) : Int := if s = 0 then 5 else s
theorem five_at {l : List Int} {i : Nat} (hi : i < l.length) : (l.map five).getD i 0 = five (l.getD i 0) := by
  rw [List.getD_eq_getElem?_getD, List.getD_eq_getElem?_getD, List.getElem?_map, List.getElem?_eq_getElem hi]
  rfl
theorem no_five (l : List Int) : ∀ t, Lx t ≠ l.map five := fun t e => by
  have h1 := (Lx_iff.1 ⟨t, e⟩).2.1
  have h2 : (l.map five).count 0 = 0 := List.count_eq_zero.2 fun h => by
    obtain ⟨s, _, hs⟩ := List.mem_map.1 h
    unfold five at hs
    split at hs <;> omega
  omega
theorem Arr.rdset {w : World} {b cap N k : Nat} {l : List Int} {v : Int} (h : Arr w b cap N (fun j => if j = k then v else l.getD j 0)) (hl : l.length = N) : RdL w (some ⟨b, 0, none⟩) cap (l.set k v) :=
  h.rd _ (by rw [List.length_set, hl]) fun i hi => (getD_set l k i v (by omega)).symm

set_option maxHeartbeats 3200000 in
set_option maxRecDepth 100000 in
theorem sortedwrong_w (a : Option Addr) (n cap : Nat) (zs : List Int) (few : Bool) (how at_ : Int) (W : World) (hrow : IsRow .i64 W a n cap zs) (_ : (Lit.int .i64 how).wf = true) (_ : (Lit.int .i64 at_).wf = true) :
    Calls Try.prog 9 #[.slice a n cap, .bool few, .int .i64 how, .int .i64 at_] W fun e w' => e = .returned (.bool true) ∧ Below W.heap.size W w' := by
  obtain ⟨j0, hj, hy0, hy1, hy2⟩ := info_parts infoI
  have key := ktext_r (a := a) (n := n) (cap := cap) 40 40 few W (RdZ.of_row hrow) (by decide) rfl
  clear hrow
  go_enter Try.func9, Try.ntmps9
  go_wp2_with fail
  (with_reducible refine key.mono ?_); rintro e w1 ⟨a1, cap1, m, t, rfl, htl, hm, hr, hown, hb1⟩
  clear key
  have hm40 : m ≤ 40 := by omega
  have key := klast w1 hr htl (by omega)
  have hll := Lx_len t
  rw [htl] at hll
  have hone : (Lx t).count 0 = 1 := (Lx_iff.1 ⟨t, rfl⟩).2.1
  have HB1 := Lib.hid hb1
  clear hm hr hown hb1 htl
  go_wp2_with fail
  (with_reducible refine key.mono ?_); rintro e w2 ⟨lb, lc, rfl, -, hL, hb2⟩
  clear key
  obtain ⟨N, hN⟩ : ∃ N, m + 1 = N := ⟨_, rfl⟩
  obtain ⟨l, hl⟩ : ∃ l, Lx t = l := ⟨_, rfl⟩
  rw [hl] at hL hll hone
  rw [hN] at hL hll
  have hN0 : 0 < N := by omega
  have hN9 : N ≤ 41 := by omega
  have hNne : ((N : Int) == 0) = false := by simpa using (show ¬ N = 0 by omega)
  obtain ⟨k, hk, en1⟩ := mod_any at_ N hN0 (by omega)
  obtain ⟨q, hq, en2⟩ := mod_u how 4 (by decide)
  change (IntKind.u64.wrap how).tmod 4 = _ at en2
  have hLb := hL.lt
  have hcl := (hL.below ((Below.refl w2.heap.size w2).alloc (Nat.le_refl _) (.cells #[] 3))).cells
  have hlr : (List.range N).map (fun i => l.getD i 0) = l := by
    refine List.ext_getElem (by simp [hll]) fun i h1 h2 => ?_
    rw [List.getElem_map, List.getElem_range, List.getD_eq_getElem?_getD, List.getElem?_eq_getElem h2]
    rfl
  rw [hlr] at hcl
  have HCL := Lib.hid hcl
  have HLL := Lib.hid hll
  have HONE := Lib.hid hone
  have HB2 := Lib.hid (HB1.out.trans (hb2.mono HB1.out.size))
  have EN1 := Lib.hid en1
  have EN2 := Lib.hid en2
  have hfit := hL.fits
  unfold maxLen at hfit
  clear hL hll hone hcl hlr hb2 hl en1 en2
  have hmade := World.ownsRow_made w2 (base := w2.heap.size) (e := 3) (size := 1) #[] 0 (Nat.le_refl _) (by decide) rfl
  obtain ⟨z, hz⟩ : ∃ z, l.getD k 0 = z := ⟨_, rfl⟩
  have hki : (k : Int) < N := by omega
  have hkl : k < l.length := by rw [HLL.out]; exact hk
  have HKL := Lib.hid hkl
  have HZ := Lib.hid hz
  clear hkl
  have hcase : q = 0 ∨ (q = 1 ∧ z = 0) ∨ (q = 1 ∧ z ≠ 0) ∨ q = 2 ∨ q = 3 := by omega
  have en2 := EN2.out
  clear EN2
  rcases hcase with rfl | ⟨rfl, rfl⟩ | ⟨rfl, hz0⟩ | rfl | rfl
  · go_wp2_with (first
    | (at_builtin; (refine wpList_append_own _ rfl (.tmp 29) (.tmp 30) 22 rfl w2.heap.size 3 j0 (.int .i64 0) 1 8 Try.underlying22 hj hy0 hy1 hy2 rfl (by decide) _ 0 [] rfl hmade ⟨lb, 0, none⟩ N lc (l.map (Value.int .i64)) rfl (by rw [List.length_map, HLL.out]; omega) (fun j u hu => HCL.out j u hu) (ints_one _) (by unfold maxLen; omega) (by omega) (by simp) ?_); intro v1 w3 hown1 hgrow1 hnil1;
       (rw [EN1.out]); (have hb3 : Below w2.heap.size w2 w3 := ((Below.refl _ _).alloc (Nat.le_refl _) _).grown hgrow1 (by simp) (by intro q hq; cases hq; exact Nat.le_refl _));
       (have hown2 : OwnI w2.heap.size w3 v1 l := by (unfold OwnI; rw [HLL.out]; simpa using hown1)); (obtain ⟨xb, xc, rfl, hxb, hX⟩ := Arr.of_own hown2 HLL.out hN0);
       (have HXX := Lib.hid hX); (have HOW := Lib.hid hown2); (have c5 := hX.cell hk); (have f5 := hX.free k); (rw [hz] at c5); (have HBW := Lib.hid (HB2.out.trans (hb3.mono HB2.out.size))); (have hs23 := hb3.size); clear hown1 hgrow1 hnil1 hown2 hX hb3 hmade))
    clear c5 f5 en2
    have hX0 : Arr w3 xb xc N (fun i => if i < 0 then five (l.getD i 0) else l.getD i 0) := HXX.out.congr fun i _ => (if_neg (Nat.not_lt_zero _)).symm
    have HX0 := Lib.hid hX0
    clear hX0 HXX HOW
    go_loopw [12] (fun i wr => ∃ j : Nat, j ≤ N ∧ i = .int .i64 j ∧ Arr wr xb xc N (fun i => if i < j then five (l.getD i 0) else l.getD i 0) ∧ Below W.heap.size W wr) (fun i _ => N - (intOf i).toNat)
    case atStart => exact ⟨0, Nat.zero_le _, rfl, HX0.out, HBW.out⟩
    case round =>
      clear HX0 HBW
      obtain ⟨j, hj2, rfl, hX, hbw⟩ := hrel
      by_cases hlt : j < N
      · have hlt' : (j : Int) < N := by omega
        have c5 := hX.cell hlt
        have f5 := hX.free j
        rw [if_neg (Nat.lt_irrefl j)] at c5
        obtain ⟨x, hx⟩ : ∃ x, l.getD j 0 = x := ⟨_, rfl⟩
        rw [hx] at c5
        by_cases hx0 : x = 0
        · subst hx0
          have hX2 : Arr (wr.setCell ⟨xb, j, none⟩ (.int .i64 5)) xb xc N (fun i => if i < j + 1 then five (l.getD i 0) else l.getD i 0) := (hX.set j 5).congr fun i hi => by
            show (if i = j then (5 : Int) else if i < j then five (l.getD i 0) else l.getD i 0) = if i < j + 1 then five (l.getD i 0) else l.getD i 0
            by_cases e : i = j
            · subst e
              rw [if_pos rfl, if_pos (by omega), hx]; rfl
            · rw [if_neg e]
              by_cases e2 : i < j
              · rw [if_pos e2, if_pos (by omega)]
              · rw [if_neg e2, if_neg (by omega)]
          have HX := Lib.hid (And.intro hX2 (hbw.setCell (p := ⟨xb, j, none⟩) (Nat.le_trans (by exact HB2.out.size) hxb) (.int .i64 5)))
          clear hX hbw hX2 hx
          go_wp2_with fail
          go_roundw
          case rel => exact ⟨j + 1, by omega, by go_num, HX.out.1, HX.out.2⟩
          case measure => simp [intOf]; omega
        · have hX2 : Arr wr xb xc N (fun i => if i < j + 1 then five (l.getD i 0) else l.getD i 0) := hX.congr fun i hi => by
            show (if i < j then five (l.getD i 0) else l.getD i 0) = if i < j + 1 then five (l.getD i 0) else l.getD i 0
            by_cases e : i = j
            · subst e
              rw [if_neg (Nat.lt_irrefl _), if_pos (by omega), hx]
              unfold five
              rw [if_neg hx0]
            · by_cases e2 : i < j
              · rw [if_pos e2, if_pos (by omega)]
              · rw [if_neg e2, if_neg (by omega)]
          have hxb' : (x == 0) = false := by simpa using hx0
          have HX := Lib.hid (And.intro hX2 hbw)
          clear hX hbw hX2 hx
          go_wp2_with fail
          go_roundw
          case rel => exact ⟨j + 1, by omega, by go_num, HX.out.1, HX.out.2⟩
          case measure => simp [intOf]; omega
      · have hlt' : ¬ (j : Int) < N := by omega
        obtain rfl : j = N := by omega
        have hrd := hX.rd (l.map five) (by rw [List.length_map, HLL.out]) fun i hi => by
          show (if i < j then five (l.getD i 0) else l.getD i 0) = _
          rw [if_pos hi, five_at (by rw [HLL.out]; exact hi)]
        have key := kback_no wr hrd (n := j) (by rw [List.length_map, HLL.out]) (by omega) (no_five l)
        have HBW := Lib.hid hbw
        clear hX hbw hrd
        go_wp2_with fail
        (with_reducible refine key.mono ?_); rintro e w8 ⟨rfl, hb8⟩
        clear key
        have HBW := Lib.hid (HBW.out.trans (hb8.mono HBW.out.size))
        clear hb8
        go_wp2_with fail
        refine (told9 _).mono ?_; rintro e w7 ⟨rfl, hb7⟩
        have HBW := Lib.hid (HBW.out.trans (hb7.mono HBW.out.size))
        clear hb7
        go_wp2_with fail
        go_ret
        exact ⟨rfl, HBW.out⟩
  · have heq : ((0 : Int) == 0) = true := rfl
    go_wp2_with (first
    | (at_builtin; (refine wpList_append_own _ rfl (.tmp 29) (.tmp 30) 22 rfl w2.heap.size 3 j0 (.int .i64 0) 1 8 Try.underlying22 hj hy0 hy1 hy2 rfl (by decide) _ 0 [] rfl hmade ⟨lb, 0, none⟩ N lc (l.map (Value.int .i64)) rfl (by rw [List.length_map, HLL.out]; omega) (fun j u hu => HCL.out j u hu) (ints_one _) (by unfold maxLen; omega) (by omega) (by simp) ?_); intro v1 w3 hown1 hgrow1 hnil1;
       (rw [EN1.out]); (have hb3 : Below w2.heap.size w2 w3 := ((Below.refl _ _).alloc (Nat.le_refl _) _).grown hgrow1 (by simp) (by intro q hq; cases hq; exact Nat.le_refl _));
       (have hown2 : OwnI w2.heap.size w3 v1 l := by (unfold OwnI; rw [HLL.out]; simpa using hown1)); (obtain ⟨xb, xc, rfl, hxb, hX⟩ := Arr.of_own hown2 HLL.out hN0);
       (have HXX := Lib.hid hX); (have HOW := Lib.hid hown2); (have c5 := hX.cell hk); (have f5 := hX.free k); (rw [hz] at c5); (have HBW := Lib.hid (HB2.out.trans (hb3.mono HB2.out.size))); (have hs23 := hb3.size); clear hown1 hgrow1 hnil1 hown2 hX hb3 hmade)
    | (at_builtin; (refine wpList_append_own _ rfl (.tmp 61) (.tmp 62) 22 rfl w2.heap.size 3 j0 (.int .i64 0) 1 8 Try.underlying22 hj hy0 hy1 hy2 rfl (by decide) _ _ _ rfl (World.ownsRow.alloc HOW.out _) ⟨w3.heap.size, 0, none⟩ 1 1 [.int .i64 0] rfl rfl (cell_one_new _ _ _) (fun u hu => by simp at hu; subst hu; rfl) (by rw [HLL.out]; unfold maxLen; omega) (by rw [HLL.out]; omega) (by simp; omega) ?_); intro v5 w5 hown5 hgrow5 hnil5;
       (have hb6 : Below W.heap.size W w5 := (HBW.out.alloc HBW.out.size _).grown hgrow5 (by have := HBW.out.size; simp; omega) (fun q hq => Nat.le_trans HB2.out.size (HOW.out.lt q hq).1));
       (have hown6 := OwnI.push (l := l) rfl hown5); (obtain ⟨yb, yc, rfl, hyb, hY⟩ := Arr.of_own hown6 (n := N + 1) (by rw [List.length_append, HLL.out]; rfl) (by omega));
       (have HY := Lib.hid hY); (have HB6 := Lib.hid hb6); clear hown5 hgrow5 hnil5 hown6 hY hb6))
    clear c5 f5 en2 heq
    have key := kback_no w5 (HY.out.list (by rw [List.length_append, HLL.out]; rfl)) (n := N + 1) (by rw [List.length_append, HLL.out]; rfl) (by omega) (no_more HONE.out)
    have HBW := Lib.hid HB6.out
    (with_reducible refine key.mono ?_); rintro e w8 ⟨rfl, hb8⟩
    clear key
    have HBW := Lib.hid (HBW.out.trans (hb8.mono HBW.out.size))
    clear hb8
    go_wp2_with fail
    refine (told9 _).mono ?_; rintro e w7 ⟨rfl, hb7⟩
    have HBW := Lib.hid (HBW.out.trans (hb7.mono HBW.out.size))
    clear hb7
    go_wp2_with fail
    go_ret
    exact ⟨rfl, HBW.out⟩
  · have hne : (z == 0) = false := by simpa using hz0
    go_wp2_with (first
    | (at_builtin; (refine wpList_append_own _ rfl (.tmp 29) (.tmp 30) 22 rfl w2.heap.size 3 j0 (.int .i64 0) 1 8 Try.underlying22 hj hy0 hy1 hy2 rfl (by decide) _ 0 [] rfl hmade ⟨lb, 0, none⟩ N lc (l.map (Value.int .i64)) rfl (by rw [List.length_map, HLL.out]; omega) (fun j u hu => HCL.out j u hu) (ints_one _) (by unfold maxLen; omega) (by omega) (by simp) ?_); intro v1 w3 hown1 hgrow1 hnil1;
       (rw [EN1.out]); (have hb3 : Below w2.heap.size w2 w3 := ((Below.refl _ _).alloc (Nat.le_refl _) _).grown hgrow1 (by simp) (by intro q hq; cases hq; exact Nat.le_refl _));
       (have hown2 : OwnI w2.heap.size w3 v1 l := by (unfold OwnI; rw [HLL.out]; simpa using hown1)); (obtain ⟨xb, xc, rfl, hxb, hX⟩ := Arr.of_own hown2 HLL.out hN0);
       (have HXX := Lib.hid hX); (have HOW := Lib.hid hown2); (have c5 := hX.cell hk); (have f5 := hX.free k); (rw [hz] at c5); (have HBW := Lib.hid (HB2.out.trans (hb3.mono HB2.out.size))); (have hs23 := hb3.size); clear hown1 hgrow1 hnil1 hown2 hX hb3 hmade))
    clear c5 f5 en2
    have key := kback_no _ ((HXX.out.set k (0)).rdset HLL.out) (n := N) (by rw [List.length_set, HLL.out]) (by omega) (no_two HKL.out HONE.out (by rw [HZ.out]; exact hz0))
    have HBW := Lib.hid (HBW.out.setCell (p := ⟨xb, k, none⟩) (Nat.le_trans HB2.out.size hxb) (.int .i64 (0)))
    (with_reducible refine key.mono ?_); rintro e w8 ⟨rfl, hb8⟩
    clear key
    have HBW := Lib.hid (HBW.out.trans (hb8.mono HBW.out.size))
    clear hb8
    go_wp2_with fail
    refine (told9 _).mono ?_; rintro e w7 ⟨rfl, hb7⟩
    have HBW := Lib.hid (HBW.out.trans (hb7.mono HBW.out.size))
    clear hb7
    go_wp2_with fail
    go_ret
    exact ⟨rfl, HBW.out⟩
  · go_wp2_with (first
    | (at_builtin; (refine wpList_append_own _ rfl (.tmp 29) (.tmp 30) 22 rfl w2.heap.size 3 j0 (.int .i64 0) 1 8 Try.underlying22 hj hy0 hy1 hy2 rfl (by decide) _ 0 [] rfl hmade ⟨lb, 0, none⟩ N lc (l.map (Value.int .i64)) rfl (by rw [List.length_map, HLL.out]; omega) (fun j u hu => HCL.out j u hu) (ints_one _) (by unfold maxLen; omega) (by omega) (by simp) ?_); intro v1 w3 hown1 hgrow1 hnil1;
       (rw [EN1.out]); (have hb3 : Below w2.heap.size w2 w3 := ((Below.refl _ _).alloc (Nat.le_refl _) _).grown hgrow1 (by simp) (by intro q hq; cases hq; exact Nat.le_refl _));
       (have hown2 : OwnI w2.heap.size w3 v1 l := by (unfold OwnI; rw [HLL.out]; simpa using hown1)); (obtain ⟨xb, xc, rfl, hxb, hX⟩ := Arr.of_own hown2 HLL.out hN0);
       (have HXX := Lib.hid hX); (have HOW := Lib.hid hown2); (have c5 := hX.cell hk); (have f5 := hX.free k); (rw [hz] at c5); (have HBW := Lib.hid (HB2.out.trans (hb3.mono HB2.out.size))); (have hs23 := hb3.size); clear hown1 hgrow1 hnil1 hown2 hX hb3 hmade))
    clear c5 f5 en2
    have key := kback_no _ ((HXX.out.set k (257)).rdset HLL.out) (n := N) (by rw [List.length_set, HLL.out]) (by omega) (no_bad HKL.out (by decide))
    have HBW := Lib.hid (HBW.out.setCell (p := ⟨xb, k, none⟩) (Nat.le_trans HB2.out.size hxb) (.int .i64 (257)))
    (with_reducible refine key.mono ?_); rintro e w8 ⟨rfl, hb8⟩
    clear key
    have HBW := Lib.hid (HBW.out.trans (hb8.mono HBW.out.size))
    clear hb8
    go_wp2_with fail
    refine (told9 _).mono ?_; rintro e w7 ⟨rfl, hb7⟩
    have HBW := Lib.hid (HBW.out.trans (hb7.mono HBW.out.size))
    clear hb7
    go_wp2_with fail
    go_ret
    exact ⟨rfl, HBW.out⟩
  · go_wp2_with (first
    | (at_builtin; (refine wpList_append_own _ rfl (.tmp 29) (.tmp 30) 22 rfl w2.heap.size 3 j0 (.int .i64 0) 1 8 Try.underlying22 hj hy0 hy1 hy2 rfl (by decide) _ 0 [] rfl hmade ⟨lb, 0, none⟩ N lc (l.map (Value.int .i64)) rfl (by rw [List.length_map, HLL.out]; omega) (fun j u hu => HCL.out j u hu) (ints_one _) (by unfold maxLen; omega) (by omega) (by simp) ?_); intro v1 w3 hown1 hgrow1 hnil1;
       (rw [EN1.out]); (have hb3 : Below w2.heap.size w2 w3 := ((Below.refl _ _).alloc (Nat.le_refl _) _).grown hgrow1 (by simp) (by intro q hq; cases hq; exact Nat.le_refl _));
       (have hown2 : OwnI w2.heap.size w3 v1 l := by (unfold OwnI; rw [HLL.out]; simpa using hown1)); (obtain ⟨xb, xc, rfl, hxb, hX⟩ := Arr.of_own hown2 HLL.out hN0);
       (have HXX := Lib.hid hX); (have HOW := Lib.hid hown2); (have c5 := hX.cell hk); (have f5 := hX.free k); (rw [hz] at c5); (have HBW := Lib.hid (HB2.out.trans (hb3.mono HB2.out.size))); (have hs23 := hb3.size); clear hown1 hgrow1 hnil1 hown2 hX hb3 hmade))
    clear c5 f5 en2
    have key := kback_no _ ((HXX.out.set k (-1)).rdset HLL.out) (n := N) (by rw [List.length_set, HLL.out]) (by omega) (no_bad HKL.out (by decide))
    have HBW := Lib.hid (HBW.out.setCell (p := ⟨xb, k, none⟩) (Nat.le_trans HB2.out.size hxb) (.int .i64 (-1)))
    (with_reducible refine key.mono ?_); rintro e w8 ⟨rfl, hb8⟩
    clear key
    have HBW := Lib.hid (HBW.out.trans (hb8.mono HBW.out.size))
    clear hb8
    go_wp2_with fail
    refine (told9 _).mono ?_; rintro e w7 ⟨rfl, hb7⟩
    have HBW := Lib.hid (HBW.out.trans (hb7.mono HBW.out.size))
    clear hb7
    go_wp2_with fail
    go_ret
    exact ⟨rfl, HBW.out⟩
end Go.Proofs.Ytfncjkkdemeclaa
