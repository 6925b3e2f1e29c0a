/- Layer 9's statements as walks: SortedBack. -/
import Derived.Test.YtfncjkkdemeclaaSoK
import Derived.Test.YtfncjkkdemeclaaSoL
import Derived.IntWalk
import Derived.Deep.DeepCutAuto
namespace Go.Proofs.Ytfncjkkdemeclaa
open Go Go.RowKit Go.ChangeAt

/-- Block S of the memory holds 257 numbers. -/
def Ox (w : World) (S : Nat) (f : Nat → Int) : Prop :=
  ∃ c, w.heap[S]? = some (.cells c 37 (0, 0)) ∧ c.size = 257 ∧ ∀ i, i < 257 → c[i]? = some (.int .i64 (f i))
theorem Ox.cell {w : World} {S : Nat} {f : Nat → Int} (h : Ox w S f) {i : Nat} (hi : i < 257) : w.cell? ⟨S, i, none⟩ = some (.int .i64 (f i)) := by
  obtain ⟨c, h1, _, h3⟩ := h
  exact (cell_of h1).trans (h3 i hi)
theorem Ox.free {w : World} {S : Nat} {f : Nat → Int} (h : Ox w S f) (i : Nat) : w.frozen? ⟨S, i, none⟩ = false := by
  obtain ⟨c, h1, _, _⟩ := h
  exact free_of h1
theorem Ox.set {w : World} {S : Nat} {f : Nat → Int} (h : Ox w S f) (i : Nat) (v : Int) : Ox (w.setCell ⟨S, i, none⟩ (.int .i64 v)) S (fun j => if j = i then v else f j) := by
  obtain ⟨c, h1, h2, h3⟩ := h
  refine ⟨_, set_of h1 _, by rw [Array.size_setIfInBounds]; exact h2, fun j hj => ?_⟩
  show _ = some (Value.int .i64 (if j = i then v else f j))
  by_cases e : j = i
  · subst e
    rw [if_pos rfl, Array.getElem?_setIfInBounds_self_of_lt (by omega)]
  · rw [if_neg e, Array.getElem?_setIfInBounds_ne (Ne.symm e)]
    exact h3 j hj
theorem Ox.congr {w : World} {S : Nat} {f g : Nat → Int} (h : Ox w S f) (e : ∀ i, i < 257 → f i = g i) : Ox w S g := by
  obtain ⟨c, h1, h2, h3⟩ := h
  exact ⟨c, h1, h2, fun i hi => by rw [h3 i hi, e i hi]⟩
theorem infoO : (Try.prog.info? 37).map (fun i => i.zero) = some (some (.agg (Array.replicate 257 (.int .i64 0)))) := by kernel_rfl
theorem zeroO : ∃ zs : Array Value, (∀ w, (zeroValue 37).run Try.prog w = .ok (.agg zs) w) ∧ zs.size = 257 ∧ ∀ j, j < 257 → zs[j]? = some (.int .i64 0) := by
  refine ⟨Array.replicate 257 (.int .i64 0), fun w => ?_, Array.size_replicate, fun j hj => by rw [Array.getElem?_replicate, if_pos (by omega)]⟩
  obtain ⟨i, hi, hz⟩ := Option.map_eq_some_iff.1 infoO
  simp [zeroValue, typeInfo, hi, hz]
/-- How much more often a symbol stands among the first k of one list than of the other. -/
def dif (l m : List Int) (k : Nat) (s : Nat) : Int := ((l.take k).count (s : Int) : Int) - ((m.take k).count (s : Int) : Int)
theorem dif_next {l m : List Int} {k : Nat} (h1 : k < l.length) (h2 : k < m.length) (s : Nat) : dif l m (k + 1) s = dif l m k s + (if l.getD k 0 = s then 1 else 0) - (if m.getD k 0 = s then 1 else 0) := by
  unfold dif
  rw [Bw.count_next h1, Bw.count_next h2]
  split <;> split <;> omega
theorem dif_few (l m : List Int) (k s : Nat) : -(k : Int) ≤ dif l m k s ∧ dif l m k s ≤ k := by
  unfold dif
  have h1 := Bw.count_few l k s
  have h2 := Bw.count_few m k s
  omega
theorem dif_end {l m : List Int} {k : Nat} (h1 : l.length ≤ k) (h2 : m.length ≤ k) (hp : l.Perm m) (s : Nat) : dif l m k s = 0 := by
  unfold dif
  rw [List.take_of_length_le h1, List.take_of_length_le h2, hp.count_eq]
  omega
theorem Lx_perm (t : List UInt8) : (Lx t).Perm (Sy.of t ++ [0]) := by
  rw [← sy_ub]
  exact Bw.lastT_perm _
theorem set_same {l : List Int} {k : Nat} {v : Int} (hk : k < l.length) : l.set k v = l ↔ v = l.getD k 0 := by
  constructor
  · intro h
    rw [← h, getD_set l k k v hk, if_pos rfl]
  · rintro rfl
    rw [List.getD_eq_getElem?_getD, List.getElem?_eq_getElem hk]
    exact List.set_getElem_self hk
theorem str_eq_iff (x y : List UInt8) : ((str x).toList == (str y).toList) = decide (x = y) := by
  rw [str_list, str_list, Bool.eq_iff_iff, beq_iff_eq, decide_eq_true_iff]

set_option maxHeartbeats 6400000 in
set_option maxRecDepth 100000 in
theorem sortedback_w (a : Option Addr) (n cap : Nat) (zs : List Int) (few : Bool) (at_ s0 : Int) (W : World) (hrow : IsRow .i64 W a n cap zs) (_ : (Lit.int .i64 at_).wf = true) (_ : (Lit.int .i64 s0).wf = true) :
    Calls Try.prog 6 #[.slice a n cap, .bool few, .int .i64 at_, .int .i64 s0] W fun e w' => e = .returned (.bool true) ∧ Below W.heap.size W w' := by
  obtain ⟨j0, hj, hy0, hy1, hy2⟩ := info_parts infoI
  obtain ⟨zs, hz, hzn, hzc⟩ := zeroO
  have key := ktext_r (a := a) (n := n) (cap := cap) 80 80 few W (RdZ.of_row hrow) (by decide) rfl
  clear hrow
  go_enter Try.func6, Try.ntmps6
  go_wp2_with fail
  (with_reducible refine key.mono ?_); rintro e w1 ⟨a1, cap1, m, t, rfl, htl, hm, hr, hown, hb1⟩
  clear key
  have hm80 : m ≤ 80 := by omega
  have key := klast w1 hr htl (by omega)
  have HTL := Lib.hid htl
  have HR := Lib.hid hr
  have HB1 := Lib.hid hb1
  clear hm htl hr hown hb1
  go_wp2_with fail
  (with_reducible refine key.mono ?_); rintro e w2 ⟨lb, lc, rfl, -, hL, hb2⟩
  clear key
  have hll : (Lx t).length = m + 1 := by rw [Lx_len, HTL.out]
  have key := kback_of t w2 (hL.list hll) hll (by omega) rfl
  rw [HTL.out] at key
  have HL := Lib.hid hL
  have HLL := Lib.hid hll
  have HR := Lib.hid (HR.out.below hb2)
  have HBW := Lib.hid (HB1.out.trans (hb2.mono HB1.out.size))
  clear hL hb2 HB1 hll
  go_wp2_with fail
  (with_reducible refine key.mono ?_); rintro e w3 ⟨tb, rfl, htb, hT, hb3⟩
  clear key
  have HL := Lib.hid (HL.out.below hb3)
  have HR := Lib.hid (HR.out.below hb3)
  have HBW := Lib.hid (HBW.out.trans (hb3.mono HBW.out.size))
  have cx := conv_str hT (n := m) HTL.out
  have cy := conv_str HR.out (n := m) HTL.out
  obtain ⟨sx, hsx⟩ : ∃ sx, str t = sx := ⟨_, rfl⟩
  rw [hsx] at cx cy
  have hse : (sx.toList == sx.toList) = true := by simp
  have hne : (((m + 1 : Nat) : Int) != (m : Int) + 1) = false := by simp
  obtain ⟨N, hN⟩ : ∃ N, m + 1 = N := ⟨_, rfl⟩
  have hmN : (m : Int) + 1 = N := by omega
  have hNN : ((N : Int) != N) = false := by simp
  rw [hN] at HL HLL hne
  have HN := Lib.hid hN
  have hN9 : N ≤ 81 := by omega
  have hN0 : 0 < N := by omega
  obtain ⟨w4, hw4⟩ : ∃ w4, w3.alloc (.cells zs 37) = w4 := ⟨_, rfl⟩
  have hal : Below w3.heap.size w3 w4 := by rw [← hw4]; exact (Below.refl _ _).alloc (Nat.le_refl _) _
  obtain ⟨S, hS⟩ : ∃ S, w3.heap.size = S := ⟨_, rfl⟩
  have hO : Ox w4 S (dif (Lx t) (Sy.of t ++ [0]) 0) := by
    rw [← hw4, ← hS]
    exact ⟨zs, alloc_of, hzn, fun i hi => by rw [hzc i hi]; rfl⟩
  have hp := RdP.one (g := w4.heap.size) rfl (HR.out.below hal) HTL.out
  have hS4 : w3.heap.size + 1 ≤ w4.heap.size := by rw [← hw4]; simp
  have hlb3 := HL.out.lt
  have htb3 : 0 < t.length → tb < w3.heap.size := fun hp => by
    obtain ⟨b, off, e1, e2, _⟩ := hT.2.2 hp
    simp only [Option.some.injEq, Addr.mk.injEq, and_true] at e1
    omega
  have ha3 : 0 < t.length → ∀ ad, a1 = some ad → ad.block < w3.heap.size := fun hp ad had => by
    obtain ⟨b, off, e1, e2, _⟩ := HR.out.2.2 hp
    obtain rfl := Option.some.inj (had.symm.trans e1)
    exact e2
  have key := sall _ hp (by simp [HTL.out]; omega)
  have hfl : [t].flatten = t := by simp
  rw [hfl] at key
  have hal2 : Below w4.heap.size w4 (w4.alloc (.cells #[.slice a1 m cap1] 23)) := (Below.refl _ _).alloc (Nat.le_refl _) _
  have hal3 := hal.trans (hal2.mono hal.size)
  have HO := Lib.hid hO
  have HAL := Lib.hid hal3
  have HSS := Lib.hid hS
  have HT := Lib.hid hT
  clear hO hp hfl hal hzn hzc hT hb3 hsx hS hN
  go_wp2_with fail
  (with_reducible refine key.mono ?_); rintro e w5 ⟨va, rfl, howna, hb5⟩
  clear key hz hw4 cx cy hse hne
  obtain ⟨ab, ac, rfl, hab, hA⟩ := Arr.of_own howna (n := N) (by rw [Sy.all_len, HTL.out, HN.out]) hN0
  have hb6 : Below w3.heap.size w3 w5 := HAL.out.trans (hb5.mono HAL.out.size)
  have hb7 : Below w4.heap.size w4 w5 := hal2.trans (hb5.mono hal2.size)
  have HA := Lib.hid hA
  have HT := Lib.hid (HT.out.below hb6)
  have HR := Lib.hid (HR.out.below hb6)
  have HL := Lib.hid (HL.out.below hb6)
  have HO5 : Ox w5 S (dif (Lx t) (Sy.of t ++ [0]) 0) := by
    obtain ⟨c, h1, h2⟩ := HO.out
    exact ⟨c, Below.keptB hb7 h1 (lt_of_block h1), h2⟩
  have HO := Lib.hid HO5
  have hSb : S < w4.heap.size := by obtain ⟨c, h1, _⟩ := HO5; have := HO.out; exact Nat.lt_of_lt_of_le (Nat.lt_succ_self S) (by
    have h9 : w3.heap.size + 1 ≤ w4.heap.size := hS4
    rw [HSS.out] at h9
    exact h9)
  have HBW5 := Lib.hid (HBW.out.trans (hb6.mono HBW.out.size))
  have hWS : W.heap.size ≤ S := by rw [← HSS.out]; exact HBW.out.size
  have hlbS : lb < S := by rw [← HSS.out]; exact hlb3
  have htbS : 0 < t.length → tb < S := fun hp => by rw [← HSS.out]; exact htb3 hp
  have haS : 0 < t.length → ∀ ad, a1 = some ad → ad.block < S := fun hp ad had => by rw [← HSS.out]; exact ha3 hp ad had
  have HHS := Lib.hid (And.intro htbS haS)
  have hgl := Lib.hid (Lx_good t)
  have hga := Lib.hid (Sy.all_good t)
  have HPM := Lib.hid (Lx_perm t)
  have hlal : (Sy.of t ++ [0]).length = N := by rw [Sy.all_len, HTL.out, HN.out]
  have HLAL := Lib.hid hlal
  have habS : S < ab := by
    have h9 : w4.heap.size + 1 ≤ ab := by have h8 : (w4.alloc (.cells #[.slice a1 m cap1] 23)).heap.size = w4.heap.size + 1 := by simp
                                          rw [h8] at hab; exact hab
    omega
  obtain ⟨al, hal9⟩ : ∃ al, Sy.of t ++ [0] = al := ⟨_, rfl⟩
  rw [hal9] at HO hga HPM HLAL HA
  clear howna hb5 hb6 hb7 hA HO5 hal2 hal3 HAL HBW htbS haS hlal hal9 hlb3 htb3 ha3 hab
  rw [HN.out, HSS.out]
  go_wp2_with fail
  go_loopw [15] (fun i wr => ∃ k : Nat, k ≤ N ∧ i = .int .i64 k ∧ Ox wr S (dif (Lx t) al k) ∧ Stay (· = S) w5 wr) (fun i _ => N - (intOf i).toNat)
  case atStart => exact ⟨0, Nat.zero_le _, rfl, HO.out, Stay.refl _ _⟩
  case round =>
    clear HO
    obtain ⟨k, hk, rfl, hO, hst⟩ := hrel
    by_cases hlt : k < N
    · have hlt' : (k : Int) < N := by omega
      have c0 := (HL.out.stay hst (by omega)).cell hlt
      have c1 := (HA.out.stay hst (by omega)).cell hlt
      have g0 := hgl.out _ (Bw.getD_mem (l := Lx t) (k := k) (by rw [HLL.out]; exact hlt))
      have g1 := hga.out _ (Bw.getD_mem (l := al) (k := k) (by rw [HLAL.out]; exact hlt))
      have hdn := fun s => dif_next (l := Lx t) (m := al) (k := k) (by rw [HLL.out]; exact hlt) (by rw [HLAL.out]; exact hlt) s
      obtain ⟨x0, hx0⟩ : ∃ x, (Lx t).getD k 0 = x := ⟨_, rfl⟩
      obtain ⟨y0, hy0'⟩ : ∃ y, al.getD k 0 = y := ⟨_, rfl⟩
      rw [hx0] at c0 g0 hdn
      rw [hy0'] at c1 g1 hdn
      obtain ⟨x, rfl⟩ : ∃ x : Nat, x0 = x := ⟨x0.toNat, by omega⟩
      obtain ⟨y, rfl⟩ : ∃ y : Nat, y0 = y := ⟨y0.toNat, by omega⟩
      have c2 := hO.cell (i := x) (by omega)
      have f2 := hO.free x
      have d2 := dif_few (Lx t) al k x
      have d3 := dif_few (Lx t) al k y
      obtain ⟨v, hv⟩ : ∃ v, dif (Lx t) al k x = v := ⟨_, rfl⟩
      rw [hv] at c2 d2
      have hO1 := hO.set x (v + 1)
      have hst1 : Stay (· = S) wr (wr.setCell ⟨S, x, none⟩ (.int .i64 (v + 1))) := (Stay.refl (· = S) _).setCell (p := ⟨S, x, none⟩) (.inr rfl) _
      have c3 := (HA.out.stay (hst.trans hst1 (fun _ _ h => h)) (by omega)).cell hlt
      rw [hy0'] at c3
      have c4a := hO1.cell (i := y) (by omega)
      have f4 := hO1.free y
      obtain ⟨u, hu⟩ : ∃ u, (if y = x then v + 1 else dif (Lx t) al k y) = u := ⟨_, rfl⟩
      have c4 : (wr.setCell ⟨S, x, none⟩ (.int .i64 (v + 1))).cell? ⟨S, y, none⟩ = some (.int .i64 u) := c4a.trans (by rw [← hu])
      clear c4a
      have du : -100 ≤ u ∧ u ≤ 100 := by
        rw [← hu]
        split <;> omega
      have hO2 : Ox ((wr.setCell ⟨S, x, none⟩ (.int .i64 (v + 1))).setCell ⟨S, y, none⟩ (.int .i64 (u - 1))) S (dif (Lx t) al (k + 1)) := (hO1.set y (u - 1)).congr fun j hj => by
        show (if j = y then u - 1 else if j = x then v + 1 else dif (Lx t) al k j) = dif (Lx t) al (k + 1) j
        rw [hdn j]
        by_cases e1 : j = y
        · subst e1
          rw [if_pos rfl, ← hu, if_pos (c := ((j : Nat) : Int) = j) rfl]
          by_cases e2 : j = x
          · subst e2
            rw [if_pos rfl, if_pos rfl, hv]
          · rw [if_neg e2, if_neg (by omega)]; omega
        · rw [if_neg e1, if_neg (c := ((y : Nat) : Int) = j) (by omega)]
          by_cases e2 : j = x
          · subst e2
            rw [if_pos rfl, if_pos rfl, hv]; omega
          · rw [if_neg e2, if_neg (by omega)]; omega
      have hst2 : Stay (· = S) w5 ((wr.setCell ⟨S, x, none⟩ (.int .i64 (v + 1))).setCell ⟨S, y, none⟩ (.int .i64 (u - 1))) := (hst.trans hst1 (fun _ _ h => h)).setCell (p := ⟨S, y, none⟩) (.inr rfl) _
      have HX := Lib.hid (And.intro hO2 hst2)
      have hd1 := d2.1
      have hd2 := d2.2
      have hd3 := du.1
      have hd4 := du.2
      have hx256 : (x : Int) ≤ 256 := g0.2
      have hy256 : (y : Int) ≤ 256 := g1.2
      have hk80 : (k : Int) ≤ 81 := by omega
      clear hO hst hst1 hO1 hO2 hst2 hdn hu hv hx0 hy0' d2 d3 du g0 g1
      go_wp2_with fail
      go_roundw
      case rel => exact ⟨k + 1, by omega, by go_num, HX.out.1, HX.out.2⟩
      case measure => simp [intOf]; omega
    · have hkN : k = N := by omega
      have hlt' : ¬ (k : Int) < N := by omega
      have hO2 : Ox wr S (fun _ => 0) := hO.congr fun i _ => dif_end (by rw [HLL.out]; omega) (by rw [HLAL.out]; omega) HPM.out i
      have hSwr : S < wr.heap.size := by obtain ⟨c, h1, _⟩ := hO2; exact lt_of_block h1
      have HO2 := Lib.hid hO2
      have HL := Lib.hid (HL.out.stay hst (by omega))
      have HT := Lib.hid (HT.out.stay hst (fun hp ad had _ e => by
        obtain rfl := Option.some.inj had
        have := HHS.out.1 hp
        have e2 : tb = S := e
        omega))
      have HR := Lib.hid (HR.out.stay hst (fun hp ad had _ e => by
        have := HHS.out.2 hp ad had
        omega))
      have HBW := Lib.hid (HBW5.out.trans (hst.below (B := W.heap.size) HBW5.out.size (fun i _ e => by omega)))
      clear hO hO2 hst HPM HA HLAL hga HBW5 hkN hk hlt
      go_wp2_with fail
      clear hlt'
      go_loop [16] (fun i => ∃ j : Nat, j ≤ 257 ∧ i = .int .i64 j) (fun i => 257 - (intOf i).toNat)
      case atStart => exact ⟨0, by omega, rfl⟩
      case round =>
        obtain ⟨j, hj2, rfl⟩ := hrel
        by_cases hlt2 : j < 257
        · have hlt3 : (j : Int) < 257 := by omega
          have c0 := HO2.out.cell hlt2
          have hb0 : ((0 : Int) != 0) = false := rfl
          go_wp2_with fail
          go_round
          case rel => exact ⟨j + 1, by omega, by go_num⟩
          case measure => simp [intOf]; omega
        have hlt3 : ¬ (j : Int) < 257 := by omega
        obtain ⟨kk, hkk, en1⟩ := mod_any at_ N hN0 (by omega)
        obtain ⟨sv0, hsv0, en2⟩ := mod_any s0 257 (by decide) (by decide)
        change RowKit.wrap64 ((IntKind.u64.wrap s0).tmod 257) = _ at en2
        obtain ⟨l, hl⟩ : ∃ l, Lx t = l := ⟨_, rfl⟩
        have HLT := Lib.hid hl
        rw [hl] at HL HLL
        have hLb := HL.out.lt
        have hcl := (HL.out.below ((Below.refl wr.heap.size wr).alloc (Nat.le_refl _) (.cells #[] 3))).cells
        have hlr : (List.range N).map (fun i => l.getD i 0) = l := by
          refine List.ext_getElem (by simp [HLL.out]) fun i h1 h2 => ?_
          rw [List.getElem_map, List.getElem_range, List.getD_eq_getElem?_getD, List.getElem?_eq_getElem h2]
          rfl
        rw [hlr] at hcl
        have HCL := Lib.hid hcl
        have EN1 := Lib.hid en1
        have hfit := HL.out.fits
        unfold maxLen at hfit
        obtain ⟨sv, hsv⟩ : ∃ sv : Int, (sv0 : Int) = sv := ⟨_, rfl⟩
        rw [hsv] at en2
        have EN2 := Lib.hid en2
        have hkki : (kk : Int) < N := by omega
        have hmade := World.ownsRow_made wr (base := wr.heap.size) (e := 3) (size := 1) #[] 0 (Nat.le_refl _) (by decide) rfl
        clear hcl hlr hl en1 en2 hsv hsv0
        go_wp2_with (first
          | (at_builtin; (refine wpList_append_own _ rfl (.tmp 106) (.tmp 107) 22 rfl wr.heap.size 3 j0 (.int .i64 0) 1 8 Try.underlying22 hj hy0 hy1 hy2 rfl (by decide) _ 0 [] rfl hmade ⟨lb, 0, none⟩ N lc (l.map (Value.int .i64)) rfl (by rw [List.length_map, HLL.out]; omega) (fun j u hu => HCL.out j u hu) (ints_one _) (by unfold maxLen; omega) (by omega) (by simp) ?_); intro v1 w6 hown1 hgrow1 hnil1;
             (rw [EN1.out]); (have hb3 : Below wr.heap.size wr w6 := ((Below.refl _ _).alloc (Nat.le_refl _) _).grown hgrow1 (by simp) (by intro q hq; cases hq; exact Nat.le_refl _));
             (have hown2 : OwnI wr.heap.size w6 v1 l := by (unfold OwnI; rw [HLL.out]; simpa using hown1)); (obtain ⟨xb, xc, rfl, hxb, hX⟩ := Arr.of_own hown2 HLL.out hN0);
             (have HXX := Lib.hid hX); (have c5 := hX.cell hkk); (have f5 := hX.free kk); (have HB6 := Lib.hid hb3); clear hown1 hgrow1 hnil1 hown2 hX hb3 hmade))
        rw [EN2.out]
        clear c5 f5
        have hkl : kk < l.length := by rw [HLL.out]; exact hkk
        have hX2 := HXX.out.set kk sv
        have hst6 : Stay (· = xb) w6 (w6.setCell ⟨xb, kk, none⟩ (.int .i64 sv)) := (Stay.refl (· = xb) _).setCell (p := ⟨xb, kk, none⟩) (.inr rfl) _
        have hL6 := (HL.out.below HB6.out).stay hst6 (by omega)
        have hT6 := (HT.out.below HB6.out).stay hst6 (fun hp ad had _ e => by
          obtain rfl := Option.some.inj had
          have := HHS.out.1 hp
          have e2 : tb = xb := e
          have h8 := hSwr
          omega)
        have hR6 := (HR.out.below HB6.out).stay hst6 (fun hp ad had _ e => by
          have := HHS.out.2 hp ad had
          have h8 := hSwr
          omega)
        have hbw6 := (HBW.out.trans (HB6.out.mono HBW.out.size)).setCell (p := ⟨xb, kk, none⟩) (Nat.le_trans HBW.out.size hxb) (.int .i64 sv)
        obtain ⟨w7, hw7⟩ : ∃ w7, w6.setCell ⟨xb, kk, none⟩ (.int .i64 sv) = w7 := ⟨_, rfl⟩
        rw [hw7] at hX2 hL6 hT6 hR6 hbw6
        have key := kback w7 (hX2.rdset HLL.out) (n := N) (by rw [List.length_set, HLL.out]) (by omega)
        have cX := hX2.cell hkk
        rw [if_pos rfl] at cX
        have cL := hL6.cell hkk
        obtain ⟨lv, hlv⟩ : ∃ lv, l.getD kk 0 = lv := ⟨_, rfl⟩
        rw [hlv] at cL
        have hxlt := hX2.lt
        have hllt := hL6.lt
        have HX2 := Lib.hid hX2
        have HR6 := Lib.hid hR6
        have HBW := Lib.hid hbw6
        have HCX := Lib.hid cX
        have HCLv := Lib.hid cL
        have HKL := Lib.hid hkl
        have HLV := Lib.hid hlv
        clear hX2 hst6 hL6 hT6 hR6 hbw6 hlv cX cL hkl HXX HL HT HR
        go_wp2_with fail
        (try rw [hw7])
        (with_reducible refine key.mono ?_)
        clear key hw7
        rintro e w8 ⟨⟨c, cb, hc1, hc2, rfl, hcb, hC⟩ | ⟨hno, rfl⟩, hb8⟩
        · have hcm : c.length = m := by have := HN.out; omega
          rw [hcm] at hC ⊢
          obtain ⟨B, hB⟩ : ∃ B, decide (c = t) = B := ⟨_, rfl⟩
          have hq1 := str_eq_iff c t
          rw [hB] at hq1
          have hq2 : (sv == lv) = B := by
            rw [← hB, Bool.eq_iff_iff, beq_iff_eq, decide_eq_true_iff, ← HLV.out, ← set_same HKL.out, ← hc1]
            constructor
            · intro h9; exact Lx_inj (h9.trans HLT.out.symm)
            · rintro rfl; exact HLT.out
          have hq3 : (B == B) = true := by simp
          obtain ⟨sc, hsc⟩ : ∃ sc, str c = sc := ⟨_, rfl⟩
          obtain ⟨sy, hsy⟩ : ∃ sy, str t = sy := ⟨_, rfl⟩
          rw [hsc, hsy] at hq1
          have hkeep : ∀ w', Below w8.heap.size w8 w' → w'.cell? ⟨xb, kk, none⟩ = some (.int .i64 sv) ∧ w'.cell? ⟨lb, kk, none⟩ = some (.int .i64 lv) ∧ (convert 23 9 (.slice (some ⟨cb, 0, none⟩) m m)).run Try.prog w' = .ok (.string sc) w' ∧ (convert 23 9 (.slice a1 m cap1)).run Try.prog w' = .ok (.string sy) w' := fun w' hw => by
            have h9 := hb8.trans (hw.mono hb8.size)
            refine ⟨(h9.cell (p := ⟨xb, kk, none⟩) hxlt).trans HCX.out, (h9.cell (p := ⟨lb, kk, none⟩) hllt).trans HCLv.out, ?_, ?_⟩
            · rw [← hsc]; exact conv_str (hC.below hw) hcm
            · rw [← hsy]; exact conv_str (HR6.out.below h9) HTL.out
          have HKEEP := Lib.hid hkeep
          have HC := Lib.hid hC
          have HX8 := Lib.hid (HX2.out.below hb8)
          have HBW := Lib.hid (HBW.out.trans (hb8.mono HBW.out.size))
          have HCM := Lib.hid hcm
          have HC1 := Lib.hid hc1
          clear hb8 hkeep hC hc1 hc2 hcm hB hsc hsy
          go_wp2_with fail
          refine wp_region_noPanic ?_
          refine wp_region_held_drew (S := (fun w' => w'.cell? ⟨xb, kk, none⟩ = some (.int .i64 sv) ∧ w'.cell? ⟨lb, kk, none⟩ = some (.int .i64 lv) ∧ (convert 23 9 (.slice (some ⟨cb, 0, none⟩) m m)).run Try.prog w' = .ok (.string sc) w' ∧ (convert 23 9 (.slice a1 m cap1)).run Try.prog w' = .ok (.string sy) w')) (by kernel_rfl) (HKEEP.out _ ((Below.refl _ w8).drew)) (fun hHeld => ?_)
          refine wpAnyH_ready (rs := [0]) (by kernel_rfl) (by simp) ?_
          refine AllReadyH.cons rfl (fun K hK => ?_) AllReadyH.nil
          clear hHeld
          go_simp
          go_at_call 12; refine (told9 _).mono ?_; rintro e w9 ⟨rfl, hb9⟩; (have hbA : Below w8.heap.size w8 w9 := ((Below.refl _ w8).drew).trans hb9); clear hb9
          (try go_wp2_with fail)
          refine hK.out _ _ (HKEEP.out _ hbA) (fun hHeld => ?_)
          clear hK K
          try simp only [Act.put, List.getElem_toArray, List.getElem_cons_succ, List.getElem_cons_zero, List.setIfInBounds_toArray, List.set_cons_zero, List.set_cons_succ]
          refine wpAnyH_take (i := 1) (v := ?au1) rfl (by kernel_rfl) (by kernel_rfl) (by kernel_rfl) (fun _ _ _ h => h) (Or.inl ⟨by rfl, ?ahy1⟩) hHeld ?arest1
          case ahy1 => (intro w hSw; (try dsimp only at hSw); obtain ⟨q1, q2, q3, q4⟩ := hSw; go_simp; (try with_reducible rfl))
          try simp only [Act.put, List.getElem_toArray, List.getElem_cons_succ, List.getElem_cons_zero, List.setIfInBounds_toArray, List.set_cons_zero, List.set_cons_succ]
          refine wpAnyH_take (i := 2) (v := ?au2) rfl (by kernel_rfl) (by kernel_rfl) (by kernel_rfl) (fun _ _ _ h => h) (Or.inl ⟨by rfl, ?ahy2⟩) hHeld ?arest2
          case ahy2 => (intro w hSw; (try dsimp only at hSw); obtain ⟨q1, q2, q3, q4⟩ := hSw; go_simp; (try with_reducible rfl))
          try simp only [Act.put, List.getElem_toArray, List.getElem_cons_succ, List.getElem_cons_zero, List.setIfInBounds_toArray, List.set_cons_zero, List.set_cons_succ]
          refine wpAnyH_take (i := 3) (v := ?au3) rfl (by kernel_rfl) (by kernel_rfl) (by kernel_rfl) (fun _ _ _ h => h) (Or.inl ⟨by rfl, ?ahy3⟩) hHeld ?arest3
          case ahy3 => (intro w hSw; (try dsimp only at hSw); obtain ⟨q1, q2, q3, q4⟩ := hSw; go_simp; (try with_reducible rfl))
          try simp only [Act.put, List.getElem_toArray, List.getElem_cons_succ, List.getElem_cons_zero, List.setIfInBounds_toArray, List.set_cons_zero, List.set_cons_succ]
          refine wpAnyH_take (i := 4) (v := ?au4) rfl (by kernel_rfl) (by kernel_rfl) (by kernel_rfl) (fun _ _ _ h => h) (Or.inl ⟨by rfl, ?ahy4⟩) hHeld ?arest4
          case ahy4 => (intro w hSw; (try dsimp only at hSw); obtain ⟨q1, q2, q3, q4⟩ := hSw; go_simp; (try with_reducible rfl))
          try simp only [Act.put, List.getElem_toArray, List.getElem_cons_succ, List.getElem_cons_zero, List.setIfInBounds_toArray, List.set_cons_zero, List.set_cons_succ]
          refine wpAnyH_take (i := 5) (v := ?au5) rfl (by kernel_rfl) (by kernel_rfl) (by kernel_rfl) (fun _ _ _ h => h) (Or.inl ⟨by rfl, ?ahy5⟩) hHeld ?arest5
          case ahy5 => (intro w hSw; (try dsimp only at hSw); obtain ⟨q1, q2, q3, q4⟩ := hSw; go_simp; (try with_reducible rfl))
          try simp only [Act.put, List.getElem_toArray, List.getElem_cons_succ, List.getElem_cons_zero, List.setIfInBounds_toArray, List.set_cons_zero, List.set_cons_succ]
          refine wpAnyH_take (i := 7) (v := ?au7) rfl (by kernel_rfl) (by kernel_rfl) (by kernel_rfl) (fun _ _ _ h => h) (Or.inl ⟨by rfl, ?ahy7⟩) hHeld ?arest7
          case ahy7 => (intro w hSw; (try dsimp only at hSw); obtain ⟨q1, q2, q3, q4⟩ := hSw; go_simp; (try with_reducible rfl))
          try simp only [Act.put, List.getElem_toArray, List.getElem_cons_succ, List.getElem_cons_zero, List.setIfInBounds_toArray, List.set_cons_zero, List.set_cons_succ]
          refine wpAnyH_ready (rs := [6]) (by kernel_rfl) (by simp) ?_
          refine AllReadyH.cons rfl (fun K hK => ?_) AllReadyH.nil
          clear hHeld
          go_simp
          go_at_call 18; (with_reducible refine (klast w9 (HC.out.below hbA) HCM.out (by omega)).mono ?_); rintro e w10 ⟨eb, ec, rfl, heb, hE, hb10⟩; (have hbA := hbA.trans (hb10.mono hbA.size)); clear hb10
          (try go_wp2_with fail)
          refine hK.out _ _ (HKEEP.out _ hbA) (fun hHeld => ?_)
          clear hK K
          try simp only [Act.put, List.getElem_toArray, List.getElem_cons_succ, List.getElem_cons_zero, List.setIfInBounds_toArray, List.set_cons_zero, List.set_cons_succ]
          refine wpAnyH_ready (rs := [8]) (by kernel_rfl) (by simp) ?_
          refine AllReadyH.cons rfl (fun K hK => ?_) AllReadyH.nil
          clear hHeld
          go_simp
          go_at_call 13; (with_reducible refine (ssame true w10 (hE.list ((Lx_len c).trans (by rw [HCM.out]))) ((HX8.out.below hbA).rdset HLL.out) (n := m + 1) (n' := N) ((Lx_len c).trans (by rw [HCM.out])) (by rw [List.length_set, HLL.out]) (decide_eq_true HC1.out)).mono ?_); rintro e w11 ⟨rfl, hd11⟩; (have hbA := hbA.drawn hd11); clear hd11
          (try go_wp2_with fail)
          refine hK.out _ _ (HKEEP.out _ hbA) (fun hHeld => ?_)
          clear hK K
          try simp only [Act.put, List.getElem_toArray, List.getElem_cons_succ, List.getElem_cons_zero, List.setIfInBounds_toArray, List.set_cons_zero, List.set_cons_succ]
          refine wpAnyH_take (i := 9) (v := ?au9) rfl (by kernel_rfl) (by kernel_rfl) (by kernel_rfl) (fun _ _ _ h => h) (Or.inl ⟨by rfl, ?ahy9⟩) hHeld ?arest9
          case ahy9 => (intro w hSw; (try dsimp only at hSw); obtain ⟨q1, q2, q3, q4⟩ := hSw; go_simp; (try with_reducible rfl))
          try simp only [Act.put, List.getElem_toArray, List.getElem_cons_succ, List.getElem_cons_zero, List.setIfInBounds_toArray, List.set_cons_zero, List.set_cons_succ]
          refine wpAnyH_take (i := 10) (v := ?au10) rfl (by kernel_rfl) (by kernel_rfl) (by kernel_rfl) (fun _ _ _ h => h) (Or.inl ⟨by rfl, ?ahy10⟩) hHeld ?arest10
          case ahy10 => (intro w hSw; (try dsimp only at hSw); obtain ⟨q1, q2, q3, q4⟩ := hSw; go_simp; (try with_reducible rfl))
          try simp only [Act.put, List.getElem_toArray, List.getElem_cons_succ, List.getElem_cons_zero, List.setIfInBounds_toArray, List.set_cons_zero, List.set_cons_succ]
          refine wpAnyH_take (i := 11) (v := ?au11) rfl (by kernel_rfl) (by kernel_rfl) (by kernel_rfl) (fun _ _ _ h => h) (Or.inl ⟨by rfl, ?ahy11⟩) hHeld ?arest11
          case ahy11 => (intro w hSw; (try dsimp only at hSw); obtain ⟨q1, q2, q3, q4⟩ := hSw; go_simp; (try with_reducible rfl))
          try simp only [Act.put, List.getElem_toArray, List.getElem_cons_succ, List.getElem_cons_zero, List.setIfInBounds_toArray, List.set_cons_zero, List.set_cons_succ]
          refine wpAnyH_take (i := 12) (v := ?au12) rfl (by kernel_rfl) (by kernel_rfl) (by kernel_rfl) (fun _ _ _ h => h) (Or.inl ⟨by rfl, ?ahy12⟩) hHeld ?arest12
          case ahy12 => (intro w hSw; (try dsimp only at hSw); obtain ⟨q1, q2, q3, q4⟩ := hSw; go_simp; (try with_reducible rfl))
          try simp only [Act.put, List.getElem_toArray, List.getElem_cons_succ, List.getElem_cons_zero, List.setIfInBounds_toArray, List.set_cons_zero, List.set_cons_succ]
          refine wpAnyH_take (i := 13) (v := ?au13) rfl (by kernel_rfl) (by kernel_rfl) (by kernel_rfl) (fun _ _ _ h => h) (Or.inl ⟨by rfl, ?ahy13⟩) hHeld ?arest13
          case ahy13 => (intro w hSw; (try dsimp only at hSw); obtain ⟨q1, q2, q3, q4⟩ := hSw; go_simp; (try with_reducible rfl))
          try simp only [Act.put, List.getElem_toArray, List.getElem_cons_succ, List.getElem_cons_zero, List.setIfInBounds_toArray, List.set_cons_zero, List.set_cons_succ]
          refine wpAnyH_take (i := 14) (v := ?au14) rfl (by kernel_rfl) (by kernel_rfl) (by kernel_rfl) (fun _ _ _ h => h) (Or.inl ⟨by rfl, ?ahy14⟩) hHeld ?arest14
          case ahy14 => (intro w hSw; (try dsimp only at hSw); obtain ⟨q1, q2, q3, q4⟩ := hSw; go_simp; (try with_reducible rfl))
          try simp only [Act.put, List.getElem_toArray, List.getElem_cons_succ, List.getElem_cons_zero, List.setIfInBounds_toArray, List.set_cons_zero, List.set_cons_succ]
          refine wpAnyH_take (i := 15) (v := ?au15) rfl (by kernel_rfl) (by kernel_rfl) (by kernel_rfl) (fun _ _ _ h => h) (Or.inl ⟨by rfl, ?ahy15⟩) hHeld ?arest15
          case ahy15 => (intro w hSw; (try dsimp only at hSw); obtain ⟨q1, q2, q3, q4⟩ := hSw; go_simp; (try with_reducible rfl))
          try simp only [Act.put, List.getElem_toArray, List.getElem_cons_succ, List.getElem_cons_zero, List.setIfInBounds_toArray, List.set_cons_zero, List.set_cons_succ]
          refine wpAnyH_take (i := 16) (v := ?au16) rfl (by kernel_rfl) (by kernel_rfl) (by kernel_rfl) (fun _ _ _ h => h) (Or.inl ⟨by rfl, ?ahy16⟩) hHeld ?arest16
          case ahy16 => (intro w hSw; (try dsimp only at hSw); obtain ⟨q1, q2, q3, q4⟩ := hSw; go_simp; (try with_reducible rfl))
          try simp only [Act.put, List.getElem_toArray, List.getElem_cons_succ, List.getElem_cons_zero, List.setIfInBounds_toArray, List.set_cons_zero, List.set_cons_succ]
          refine wpAnyH_take (i := 17) (v := ?au17) rfl (by kernel_rfl) (by kernel_rfl) (by kernel_rfl) (fun _ _ _ h => h) (Or.inl ⟨by rfl, ?ahy17⟩) hHeld ?arest17
          case ahy17 => (intro w hSw; (try dsimp only at hSw); obtain ⟨q1, q2, q3, q4⟩ := hSw; go_simp; (try with_reducible rfl))
          try simp only [Act.put, List.getElem_toArray, List.getElem_cons_succ, List.getElem_cons_zero, List.setIfInBounds_toArray, List.set_cons_zero, List.set_cons_succ]
          refine wpAnyH_take (i := 18) (v := ?au18) rfl (by kernel_rfl) (by kernel_rfl) (by kernel_rfl) (fun _ _ _ h => h) (Or.inl ⟨by rfl, ?ahy18⟩) hHeld ?arest18
          case ahy18 => (intro w hSw; (try dsimp only at hSw); obtain ⟨q1, q2, q3, q4⟩ := hSw; go_simp; (try with_reducible rfl))
          try simp only [Act.put, List.getElem_toArray, List.getElem_cons_succ, List.getElem_cons_zero, List.setIfInBounds_toArray, List.set_cons_zero, List.set_cons_succ]
          refine wpAnyH_take (i := 19) (v := ?au19) rfl (by kernel_rfl) (by kernel_rfl) (by kernel_rfl) (fun _ _ _ h => h) (Or.inl ⟨by rfl, ?ahy19⟩) hHeld ?arest19
          case ahy19 => (intro w hSw; (try dsimp only at hSw); obtain ⟨q1, q2, q3, q4⟩ := hSw; go_simp; (try with_reducible rfl))
          try simp only [Act.put, List.getElem_toArray, List.getElem_cons_succ, List.getElem_cons_zero, List.setIfInBounds_toArray, List.set_cons_zero, List.set_cons_succ]
          refine wpAnyH_take (i := 20) (v := ?au20) rfl (by kernel_rfl) (by kernel_rfl) (by kernel_rfl) (fun _ _ _ h => h) (Or.inl ⟨by rfl, ?ahy20⟩) hHeld ?arest20
          case ahy20 => (intro w hSw; (try dsimp only at hSw); obtain ⟨q1, q2, q3, q4⟩ := hSw; go_simp; (try with_reducible rfl))
          try simp only [Act.put, List.getElem_toArray, List.getElem_cons_succ, List.getElem_cons_zero, List.setIfInBounds_toArray, List.set_cons_zero, List.set_cons_succ]
          refine wpAnyH_take (i := 21) (v := ?au21) rfl (by kernel_rfl) (by kernel_rfl) (by kernel_rfl) (fun _ _ _ h => h) (Or.inl ⟨by rfl, ?ahy21⟩) hHeld ?arest21
          case ahy21 => (intro w hSw; (try dsimp only at hSw); obtain ⟨q1, q2, q3, q4⟩ := hSw; go_simp; (try with_reducible rfl))
          try simp only [Act.put, List.getElem_toArray, List.getElem_cons_succ, List.getElem_cons_zero, List.setIfInBounds_toArray, List.set_cons_zero, List.set_cons_succ]
          refine wpAnyH_take (i := 22) (v := ?au22) rfl (by kernel_rfl) (by kernel_rfl) (by kernel_rfl) (fun _ _ _ h => h) (Or.inl ⟨by rfl, ?ahy22⟩) hHeld ?arest22
          case ahy22 => (intro w hSw; (try dsimp only at hSw); obtain ⟨q1, q2, q3, q4⟩ := hSw; go_simp; (try with_reducible rfl))
          try simp only [Act.put, List.getElem_toArray, List.getElem_cons_succ, List.getElem_cons_zero, List.setIfInBounds_toArray, List.set_cons_zero, List.set_cons_succ]
          refine wpAnyH_take (i := 23) (v := ?au23) rfl (by kernel_rfl) (by kernel_rfl) (by kernel_rfl) (fun _ _ _ h => h) (Or.inl ⟨by rfl, ?ahy23⟩) hHeld ?arest23
          case ahy23 => (intro w hSw; (try dsimp only at hSw); obtain ⟨q1, q2, q3, q4⟩ := hSw; go_simp; (try with_reducible rfl))
          try simp only [Act.put, List.getElem_toArray, List.getElem_cons_succ, List.getElem_cons_zero, List.setIfInBounds_toArray, List.set_cons_zero, List.set_cons_succ]
          refine wpAnyH_take (i := 24) (v := ?au24) rfl (by kernel_rfl) (by kernel_rfl) (by kernel_rfl) (fun _ _ _ h => h) (Or.inl ⟨by rfl, ?ahy24⟩) hHeld ?arest24
          case ahy24 => (intro w hSw; (try dsimp only at hSw); obtain ⟨q1, q2, q3, q4⟩ := hSw; go_simp; (try with_reducible rfl))
          try simp only [Act.put, List.getElem_toArray, List.getElem_cons_succ, List.getElem_cons_zero, List.setIfInBounds_toArray, List.set_cons_zero, List.set_cons_succ]
          refine wpAnyH_take (i := 25) (v := ?au25) rfl (by kernel_rfl) (by kernel_rfl) (by kernel_rfl) (fun _ _ _ h => h) (Or.inl ⟨by rfl, ?ahy25⟩) hHeld ?arest25
          case ahy25 => (intro w hSw; (try dsimp only at hSw); obtain ⟨q1, q2, q3, q4⟩ := hSw; go_simp; (try with_reducible rfl))
          try simp only [Act.put, List.getElem_toArray, List.getElem_cons_succ, List.getElem_cons_zero, List.setIfInBounds_toArray, List.set_cons_zero, List.set_cons_succ]
          refine wpAnyH_take (i := 26) (v := ?au26) rfl (by kernel_rfl) (by kernel_rfl) (by kernel_rfl) (fun _ _ _ h => h) (Or.inl ⟨by rfl, ?ahy26⟩) hHeld ?arest26
          case ahy26 => (intro w hSw; (try dsimp only at hSw); obtain ⟨q1, q2, q3, q4⟩ := hSw; go_simp; (try with_reducible rfl))
          try simp only [Act.put, List.getElem_toArray, List.getElem_cons_succ, List.getElem_cons_zero, List.setIfInBounds_toArray, List.set_cons_zero, List.set_cons_succ]
          refine wpAnyH_take (i := 27) (v := ?au27) rfl (by kernel_rfl) (by kernel_rfl) (by kernel_rfl) (fun _ _ _ h => h) (Or.inl ⟨by rfl, ?ahy27⟩) hHeld ?arest27
          case ahy27 => (intro w hSw; (try dsimp only at hSw); obtain ⟨q1, q2, q3, q4⟩ := hSw; go_simp; (try with_reducible rfl))
          try simp only [Act.put, List.getElem_toArray, List.getElem_cons_succ, List.getElem_cons_zero, List.setIfInBounds_toArray, List.set_cons_zero, List.set_cons_succ]
          refine wpAnyH_take (i := 28) (v := ?au28) rfl (by kernel_rfl) (by kernel_rfl) (by kernel_rfl) (fun _ _ _ h => h) (Or.inl ⟨by rfl, ?ahy28⟩) hHeld ?arest28
          case ahy28 => (intro w hSw; (try dsimp only at hSw); obtain ⟨q1, q2, q3, q4⟩ := hSw; go_simp; (try with_reducible rfl))
          try simp only [Act.put, List.getElem_toArray, List.getElem_cons_succ, List.getElem_cons_zero, List.setIfInBounds_toArray, List.set_cons_zero, List.set_cons_succ]
          refine wpAnyH_take (i := 29) (v := ?au29) rfl (by kernel_rfl) (by kernel_rfl) (by kernel_rfl) (fun _ _ _ h => h) (Or.inl ⟨by rfl, ?ahy29⟩) hHeld ?arest29
          case ahy29 => (intro w hSw; (try dsimp only at hSw); obtain ⟨q1, q2, q3, q4⟩ := hSw; go_simp; (try with_reducible rfl))
          try simp only [Act.put, List.getElem_toArray, List.getElem_cons_succ, List.getElem_cons_zero, List.setIfInBounds_toArray, List.set_cons_zero, List.set_cons_succ]
          refine wpAnyH_take (i := 30) (v := ?au30) rfl (by kernel_rfl) (by kernel_rfl) (by kernel_rfl) (fun _ _ _ h => h) (Or.inl ⟨by rfl, ?ahy30⟩) hHeld ?arest30
          case ahy30 => (intro w hSw; (try dsimp only at hSw); obtain ⟨q1, q2, q3, q4⟩ := hSw; go_simp; (try with_reducible rfl))
          try simp only [Act.put, List.getElem_toArray, List.getElem_cons_succ, List.getElem_cons_zero, List.setIfInBounds_toArray, List.set_cons_zero, List.set_cons_succ]
          refine wpAnyH_take (i := 31) (v := ?au31) rfl (by kernel_rfl) (by kernel_rfl) (by kernel_rfl) (fun _ _ _ h => h) (Or.inl ⟨by rfl, ?ahy31⟩) hHeld ?arest31
          case ahy31 => (intro w hSw; (try dsimp only at hSw); obtain ⟨q1, q2, q3, q4⟩ := hSw; go_simp; (try with_reducible rfl))
          try simp only [Act.put, List.getElem_toArray, List.getElem_cons_succ, List.getElem_cons_zero, List.setIfInBounds_toArray, List.set_cons_zero, List.set_cons_succ]
          refine wpAnyH_take (i := 32) (v := ?au32) rfl (by kernel_rfl) (by kernel_rfl) (by kernel_rfl) (fun _ _ _ h => h) (Or.inl ⟨by rfl, ?ahy32⟩) hHeld ?arest32
          case ahy32 => (intro w hSw; (try dsimp only at hSw); obtain ⟨q1, q2, q3, q4⟩ := hSw; go_simp; (try with_reducible rfl))
          try simp only [Act.put, List.getElem_toArray, List.getElem_cons_succ, List.getElem_cons_zero, List.setIfInBounds_toArray, List.set_cons_zero, List.set_cons_succ]
          refine wpAnyH_take (i := 33) (v := ?au33) rfl (by kernel_rfl) (by kernel_rfl) (by kernel_rfl) (fun _ _ _ h => h) (Or.inl ⟨by rfl, ?ahy33⟩) hHeld ?arest33
          case ahy33 => (intro w hSw; (try dsimp only at hSw); obtain ⟨q1, q2, q3, q4⟩ := hSw; go_simp; (try with_reducible rfl))
          try simp only [Act.put, List.getElem_toArray, List.getElem_cons_succ, List.getElem_cons_zero, List.setIfInBounds_toArray, List.set_cons_zero, List.set_cons_succ]
          refine wpAnyH_take (i := 34) (v := ?au34) rfl (by kernel_rfl) (by kernel_rfl) (by kernel_rfl) (fun _ _ _ h => h) (Or.inl ⟨by rfl, ?ahy34⟩) hHeld ?arest34
          case ahy34 => (intro w hSw; (try dsimp only at hSw); obtain ⟨q1, q2, q3, q4⟩ := hSw; go_simp; (try with_reducible rfl))
          try simp only [Act.put, List.getElem_toArray, List.getElem_cons_succ, List.getElem_cons_zero, List.setIfInBounds_toArray, List.set_cons_zero, List.set_cons_succ]
          refine wpAnyH_take (i := 35) (v := undef) rfl (by kernel_rfl) (by kernel_rfl) (by kernel_rfl) (fun _ _ _ h => h) (Or.inr ⟨by rfl, rfl⟩) hHeld ?_
          try simp only [Act.put, List.getElem_toArray, List.getElem_cons_succ, List.getElem_cons_zero, List.setIfInBounds_toArray, List.set_cons_zero, List.set_cons_succ]
          refine wpAnyH_take (i := 36) (v := undef) rfl (by kernel_rfl) (by kernel_rfl) (by kernel_rfl) (fun _ _ _ h => h) (Or.inr ⟨by rfl, rfl⟩) hHeld ?_
          try simp only [Act.put, List.getElem_toArray, List.getElem_cons_succ, List.getElem_cons_zero, List.setIfInBounds_toArray, List.set_cons_zero, List.set_cons_succ]
          refine wpAnyH_take (i := 37) (v := undef) rfl (by kernel_rfl) (by kernel_rfl) (by kernel_rfl) (fun _ _ _ h => h) (Or.inr ⟨by rfl, rfl⟩) hHeld ?_
          try simp only [Act.put, List.getElem_toArray, List.getElem_cons_succ, List.getElem_cons_zero, List.setIfInBounds_toArray, List.set_cons_zero, List.set_cons_succ]
          refine wpAnyH_take (i := 38) (v := undef) rfl (by kernel_rfl) (by kernel_rfl) (by kernel_rfl) (fun _ _ _ h => h) (Or.inr ⟨by rfl, rfl⟩) hHeld ?_
          try simp only [Act.put, List.getElem_toArray, List.getElem_cons_succ, List.getElem_cons_zero, List.setIfInBounds_toArray, List.set_cons_zero, List.set_cons_succ]
          refine wpAnyH_take (i := 39) (v := undef) rfl (by kernel_rfl) (by kernel_rfl) (by kernel_rfl) (fun _ _ _ h => h) (Or.inr ⟨by rfl, rfl⟩) hHeld ?_
          try simp only [Act.put, List.getElem_toArray, List.getElem_cons_succ, List.getElem_cons_zero, List.setIfInBounds_toArray, List.set_cons_zero, List.set_cons_succ]
          refine wpAnyH_take (i := 40) (v := undef) rfl (by kernel_rfl) (by kernel_rfl) (by kernel_rfl) (fun _ _ _ h => h) (Or.inr ⟨by rfl, rfl⟩) hHeld ?_
          try simp only [Act.put, List.getElem_toArray, List.getElem_cons_succ, List.getElem_cons_zero, List.setIfInBounds_toArray, List.set_cons_zero, List.set_cons_succ]
          refine wpAnyH_take (i := 41) (v := undef) rfl (by kernel_rfl) (by kernel_rfl) (by kernel_rfl) (fun _ _ _ h => h) (Or.inr ⟨by rfl, rfl⟩) hHeld ?_
          try simp only [Act.put, List.getElem_toArray, List.getElem_cons_succ, List.getElem_cons_zero, List.setIfInBounds_toArray, List.set_cons_zero, List.set_cons_succ]
          refine wpAnyH_take (i := 42) (v := undef) rfl (by kernel_rfl) (by kernel_rfl) (by kernel_rfl) (fun _ _ _ h => h) (Or.inr ⟨by rfl, rfl⟩) hHeld ?_
          try simp only [Act.put, List.getElem_toArray, List.getElem_cons_succ, List.getElem_cons_zero, List.setIfInBounds_toArray, List.set_cons_zero, List.set_cons_succ]
          refine wpAnyH_take (i := 43) (v := undef) rfl (by kernel_rfl) (by kernel_rfl) (by kernel_rfl) (fun _ _ _ h => h) (Or.inr ⟨by rfl, rfl⟩) hHeld ?_
          try simp only [Act.put, List.getElem_toArray, List.getElem_cons_succ, List.getElem_cons_zero, List.setIfInBounds_toArray, List.set_cons_zero, List.set_cons_succ]
          refine wpAnyH_take (i := 44) (v := ?au44) rfl (by kernel_rfl) (by kernel_rfl) (by kernel_rfl) (fun _ _ _ h => h) (Or.inl ⟨by rfl, ?ahy44⟩) hHeld ?arest44
          case ahy44 => (intro w hSw; (try dsimp only at hSw); obtain ⟨q1, q2, q3, q4⟩ := hSw; go_simp; (try with_reducible rfl))
          try simp only [Act.put, List.getElem_toArray, List.getElem_cons_succ, List.getElem_cons_zero, List.setIfInBounds_toArray, List.set_cons_zero, List.set_cons_succ]
          refine wpAnyH_take (i := 45) (v := ?au45) rfl (by kernel_rfl) (by kernel_rfl) (by kernel_rfl) (fun _ _ _ h => h) (Or.inl ⟨by rfl, ?ahy45⟩) hHeld ?arest45
          case ahy45 => (intro w hSw; (try dsimp only at hSw); obtain ⟨q1, q2, q3, q4⟩ := hSw; go_simp; (try with_reducible rfl))
          try simp only [Act.put, List.getElem_toArray, List.getElem_cons_succ, List.getElem_cons_zero, List.setIfInBounds_toArray, List.set_cons_zero, List.set_cons_succ]
          refine wpAnyH_take (i := 46) (v := ?au46) rfl (by kernel_rfl) (by kernel_rfl) (by kernel_rfl) (fun _ _ _ h => h) (Or.inl ⟨by rfl, ?ahy46⟩) hHeld ?arest46
          case ahy46 => (intro w hSw; (try dsimp only at hSw); obtain ⟨q1, q2, q3, q4⟩ := hSw; go_simp; (try with_reducible rfl))
          try simp only [Act.put, List.getElem_toArray, List.getElem_cons_succ, List.getElem_cons_zero, List.setIfInBounds_toArray, List.set_cons_zero, List.set_cons_succ]
          refine wpAnyH_done (by kernel_rfl) ?_ _
          refine NoPanic.normal ?_
          go_wp2_with fail
          go_ret
          exact ⟨rfl, HBW.out.trans (hbA.mono HBW.out.size)⟩
        · have hsl : sv ≠ lv := fun e2 => hno t (by rw [HLT.out, set_same HKL.out |>.2 (by rw [HLV.out]; exact e2)])
          have hne3 : (sv != lv) = true := by simpa using hsl
          have hkeep : ∀ w', Below w8.heap.size w8 w' → w'.cell? ⟨xb, kk, none⟩ = some (.int .i64 sv) ∧ w'.cell? ⟨lb, kk, none⟩ = some (.int .i64 lv) := fun w' hw => by
            have h9 := hb8.trans (hw.mono hb8.size)
            exact ⟨(h9.cell (p := ⟨xb, kk, none⟩) hxlt).trans HCX.out, (h9.cell (p := ⟨lb, kk, none⟩) hllt).trans HCLv.out⟩
          have HKEEP := Lib.hid hkeep
          have HBW := Lib.hid (HBW.out.trans (hb8.mono HBW.out.size))
          clear hno hb8 hkeep hsl
          go_wp2_with fail
          refine wp_region_noPanic ?_
          refine wp_region_held_drew (S := (fun w' => w'.cell? ⟨xb, kk, none⟩ = some (.int .i64 sv) ∧ w'.cell? ⟨lb, kk, none⟩ = some (.int .i64 lv))) (by kernel_rfl) (HKEEP.out _ ((Below.refl _ w8).drew)) (fun hHeld => ?_)
          refine wpAnyH_ready (rs := [0]) (by kernel_rfl) (by simp) ?_
          refine AllReadyH.cons rfl (fun K hK => ?_) AllReadyH.nil
          clear hHeld
          go_simp
          go_at_call 12; refine (told9 _).mono ?_; rintro e w9 ⟨rfl, hb9⟩; (have hbA : Below w8.heap.size w8 w9 := ((Below.refl _ w8).drew).trans hb9); clear hb9
          (try go_wp2_with fail)
          refine hK.out _ _ (HKEEP.out _ hbA) (fun hHeld => ?_)
          clear hK K
          try simp only [Act.put, List.getElem_toArray, List.getElem_cons_succ, List.getElem_cons_zero, List.setIfInBounds_toArray, List.set_cons_zero, List.set_cons_succ]
          refine wpAnyH_take (i := 1) (v := ?bu1) rfl (by kernel_rfl) (by kernel_rfl) (by kernel_rfl) (fun _ _ _ h => h) (Or.inl ⟨by rfl, ?bhy1⟩) hHeld ?brest1
          case bhy1 => (intro w hSw; (try dsimp only at hSw); obtain ⟨q1, q2⟩ := hSw; go_simp; (try with_reducible rfl))
          try simp only [Act.put, List.getElem_toArray, List.getElem_cons_succ, List.getElem_cons_zero, List.setIfInBounds_toArray, List.set_cons_zero, List.set_cons_succ]
          refine wpAnyH_take (i := 2) (v := ?bu2) rfl (by kernel_rfl) (by kernel_rfl) (by kernel_rfl) (fun _ _ _ h => h) (Or.inl ⟨by rfl, ?bhy2⟩) hHeld ?brest2
          case bhy2 => (intro w hSw; (try dsimp only at hSw); obtain ⟨q1, q2⟩ := hSw; go_simp; (try with_reducible rfl))
          try simp only [Act.put, List.getElem_toArray, List.getElem_cons_succ, List.getElem_cons_zero, List.setIfInBounds_toArray, List.set_cons_zero, List.set_cons_succ]
          refine wpAnyH_take (i := 3) (v := ?bu3) rfl (by kernel_rfl) (by kernel_rfl) (by kernel_rfl) (fun _ _ _ h => h) (Or.inl ⟨by rfl, ?bhy3⟩) hHeld ?brest3
          case bhy3 => (intro w hSw; (try dsimp only at hSw); obtain ⟨q1, q2⟩ := hSw; go_simp; (try with_reducible rfl))
          try simp only [Act.put, List.getElem_toArray, List.getElem_cons_succ, List.getElem_cons_zero, List.setIfInBounds_toArray, List.set_cons_zero, List.set_cons_succ]
          refine wpAnyH_take (i := 4) (v := ?bu4) rfl (by kernel_rfl) (by kernel_rfl) (by kernel_rfl) (fun _ _ _ h => h) (Or.inl ⟨by rfl, ?bhy4⟩) hHeld ?brest4
          case bhy4 => (intro w hSw; (try dsimp only at hSw); obtain ⟨q1, q2⟩ := hSw; go_simp; (try with_reducible rfl))
          try simp only [Act.put, List.getElem_toArray, List.getElem_cons_succ, List.getElem_cons_zero, List.setIfInBounds_toArray, List.set_cons_zero, List.set_cons_succ]
          refine wpAnyH_take (i := 5) (v := undef) rfl (by kernel_rfl) (by kernel_rfl) (by kernel_rfl) (fun _ _ _ h => h) (Or.inr ⟨by rfl, rfl⟩) hHeld ?_
          try simp only [Act.put, List.getElem_toArray, List.getElem_cons_succ, List.getElem_cons_zero, List.setIfInBounds_toArray, List.set_cons_zero, List.set_cons_succ]
          refine wpAnyH_take (i := 6) (v := undef) rfl (by kernel_rfl) (by kernel_rfl) (by kernel_rfl) (fun _ _ _ h => h) (Or.inr ⟨by rfl, rfl⟩) hHeld ?_
          try simp only [Act.put, List.getElem_toArray, List.getElem_cons_succ, List.getElem_cons_zero, List.setIfInBounds_toArray, List.set_cons_zero, List.set_cons_succ]
          refine wpAnyH_take (i := 7) (v := undef) rfl (by kernel_rfl) (by kernel_rfl) (by kernel_rfl) (fun _ _ _ h => h) (Or.inr ⟨by rfl, rfl⟩) hHeld ?_
          try simp only [Act.put, List.getElem_toArray, List.getElem_cons_succ, List.getElem_cons_zero, List.setIfInBounds_toArray, List.set_cons_zero, List.set_cons_succ]
          refine wpAnyH_take (i := 8) (v := undef) rfl (by kernel_rfl) (by kernel_rfl) (by kernel_rfl) (fun _ _ _ h => h) (Or.inr ⟨by rfl, rfl⟩) hHeld ?_
          try simp only [Act.put, List.getElem_toArray, List.getElem_cons_succ, List.getElem_cons_zero, List.setIfInBounds_toArray, List.set_cons_zero, List.set_cons_succ]
          refine wpAnyH_take (i := 9) (v := ?bu9) rfl (by kernel_rfl) (by kernel_rfl) (by kernel_rfl) (fun _ _ _ h => h) (Or.inl ⟨by rfl, ?bhy9⟩) hHeld ?brest9
          case bhy9 => (intro w hSw; (try dsimp only at hSw); obtain ⟨q1, q2⟩ := hSw; go_simp; (try with_reducible rfl))
          try simp only [Act.put, List.getElem_toArray, List.getElem_cons_succ, List.getElem_cons_zero, List.setIfInBounds_toArray, List.set_cons_zero, List.set_cons_succ]
          refine wpAnyH_take (i := 10) (v := ?bu10) rfl (by kernel_rfl) (by kernel_rfl) (by kernel_rfl) (fun _ _ _ h => h) (Or.inl ⟨by rfl, ?bhy10⟩) hHeld ?brest10
          case bhy10 => (intro w hSw; (try dsimp only at hSw); obtain ⟨q1, q2⟩ := hSw; go_simp; (try with_reducible rfl))
          try simp only [Act.put, List.getElem_toArray, List.getElem_cons_succ, List.getElem_cons_zero, List.setIfInBounds_toArray, List.set_cons_zero, List.set_cons_succ]
          refine wpAnyH_take (i := 11) (v := ?bu11) rfl (by kernel_rfl) (by kernel_rfl) (by kernel_rfl) (fun _ _ _ h => h) (Or.inl ⟨by rfl, ?bhy11⟩) hHeld ?brest11
          case bhy11 => (intro w hSw; (try dsimp only at hSw); obtain ⟨q1, q2⟩ := hSw; go_simp; (try with_reducible rfl))
          try simp only [Act.put, List.getElem_toArray, List.getElem_cons_succ, List.getElem_cons_zero, List.setIfInBounds_toArray, List.set_cons_zero, List.set_cons_succ]
          refine wpAnyH_take (i := 12) (v := ?bu12) rfl (by kernel_rfl) (by kernel_rfl) (by kernel_rfl) (fun _ _ _ h => h) (Or.inl ⟨by rfl, ?bhy12⟩) hHeld ?brest12
          case bhy12 => (intro w hSw; (try dsimp only at hSw); obtain ⟨q1, q2⟩ := hSw; go_simp; (try with_reducible rfl))
          try simp only [Act.put, List.getElem_toArray, List.getElem_cons_succ, List.getElem_cons_zero, List.setIfInBounds_toArray, List.set_cons_zero, List.set_cons_succ]
          refine wpAnyH_take (i := 13) (v := ?bu13) rfl (by kernel_rfl) (by kernel_rfl) (by kernel_rfl) (fun _ _ _ h => h) (Or.inl ⟨by rfl, ?bhy13⟩) hHeld ?brest13
          case bhy13 => (intro w hSw; (try dsimp only at hSw); obtain ⟨q1, q2⟩ := hSw; go_simp; (try with_reducible rfl))
          try simp only [Act.put, List.getElem_toArray, List.getElem_cons_succ, List.getElem_cons_zero, List.setIfInBounds_toArray, List.set_cons_zero, List.set_cons_succ]
          refine wpAnyH_take (i := 14) (v := ?bu14) rfl (by kernel_rfl) (by kernel_rfl) (by kernel_rfl) (fun _ _ _ h => h) (Or.inl ⟨by rfl, ?bhy14⟩) hHeld ?brest14
          case bhy14 => (intro w hSw; (try dsimp only at hSw); obtain ⟨q1, q2⟩ := hSw; go_simp; (try with_reducible rfl))
          try simp only [Act.put, List.getElem_toArray, List.getElem_cons_succ, List.getElem_cons_zero, List.setIfInBounds_toArray, List.set_cons_zero, List.set_cons_succ]
          refine wpAnyH_take (i := 15) (v := undef) rfl (by kernel_rfl) (by kernel_rfl) (by kernel_rfl) (fun _ _ _ h => h) (Or.inr ⟨by rfl, rfl⟩) hHeld ?_
          try simp only [Act.put, List.getElem_toArray, List.getElem_cons_succ, List.getElem_cons_zero, List.setIfInBounds_toArray, List.set_cons_zero, List.set_cons_succ]
          refine wpAnyH_take (i := 16) (v := undef) rfl (by kernel_rfl) (by kernel_rfl) (by kernel_rfl) (fun _ _ _ h => h) (Or.inr ⟨by rfl, rfl⟩) hHeld ?_
          try simp only [Act.put, List.getElem_toArray, List.getElem_cons_succ, List.getElem_cons_zero, List.setIfInBounds_toArray, List.set_cons_zero, List.set_cons_succ]
          refine wpAnyH_take (i := 17) (v := undef) rfl (by kernel_rfl) (by kernel_rfl) (by kernel_rfl) (fun _ _ _ h => h) (Or.inr ⟨by rfl, rfl⟩) hHeld ?_
          try simp only [Act.put, List.getElem_toArray, List.getElem_cons_succ, List.getElem_cons_zero, List.setIfInBounds_toArray, List.set_cons_zero, List.set_cons_succ]
          refine wpAnyH_take (i := 18) (v := undef) rfl (by kernel_rfl) (by kernel_rfl) (by kernel_rfl) (fun _ _ _ h => h) (Or.inr ⟨by rfl, rfl⟩) hHeld ?_
          try simp only [Act.put, List.getElem_toArray, List.getElem_cons_succ, List.getElem_cons_zero, List.setIfInBounds_toArray, List.set_cons_zero, List.set_cons_succ]
          refine wpAnyH_take (i := 19) (v := undef) rfl (by kernel_rfl) (by kernel_rfl) (by kernel_rfl) (fun _ _ _ h => h) (Or.inr ⟨by rfl, rfl⟩) hHeld ?_
          try simp only [Act.put, List.getElem_toArray, List.getElem_cons_succ, List.getElem_cons_zero, List.setIfInBounds_toArray, List.set_cons_zero, List.set_cons_succ]
          refine wpAnyH_take (i := 20) (v := undef) rfl (by kernel_rfl) (by kernel_rfl) (by kernel_rfl) (fun _ _ _ h => h) (Or.inr ⟨by rfl, rfl⟩) hHeld ?_
          try simp only [Act.put, List.getElem_toArray, List.getElem_cons_succ, List.getElem_cons_zero, List.setIfInBounds_toArray, List.set_cons_zero, List.set_cons_succ]
          refine wpAnyH_take (i := 21) (v := undef) rfl (by kernel_rfl) (by kernel_rfl) (by kernel_rfl) (fun _ _ _ h => h) (Or.inr ⟨by rfl, rfl⟩) hHeld ?_
          try simp only [Act.put, List.getElem_toArray, List.getElem_cons_succ, List.getElem_cons_zero, List.setIfInBounds_toArray, List.set_cons_zero, List.set_cons_succ]
          refine wpAnyH_take (i := 22) (v := undef) rfl (by kernel_rfl) (by kernel_rfl) (by kernel_rfl) (fun _ _ _ h => h) (Or.inr ⟨by rfl, rfl⟩) hHeld ?_
          try simp only [Act.put, List.getElem_toArray, List.getElem_cons_succ, List.getElem_cons_zero, List.setIfInBounds_toArray, List.set_cons_zero, List.set_cons_succ]
          refine wpAnyH_take (i := 23) (v := undef) rfl (by kernel_rfl) (by kernel_rfl) (by kernel_rfl) (fun _ _ _ h => h) (Or.inr ⟨by rfl, rfl⟩) hHeld ?_
          try simp only [Act.put, List.getElem_toArray, List.getElem_cons_succ, List.getElem_cons_zero, List.setIfInBounds_toArray, List.set_cons_zero, List.set_cons_succ]
          refine wpAnyH_take (i := 24) (v := undef) rfl (by kernel_rfl) (by kernel_rfl) (by kernel_rfl) (fun _ _ _ h => h) (Or.inr ⟨by rfl, rfl⟩) hHeld ?_
          try simp only [Act.put, List.getElem_toArray, List.getElem_cons_succ, List.getElem_cons_zero, List.setIfInBounds_toArray, List.set_cons_zero, List.set_cons_succ]
          refine wpAnyH_take (i := 25) (v := undef) rfl (by kernel_rfl) (by kernel_rfl) (by kernel_rfl) (fun _ _ _ h => h) (Or.inr ⟨by rfl, rfl⟩) hHeld ?_
          try simp only [Act.put, List.getElem_toArray, List.getElem_cons_succ, List.getElem_cons_zero, List.setIfInBounds_toArray, List.set_cons_zero, List.set_cons_succ]
          refine wpAnyH_take (i := 26) (v := undef) rfl (by kernel_rfl) (by kernel_rfl) (by kernel_rfl) (fun _ _ _ h => h) (Or.inr ⟨by rfl, rfl⟩) hHeld ?_
          try simp only [Act.put, List.getElem_toArray, List.getElem_cons_succ, List.getElem_cons_zero, List.setIfInBounds_toArray, List.set_cons_zero, List.set_cons_succ]
          refine wpAnyH_take (i := 27) (v := undef) rfl (by kernel_rfl) (by kernel_rfl) (by kernel_rfl) (fun _ _ _ h => h) (Or.inr ⟨by rfl, rfl⟩) hHeld ?_
          try simp only [Act.put, List.getElem_toArray, List.getElem_cons_succ, List.getElem_cons_zero, List.setIfInBounds_toArray, List.set_cons_zero, List.set_cons_succ]
          refine wpAnyH_take (i := 28) (v := undef) rfl (by kernel_rfl) (by kernel_rfl) (by kernel_rfl) (fun _ _ _ h => h) (Or.inr ⟨by rfl, rfl⟩) hHeld ?_
          try simp only [Act.put, List.getElem_toArray, List.getElem_cons_succ, List.getElem_cons_zero, List.setIfInBounds_toArray, List.set_cons_zero, List.set_cons_succ]
          refine wpAnyH_take (i := 29) (v := undef) rfl (by kernel_rfl) (by kernel_rfl) (by kernel_rfl) (fun _ _ _ h => h) (Or.inr ⟨by rfl, rfl⟩) hHeld ?_
          try simp only [Act.put, List.getElem_toArray, List.getElem_cons_succ, List.getElem_cons_zero, List.setIfInBounds_toArray, List.set_cons_zero, List.set_cons_succ]
          refine wpAnyH_take (i := 30) (v := ?bu30) rfl (by kernel_rfl) (by kernel_rfl) (by kernel_rfl) (fun _ _ _ h => h) (Or.inl ⟨by rfl, ?bhy30⟩) hHeld ?brest30
          case bhy30 => (intro w hSw; (try dsimp only at hSw); obtain ⟨q1, q2⟩ := hSw; go_simp; (try with_reducible rfl))
          try simp only [Act.put, List.getElem_toArray, List.getElem_cons_succ, List.getElem_cons_zero, List.setIfInBounds_toArray, List.set_cons_zero, List.set_cons_succ]
          refine wpAnyH_take (i := 31) (v := ?bu31) rfl (by kernel_rfl) (by kernel_rfl) (by kernel_rfl) (fun _ _ _ h => h) (Or.inl ⟨by rfl, ?bhy31⟩) hHeld ?brest31
          case bhy31 => (intro w hSw; (try dsimp only at hSw); obtain ⟨q1, q2⟩ := hSw; go_simp; (try with_reducible rfl))
          try simp only [Act.put, List.getElem_toArray, List.getElem_cons_succ, List.getElem_cons_zero, List.setIfInBounds_toArray, List.set_cons_zero, List.set_cons_succ]
          refine wpAnyH_take (i := 32) (v := ?bu32) rfl (by kernel_rfl) (by kernel_rfl) (by kernel_rfl) (fun _ _ _ h => h) (Or.inl ⟨by rfl, ?bhy32⟩) hHeld ?brest32
          case bhy32 => (intro w hSw; (try dsimp only at hSw); obtain ⟨q1, q2⟩ := hSw; go_simp; (try with_reducible rfl))
          try simp only [Act.put, List.getElem_toArray, List.getElem_cons_succ, List.getElem_cons_zero, List.setIfInBounds_toArray, List.set_cons_zero, List.set_cons_succ]
          refine wpAnyH_take (i := 33) (v := ?bu33) rfl (by kernel_rfl) (by kernel_rfl) (by kernel_rfl) (fun _ _ _ h => h) (Or.inl ⟨by rfl, ?bhy33⟩) hHeld ?brest33
          case bhy33 => (intro w hSw; (try dsimp only at hSw); obtain ⟨q1, q2⟩ := hSw; go_simp; (try with_reducible rfl))
          try simp only [Act.put, List.getElem_toArray, List.getElem_cons_succ, List.getElem_cons_zero, List.setIfInBounds_toArray, List.set_cons_zero, List.set_cons_succ]
          refine wpAnyH_take (i := 34) (v := ?bu34) rfl (by kernel_rfl) (by kernel_rfl) (by kernel_rfl) (fun _ _ _ h => h) (Or.inl ⟨by rfl, ?bhy34⟩) hHeld ?brest34
          case bhy34 => (intro w hSw; (try dsimp only at hSw); obtain ⟨q1, q2⟩ := hSw; go_simp; (try with_reducible rfl))
          try simp only [Act.put, List.getElem_toArray, List.getElem_cons_succ, List.getElem_cons_zero, List.setIfInBounds_toArray, List.set_cons_zero, List.set_cons_succ]
          refine wpAnyH_take (i := 35) (v := ?bu35) rfl (by kernel_rfl) (by kernel_rfl) (by kernel_rfl) (fun _ _ _ h => h) (Or.inl ⟨by rfl, ?bhy35⟩) hHeld ?brest35
          case bhy35 => (intro w hSw; (try dsimp only at hSw); obtain ⟨q1, q2⟩ := hSw; go_simp; (try with_reducible rfl))
          try simp only [Act.put, List.getElem_toArray, List.getElem_cons_succ, List.getElem_cons_zero, List.setIfInBounds_toArray, List.set_cons_zero, List.set_cons_succ]
          refine wpAnyH_take (i := 36) (v := ?bu36) rfl (by kernel_rfl) (by kernel_rfl) (by kernel_rfl) (fun _ _ _ h => h) (Or.inl ⟨by rfl, ?bhy36⟩) hHeld ?brest36
          case bhy36 => (intro w hSw; (try dsimp only at hSw); obtain ⟨q1, q2⟩ := hSw; go_simp; (try with_reducible rfl))
          try simp only [Act.put, List.getElem_toArray, List.getElem_cons_succ, List.getElem_cons_zero, List.setIfInBounds_toArray, List.set_cons_zero, List.set_cons_succ]
          refine wpAnyH_take (i := 37) (v := ?bu37) rfl (by kernel_rfl) (by kernel_rfl) (by kernel_rfl) (fun _ _ _ h => h) (Or.inl ⟨by rfl, ?bhy37⟩) hHeld ?brest37
          case bhy37 => (intro w hSw; (try dsimp only at hSw); obtain ⟨q1, q2⟩ := hSw; go_simp; (try with_reducible rfl))
          try simp only [Act.put, List.getElem_toArray, List.getElem_cons_succ, List.getElem_cons_zero, List.setIfInBounds_toArray, List.set_cons_zero, List.set_cons_succ]
          refine wpAnyH_take (i := 38) (v := ?bu38) rfl (by kernel_rfl) (by kernel_rfl) (by kernel_rfl) (fun _ _ _ h => h) (Or.inl ⟨by rfl, ?bhy38⟩) hHeld ?brest38
          case bhy38 => (intro w hSw; (try dsimp only at hSw); obtain ⟨q1, q2⟩ := hSw; go_simp; (try with_reducible rfl))
          try simp only [Act.put, List.getElem_toArray, List.getElem_cons_succ, List.getElem_cons_zero, List.setIfInBounds_toArray, List.set_cons_zero, List.set_cons_succ]
          refine wpAnyH_take (i := 39) (v := ?bu39) rfl (by kernel_rfl) (by kernel_rfl) (by kernel_rfl) (fun _ _ _ h => h) (Or.inl ⟨by rfl, ?bhy39⟩) hHeld ?brest39
          case bhy39 => (intro w hSw; (try dsimp only at hSw); obtain ⟨q1, q2⟩ := hSw; go_simp; (try with_reducible rfl))
          try simp only [Act.put, List.getElem_toArray, List.getElem_cons_succ, List.getElem_cons_zero, List.setIfInBounds_toArray, List.set_cons_zero, List.set_cons_succ]
          refine wpAnyH_take (i := 40) (v := ?bu40) rfl (by kernel_rfl) (by kernel_rfl) (by kernel_rfl) (fun _ _ _ h => h) (Or.inl ⟨by rfl, ?bhy40⟩) hHeld ?brest40
          case bhy40 => (intro w hSw; (try dsimp only at hSw); obtain ⟨q1, q2⟩ := hSw; go_simp; (try with_reducible rfl))
          try simp only [Act.put, List.getElem_toArray, List.getElem_cons_succ, List.getElem_cons_zero, List.setIfInBounds_toArray, List.set_cons_zero, List.set_cons_succ]
          refine wpAnyH_take (i := 41) (v := ?bu41) rfl (by kernel_rfl) (by kernel_rfl) (by kernel_rfl) (fun _ _ _ h => h) (Or.inl ⟨by rfl, ?bhy41⟩) hHeld ?brest41
          case bhy41 => (intro w hSw; (try dsimp only at hSw); obtain ⟨q1, q2⟩ := hSw; go_simp; (try with_reducible rfl))
          try simp only [Act.put, List.getElem_toArray, List.getElem_cons_succ, List.getElem_cons_zero, List.setIfInBounds_toArray, List.set_cons_zero, List.set_cons_succ]
          refine wpAnyH_take (i := 42) (v := ?bu42) rfl (by kernel_rfl) (by kernel_rfl) (by kernel_rfl) (fun _ _ _ h => h) (Or.inl ⟨by rfl, ?bhy42⟩) hHeld ?brest42
          case bhy42 => (intro w hSw; (try dsimp only at hSw); obtain ⟨q1, q2⟩ := hSw; go_simp; (try with_reducible rfl))
          try simp only [Act.put, List.getElem_toArray, List.getElem_cons_succ, List.getElem_cons_zero, List.setIfInBounds_toArray, List.set_cons_zero, List.set_cons_succ]
          refine wpAnyH_take (i := 43) (v := ?bu43) rfl (by kernel_rfl) (by kernel_rfl) (by kernel_rfl) (fun _ _ _ h => h) (Or.inl ⟨by rfl, ?bhy43⟩) hHeld ?brest43
          case bhy43 => (intro w hSw; (try dsimp only at hSw); obtain ⟨q1, q2⟩ := hSw; go_simp; (try with_reducible rfl))
          try simp only [Act.put, List.getElem_toArray, List.getElem_cons_succ, List.getElem_cons_zero, List.setIfInBounds_toArray, List.set_cons_zero, List.set_cons_succ]
          refine wpAnyH_take (i := 44) (v := ?bu44) rfl (by kernel_rfl) (by kernel_rfl) (by kernel_rfl) (fun _ _ _ h => h) (Or.inl ⟨by rfl, ?bhy44⟩) hHeld ?brest44
          case bhy44 => (intro w hSw; (try dsimp only at hSw); obtain ⟨q1, q2⟩ := hSw; go_simp; (try with_reducible rfl))
          try simp only [Act.put, List.getElem_toArray, List.getElem_cons_succ, List.getElem_cons_zero, List.setIfInBounds_toArray, List.set_cons_zero, List.set_cons_succ]
          refine wpAnyH_take (i := 45) (v := ?bu45) rfl (by kernel_rfl) (by kernel_rfl) (by kernel_rfl) (fun _ _ _ h => h) (Or.inl ⟨by rfl, ?bhy45⟩) hHeld ?brest45
          case bhy45 => (intro w hSw; (try dsimp only at hSw); obtain ⟨q1, q2⟩ := hSw; go_simp; (try with_reducible rfl))
          try simp only [Act.put, List.getElem_toArray, List.getElem_cons_succ, List.getElem_cons_zero, List.setIfInBounds_toArray, List.set_cons_zero, List.set_cons_succ]
          refine wpAnyH_take (i := 46) (v := ?bu46) rfl (by kernel_rfl) (by kernel_rfl) (by kernel_rfl) (fun _ _ _ h => h) (Or.inl ⟨by rfl, ?bhy46⟩) hHeld ?brest46
          case bhy46 => (intro w hSw; (try dsimp only at hSw); obtain ⟨q1, q2⟩ := hSw; go_simp; (try with_reducible rfl))
          try simp only [Act.put, List.getElem_toArray, List.getElem_cons_succ, List.getElem_cons_zero, List.setIfInBounds_toArray, List.set_cons_zero, List.set_cons_succ]
          refine wpAnyH_done (by kernel_rfl) ?_ _
          refine NoPanic.normal ?_
          go_wp2_with fail
          go_ret
          exact ⟨rfl, HBW.out.trans (hbA.mono HBW.out.size)⟩
end Go.Proofs.Ytfncjkkdemeclaa
