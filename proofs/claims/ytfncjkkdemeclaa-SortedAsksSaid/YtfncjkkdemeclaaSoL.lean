/- Layer 9's statements as walks: SortedRises. -/
import Derived.Test.YtfncjkkdemeclaaSoH
namespace Go.Proofs.Ytfncjkkdemeclaa
open Go Go.RowKit Go.ChangeAt

theorem str_list (t : List UInt8) : (str t).toList = t := by rw [ByteArray.toList_eq]; rfl
theorem less_lex : ∀ x y : List UInt8, Op.bytesLess x y = Bw.lex (ub x) (ub y)
  | [], [] => rfl
  | _ :: _, [] => rfl
  | [], _ :: _ => rfl
  | a :: x, b :: y => by
    have ih := less_lex x y
    show (decide (a < b) || (a == b && Op.bytesLess x y)) = (decide ((a.toNat : Int) < (b.toNat : Int)) || (decide ((a.toNat : Int) = (b.toNat : Int)) && Bw.lex (ub x) (ub y)))
    rw [ih]
    congr 1
    · refine decide_eq_decide.2 ?_
      rw [UInt8.lt_iff_toNat_lt]
      omega
    · congr 1
      rw [Bool.eq_iff_iff, beq_iff_eq, decide_eq_true_iff, ← UInt8.toNat_inj]
      omega
theorem str_ge {x y : List UInt8} (h : Bw.lex (ub x) (ub y) = true) : (!Op.bytesLess (str x).toList (str y).toList) = false := by
  rw [str_list, str_list, less_lex, h]
  rfl
theorem RdU.drop {w : World} {b off cap : Nat} {t : List UInt8} (h : RdU w (some ⟨b, off, none⟩) cap t) (k : Nat) : RdU w (if cap = k then some ⟨b, off, none⟩ else some ⟨b, off + k, none⟩) (cap - k) (t.drop k) := by
  obtain ⟨h1, h2, h3⟩ := h
  refine ⟨by rw [List.length_drop]; omega, by omega, fun hp => ?_⟩
  rw [List.length_drop] at hp
  obtain ⟨b', off', hb, hlt, hc⟩ := h3 (by omega)
  simp only [Option.some.injEq, Addr.mk.injEq, and_true] at hb
  obtain ⟨rfl, rfl⟩ := hb
  rw [if_neg (by omega)]
  refine ⟨b, off + k, rfl, hlt, fun i hi => ?_⟩
  rw [List.length_drop] at hi
  rw [Nat.add_assoc, hc (k + i) (by omega), List.getD_eq_getElem?_getD, List.getD_eq_getElem?_getD, List.getElem?_drop]

/-- Block S of the memory holds 81 marks. -/
def Mk (w : World) (S : Nat) (f : Nat → Bool) : Prop :=
  ∃ c, w.heap[S]? = some (.cells c 35 (0, 0)) ∧ c.size = 81 ∧ ∀ i, i < 81 → c[i]? = some (.bool (f i))
theorem Mk.cell {w : World} {S : Nat} {f : Nat → Bool} (h : Mk w S f) {i : Nat} (hi : i < 81) : w.cell? ⟨S, i, none⟩ = some (.bool (f i)) := by
  obtain ⟨c, h1, _, h3⟩ := h
  exact (cell_of h1).trans (h3 i hi)
theorem Mk.free {w : World} {S : Nat} {f : Nat → Bool} (h : Mk w S f) (i : Nat) : w.frozen? ⟨S, i, none⟩ = false := by
  obtain ⟨c, h1, _, _⟩ := h
  exact free_of h1
theorem Mk.set {w : World} {S : Nat} {f : Nat → Bool} (h : Mk w S f) (i : Nat) (v : Bool) : Mk (w.setCell ⟨S, i, none⟩ (.bool v)) S (fun j => if j = i then v else f j) := by
  obtain ⟨c, h1, h2, h3⟩ := h
  refine ⟨_, set_of h1 _, by rw [Array.size_setIfInBounds]; exact h2, fun j hj => ?_⟩
  show _ = some (Value.bool (if j = i then v else f j))
  by_cases e : j = i
  · subst e
    rw [if_pos rfl, Array.getElem?_setIfInBounds_self_of_lt (by omega)]
  · rw [if_neg e, Array.getElem?_setIfInBounds_ne (Ne.symm e)]
    exact h3 j hj
theorem Mk.congr {w : World} {S : Nat} {f g : Nat → Bool} (h : Mk w S f) (e : ∀ i, i < 81 → f i = g i) : Mk w S g := by
  obtain ⟨c, h1, h2, h3⟩ := h
  exact ⟨c, h1, h2, fun i hi => by rw [h3 i hi, e i hi]⟩
theorem Mk.drewN {w : World} {S : Nat} {f : Nat → Bool} (h : Mk w S f) (n : Nat) : Mk (w.drewN n) S f := h
theorem RdU.drewN {w : World} {a : Option Addr} {cap : Nat} {t : List UInt8} (h : RdU w a cap t) (n : Nat) : RdU (w.drewN n) a cap t := h
theorem infoM : (Try.prog.info? 35).map (fun i => i.zero) = some (some (.agg (Array.replicate 81 (.bool false)))) := by kernel_rfl
theorem zeroM : ∃ zs : Array Value, (∀ w, (zeroValue 35).run Try.prog w = .ok (.agg zs) w) ∧ zs.size = 81 ∧ ∀ j, j < 81 → zs[j]? = some (.bool false) := by
  refine ⟨Array.replicate 81 (.bool false), fun w => ?_, Array.size_replicate, fun j hj => by rw [Array.getElem?_replicate, if_pos (by omega)]⟩
  obtain ⟨i, hi, hz⟩ := Option.map_eq_some_iff.1 infoM
  simp [zeroValue, typeInfo, hi, hz]
theorem Rx_at {t : List UInt8} {k : Nat} (hk : k < t.length + 1) : ∃ h : k < (Rx t).length, (Rx t).getD k 0 = (Rx t)[k] :=
  ⟨by rw [Rx_len]; exact hk, by rw [List.getD_eq_getElem?_getD, List.getElem?_eq_getElem (by rw [Rx_len]; exact hk)]; rfl⟩
theorem Rx_row {t : List UInt8} {k : Nat} (hk : k < t.length + 1) : Bw.row (Bw.sy (ub t)) ((Rx t).getD k 0) = k := by
  obtain ⟨h, e⟩ := Rx_at hk
  rw [e]
  exact (Rx_is t).row h
theorem Rx_zero (t : List UInt8) : (Rx t).getD 0 0 = t.length := by
  have h1 := Rx_row (t := t) (k := 0) (by omega)
  have h2 := Bw.row_end (Bw.sy_txt (ub_byt t))
  have h3 := Rx_lt (t := t) (k := 0) (by omega)
  have hl : (Bw.sy (ub t)).length = t.length + 1 := by rw [Bw.sy_len, ub_len]
  rw [hl] at h2
  exact Bw.row_inj (T := Bw.sy (ub t)) (by omega) (by omega) (h1.trans h2.symm)
theorem Rx_less {t : List UInt8} {k : Nat} (hk : k + 1 < t.length + 1) : Bw.lex (ub (t.drop ((Rx t).getD k 0))) (ub (t.drop ((Rx t).getD (k + 1) 0))) = true := by
  obtain ⟨h1, e1⟩ := Rx_at (t := t) (k := k) (by omega)
  obtain ⟨h2, e2⟩ := Rx_at hk
  have h3 := (Rx_is t).bef_at h2 (i := k) (by omega)
  have l1 := Rx_lt (t := t) (k := k) (by omega)
  have l2 := Rx_lt hk
  rw [← e1, ← e2, Bw.bef_bytes (ub_byt t) (by rw [ub_len]; omega) (by rw [ub_len]; omega)] at h3
  rwa [ub_drop, ub_drop]

set_option maxHeartbeats 3200000 in
set_option maxRecDepth 100000 in
theorem sortedrises_w (a : Option Addr) (n cap : Nat) (zs : List Int) (few : Bool) (W : World) (hrow : IsRow .i64 W a n cap zs) :
    Calls Try.prog 5 #[.slice a n cap, .bool few] W fun e w' => e = .returned (.bool true) ∧ Below W.heap.size W w' := by
  obtain ⟨zs, hz, hzn, hzc⟩ := zeroM
  have key := ktext_r (a := a) (n := n) (cap := cap) 80 80 few W (RdZ.of_row hrow) (by decide) rfl
  clear hrow
  go_enter Try.func5, Try.ntmps5
  go_wp2_with fail
  (with_reducible refine key.mono ?_); rintro e w1 ⟨a1, cap1, m, t, rfl, htl, hm, hr, hown, hb1⟩
  clear key
  have hm80 : m ≤ 80 := by omega
  have key := krows w1 hr htl (by omega)
  have HTL := Lib.hid htl
  have HR := Lib.hid hr
  have HB1 := Lib.hid hb1
  have hz0 := Rx_zero t
  rw [htl] at hz0
  have hRlt : ∀ k, k < m + 1 → (Rx t).getD k 0 < m + 1 := fun k hk => by
    have := Rx_lt (t := t) (k := k) (by omega)
    omega
  have hrow : ∀ k, k < m + 1 → Bw.row (Bw.sy (ub t)) ((Rx t).getD k 0) = k := fun k hk => Rx_row (by omega)
  have hless : ∀ k, k + 1 < m + 1 → Bw.lex (ub (t.drop ((Rx t).getD k 0))) (ub (t.drop ((Rx t).getD (k + 1) 0))) = true := fun k hk => Rx_less (by omega)
  have hsl : (Bw.sy (ub t)).length = m + 1 := by rw [Bw.sy_len, ub_len, htl]
  have HLESS := Lib.hid hless
  have HROW := Lib.hid hrow
  have HRLT := Lib.hid hRlt
  have HSL := Lib.hid hsl
  clear hm htl hr hown hb1 hless hrow hRlt hsl
  go_wp2_with fail
  (with_reducible refine key.mono ?_); rintro e w2 ⟨rb, rc, rfl, -, hA, hb2⟩
  clear key
  obtain ⟨N, hN⟩ : ∃ N, m + 1 = N := ⟨_, rfl⟩
  rw [hN] at hA HLESS HROW HRLT HSL
  have hmN : (m : Int) + 1 = N := by omega
  have hN9 : N ≤ 81 := by omega
  have hN0 : 0 < N := by omega
  have hN0' : (0 : Int) < N := by omega
  have hne : ((N : Int) != N) = false := by simp
  have hne2 : ((m : Int) != m) = false := by simp
  have c0 := hA.cell hN0
  rw [hz0] at c0
  have hMk : Mk (w2.alloc (.cells zs 35)) w2.heap.size (fun p => decide (p < N ∧ Bw.row (Bw.sy (ub t)) p < 0)) := ⟨zs, alloc_of, hzn, fun i hi => by
    rw [hzc i hi]
    congr 1
    congr 1
    exact (decide_eq_false fun h => absurd h.2 (Nat.not_lt_zero _)).symm⟩
  have hal : Below w2.heap.size w2 (w2.alloc (.cells zs 35)) := (Below.refl _ _).alloc (Nat.le_refl _) _
  have hrbs := hA.lt
  have HA := Lib.hid (hA.below hal)
  have HMK := Lib.hid hMk
  have HBW2 := Lib.hid (HB1.out.trans (hb2.mono HB1.out.size))
  have HBW := Lib.hid (HBW2.out.trans (hal.mono HBW2.out.size))
  have HR2 := Lib.hid ((HR.out.below hb2).below hal)
  have hts : 0 < t.length → ∀ ad, a1 = some ad → ad.block < w2.heap.size := fun hp ad had => by
    obtain ⟨b, off, e1, e2, _⟩ := (HR.out.below hb2).2.2 hp
    obtain rfl := Option.some.inj (had.symm.trans e1)
    exact e2
  have HTS := Lib.hid hts
  clear hA hMk hal hb2 hzn hzc hN hts
  go_wp2_with fail
  clear c0 hz hne hz0
  obtain ⟨S, hS⟩ : ∃ S, w2.heap.size = S := ⟨_, rfl⟩
  obtain ⟨w3, hw3⟩ : ∃ w3, w2.alloc (.cells zs 35) = w3 := ⟨_, rfl⟩
  have HSS := Lib.hid hS
  rw [hS] at hrbs HTS
  rw [hS, hw3] at HMK
  rw [hw3] at HA HBW HR2
  rw [hS, hw3]
  clear hw3 hS
  go_loopw [8] (fun i wr => ∃ k : Nat, k ≤ N ∧ i = .int .i64 k ∧ Mk wr S (fun p => decide (p < N ∧ Bw.row (Bw.sy (ub t)) p < k)) ∧ Arr wr rb rc N (fun i => ((Rx t).getD i 0 : Int)) ∧ RdU wr a1 cap1 t ∧ Below W.heap.size W wr) (fun i _ => N - (intOf i).toNat)
  case atStart => exact ⟨0, Nat.zero_le _, rfl, HMK.out, HA.out, HR2.out, HBW.out⟩
  case round =>
    clear HMK HA HR2 HBW
    obtain ⟨k, hk, rfl, hM, hA, hr, hbw⟩ := hrel
    by_cases hlt : k < N
    · have hlt' : (k : Int) < N := by omega
      have c0 := hA.cell hlt
      have hp := HRLT.out k hlt
      have hpr := HROW.out k hlt
      obtain ⟨p, hpp⟩ : ∃ p, (Rx t).getD k 0 = p := ⟨_, rfl⟩
      rw [hpp] at c0 hp hpr
      have c1 := hM.cell (i := p) (by omega)
      have f1 := hM.free p
      rw [decide_eq_false (by omega)] at c1
      have hp0 : ¬ (p : Int) < 0 := by omega
      have hpm : ¬ (p : Int) > m := by omega
      have hst : Stay (· = S) wr (wr.setCell ⟨S, p, none⟩ (.bool true)) := (Stay.refl (· = S) _).setCell (p := ⟨S, p, none⟩) (.inr rfl) _
      have hA2 := hA.stay hst (by omega)
      have hr2 := hr.stay hst (fun hp ad had _ e => by have := HTS.out hp ad had; omega)
      have hM2 : Mk (wr.setCell ⟨S, p, none⟩ (.bool true)) S (fun i => decide (i < N ∧ Bw.row (Bw.sy (ub t)) i < k + 1)) := (hM.set p true).congr fun i hi => by
        show (if i = p then true else decide (i < N ∧ Bw.row (Bw.sy (ub t)) i < k)) = decide (i < N ∧ Bw.row (Bw.sy (ub t)) i < k + 1)
        by_cases e : i = p
        · subst e
          rw [if_pos rfl, decide_eq_true (by omega)]
        · rw [if_neg e]
          refine decide_eq_decide.2 ⟨fun h => by omega, fun h => ⟨h.1, ?_⟩⟩
          have h2 : Bw.row (Bw.sy (ub t)) i ≠ k := fun h3 => e (Bw.row_inj (T := Bw.sy (ub t)) (by rw [HSL.out]; exact h.1) (by rw [HSL.out]; exact hp) (h3.trans hpr.symm))
          omega
      have hbw2 : Below W.heap.size W (wr.setCell ⟨S, p, none⟩ (.bool true)) := hbw.setCell (p := ⟨S, p, none⟩) (by rw [← HSS.out]; exact HBW2.out.size) _
      have HX := Lib.hid (And.intro hM2 (And.intro hA2 (And.intro hr2 hbw2)))
      rcases k with _ | j
      · have hd : decide ((0 : Int) < 0) = false := by decide
        have hd2 : decide ((0 : Int) > 0) = false := by decide
        clear hM hA hr hbw hst hA2 hr2 hM2 hbw2 hpp hpr
        go_wp2_with fail
        go_quiet (fail)
        go_wp2_with fail
        go_roundw
        case rel => exact ⟨1, by omega, by go_num, HX.out.1.drewN nq, HX.out.2.1.drewN nq, HX.out.2.2.1.drewN nq, HX.out.2.2.2.drewN nq⟩
        case measure => simp [intOf]; omega
      · have c2 := hA2.cell (i := j) (by omega)
        have c3 := hA2.cell (i := j + 1) hlt
        have hlx := HLESS.out j hlt
        have hq := HRLT.out j (by omega)
        rw [hpp] at hlx c3
        obtain ⟨q, hqq⟩ : ∃ q, (Rx t).getD j 0 = q := ⟨_, rfl⟩
        rw [hqq] at c2 hq hlx
        have ew : IntKind.i64.wrap (((j + 1 : Nat) : Int) - 1) = j := by rw [IntKind.wrap_i64]; omega
        have hgt : decide ((0 : Int) < ((j + 1 : Nat) : Int)) = true := decide_eq_true (by omega)
        have hgt2 : decide (0 < j + 1) = true := decide_eq_true (by omega)
        obtain ⟨J, hJ⟩ : ∃ J, j + 1 = J := ⟨_, rfl⟩
        rw [hJ] at ew hgt hgt2 c0 c3 hlt hlt' HX ⊢
        have hjN : (j : Int) < N := by omega
        have HJ := Lib.hid hJ
        obtain ⟨b, off, rfl, -, -⟩ := hr2.2.2 (by rw [HTL.out]; omega)
        have s1 := fun i => conv_str (w := (wr.setCell ⟨S, p, none⟩ (.bool true)).drewN i) (hr2.drop q) (n := m - q) (by rw [List.length_drop, HTL.out])
        have s2 := fun i => conv_str (w := (wr.setCell ⟨S, p, none⟩ (.bool true)).drewN i) (hr2.drop p) (n := m - p) (by rw [List.length_drop, HTL.out])
        have hge := str_ge hlx
        obtain ⟨x, hx⟩ : ∃ x, str (t.drop q) = x := ⟨_, rfl⟩
        obtain ⟨y, hy⟩ : ∃ y, str (t.drop p) = y := ⟨_, rfl⟩
        rw [hx] at s1 hge
        rw [hy] at s2 hge
        have hqm : (q : Int) ≤ m := by omega
        have hpm2 : (p : Int) ≤ m := by omega
        clear hM hA hr hbw hst hA2 hr2 hM2 hbw2 hpp hpr hqq hlx hx hy hJ
        go_wp2_with fail
        go_quiet (fail)
        clear s1 s2 hge
        go_wp2_with fail
        go_roundw
        case rel => exact ⟨J + 1, by omega, by go_num, HX.out.1.drewN nq, HX.out.2.1.drewN nq, HX.out.2.2.1.drewN nq, HX.out.2.2.2.drewN nq⟩
        case measure => simp [intOf]; omega
    · have hlt' : ¬ (k : Int) < N := by omega
      have HB := Lib.hid hbw
      clear hM hA hr hbw
      go_wp2_with fail
      refine (told9 _).mono ?_; rintro e w7 ⟨rfl, hb7⟩
      have HB := Lib.hid (HB.out.trans (hb7.mono HB.out.size))
      clear hb7
      go_wp2_with fail
      go_ret
      exact ⟨rfl, HB.out⟩
end Go.Proofs.Ytfncjkkdemeclaa
