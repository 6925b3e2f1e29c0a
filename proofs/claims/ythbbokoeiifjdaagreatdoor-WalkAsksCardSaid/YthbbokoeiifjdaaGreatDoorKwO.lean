/- The document's own walk (scrimshawref6): First, Narrow. -/
import Derived.Test.YthbbokoeiifjdaaGreatDoorKwN
import Derived.IntWalk
import Derived.Deep.DeepCutAuto
namespace Go.Proofs.YthbbokoeiifjdaaGreatDoor
open Go Go.RowKit Go.ChangeAt

set_option maxRecDepth 100000 in
theorem r6first {a : Option Addr} {cap n : Nat} {t : List UInt8} {s : ByteArray} (r : Nat) (v : Int) (w : World) (hs : str t = s) (h : RdL w a cap (rxi t)) (hn : t.length + 1 = n) (hm : n ≤ 100000) (hr : r < n) (hv : fsx t r = v) :
    Calls Tryz.prog 19 #[.string s, .slice a n cap, .int .i64 r] w fun e w' => e = .returned (.int .i64 v) ∧ Below w.heap.size w w' := by
  have hrt : r < t.length + 1 := by omega
  obtain ⟨b, off, rfl, hlt, c0⟩ := h.cell (k := r) (by rw [rxi_len]; exact hrt)
  rw [rxi_at hrt] at c0
  have hp := Rx_lt hrt
  unfold fsx at hv
  rw [show Tx t = Sy.of t ++ [0] from sy_ub t] at hv
  obtain ⟨p, hpp⟩ : ∃ p, (Rx t).getD r 0 = p := ⟨_, rfl⟩
  rw [hpp] at c0 hp hv
  rw [hn] at hp
  obtain ⟨m, hmn⟩ : ∃ m, t.length = m := ⟨_, rfl⟩
  have key := fun w' => rsyms (z := t) (s := s) m w' hs hmn (by omega)
  have hrn : (r : Int) < n := by omega
  have hr0 : (0 : Int) ≤ r := by omega
  have d1 : decide ((r : Int) < 0) = false := decide_eq_false (by omega)
  have d2 : decide ((n : Int) ≤ r) = false := decide_eq_false (by omega)
  have d3 : decide (n ≤ r) = false := decide_eq_false (by omega)
  have hpn : (p : Int) < n := by omega
  have hp0 : (0 : Int) ≤ p := by omega
  have hb0 : ∀ w', Below w.heap.size w w' → w'.cell? ⟨b, off + r, none⟩ = some (.int .i64 p) := fun w' hw => (hw.cell (p := ⟨b, off + r, none⟩) hlt).trans c0
  have HB0 := Lib.hid hb0
  have HV := Lib.hid hv
  have HLEN := Lib.hid (show (Sy.of t ++ [0]).length = n by rw [← sy_ub, Bw.sy_len, ub_len]; exact hn)
  have HP := Lib.hid hp
  clear h hn hv hpp hp hrt hb0 hmn hs
  go_enter Tryz.func19, Tryz.ntmps19
  go_wp2_with fail
  refine wp_region_noPanic ?_
  refine wp_region_held_drew (S := (fun w' => w'.cell? ⟨b, off + r, none⟩ = some (.int .i64 p))) (by kernel_rfl) (HB0.out _ ((Below.refl _ w).drew)) (fun hHeld => ?_)
  refine wpAnyH_take (i := 0) (v := ?fu0) rfl (by kernel_rfl) (by kernel_rfl) (by kernel_rfl) (fun _ _ _ h => h) (Or.inl ⟨by rfl, ?fhy0⟩) hHeld ?frest0
  case fhy0 => (intro w hSw; (try dsimp only at hSw); go_simp; (try with_reducible rfl))
  try simp only [Act.put, List.getElem_toArray, List.getElem_cons_zero, List.setIfInBounds_toArray, List.set_cons_zero, List.set_cons_succ]
  refine wpAnyH_take (i := 2) (v := ?fu2) rfl (by kernel_rfl) (by kernel_rfl) (by kernel_rfl) (fun _ _ _ h => h) (Or.inl ⟨by rfl, ?fhy2⟩) hHeld ?frest2
  case fhy2 => (intro w hSw; (try dsimp only at hSw); go_simp; (try with_reducible rfl))
  try simp only [Act.put, List.getElem_toArray, List.getElem_cons_succ, List.getElem_cons_zero, List.setIfInBounds_toArray, List.set_cons_zero, List.set_cons_succ]
  refine wpAnyH_take (i := 3) (v := ?fu3) rfl (by kernel_rfl) (by kernel_rfl) (by kernel_rfl) (fun _ _ _ h => h) (Or.inl ⟨by rfl, ?fhy3⟩) hHeld ?frest3
  case fhy3 => (intro w hSw; (try dsimp only at hSw); go_simp; (try with_reducible rfl))
  try simp only [Act.put, List.getElem_toArray, List.getElem_cons_succ, List.getElem_cons_zero, List.setIfInBounds_toArray, List.set_cons_zero, List.set_cons_succ]
  refine wpAnyH_take (i := 4) (v := ?fu4) rfl (by kernel_rfl) (by kernel_rfl) (by kernel_rfl) (fun _ _ _ h => h) (Or.inl ⟨by rfl, ?fhy4⟩) hHeld ?frest4
  case fhy4 => (intro w hSw; (try dsimp only at hSw); go_simp; (try with_reducible rfl))
  try simp only [Act.put, List.getElem_toArray, List.getElem_cons_succ, List.getElem_cons_zero, List.setIfInBounds_toArray, List.set_cons_zero, List.set_cons_succ]
  refine wpAnyH_take (i := 5) (v := ?fu5) rfl (by kernel_rfl) (by kernel_rfl) (by kernel_rfl) (fun _ _ _ h => h) (Or.inl ⟨by rfl, ?fhy5⟩) hHeld ?frest5
  case fhy5 => (intro w hSw; (try dsimp only at hSw); go_simp; (try with_reducible rfl))
  try simp only [Act.put, List.getElem_toArray, List.getElem_cons_succ, List.getElem_cons_zero, List.setIfInBounds_toArray, List.set_cons_zero, List.set_cons_succ]
  refine wpAnyH_ready (rs := [1]) (by kernel_rfl) (by simp) ?_
  refine AllReadyH.cons rfl (fun K hK => ?_) AllReadyH.nil
  clear hHeld
  go_simp
  go_at_call 39; (with_reducible refine (key _).mono ?_); rintro e w9 ⟨v9, rfl, hown, hb9⟩; (have hbA : Below w.heap.size w w9 := ((Below.refl _ w).drew).trans hb9); (obtain ⟨xa, xc, rfl, hx⟩ := Lr.form n hown HLEN.out); (obtain ⟨xb, xo, rfl, -, c9⟩ := hx.cell (k := p) (by rw [HLEN.out]; exact HP.out)); (rw [HV.out] at c9); clear hb9 hown hx
  (try go_wp2_with fail)
  refine hK.out _ _ (HB0.out _ hbA) (fun hHeld => ?_)
  clear hK K
  try simp only [Act.put, List.getElem_toArray, List.getElem_cons_succ, List.getElem_cons_zero, List.setIfInBounds_toArray, List.set_cons_zero, List.set_cons_succ]
  refine wpAnyH_take (i := 6) (v := ?fu6) rfl (by kernel_rfl) (by kernel_rfl) (by kernel_rfl) (fun _ _ _ h => h) (Or.inl ⟨by rfl, ?fhy6⟩) hHeld ?frest6
  case fhy6 => (intro w hSw; (try dsimp only at hSw); go_simp; (try with_reducible rfl))
  try simp only [Act.put, List.getElem_toArray, List.getElem_cons_succ, List.getElem_cons_zero, List.setIfInBounds_toArray, List.set_cons_zero, List.set_cons_succ]
  refine wpAnyH_ready (rs := [7]) (by kernel_rfl) (by simp) ?_
  refine AllReadyH.cons rfl (fun K hK => ?_) AllReadyH.nil
  clear hHeld
  go_simp
  (try go_wp2_with fail)
  refine hK.out _ _ (HB0.out _ hbA) (fun hHeld => ?_)
  clear hK K
  try simp only [Act.put, List.getElem_toArray, List.getElem_cons_succ, List.getElem_cons_zero, List.setIfInBounds_toArray, List.set_cons_zero, List.set_cons_succ]
  refine wpAnyH_take (i := 8) (v := ?fu8) rfl (by kernel_rfl) (by kernel_rfl) (by kernel_rfl) (fun _ _ _ h => h) (Or.inl ⟨by rfl, ?fhy8⟩) hHeld ?frest8
  case fhy8 => (intro w hSw; (try dsimp only at hSw); go_simp; (try with_reducible rfl))
  try simp only [Act.put, List.getElem_toArray, List.getElem_cons_succ, List.getElem_cons_zero, List.setIfInBounds_toArray, List.set_cons_zero, List.set_cons_succ]
  refine wpAnyH_done (by kernel_rfl) ?_ _
  refine NoPanic.normal ?_
  go_wp2_with fail
  go_ret
  exact ⟨rfl, hbA⟩
theorem r6first_no {a : Option Addr} {cap n : Nat} {s : ByteArray} (k : Int) (w : World) (hk : k < 0 ∨ (n : Int) ≤ k) :
    Calls Tryz.prog 19 #[.string s, .slice a n cap, .int .i64 k] w fun e w' => e = .returned (.int .i64 (-1)) ∧ Below w.heap.size w w' := by
  by_cases h0 : k < 0
  · clear hk
    go_enter Tryz.func19, Tryz.ntmps19
    go_wp2_with fail
    go_ret
    exact ⟨rfl, Below.refl _ _⟩
  · have h1 : (n : Int) ≤ k := by omega
    clear hk
    go_enter Tryz.func19, Tryz.ntmps19
    go_wp2_with fail
    go_ret
    exact ⟨rfl, Below.refl _ _⟩
theorem r6narrow {a : Option Addr} {cap n : Nat} {t : List UInt8} (lo hi s X Y : Int) (w : World) (h : RdL w a cap (Lx t)) (hn : t.length + 1 = n) (hm : n ≤ 100000) (hs : 0 ≤ s ∧ s ≤ 256) (hX : (nrx t lo.toNat s : Int) = X) (hY : (nrx t (max lo hi).toNat s : Int) = Y) :
    Calls Tryz.prog 10 #[.slice a n cap, .int .i64 lo, .int .i64 hi, .int .i64 s] w fun e w' => e = .returned (.tuple #[.int .i64 X, .int .i64 Y]) ∧ w = w' := by
  have hll : (Lx t).length = n := by rw [Lx_len, hn]
  have hnn : (t.length : Int) + 1 = n := by omega
  rw [← nrx_doc, hnn] at hX
  rw [← nrx_doc2, hnn] at hY
  obtain ⟨A1, hA1⟩ : ∃ A1, max lo 0 = A1 := ⟨_, rfl⟩
  rw [hA1] at hX hY
  obtain ⟨L1, hL1⟩ : ∃ L1, min A1 (n : Int) = L1 := ⟨_, rfl⟩
  rw [hL1] at hX hY
  obtain ⟨B1, hB1⟩ : ∃ B1, max hi L1 = B1 := ⟨_, rfl⟩
  rw [hB1] at hY
  obtain ⟨H1, hH1⟩ : ∃ H1, min B1 (n : Int) = H1 := ⟨_, rfl⟩
  rw [hH1] at hY
  have hx9 := nrx_le t L1.toNat s
  have hy9 := nrx_le t H1.toNat s
  rw [nrx_sum] at hX hY hx9 hy9
  have keyB := r6below s _ w h hll rfl
  have keyL := r6rk L1 s w h hll
  have keyH := r6rk H1 s w h hll
  change Calls _ _ _ _ (fun e w' => e = .returned (.int .i64 (Wv.rk (Lx t) L1.toNat s)) ∧ w = w') at keyL
  change Calls _ _ _ _ (fun e w' => e = .returned (.int .i64 (Wv.rk (Lx t) H1.toNat s)) ∧ w = w') at keyH
  obtain ⟨A, hA⟩ : ∃ A, Bw.low (Lx t) s = A := ⟨_, rfl⟩
  obtain ⟨R1, hR1⟩ : ∃ R1, Wv.rk (Lx t) L1.toNat s = R1 := ⟨_, rfl⟩
  obtain ⟨R2, hR2⟩ : ∃ R2, Wv.rk (Lx t) H1.toNat s = R2 := ⟨_, rfl⟩
  rw [hA] at keyB hX hY hx9 hy9
  rw [hR1] at keyL hX hx9
  rw [hR2] at keyH hY hy9
  have hA9 : (A : Int) ≤ 100000 := by omega
  have hR19 : (R1 : Int) ≤ 100000 := by omega
  have hR29 : (R2 : Int) ≤ 100000 := by omega
  have e1 : (A : Int) + R1 = X := by rw [← hX]; omega
  have e2 : (A : Int) + R2 = Y := by rw [← hY]; omega
  have keyI := ris_yes w hs
  clear h hn hm hs hX hY hll hnn hx9 hy9 hA hR1 hR2
  go_enter Tryz.func10, Tryz.ntmps10
  go_wp2_with fail
  (with_reducible refine keyI.mono ?_); rintro e w1 ⟨rfl, rfl⟩
  go_wp2_with fail
  (with_reducible refine keyB.mono ?_); rintro e w1 ⟨rfl, rfl⟩
  go_wp2_with fail
  (with_reducible refine keyL.mono ?_); rintro e w1 ⟨rfl, rfl⟩
  go_wp2_with fail
  (with_reducible refine keyB.mono ?_); rintro e w1 ⟨rfl, rfl⟩
  go_wp2_with fail
  (with_reducible refine keyH.mono ?_); rintro e w1 ⟨rfl, rfl⟩
  go_wp2_with fail
  go_ret2
  exact ⟨rfl, rfl⟩
theorem r6narrow_no {a : Option Addr} {cap n : Nat} (lo hi s : Int) (w : World) (hs : ¬ (0 ≤ s ∧ s ≤ 256)) :
    Calls Tryz.prog 10 #[.slice a n cap, .int .i64 lo, .int .i64 hi, .int .i64 s] w fun e w' => e = .returned (.tuple #[.int .i64 0, .int .i64 0]) ∧ w = w' := by
  have keyI := ris_no w hs
  clear hs
  go_enter Tryz.func10, Tryz.ntmps10
  go_wp2_with fail
  (with_reducible refine keyI.mono ?_); rintro e w1 ⟨rfl, rfl⟩
  go_wp2_with fail
  go_ret2
  exact ⟨rfl, rfl⟩
end Go.Proofs.YthbbokoeiifjdaaGreatDoor
