/- The document's own walk (scrimshawref6): At, StepBack, StepOn, Narrow. -/
import Derived.Test.YthbbokoeiifjdaaGreatDoorKwG
import Derived.Test.YthbbokoeiifjdaaGreatDoorSoU
import Derived.Test.YthbbokoeiifjdaaGreatDoorSyU
namespace Go.Proofs.YthbbokoeiifjdaaGreatDoor
open Go Go.RowKit Go.ChangeAt

set_option maxRecDepth 100000 in
theorem r6at {a : Option Addr} {cap n : Nat} {l : List Int} (p : Int) (k : Nat) (w : World) (h : RdL w a cap l) (hl : l.length = n) (hk : k < n) (hp : l.getD k 0 = p) (hf : ∀ i, i < k → l.getD i 0 ≠ p) :
    Calls Tryz.prog 35 #[.slice a n cap, .int .i64 p] w fun e w' => e = .returned (.int .i64 k) ∧ w = w' := by
  have hm : n ≤ maxLen := by have h1 := h.1; have h2 := h.2.1; rw [hl] at h1; omega
  unfold maxLen at hm
  have HF := Lib.hid hf
  have HH := Lib.hid h
  have HL := Lib.hid hl
  have HP := Lib.hid hp
  clear hf h hl hp
  go_enter Tryz.func35, Tryz.ntmps35
  go_wp2_with fail
  go_loop [5] (fun i => ∃ j : Nat, j ≤ k ∧ i = .int .i64 j) (fun i => n - (intOf i).toNat)
  case atStart => exact ⟨0, Nat.zero_le _, rfl⟩
  case round =>
    obtain ⟨j, hj, rfl⟩ := hrel
    have hjn : (j : Int) < n := by omega
    obtain ⟨b, off, rfl, -, c0⟩ := HH.out.cell (k := j) (by rw [HL.out]; omega)
    by_cases hlt : j < k
    · have hne := HF.out j hlt
      obtain ⟨x, hx⟩ : ∃ x, l.getD j 0 = x := ⟨_, rfl⟩
      rw [hx] at c0 hne
      have hne2 : (x == p) = false := by simpa using hne
      clear hx
      go_wp2_with fail
      go_round
      case rel => exact ⟨j + 1, by omega, by go_num⟩
      case measure => simp [intOf]; omega
    · obtain rfl : j = k := by omega
      rw [HP.out] at c0
      have heq : (p == p) = true := by simp
      go_wp2_with fail
      go_ret
      exact ⟨rfl, rfl⟩

/-- Rows, and the row of a place. -/
theorem rx_at {t : List UInt8} {p : Nat} (hp : p < t.length + 1) : Bw.row (Tx t) p < t.length + 1 ∧ (rxi t).getD (Bw.row (Tx t) p) 0 = (p : Int) ∧ ∀ i, i < Bw.row (Tx t) p → (rxi t).getD i 0 ≠ (p : Int) := by
  have h1 := Bw.row_lt (T := Tx t) (p := p) (by rw [Tx_len]; exact hp)
  rw [Tx_len] at h1
  have h2 := Bw.IsRows.at_place (Rx_is t) (p := p) (by rw [Tx_len]; exact hp)
  refine ⟨h1, by rw [rxi_at h1]; exact congrArg _ h2, fun i hi e => ?_⟩
  rw [rxi_at (by omega)] at e
  have h3 := Rx_row (t := t) (k := i) (by omega)
  have h4 : (Rx t).getD i 0 = p := by omega
  rw [h4] at h3
  have h5 : Bw.row (Tx t) p = i := h3
  omega
theorem bkx_row {t : List UInt8} {r : Nat} (hr : r < t.length + 1) : bkx t r = Bw.row (Tx t) (Bw.prd (t.length + 1) ((Rx t).getD r 0)) := by
  have h1 := Bw.IsRows.bk_at (Rx_is t) (Tx_txt t) (r := r) (by rw [Tx_len]; exact hr)
  rw [Tx_len] at h1
  exact h1
theorem onx_row {t : List UInt8} (r : Nat) : onx t r = Bw.row (Tx t) (Bw.suc (t.length + 1) ((Rx t).getD r 0)) := by
  unfold onx Bw.onr
  rw [Tx_len]
theorem prd_mod {p N : Nat} (h : p < N) : ((p : Int) + N - 1) % N = (Bw.prd N p : Nat) := by
  unfold Bw.prd
  split
  · rw [show (p : Int) + N - 1 = ((N - 1 : Nat) : Int) by omega]
    exact Int.emod_eq_of_lt (by omega) (by omega)
  · rw [show (p : Int) + N - 1 = ((p - 1 : Nat) : Int) + N by omega, Int.add_emod_right]
    exact Int.emod_eq_of_lt (by omega) (by omega)
theorem suc_mod {p N : Nat} (h : p < N) : ((p : Int) + 1) % N = (Bw.suc N p : Nat) := by
  unfold Bw.suc
  split
  · rw [show (p : Int) + 1 = (N : Int) by omega, Int.emod_self]
    rfl
  · rw [show (p : Int) + 1 = ((p + 1 : Nat) : Int) by omega]
    exact Int.emod_eq_of_lt (by omega) (by omega)
set_option maxRecDepth 100000 in
theorem r6stepback {a : Option Addr} {cap n : Nat} {t : List UInt8} (r : Nat) (v : Int) (w : World) (h : RdL w a cap (rxi t)) (hn : t.length + 1 = n) (hm : n ≤ 100000) (hr : r < n) (hv : (bkx t r : Int) = v) :
    Calls Tryz.prog 15 #[.slice a n cap, .int .i64 r] w fun e w' => e = .returned (.int .i64 v) ∧ w = w' := by
  have hrt : r < t.length + 1 := by omega
  obtain ⟨b, off, rfl, -, c0⟩ := h.cell (k := r) (by rw [rxi_len]; exact hrt)
  rw [rxi_at hrt] at c0
  have hp := Rx_lt hrt
  rw [bkx_row hrt, hn] at hv
  obtain ⟨p, hpp⟩ : ∃ p, (Rx t).getD r 0 = p := ⟨_, rfl⟩
  rw [hpp] at c0 hp hv
  rw [hn] at hp
  have hq := Bw.prd_lt hp
  have hmod := prd_mod hp
  have hat := rx_at (t := t) (p := Bw.prd n p) (by omega)
  obtain ⟨q, hqq⟩ : ∃ q, Bw.prd n p = q := ⟨_, rfl⟩
  rw [hqq] at hmod hat hv
  have key := r6at (q : Int) _ w h (by rw [rxi_len, hn]) (by omega) hat.2.1 hat.2.2
  rw [hv] at key
  have hrn : (r : Int) < n := by omega
  have d1 : decide ((r : Int) < 0) = false := decide_eq_false (by omega)
  have d2 : decide ((n : Int) ≤ r) = false := decide_eq_false (by omega)
  have d3 : decide (n ≤ r) = false := decide_eq_false (by omega)
  have hnne : ((n : Int) == 0) = false := by simpa using (show ¬ n = 0 by omega)
  have hpn : (p : Int) ≤ 100000 := by omega
  have hn6 : (n : Int) ≤ 100000 := by omega
  have htm : ((p : Int) + n - 1).tmod n = q := by rw [Int.tmod_eq_emod_of_nonneg (by omega)]; exact hmod
  clear h hn hv hpp hp hq hat hqq hrt
  go_enter Tryz.func15, Tryz.ntmps15
  go_wp2_with fail
  (with_reducible refine key.mono ?_); rintro e w1 ⟨rfl, rfl⟩
  go_wp2_with fail
  go_ret
  exact ⟨rfl, rfl⟩
theorem r6stepback_no {a : Option Addr} {cap n : Nat} (k : Int) (w : World) (hk : k < 0 ∨ (n : Int) ≤ k) :
    Calls Tryz.prog 15 #[.slice a n cap, .int .i64 k] w fun e w' => e = .returned (.int .i64 (-1)) ∧ w = w' := by
  by_cases h0 : k < 0
  · clear hk
    go_enter Tryz.func15, Tryz.ntmps15
    go_wp2_with fail
    go_ret
    exact ⟨rfl, rfl⟩
  · have h1 : (n : Int) ≤ k := by omega
    clear hk
    go_enter Tryz.func15, Tryz.ntmps15
    go_wp2_with fail
    go_ret
    exact ⟨rfl, rfl⟩
set_option maxRecDepth 100000 in
theorem r6stepon {a : Option Addr} {cap n : Nat} {t : List UInt8} (r : Nat) (v : Int) (w : World) (h : RdL w a cap (rxi t)) (hn : t.length + 1 = n) (hm : n ≤ 100000) (hr : r < n) (hv : (onx t r : Int) = v) :
    Calls Tryz.prog 17 #[.slice a n cap, .int .i64 r] w fun e w' => e = .returned (.int .i64 v) ∧ w = w' := by
  have hrt : r < t.length + 1 := by omega
  obtain ⟨b, off, rfl, -, c0⟩ := h.cell (k := r) (by rw [rxi_len]; exact hrt)
  rw [rxi_at hrt] at c0
  have hp := Rx_lt hrt
  rw [onx_row, hn] at hv
  obtain ⟨p, hpp⟩ : ∃ p, (Rx t).getD r 0 = p := ⟨_, rfl⟩
  rw [hpp] at c0 hp hv
  rw [hn] at hp
  have hq := Bw.suc_lt hp
  have hmod := suc_mod hp
  have hat := rx_at (t := t) (p := Bw.suc n p) (by omega)
  obtain ⟨q, hqq⟩ : ∃ q, Bw.suc n p = q := ⟨_, rfl⟩
  rw [hqq] at hmod hat hv
  have key := r6at (q : Int) _ w h (by rw [rxi_len, hn]) (by omega) hat.2.1 hat.2.2
  rw [hv] at key
  have hrn : (r : Int) < n := by omega
  have d1 : decide ((r : Int) < 0) = false := decide_eq_false (by omega)
  have d2 : decide ((n : Int) ≤ r) = false := decide_eq_false (by omega)
  have d3 : decide (n ≤ r) = false := decide_eq_false (by omega)
  have hnne : ((n : Int) == 0) = false := by simpa using (show ¬ n = 0 by omega)
  have hpn : (p : Int) ≤ 100000 := by omega
  have hn6 : (n : Int) ≤ 100000 := by omega
  have htm : ((p : Int) + 1).tmod n = q := by rw [Int.tmod_eq_emod_of_nonneg (by omega)]; exact hmod
  clear h hn hv hpp hp hq hat hqq hrt
  go_enter Tryz.func17, Tryz.ntmps17
  go_wp2_with fail
  (with_reducible refine key.mono ?_); rintro e w1 ⟨rfl, rfl⟩
  go_wp2_with fail
  go_ret
  exact ⟨rfl, rfl⟩
theorem r6stepon_no {a : Option Addr} {cap n : Nat} (k : Int) (w : World) (hk : k < 0 ∨ (n : Int) ≤ k) :
    Calls Tryz.prog 17 #[.slice a n cap, .int .i64 k] w fun e w' => e = .returned (.int .i64 (-1)) ∧ w = w' := by
  by_cases h0 : k < 0
  · clear hk
    go_enter Tryz.func17, Tryz.ntmps17
    go_wp2_with fail
    go_ret
    exact ⟨rfl, rfl⟩
  · have h1 : (n : Int) ≤ k := by omega
    clear hk
    go_enter Tryz.func17, Tryz.ntmps17
    go_wp2_with fail
    go_ret
    exact ⟨rfl, rfl⟩
end Go.Proofs.YthbbokoeiifjdaaGreatDoor
