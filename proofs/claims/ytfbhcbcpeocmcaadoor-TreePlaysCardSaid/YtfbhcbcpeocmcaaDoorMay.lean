/- The contracts of the document's own Least, fours and May (of one shape). -/
import Derived.Test.YtfbhcbcpeocmcaaDoorRet
import Derived.Test.YtfbhcbcpeocmcaaDoorFib
import Derived.Test.YtfbhcbcpeocmcaaDoorFrame
import Derived.Test.YtfbhcbcpeocmcaaDoorOpen
import Derived.Outline
import Derived.WalkSpells
import Derived.BigQuiet
import Derived.LoopTactic
import Derived.RegionTactic
import Derived.IntWalk
namespace Go.Proofs.YtfbhcbcpeocmcaaDoor
open Go Go.RowKit

theorem rleast_neg (h : Int) (w : World) (hh : h < 0) :
    Calls Tryd.prog 50 #[.int .i64 h] w fun e w' => e = .returned (.int .i64 (Fb.least h)) ∧ w = w' := by
  have e := Fb.least_neg hh
  have E := Lib.hid e
  clear e
  go_enter Tryd.func50, Tryd.ntmps50
  go_wp2
  go_ret
  exact ⟨ret_int E.out.symm, rfl⟩
set_option maxRecDepth 100000 in
set_option maxHeartbeats 400000 in
theorem rleast_nat (n : Nat) (w : World) (hn : n ≤ 9223372036854775807) :
    Calls Tryd.prog 50 #[.int .i64 n] w fun e w' => e = .returned (.int .i64 (Fb.least n)) ∧ w = w' := by
  go_enter Tryd.func50, Tryd.ntmps50
  go_wp2
  go_loop [3, 4, 5] (fun a b i => ∃ k : Nat, k ≤ n ∧ i = .int .i64 k ∧ a = .int .i64 (Fb.raw k : Int) ∧ b = .int .i64 (Fb.raw (k + 1) : Int) ∧ Fb.raw k ≤ 4294967296) (fun _ _ i => n - (intOf i).toNat)
  case atStart => exact ⟨0, Nat.zero_le _, rfl, rfl, rfl, by decide⟩
  case round =>
    obtain ⟨k, hk, rfl, rfl, rfl, hb⟩ := hrel
    have hp := Fb.raw_pos k
    have ha : Fb.raw (k + 2) = Fb.raw k + Fb.raw (k + 1) := rfl
    have H3 := Lib.hid ha
    clear ha
    obtain ⟨a, ea⟩ : ∃ a, Fb.raw k = a := ⟨_, rfl⟩
    obtain ⟨b, eb⟩ : ∃ b, Fb.raw (k + 1) = b := ⟨_, rfl⟩
    have H1 := Lib.hid ea
    have H2 := Lib.hid eb
    rw [ea, eb] at hp
    rw [ea] at hb ⊢
    rw [eb] at ⊢
    clear ea eb
    by_cases hlt : k < n
    · by_cases hmx : (a : Int) < 2147483648
      · go_wp2
        go_round
        case rel => exact ⟨k + 1, hlt, by go_num, by rw [H2.out], by rw [H3.out, H1.out, H2.out]; go_num, by rw [H2.out]; omega⟩
        case measure => simp [intOf]; omega
      · have hge : (2147483648 : Int) ≤ a := by omega
        go_wp2
        all_goals
          go_ret
          refine ⟨ret_int ?_, rfl⟩
          have hl := Fb.least_hi hk H1.out hge
          omega
    · obtain rfl : k = n := by omega
      go_wp2
      · go_ret
        exact ⟨ret_int (by rw [Fb.least_hi (Nat.le_refl _) H1.out (by omega)]), rfl⟩
      · go_ret
        exact ⟨ret_int (by rw [Fb.least_lo H1.out (by omega)]), rfl⟩
theorem rleast_any (h : Int) (w : World) (hh : h ≤ 9223372036854775807) :
    Calls Tryd.prog 50 #[.int .i64 h] w fun e w' => e = .returned (.int .i64 (Fb.least h)) ∧ w = w' := by
  by_cases h0 : h < 0
  · exact rleast_neg h w h0
  · obtain ⟨n, rfl⟩ := Int.eq_ofNat_of_zero_le (show 0 ≤ h by omega)
    exact rleast_nat n w (by omega)

theorem rleast_low (k : Nat) (w : World) (hk : k ≤ 44) :
    Calls Tryd.prog 50 #[.int .i64 k] w fun e w' => e = .returned (.int .i64 (Fb.raw k)) ∧ w = w' :=
  (rleast_nat k w (by omega)).mono fun _ _ ⟨he, hw⟩ => ⟨he.trans (ret_int (Fb.least_low hk)), hw⟩
theorem fours_any (n : Int) (w : World) (h0 : 0 ≤ n) (h1 : n ≤ 9223372036854775807) :
    Calls Tryd.prog 51 #[.int .i64 n] w fun e w' => e = .returned (.int .i64 (n / 32)) ∧ w = w' := by
  have h := Fb.fours h0
  have H := Lib.hid h
  clear h
  go_enter Tryd.func51, Tryd.ntmps51
  go_wp2
  go_ret
  exact ⟨ret_int H.out, rfl⟩

theorem rmay_zero (H V N : Int) (w : World)  :
    Calls Tryd.prog 32 #[.agg #[.int .i64 0, .int .i64 H, .int .i64 V, .int .i64 N]] w fun e w' => e = .returned (.bool (Fb.may 0 H V N)) ∧ Below w.heap.size w w' := by
  go_enter Tryd.func32, Tryd.ntmps32
  go_wp2_with fail
  all_goals
    go_ret
    refine ⟨ret_bool ?_, (Below.refl _ _).alloc (Nat.le_refl _) _⟩
    simp [Fb.may, *]
theorem rmay_neg (L H V N : Int) (w : World) (h : L < 0) :
    Calls Tryd.prog 32 #[.agg #[.int .i64 L, .int .i64 H, .int .i64 V, .int .i64 N]] w fun e w' => e = .returned (.bool (Fb.may L H V N)) ∧ Below w.heap.size w w' := by
  have hL : ¬ L = 0 := by omega
  have hL1 : (L == 0) = false := by simp; omega
  have hd0 : decide (0 < L) = false := by simp; omega
  have hM : Fb.may L H V N = false := by unfold Fb.may; rw [if_neg (by omega)]; simp; omega
  have HM := Lib.hid hM
  clear hM
  go_enter Tryd.func32, Tryd.ntmps32
  go_wp2_with fail
  go_quiet (fail)
  go_wp2_with fail
  go_ret
  exact ⟨ret_bool HM.out.symm, ((Below.refl _ _).alloc (Nat.le_refl _) _).drewN _⟩
theorem rmay_h (L H V N : Int) (w : World) (h : 0 < L) (hH : H < 0) :
    Calls Tryd.prog 32 #[.agg #[.int .i64 L, .int .i64 H, .int .i64 V, .int .i64 N]] w fun e w' => e = .returned (.bool (Fb.may L H V N)) ∧ Below w.heap.size w w' := by
  have hL : ¬ L = 0 := by omega
  have hL1 : (L == 0) = false := by simp; omega
  have hd0 : decide (0 < L) = true := by simpa using h
  have hd : decide (0 ≤ H) = false := by simp; omega
  have hM : Fb.may L H V N = false := by unfold Fb.may; rw [if_neg (by omega)]; simp; omega
  have HM := Lib.hid hM
  clear hM
  go_enter Tryd.func32, Tryd.ntmps32
  go_wp2_with fail
  go_quiet (fail)
  go_wp2_with fail
  go_ret
  exact ⟨ret_bool HM.out.symm, ((Below.refl _ _).alloc (Nat.le_refl _) _).drewN _⟩
theorem rmay_v (L H V N : Int) (w : World) (h : 0 < L) (hH : 0 ≤ H) (hH2 : H ≤ 9223372036854775807) (hV : V < Fb.least H) :
    Calls Tryd.prog 32 #[.agg #[.int .i64 L, .int .i64 H, .int .i64 V, .int .i64 N]] w fun e w' => e = .returned (.bool (Fb.may L H V N)) ∧ Below w.heap.size w w' := by
  have hL : ¬ L = 0 := by omega
  have hL1 : (L == 0) = false := by simp; omega
  have hd0 : decide (0 < L) = true := by simpa using h
  have hd : decide (0 ≤ H) = true := by simpa using hH
  have hM : Fb.may L H V N = false := by unfold Fb.may; rw [if_neg (by omega)]; simp; omega
  have HM := Lib.hid hM
  clear hM
  obtain ⟨m, em⟩ : ∃ m, Fb.least H = m := ⟨_, rfl⟩
  have EM := Lib.hid em
  rw [em] at hV
  clear em
  have hd2 : decide (m ≤ V) = false := by simp; omega
  go_enter Tryd.func32, Tryd.ntmps32
  go_wp2_with fail
  go_quiet ((go_at_call 50; exact Calls.quiet_of_same ((rleast_any H _ hH2).mono fun _ _ ⟨he, hw⟩ => ⟨by rw [he, EM.out], hw.symm⟩)))
  go_wp2_with fail
  go_ret
  exact ⟨ret_bool HM.out.symm, ((Below.refl _ _).alloc (Nat.le_refl _) _).drewN _⟩
theorem rmay_l (L H V N : Int) (w : World) (h : 0 < L) (hL2 : L ≤ 9223372036854775807) (hH : 0 ≤ H) (hH2 : H ≤ 9223372036854775807) (hV : Fb.least H ≤ V) (hV3 : V ≤ 9223372036854775807) (hV1 : 1 ≤ V) (hV2 : L / 32 + 1 < V) :
    Calls Tryd.prog 32 #[.agg #[.int .i64 L, .int .i64 H, .int .i64 V, .int .i64 N]] w fun e w' => e = .returned (.bool (Fb.may L H V N)) ∧ Below w.heap.size w w' := by
  have hL : ¬ L = 0 := by omega
  have hL1 : (L == 0) = false := by simp; omega
  have hd0 : decide (0 < L) = true := by simpa using h
  have hd : decide (0 ≤ H) = true := by simpa using hH
  have hM : Fb.may L H V N = false := by unfold Fb.may; rw [if_neg (by omega)]; simp; omega
  have HM := Lib.hid hM
  clear hM
  obtain ⟨m, em⟩ : ∃ m, Fb.least H = m := ⟨_, rfl⟩
  have EM := Lib.hid em
  rw [em] at hV
  clear em
  obtain ⟨q, eq⟩ : ∃ q, L / 32 = q := ⟨_, rfl⟩
  have EQ := Lib.hid eq
  rw [eq] at hV2
  clear eq
  have hd2 : decide (m ≤ V) = true := by simpa using hV
  have hd3 : decide (1 ≤ V) = true := by simpa using hV1
  have hd4 : decide (V - 1 ≤ q) = false := by simp; omega
  have e0 := Lib.hid (show IntKind.i64.wrap (V - 1) = V - 1 from IntWalk.i64_in _ (by omega))
  go_enter Tryd.func32, Tryd.ntmps32
  go_wp2_with fail
  have e0' := e0.out
  go_quiet ((first
    | (go_at_call 50; exact Calls.quiet_of_same ((rleast_any H _ hH2).mono fun _ _ ⟨he, hw⟩ => ⟨by rw [he, EM.out], hw.symm⟩))
    | (go_at_call 51; exact Calls.quiet_of_same ((fours_any L _ (by have := of_decide_eq_true hd0; omega) hL2).mono fun _ _ ⟨he, hw⟩ => ⟨by rw [he, EQ.out], hw.symm⟩))))
  clear e0'
  go_wp2_with fail
  go_ret
  exact ⟨ret_bool HM.out.symm, ((Below.refl _ _).alloc (Nat.le_refl _) _).drewN _⟩
theorem rmay_n (L H V N : Int) (w : World) (h : 0 < L) (hL2 : L ≤ 9223372036854775807) (hH : 0 ≤ H) (hH2 : H ≤ 9223372036854775807) (hV : Fb.least H ≤ V) (hV1 : 1 ≤ V) (hV2 : V ≤ L / 32 + 1) :
    Calls Tryd.prog 32 #[.agg #[.int .i64 L, .int .i64 H, .int .i64 V, .int .i64 N]] w fun e w' => e = .returned (.bool (Fb.may L H V N)) ∧ Below w.heap.size w w' := by
  have hL : ¬ L = 0 := by omega
  have hL1 : (L == 0) = false := by simp; omega
  have hd0 : decide (0 < L) = true := by simpa using h
  have hd : decide (0 ≤ H) = true := by simpa using hH
  have hM : Fb.may L H V N = (N == 2 * V - 1) := by
    unfold Fb.may; rw [if_neg (by omega)]
    by_cases e : N = 2 * V - 1
    · rw [show (N == 2 * V - 1) = true by simpa using e]; simp [*]
    · rw [show (N == 2 * V - 1) = false by simpa using e]; simp [*]
  have HM := Lib.hid hM
  clear hM
  have hv1 : V ≤ 576460752303423488 := by omega
  obtain ⟨m, em⟩ : ∃ m, Fb.least H = m := ⟨_, rfl⟩
  have EM := Lib.hid em
  rw [em] at hV
  clear em
  obtain ⟨q, eq⟩ : ∃ q, L / 32 = q := ⟨_, rfl⟩
  have EQ := Lib.hid eq
  rw [eq] at hV2
  clear eq
  have hd2 : decide (m ≤ V) = true := by simpa using hV
  have hd3 : decide (1 ≤ V) = true := by simpa using hV1
  have hd4 : decide (V - 1 ≤ q) = true := by simp; omega
  have e0 := Lib.hid (show IntKind.i64.wrap (V - 1) = V - 1 from IntWalk.i64_in _ (by omega))
  have e1 := Lib.hid (show IntKind.i64.wrap (2 * V) = 2 * V from IntWalk.i64_in _ (by omega))
  have e2 := Lib.hid (show IntKind.i64.wrap (2 * V - 1) = 2 * V - 1 from IntWalk.i64_in _ (by omega))
  go_enter Tryd.func32, Tryd.ntmps32
  go_wp2_with fail
  have e0' := e0.out
  have e1' := e1.out
  have e2' := e2.out
  go_quiet ((first
    | (go_at_call 50; exact Calls.quiet_of_same ((rleast_any H _ hH2).mono fun _ _ ⟨he, hw⟩ => ⟨by rw [he, EM.out], hw.symm⟩))
    | (go_at_call 51; exact Calls.quiet_of_same ((fours_any L _ (by have := of_decide_eq_true hd0; omega) hL2).mono fun _ _ ⟨he, hw⟩ => ⟨by rw [he, EQ.out], hw.symm⟩))))
  clear e0' e1' e2'
  go_wp2_with fail
  go_ret
  exact ⟨ret_bool HM.out.symm, ((Below.refl _ _).alloc (Nat.le_refl _) _).drewN _⟩

/-- A shape as a value, with its parts in the range of an int. -/
def Ok4 (s : Int × Int × Int × Int) : Prop := s.1 ≤ 9223372036854775807 ∧ s.2.1 ≤ 9223372036854775807 ∧ s.2.2.1 ≤ 9223372036854775807
def shv (s : Int × Int × Int × Int) : Value := .agg #[.int .i64 s.1, .int .i64 s.2.1, .int .i64 s.2.2.1, .int .i64 s.2.2.2]
def mayS (s : Int × Int × Int × Int) : Bool := Fb.may s.1 s.2.1 s.2.2.1 s.2.2.2
theorem rmay_one (L H V N : Int) (w : World) (h1 : L ≤ 9223372036854775807) (h2 : H ≤ 9223372036854775807) (h3 : V ≤ 9223372036854775807) :
    Calls Tryd.prog 32 #[.agg #[.int .i64 L, .int .i64 H, .int .i64 V, .int .i64 N]] w fun e w' => e = .returned (.bool (Fb.may L H V N)) ∧ Below w.heap.size w w' := by
  rcases Int.lt_or_le 0 L with h | h
  · rcases Int.lt_or_le H 0 with hH | hH
    · exact rmay_h L H V N w h hH
    · have hl := Fb.least_pos hH
      rcases Int.lt_or_le V (Fb.least H) with hV | hV
      · exact rmay_v L H V N w h hH h2 hV
      · rcases Int.lt_or_le (L / 32 + 1) V with hq | hq
        · exact rmay_l L H V N w h h1 hH h2 hV h3 (by omega) hq
        · exact rmay_n L H V N w h h1 hH h2 hV (by omega) hq
  · rcases Int.lt_or_le L 0 with h0 | h0
    · exact rmay_neg L H V N w h0
    · obtain rfl : L = 0 := by omega
      exact rmay_zero H V N w
end Go.Proofs.YtfbhcbcpeocmcaaDoor
