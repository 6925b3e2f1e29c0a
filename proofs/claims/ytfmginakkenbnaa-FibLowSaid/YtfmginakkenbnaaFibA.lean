/- The contracts of the code's Least, Most and mostLeaves, and of the document's own Least, Most and fours. -/
import Derived.Test.YtfmginakkenbnaaFib
import Derived.Test.YtfmginakkenbnaaFrame
import Derived.Test.YtfmginakkenbnaaOpen
import Derived.Outline
import Derived.WalkSpells
import Derived.BigQuiet
import Derived.LoopTactic
import Derived.RegionTactic
namespace Go.Proofs.Ytfmginakkenbnaa
open Go Go.RowKit

theorem ret_int {k : IntKind} {a b : Int} (h : a = b) : Ending.returned (.int k a) = .returned (.int k b) := by rw [h]
theorem ret_bool {a b : Bool} (h : a = b) : Ending.returned (.bool a) = .returned (.bool b) := by rw [h]

theorem least_neg (h : Int) (w : World) (hh : h < 0) :
    Calls Try.prog 10 #[.int .i64 h] w fun e w' => e = .returned (.int .i64 (Fb.least h)) ∧ w = w' := by
  have e := Fb.least_neg hh
  have E := Lib.hid e
  clear e
  go_enter Try.func10, Try.ntmps10
  go_wp2
  go_ret
  exact ⟨ret_int E.out.symm, rfl⟩
set_option maxRecDepth 100000 in
set_option maxHeartbeats 400000 in
theorem least_nat (n : Nat) (w : World) (hn : n ≤ 9223372036854775807) :
    Calls Try.prog 10 #[.int .i64 n] w fun e w' => e = .returned (.int .i64 (Fb.least n)) ∧ w = w' := by
  go_enter Try.func10, Try.ntmps10
  go_wp2
  go_loop [0, 3, 4] (fun h a b => ∃ k : Nat, k ≤ n ∧ h = .int .i64 ((n - k : Nat) : Int) ∧ a = .int .i64 (Fb.raw k : Int) ∧ b = .int .i64 (Fb.raw (k + 1) : Int) ∧ Fb.raw k ≤ 4294967296) (fun h _ _ => (intOf h).toNat)
  case atStart => exact ⟨0, Nat.zero_le _, rfl, rfl, rfl, by decide⟩
  case round =>
    obtain ⟨k, hk, rfl, rfl, rfl, hb⟩ := hrel
    have hp := Fb.raw_pos k
    have ha : Fb.raw (k + 2) = Fb.raw k + Fb.raw (k + 1) := rfl
    have H3 := Lib.hid ha
    clear ha
    obtain ⟨a, ea⟩ : ∃ a, Fb.raw k = a := ⟨_, rfl⟩
    obtain ⟨b, eb⟩ : ∃ b, Fb.raw (k + 1) = b := ⟨_, rfl⟩
    have H1 := Lib.hid ea
    have H2 := Lib.hid eb
    rw [ea, eb] at hp
    rw [ea] at hb ⊢
    rw [eb] at ⊢
    clear ea eb
    by_cases hlt : k < n
    · obtain ⟨m, hm⟩ : ∃ m, n - k = m + 1 := ⟨n - k - 1, by omega⟩
      rw [hm] at ⊢
      have hm2 := Lib.hid hm
      have hmn : m < 9223372036854775807 := by omega
      clear hm
      by_cases hmx : (a : Int) < 2147483648
      · go_wp2
        go_round
        case rel => exact ⟨k + 1, hlt, by have := hm2.out; rw [show n - (k + 1) = m by omega], by rw [H2.out], by rw [H3.out, H1.out, H2.out]; go_num, by rw [H2.out]; omega⟩
        case measure => simp [intOf]
      · have hge : (2147483648 : Int) ≤ a := by omega
        go_wp2
        all_goals
          go_ret
          refine ⟨ret_int ?_, rfl⟩
          have hl := Fb.least_hi hk H1.out hge
          omega
    · obtain rfl : k = n := by omega
      rw [Nat.sub_self] at ⊢
      go_wp2
      · go_ret
        exact ⟨ret_int (by rw [Fb.least_hi (Nat.le_refl _) H1.out (by omega)]), rfl⟩
      · go_ret
        exact ⟨ret_int (by rw [Fb.least_lo H1.out (by omega)]), rfl⟩
theorem least_any (h : Int) (w : World) (hh : h ≤ 9223372036854775807) :
    Calls Try.prog 10 #[.int .i64 h] w fun e w' => e = .returned (.int .i64 (Fb.least h)) ∧ w = w' := by
  by_cases h0 : h < 0
  · exact least_neg h w h0
  · obtain ⟨n, rfl⟩ := Int.eq_ofNat_of_zero_le (show 0 ≤ h by omega)
    exact least_nat n w (by omega)

theorem rleast_neg (h : Int) (w : World) (hh : h < 0) :
    Calls Try.prog 13 #[.int .i64 h] w fun e w' => e = .returned (.int .i64 (Fb.least h)) ∧ w = w' := by
  have e := Fb.least_neg hh
  have E := Lib.hid e
  clear e
  go_enter Try.func13, Try.ntmps13
  go_wp2
  go_ret
  exact ⟨ret_int E.out.symm, rfl⟩
set_option maxRecDepth 100000 in
set_option maxHeartbeats 400000 in
theorem rleast_nat (n : Nat) (w : World) (hn : n ≤ 9223372036854775807) :
    Calls Try.prog 13 #[.int .i64 n] w fun e w' => e = .returned (.int .i64 (Fb.least n)) ∧ w = w' := by
  go_enter Try.func13, Try.ntmps13
  go_wp2
  go_loop [3, 4, 5] (fun a b i => ∃ k : Nat, k ≤ n ∧ i = .int .i64 k ∧ a = .int .i64 (Fb.raw k : Int) ∧ b = .int .i64 (Fb.raw (k + 1) : Int) ∧ Fb.raw k ≤ 4294967296) (fun _ _ i => n - (intOf i).toNat)
  case atStart => exact ⟨0, Nat.zero_le _, rfl, rfl, rfl, by decide⟩
  case round =>
    obtain ⟨k, hk, rfl, rfl, rfl, hb⟩ := hrel
    have hp := Fb.raw_pos k
    have ha : Fb.raw (k + 2) = Fb.raw k + Fb.raw (k + 1) := rfl
    have H3 := Lib.hid ha
    clear ha
    obtain ⟨a, ea⟩ : ∃ a, Fb.raw k = a := ⟨_, rfl⟩
    obtain ⟨b, eb⟩ : ∃ b, Fb.raw (k + 1) = b := ⟨_, rfl⟩
    have H1 := Lib.hid ea
    have H2 := Lib.hid eb
    rw [ea, eb] at hp
    rw [ea] at hb ⊢
    rw [eb] at ⊢
    clear ea eb
    by_cases hlt : k < n
    · by_cases hmx : (a : Int) < 2147483648
      · go_wp2
        go_round
        case rel => exact ⟨k + 1, hlt, by go_num, by rw [H2.out], by rw [H3.out, H1.out, H2.out]; go_num, by rw [H2.out]; omega⟩
        case measure => simp [intOf]; omega
      · have hge : (2147483648 : Int) ≤ a := by omega
        go_wp2
        all_goals
          go_ret
          refine ⟨ret_int ?_, rfl⟩
          have hl := Fb.least_hi hk H1.out hge
          omega
    · obtain rfl : k = n := by omega
      go_wp2
      · go_ret
        exact ⟨ret_int (by rw [Fb.least_hi (Nat.le_refl _) H1.out (by omega)]), rfl⟩
      · go_ret
        exact ⟨ret_int (by rw [Fb.least_lo H1.out (by omega)]), rfl⟩
theorem rleast_any (h : Int) (w : World) (hh : h ≤ 9223372036854775807) :
    Calls Try.prog 13 #[.int .i64 h] w fun e w' => e = .returned (.int .i64 (Fb.least h)) ∧ w = w' := by
  by_cases h0 : h < 0
  · exact rleast_neg h w h0
  · obtain ⟨n, rfl⟩ := Int.eq_ofNat_of_zero_le (show 0 ≤ h by omega)
    exact rleast_nat n w (by omega)

theorem least_low (k : Nat) (w : World) (hk : k ≤ 44) :
    Calls Try.prog 10 #[.int .i64 k] w fun e w' => e = .returned (.int .i64 (Fb.raw k)) ∧ w = w' :=
  (least_nat k w (by omega)).mono fun _ _ ⟨he, hw⟩ => ⟨he.trans (ret_int (Fb.least_low hk)), hw⟩
theorem rleast_low (k : Nat) (w : World) (hk : k ≤ 44) :
    Calls Try.prog 13 #[.int .i64 k] w fun e w' => e = .returned (.int .i64 (Fb.raw k)) ∧ w = w' :=
  (rleast_nat k w (by omega)).mono fun _ _ ⟨he, hw⟩ => ⟨he.trans (ret_int (Fb.least_low hk)), hw⟩
set_option maxHeartbeats 400000 in
theorem most_any (n : Int) (w : World) :
    Calls Try.prog 9 #[.int .i64 n] w fun e w' => e = .returned (.int .i64 (Fb.most n)) ∧ w = w' := by
  go_enter Try.func9, Try.ntmps9
  go_wp2
  go_loop [3] (fun h => ∃ k : Nat, k ≤ 45 ∧ h = .int .i64 ((k : Int) - 1) ∧ ∀ j, j < k → (Fb.raw j : Int) ≤ n) (fun h => (44 - intOf h).toNat)
  case atStart => exact ⟨0, by decide, rfl, fun j hj => absurd hj (Nat.not_lt_zero _)⟩
  case round =>
    obtain ⟨k, hk, rfl, hin⟩ := hrel
    have HIN := Lib.hid hin
    clear hin
    by_cases hlt : k = 45
    · subst hlt
      have HM := Lib.hid (Fb.most_end (Nat.le_refl _) HIN.out (.inl rfl))
      go_wp2_with fail
      go_ret
      exact ⟨ret_int HM.out.symm, rfl⟩
    · have hl : (k : Int) - 1 < 44 := by omega
      have hb : k ≤ 44 := by omega
      obtain ⟨a, ea⟩ : ∃ a, (Fb.raw k : Int) = a := ⟨_, rfl⟩
      have EA := Lib.hid ea
      have c := least_low k w hb
      rw [ea] at c
      clear ea
      by_cases hle : a ≤ n
      all_goals
        go_wp2_with (go_at_call 10; (with_reducible refine c.mono ?_); rintro e w' ⟨rfl, rfl⟩)
      · go_round
        case rel => exact ⟨k + 1, by omega, by go_num, fun j hj => by
          rcases Nat.lt_or_ge j k with h | h
          · exact HIN.out j h
          · obtain rfl : j = k := by omega
            rw [EA.out]; exact hle⟩
        case measure => simp [intOf]; omega
      · go_ret
        exact ⟨ret_int (Fb.most_end hk HIN.out (.inr (by rw [EA.out]; omega))).symm, rfl⟩
set_option maxHeartbeats 400000 in
theorem rmost_any (n : Int) (w : World) :
    Calls Try.prog 14 #[.int .i64 n] w fun e w' => e = .returned (.int .i64 (Fb.most n)) ∧ w = w' := by
  go_enter Try.func14, Try.ntmps14
  go_wp2
  go_loop [3] (fun h => ∃ k : Nat, k ≤ 45 ∧ h = .int .i64 ((k : Int) - 1) ∧ ∀ j, j < k → (Fb.raw j : Int) ≤ n) (fun h => (44 - intOf h).toNat)
  case atStart => exact ⟨0, by decide, rfl, fun j hj => absurd hj (Nat.not_lt_zero _)⟩
  case round =>
    obtain ⟨k, hk, rfl, hin⟩ := hrel
    have HIN := Lib.hid hin
    clear hin
    by_cases hlt : k = 45
    · subst hlt
      have HM := Lib.hid (Fb.most_end (Nat.le_refl _) HIN.out (.inl rfl))
      go_wp2_with fail
      go_ret
      exact ⟨ret_int HM.out.symm, rfl⟩
    · have hl : (k : Int) - 1 < 44 := by omega
      have hb : k ≤ 44 := by omega
      obtain ⟨a, ea⟩ : ∃ a, (Fb.raw k : Int) = a := ⟨_, rfl⟩
      have EA := Lib.hid ea
      have c := rleast_low k w hb
      rw [ea] at c
      clear ea
      by_cases hle : a ≤ n
      all_goals
        go_wp2_with (go_at_call 13; (with_reducible refine c.mono ?_); rintro e w' ⟨rfl, rfl⟩)
      · go_round
        case rel => exact ⟨k + 1, by omega, by go_num, fun j hj => by
          rcases Nat.lt_or_ge j k with h | h
          · exact HIN.out j h
          · obtain rfl : j = k := by omega
            rw [EA.out]; exact hle⟩
        case measure => simp [intOf]; omega
      · go_ret
        exact ⟨ret_int (Fb.most_end hk HIN.out (.inr (by rw [EA.out]; omega))).symm, rfl⟩
end Go.Proofs.Ytfmginakkenbnaa
