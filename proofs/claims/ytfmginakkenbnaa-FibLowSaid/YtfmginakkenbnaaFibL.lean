/- Layer 4's statements as walks: FibMore, FibGrows, FibLow. -/
import Derived.Test.YtfmginakkenbnaaFibC
namespace Go.Proofs.Ytfmginakkenbnaa
open Go Go.RowKit

theorem mod_any (k : Int) (m : Nat) (h0 : 0 < m) (h1 : m ≤ 1000000) : ∃ n : Nat, n < m ∧ RowKit.wrap64 ((IntKind.u64.wrap k).tmod m) = (n : Int) := by
  rw [IntKind.wrap_u64]
  have h2 : 0 ≤ k % 18446744073709551616 := Int.emod_nonneg _ (by decide)
  rw [Int.tmod_eq_emod_of_nonneg h2]
  generalize k % 18446744073709551616 = x at h2 ⊢
  have h3 : 0 ≤ x % (m : Int) := Int.emod_nonneg _ (by omega)
  have h4 : x % (m : Int) < m := Int.emod_lt_of_pos _ (by omega)
  refine ⟨(x % m).toNat, by omega, ?_⟩
  unfold RowKit.wrap64
  omega

set_option maxHeartbeats 800000 in
theorem grows_walk (a : Int) (W : World) :
    Calls Try.prog 5 #[.int .i64 a] W fun e w' => e = .returned (.bool true) ∧ Below W.heap.size W w' := by
  obtain ⟨k, hk, en⟩ := mod_any a 39 (by decide) (by decide)
  change RowKit.wrap64 ((IntKind.u64.wrap a).tmod 39) = _ at en
  have hadd : Fb.raw (k + 2) = Fb.raw k + Fb.raw (k + 1) := rfl
  have hm := Fb.raw_mono (show k + 3 ≤ 44 by omega)
  rw [Fb.raw_44] at hm
  have hp0 := Fb.raw_pos k
  have hp2 := Fb.raw_pos (k + 2)
  have m1 := Fb.most_raw (k := k + 2) (by omega)
  have m2 := Fb.most_under (k := k + 2) (by omega)
  have c0 := Fb.least_low (n := k) (by omega)
  have c1 := Fb.least_low (n := k + 1) (by omega)
  have c2 := Fb.least_low (n := k + 2) (by omega)
  have c3 := Fb.least_low (n := k + 3) (by omega)
  obtain ⟨r0, e0⟩ : ∃ r, Fb.raw k = r := ⟨_, rfl⟩
  obtain ⟨r1, e1⟩ : ∃ r, Fb.raw (k + 1) = r := ⟨_, rfl⟩
  obtain ⟨r2, e2⟩ : ∃ r, Fb.raw (k + 2) = r := ⟨_, rfl⟩
  obtain ⟨r3, e3⟩ : ∃ r, Fb.raw (k + 3) = r := ⟨_, rfl⟩
  rw [e0] at c0 hadd hp0
  rw [e1] at c1 hadd hp0
  rw [e2] at c2 hadd hp2 m1 m2
  rw [show k + 2 + 1 = k + 3 from rfl, e3] at hp2
  rw [e3] at c3 hm
  clear e0 e1 e2 e3
  have L0 := Lib.hid (show Fb.least (2 + (k : Int) - 2) = r0 by rw [← c0]; congr 1; omega)
  have L1 := Lib.hid (show Fb.least (2 + (k : Int) - 1) = r1 by rw [← c1]; congr 1; omega)
  have L2 := Lib.hid (show Fb.least (2 + (k : Int)) = r2 by rw [← c2]; congr 1; omega)
  have L3 := Lib.hid (show Fb.least (2 + (k : Int) + 1) = r3 by rw [← c3]; congr 1; omega)
  have M1 := Lib.hid (show Fb.most (r2 : Int) = 2 + (k : Int) by rw [m1]; omega)
  have M2 := Lib.hid (show Fb.most ((r2 : Int) - 1) = 2 + (k : Int) - 1 by rw [m2]; omega)
  have E1 : ((r2 : Int) == (r1 : Int) + (r0 : Int)) = true := by simp; omega
  have E2 : decide ((r2 : Int) < (r3 : Int)) = true := by simp; omega
  have E3 : decide (r2 < r3) = true := by simp; omega
  have b0 : (r0 : Int) ≤ 2000000000 := by omega
  have b1 : (r1 : Int) ≤ 2000000000 := by omega
  have b2 : (r2 : Int) ≤ 2000000000 := by omega
  have b3 : (r3 : Int) ≤ 2000000000 := by omega
  have b4 : (1 : Int) ≤ (r2 : Int) := by omega
  clear m1 m2 c0 c1 c2 c3 hadd hp0 hp2 hm
  go_enter Try.func5, Try.ntmps5
  go_wp2_with fail
  refine (least_is _ r2 _ (by omega) (by exact L2.out)).mono ?_; rintro e w' ⟨rfl, rfl⟩
  go_wp2_with fail
  refine (told_any _).mono ?_; rintro e w1 ⟨rfl, h1⟩
  go_wp2_with fail
  refine (least_is _ r1 _ (by omega) (by first | exact L1.out | (rw [← L1.out]; congr 1; omega))).mono ?_; rintro e w' ⟨rfl, rfl⟩
  go_wp2_with fail
  refine (least_is _ r0 _ (by omega) (by first | exact L0.out | (rw [← L0.out]; congr 1; omega))).mono ?_; rintro e w' ⟨rfl, rfl⟩
  go_wp2_with fail
  refine (most_is _ _ _ (by exact M1.out)).mono ?_; rintro e w' ⟨rfl, rfl⟩
  go_wp2_with fail
  refine (most_is _ _ _ (by exact M2.out)).mono ?_; rintro e w' ⟨rfl, rfl⟩
  go_wp2_with fail
  refine (least_is _ r2 _ (by omega) (by exact L2.out)).mono ?_; rintro e w' ⟨rfl, rfl⟩
  go_wp2_with fail
  refine (least_is _ r3 _ (by omega) (by first | exact L3.out | (rw [← L3.out]; congr 1; omega))).mono ?_; rintro e w' ⟨rfl, rfl⟩
  go_wp2_with fail
  go_ret
  exact ⟨rfl, h1⟩

set_option maxHeartbeats 1600000 in
theorem more_walk (a b c : Int) (W : World) :
    Calls Try.prog 3 #[.int .i64 a, .int .i64 b, .int .i64 c] W fun e w' => e = .returned (.bool true) ∧ Below W.heap.size W w' := by
  obtain ⟨x, hx, en1⟩ := mod_any a 1000000 (by decide) (by decide)
  change RowKit.wrap64 ((IntKind.u64.wrap a).tmod 1000000) = _ at en1
  obtain ⟨y, hy, en2⟩ := mod_any b 1000000 (by decide) (by decide)
  change RowKit.wrap64 ((IntKind.u64.wrap b).tmod 1000000) = _ at en2
  obtain ⟨k, hk, en3⟩ := mod_any c 25 (by decide) (by decide)
  change RowKit.wrap64 ((IntKind.u64.wrap c).tmod 25) = _ at en3
  have c0 := Fb.least_low (n := k) (by omega)
  have en0 : (0 : Nat) = 0 := rfl
  by_cases hxy : y < x
  · have hxy' : (y : Int) < x := by omega
    have hmo := Fb.most_mono (a := y) (b := x) (by omega)
    have hge := Fb.most_ge (x : Int) (k := k) (by omega)
    rw [← c0] at hge
    have hr := Fb.most_rng 2147483648
    obtain ⟨mx, ex⟩ : ∃ m, Fb.most (y : Int) = m := ⟨_, rfl⟩
    obtain ⟨my, ey⟩ : ∃ m, Fb.most (x : Int) = m := ⟨_, rfl⟩
    obtain ⟨mm, em⟩ : ∃ m, Fb.most 2147483648 = m := ⟨_, rfl⟩
    obtain ⟨r, er⟩ : ∃ r, Fb.least (k : Int) = r := ⟨_, rfl⟩
    rw [ex, ey] at hmo
    rw [ey, er] at hge
    rw [em] at hr
    have hr2 : mm ≤ 44 := hr.2
    clear hr c0
    have EX := Lib.hid ex
    have EY := Lib.hid ey
    have EM := Lib.hid em
    have ER := Lib.hid er
    have EN := Lib.hid en0
    clear ex ey em er en0
    by_cases hky : (k : Int) ≤ my
    · have hry : r ≤ (x : Int) := hge.1 hky
      clear hge
      go_enter Try.func3, Try.ntmps3
      go_wp2_with (first
        | (go_at_call 8; refine (told_any _).mono ?_; rintro e w1 ⟨rfl, h1⟩)
        | (go_at_call 9; (with_reducible refine (most_is y mx _ EX.out).mono ?_); rintro e w' ⟨rfl, rfl⟩)
        | (go_at_call 9; (with_reducible refine (most_is x my _ EY.out).mono ?_); rintro e w' ⟨rfl, rfl⟩)
        | (go_at_call 9; (with_reducible refine (most_is 2147483648 mm _ EM.out).mono ?_); rintro e w' ⟨rfl, rfl⟩)
        | (go_at_call 10; (with_reducible refine (least_is k r _ (by omega) ER.out).mono ?_); rintro e w' ⟨rfl, rfl⟩)
        | (go_at_call 10; refine (least_is _ 0 _ (by omega) (Fb.least_neg (by omega))).mono ?_; rintro e w' ⟨rfl, rfl⟩))
      go_ret
      exact ⟨rfl, h1⟩
    · have hry : ¬ r ≤ (x : Int) := fun h => hky (hge.2 h)
      clear hge
      go_enter Try.func3, Try.ntmps3
      go_wp2_with (first
        | (go_at_call 8; refine (told_any _).mono ?_; rintro e w1 ⟨rfl, h1⟩)
        | (go_at_call 9; (with_reducible refine (most_is y mx _ EX.out).mono ?_); rintro e w' ⟨rfl, rfl⟩)
        | (go_at_call 9; (with_reducible refine (most_is x my _ EY.out).mono ?_); rintro e w' ⟨rfl, rfl⟩)
        | (go_at_call 9; (with_reducible refine (most_is 2147483648 mm _ EM.out).mono ?_); rintro e w' ⟨rfl, rfl⟩)
        | (go_at_call 10; (with_reducible refine (least_is k r _ (by omega) ER.out).mono ?_); rintro e w' ⟨rfl, rfl⟩)
        | (go_at_call 10; refine (least_is _ 0 _ (by omega) (Fb.least_neg (by omega))).mono ?_; rintro e w' ⟨rfl, rfl⟩))
      go_ret
      exact ⟨rfl, h1⟩
  · have hxy' : ¬ (y : Int) < x := by omega
    have hmo := Fb.most_mono (a := x) (b := y) (by omega)
    have hge := Fb.most_ge (y : Int) (k := k) (by omega)
    rw [← c0] at hge
    have hr := Fb.most_rng 2147483648
    obtain ⟨mx, ex⟩ : ∃ m, Fb.most (x : Int) = m := ⟨_, rfl⟩
    obtain ⟨my, ey⟩ : ∃ m, Fb.most (y : Int) = m := ⟨_, rfl⟩
    obtain ⟨mm, em⟩ : ∃ m, Fb.most 2147483648 = m := ⟨_, rfl⟩
    obtain ⟨r, er⟩ : ∃ r, Fb.least (k : Int) = r := ⟨_, rfl⟩
    rw [ex, ey] at hmo
    rw [ey, er] at hge
    rw [em] at hr
    have hr2 : mm ≤ 44 := hr.2
    clear hr c0
    have EX := Lib.hid ex
    have EY := Lib.hid ey
    have EM := Lib.hid em
    have ER := Lib.hid er
    have EN := Lib.hid en0
    clear ex ey em er en0
    by_cases hky : (k : Int) ≤ my
    · have hry : r ≤ (y : Int) := hge.1 hky
      clear hge
      go_enter Try.func3, Try.ntmps3
      go_wp2_with (first
        | (go_at_call 8; refine (told_any _).mono ?_; rintro e w1 ⟨rfl, h1⟩)
        | (go_at_call 9; (with_reducible refine (most_is x mx _ EX.out).mono ?_); rintro e w' ⟨rfl, rfl⟩)
        | (go_at_call 9; (with_reducible refine (most_is y my _ EY.out).mono ?_); rintro e w' ⟨rfl, rfl⟩)
        | (go_at_call 9; (with_reducible refine (most_is 2147483648 mm _ EM.out).mono ?_); rintro e w' ⟨rfl, rfl⟩)
        | (go_at_call 10; (with_reducible refine (least_is k r _ (by omega) ER.out).mono ?_); rintro e w' ⟨rfl, rfl⟩)
        | (go_at_call 10; refine (least_is _ 0 _ (by omega) (Fb.least_neg (by omega))).mono ?_; rintro e w' ⟨rfl, rfl⟩))
      go_ret
      exact ⟨rfl, h1⟩
    · have hry : ¬ r ≤ (y : Int) := fun h => hky (hge.2 h)
      clear hge
      go_enter Try.func3, Try.ntmps3
      go_wp2_with (first
        | (go_at_call 8; refine (told_any _).mono ?_; rintro e w1 ⟨rfl, h1⟩)
        | (go_at_call 9; (with_reducible refine (most_is x mx _ EX.out).mono ?_); rintro e w' ⟨rfl, rfl⟩)
        | (go_at_call 9; (with_reducible refine (most_is y my _ EY.out).mono ?_); rintro e w' ⟨rfl, rfl⟩)
        | (go_at_call 9; (with_reducible refine (most_is 2147483648 mm _ EM.out).mono ?_); rintro e w' ⟨rfl, rfl⟩)
        | (go_at_call 10; (with_reducible refine (least_is k r _ (by omega) ER.out).mono ?_); rintro e w' ⟨rfl, rfl⟩)
        | (go_at_call 10; refine (least_is _ 0 _ (by omega) (Fb.least_neg (by omega))).mono ?_; rintro e w' ⟨rfl, rfl⟩))
      go_ret
      exact ⟨rfl, h1⟩
theorem pow_wrap : ∀ k : Nat, k < 21 → RowKit.wrap64 ((2 : Int) ^ k) = ((2 ^ k : Nat) : Int) := by decide +kernel
set_option maxHeartbeats 1600000 in
theorem low_walk (a : Int) (W : World) :
    Calls Try.prog 6 #[.int .i64 a] W fun e w' => e = .returned (.bool true) ∧ Below W.heap.size W w' := by
  obtain ⟨x, hx, en1⟩ := mod_any a 1000000 (by decide) (by decide)
  change RowKit.wrap64 ((IntKind.u64.wrap a).tmod 1000000) = _ at en1
  go_enter Try.func6, Try.ntmps6
  go_wp2_with fail
  clear en1
  go_loop [4] (fun f => ∃ k : Nat, k ≤ 20 ∧ f = .int .i64 k) (fun f => 20 - (intOf f).toNat)
  case atStart => exact ⟨0, by decide, rfl⟩
  case round =>
    obtain ⟨k, hk, rfl⟩ := hrel
    have ep := pow_wrap k (by omega)
    have h20 : k = 20 → 1000000 < 2 ^ k := fun e => by subst e; decide
    obtain ⟨p, hp⟩ : ∃ p : Nat, 2 ^ k = p := ⟨_, rfl⟩
    rw [hp] at ep h20
    have HP := Lib.hid hp
    clear hp
    by_cases hlt : (p : Int) < 1 + x
    · have hk2 : k < 20 := by
        rcases Nat.lt_or_ge k 20 with h | h
        · exact h
        · have := h20 (by omega); omega
      clear h20
      go_wp2_with fail
      clear ep
      go_round
      case rel => exact ⟨k + 1, by omega, by go_num⟩
      case measure => simp [intOf]; omega
    · have hlow := Fb.low (n := 1 + (x : Int)) (f := k) (by omega) (by rw [HP.out]; omega)
      have hr := Fb.most_rng (1 + (x : Int))
      have hge := fun j (h : j ≤ 44) => Fb.most_ge (1 + (x : Int)) (k := j) h
      obtain ⟨m, hm⟩ : ∃ m : Nat, Fb.most (1 + (x : Int)) = m := by
        have h0 := (hge 0 (by decide)).2 (by show (1 : Int) ≤ _; omega)
        exact ⟨(Fb.most (1 + (x : Int))).toNat, by omega⟩
      rw [hm] at hlow hr
      have hm30 : m ≤ 40 := by omega
      have hin : (Fb.raw m : Int) ≤ 1 + x := (hge m (by omega)).1 (by omega)
      have hout : 1 + x < (Fb.raw (m + 1) : Int) := by
        rcases Int.lt_or_le (1 + x) (Fb.raw (m + 1) : Int) with h | h
        · exact h
        · have := (hge (m + 1) (by omega)).2 h; omega
      have c0 := least_low m
      have l1 := Fb.least_low (n := m + 1) (by omega)
      have HM := Lib.hid hm
      obtain ⟨r0, e0⟩ : ∃ r, Fb.raw m = r := ⟨_, rfl⟩
      obtain ⟨r1, e1⟩ : ∃ r, Fb.raw (m + 1) = r := ⟨_, rfl⟩
      rw [e0] at c0 hin
      rw [e1] at l1 hout
      have L1 := Lib.hid (show Fb.least ((m : Int) + 1) = r1 from l1)
      have hb3 : (2 * m : Int) ≤ 3 * k + 1 := by omega
      clear e0 e1 hm hge h20 hlow hr l1
      go_wp2_with fail
      clear ep
      refine (most_is _ m _ (by exact HM.out)).mono ?_; rintro e w' ⟨rfl, rfl⟩
      go_wp2_with fail
      refine (told_any _).mono ?_; rintro e w1 ⟨rfl, h1⟩
      have d0 := c0 w1 (by omega)
      have d1 := least_is ((m : Int) + 1) r1 w1 (by omega) L1.out
      clear c0
      go_wp2_with (first
        | (go_at_call 10; (with_reducible refine d0.mono ?_); rintro e w' ⟨rfl, rfl⟩)
        | (go_at_call 10; (with_reducible refine d1.mono ?_); rintro e w' ⟨rfl, rfl⟩))
      go_ret
      exact ⟨rfl, h1⟩
end Go.Proofs.Ytfmginakkenbnaa
