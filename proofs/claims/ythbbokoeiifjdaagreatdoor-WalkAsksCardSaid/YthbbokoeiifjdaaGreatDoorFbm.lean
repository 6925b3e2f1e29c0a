/- Heights by Fibonacci: plain facts of numbers. No function of the program stands in it. The contracts of the document's own Least, fours and May (of one shape). -/
import Derived.Lib.Hide
import Derived.Test.YthbbokoeiifjdaaGreatDoorBas
import Derived.Outline
import Derived.WalkSpells
import Derived.BigQuiet
import Derived.LoopTactic
import Derived.RegionTactic
import Derived.IntWalk
namespace Go.Proofs.YthbbokoeiifjdaaGreatDoor
namespace Fb

def pr : Nat → Nat × Nat
  | 0 => (1, 2)
  | n + 1 => ((pr n).2, (pr n).1 + (pr n).2)
def raw (n : Nat) : Nat := (pr n).1
theorem pr_two (n : Nat) : (pr n).2 = raw (n + 1) := rfl
theorem raw_add (n : Nat) : raw (n + 2) = raw n + raw (n + 1) := rfl
theorem raw_pos (n : Nat) : 1 ≤ raw n ∧ raw n < raw (n + 1) ∧ raw (n + 1) ≤ 2 * raw n := by
  induction n with
  | zero => decide
  | succ n ih =>
    have h : raw (n + 1 + 1) = raw n + raw (n + 1) := rfl
    omega
theorem raw_mono {a b : Nat} (h : a ≤ b) : raw a ≤ raw b := by
  induction h with
  | refl => exact Nat.le_refl _
  | step _ ih => exact Nat.le_trans ih (Nat.le_of_lt (raw_pos _).2.1)
theorem raw_lt {a b : Nat} (h : a < b) : raw a < raw b := Nat.lt_of_lt_of_le (raw_pos a).2.1 (raw_mono h)
theorem raw_44 : raw 44 = 1836311903 := by decide +kernel
theorem raw_45 : raw 45 = 2971215073 := by decide +kernel

/-- Least: 0 below 0, at most MaxLen. -/
def least (h : Int) : Int := if h < 0 then 0 else ((min (raw h.toNat) 2147483648 : Nat) : Int)
theorem least_neg {h : Int} (hh : h < 0) : least h = 0 := by unfold least; rw [if_pos hh]
theorem least_nat (n : Nat) : least n = ((min (raw n) 2147483648 : Nat) : Int) := by
  unfold least; rw [if_neg (by omega), Int.toNat_natCast]
theorem least_low {n : Nat} (h : n ≤ 44) : least n = raw n := by
  have h1 := raw_mono h
  rw [raw_44] at h1
  rw [least_nat, Nat.min_eq_left (by omega)]
theorem least_rng (h : Int) : 0 ≤ least h ∧ least h ≤ 2147483648 := by
  unfold least; split <;> omega
theorem least_pos {h : Int} (hh : 0 ≤ h) : 1 ≤ least h := by
  have := (raw_pos h.toNat).1
  unfold least; rw [if_neg (by omega)]; omega
/-- Where the loop ends. -/
theorem least_end {k n : Nat} (hk : k ≤ n) (he : k = n ∨ 2147483648 ≤ raw k) : least n = ((min (raw k) 2147483648 : Nat) : Int) := by
  rw [least_nat]
  rcases he with rfl | he
  · rfl
  · have := raw_mono hk
    rw [Nat.min_eq_right (by omega), Nat.min_eq_right (by omega)]

theorem least_hi {k n a : Nat} (hk : k ≤ n) (ha : raw k = a) (h : (2147483648 : Int) ≤ a) : least n = 2147483648 := by
  rw [least_end hk (.inr (by omega)), ha, Nat.min_eq_right (by omega)]
  rfl
theorem least_lo {n a : Nat} (ha : raw n = a) (h : (a : Int) ≤ 2147483648) : least n = a := by
  rw [least_nat, ha, Nat.min_eq_left (by omega)]

/-- How many of the heights from 0 to 44 have a least of at most n: Most is one less. -/
def hs (n : Int) : Nat → Nat
  | 0 => 0
  | k + 1 => if (raw k : Int) ≤ n then k + 1 else hs n k
def most (n : Int) : Int := (hs n 45 : Int) - 1
theorem hs_le (n : Int) (k : Nat) : hs n k ≤ k := by
  induction k with
  | zero => exact Nat.le_refl _
  | succ k ih => unfold hs; split <;> omega
theorem hs_in (n : Int) (k : Nat) {j : Nat} (h : j < hs n k) : (raw j : Int) ≤ n := by
  induction k with
  | zero => exact absurd h (Nat.not_lt_zero _)
  | succ k ih =>
    unfold hs at h
    split at h
    · rename_i hk; have := raw_mono (show j ≤ k by omega); omega
    · exact ih h
theorem hs_out (n : Int) (k : Nat) {j : Nat} (h : hs n k ≤ j) (hj : j < k) : n < (raw j : Int) := by
  induction k with
  | zero => omega
  | succ k ih =>
    unfold hs at h
    split at h
    · omega
    · rename_i hk
      by_cases e : j = k
      · subst e; omega
      · exact ih h (by omega)
theorem most_rng (n : Int) : -1 ≤ most n ∧ most n ≤ 44 := by
  have := hs_le n 45
  unfold most; omega
/-- Most, where the loop stops at it. -/
theorem most_end {n : Int} {k : Nat} (hk : k ≤ 45) (hin : ∀ j, j < k → (raw j : Int) ≤ n) (ho : k = 45 ∨ n < (raw k : Int)) : most n = (k : Int) - 1 := by
  have h0 := hs_le n 45
  unfold most
  rcases Nat.lt_trichotomy (hs n 45) k with h | h | h
  · have h1 := hin _ h
    have h2 := hs_out n 45 (Nat.le_refl _) (by omega)
    omega
  · omega
  · have h1 := hs_in n 45 h
    rcases ho with ho | ho <;> omega
/-- A height may be of n leaves just if its least is at most n. -/
theorem most_ge (n : Int) {k : Nat} (hk : k ≤ 44) : ((k : Int) ≤ most n) ↔ ((raw k : Int) ≤ n) := by
  unfold most
  constructor
  · intro h; exact hs_in n 45 (by omega)
  · intro h
    rcases Nat.lt_or_ge k (hs n 45) with h1 | h1
    · omega
    · have := hs_out n 45 h1 (by omega); omega
theorem most_mono {a b : Int} (h : a ≤ b) : most a ≤ most b := by
  have h1 := most_rng a
  have h2 := most_rng b
  by_cases hm : most a = -1
  · omega
  · obtain ⟨k, hk⟩ : ∃ k : Nat, most a = k := ⟨(most a).toNat, by omega⟩
    have h3 := (most_ge a (k := k) (by omega)).1 (by omega)
    have h4 := (most_ge b (k := k) (by omega)).2 (by omega)
    omega
theorem most_raw {k : Nat} (hk : k ≤ 44) : most (raw k) = k := by
  have h1 := (most_ge (raw k) hk).2 (Int.le_refl _)
  have h2 := most_rng (raw k)
  by_cases e : k = 44
  · omega
  · have h3 := most_ge (raw k) (k := k + 1) (by omega)
    have := (raw_pos k).2.1
    omega
theorem most_under {k : Nat} (hk : k ≤ 44) : most ((raw k : Int) - 1) = (k : Int) - 1 := by
  have h1 := most_ge ((raw k : Int) - 1) hk
  have h2 := most_rng ((raw k : Int) - 1)
  by_cases e : k = 0
  · subst e; have : raw 0 = 1 := rfl; omega
  · have h3 := (most_ge ((raw k : Int) - 1) (k := k - 1) (by omega)).2 (by have := raw_lt (show k - 1 < k by omega); omega)
    omega
theorem low_table : ∀ h, h < 45 → ∀ f, f < 30 → 3 * f + 1 < 2 * h → 2 ^ f < raw h := by decide +kernel
/-- One and a half times as high as if it were full. -/
theorem low {n : Int} {f : Nat} (hf : f < 30) (hn : n ≤ ((2 ^ f : Nat) : Int)) : 2 * most n ≤ 3 * f + 1 := by
  have h1 := most_rng n
  by_cases hm : most n = -1
  · omega
  · obtain ⟨k, hk⟩ : ∃ k : Nat, most n = k := ⟨(most n).toNat, by omega⟩
    have h3 := (most_ge n (k := k) (by omega)).1 (by omega)
    rcases Nat.lt_or_ge (3 * f + 1) (2 * k) with h | h
    · have := low_table k (by omega) f hf h; omega
    · omega

/-- May, of one. -/
def may (L H V N : Int) : Bool :=
  if L = 0 then decide (H = 0 ∧ V = 0 ∧ N = 0) else decide (0 < L ∧ 0 ≤ H ∧ least H ≤ V ∧ V ≤ L / 32 + 1 ∧ N = 2 * V - 1)
/-- The document's own number of leaves is that. -/
theorem fours {L : Int} (_ : 0 ≤ L) : L / 128 * 4 + L % 128 * 4 / 128 = L / 32 := by omega
end Fb
end Go.Proofs.YthbbokoeiifjdaaGreatDoor
namespace Go.Proofs.YthbbokoeiifjdaaGreatDoor
open Go Go.RowKit

/-- A shape as a value, with its parts in the range of an int. -/
def Ok4 (s : Int × Int × Int × Int) : Prop := s.1 ≤ 9223372036854775807 ∧ s.2.1 ≤ 9223372036854775807 ∧ s.2.2.1 ≤ 9223372036854775807
def shv (s : Int × Int × Int × Int) : Value := .agg #[.int .i64 s.1, .int .i64 s.2.1, .int .i64 s.2.2.1, .int .i64 s.2.2.2]
def mayS (s : Int × Int × Int × Int) : Bool := Fb.may s.1 s.2.1 s.2.2.1 s.2.2.2
end Go.Proofs.YthbbokoeiifjdaaGreatDoor
