/- Symbols (chapter 6): the plain answers; the contracts of what is no list: Of, Byte, Path, Bit. -/
import Derived.Test.YthbbokoeiifjdaaGreatDoorBas
import Derived.Outline
import Derived.WalkSpells
import Derived.Laws.Rows
import Derived.Lib.Hide
import Derived.LoopTactic
namespace Go.Proofs.YthbbokoeiifjdaaGreatDoor
open Go Go.RowKit

/-- Is it a symbol? -/
def Sy.is (s : Int) : Prop := 0 ≤ s ∧ s ≤ 256
instance (s : Int) : Decidable (Sy.is s) := by unfold Sy.is; infer_instance
/-- The number of the first l bits; -1: none. -/
def Sy.path (s l : Int) : Int := if (0 ≤ s ∧ s ≤ 256) ∧ 0 ≤ l ∧ l ≤ 9 then s / 2 ^ (9 - l).toNat else -1
/-- The bit of a level. -/
def Sy.bit (s l : Int) : Bool := decide ((0 ≤ s ∧ s ≤ 256) ∧ (0 ≤ l ∧ l ≤ 8) ∧ s / 2 ^ (8 - l).toNat % 2 = 1)

theorem Sy.path_of {s l : Int} (h : 0 ≤ s ∧ s ≤ 256) (h' : 0 ≤ l ∧ l ≤ 9) : Sy.path s l = s / 2 ^ (9 - l).toNat := by unfold Sy.path; rw [if_pos ⟨h, h'⟩]
theorem Sy.path_none {s l : Int} (h : ¬ ((0 ≤ s ∧ s ≤ 256) ∧ 0 ≤ l ∧ l ≤ 9)) : Sy.path s l = -1 := by unfold Sy.path; rw [if_neg h]
theorem Sy.div_rng {s : Int} (h : 0 ≤ s ∧ s ≤ 256) (n : Nat) : 0 ≤ s / 2 ^ n ∧ s / 2 ^ n ≤ 256 := by
  have hp : (0 : Int) < 2 ^ n := Int.pow_pos (by decide)
  have h1 : 0 ≤ s / 2 ^ n := Int.ediv_nonneg h.1 (by omega)
  have h2 : s / 2 ^ n ≤ s := Int.ediv_le_self _ h.1
  omega
theorem Sy.path_rng (s l : Int) : -1 ≤ Sy.path s l ∧ Sy.path s l ≤ 256 := by
  by_cases h : (0 ≤ s ∧ s ≤ 256) ∧ 0 ≤ l ∧ l ≤ 9
  · rw [Sy.path_of h.1 h.2]; have := Sy.div_rng h.1 (9 - l).toNat; omega
  · rw [Sy.path_none h]; omega
theorem Sy.path_zero {s : Int} (h : 0 ≤ s ∧ s ≤ 256) : Sy.path s 0 = 0 := by rw [Sy.path_of h (by omega)]; show s / 512 = 0; omega
theorem Sy.path_nine {s : Int} (h : 0 ≤ s ∧ s ≤ 256) : Sy.path s 9 = s := by rw [Sy.path_of h (by omega)]; show s / 1 = s; omega
/-- The next path: twice the one above, and the bit. -/
theorem Sy.path_succ {s l : Int} (h : 0 ≤ s ∧ s ≤ 256) (h' : 0 ≤ l ∧ l ≤ 8) : Sy.path s (l + 1) = 2 * Sy.path s l + (if Sy.bit s l = true then 1 else 0) := by
  rw [Sy.path_of h (by omega), Sy.path_of h (by omega)]
  unfold Sy.bit
  generalize hn : (8 - l).toNat = n
  rw [show (9 - (l + 1)).toNat = n by omega, show (9 - l).toNat = n + 1 by omega, Int.pow_succ, ← Int.ediv_ediv_of_nonneg (by have : (0 : Int) < 2 ^ n := Int.pow_pos (by decide); omega)]
  have hx := Sy.div_rng h n
  generalize s / 2 ^ n = x at hx ⊢
  by_cases h2 : x % 2 = 1
  · rw [if_pos (by simpa using ⟨h, h', h2⟩)]; omega
  · rw [if_neg (by simp [h2])]; omega
theorem Sy.bit_of {s l : Int} (h : 0 ≤ s ∧ s ≤ 256) (h' : 0 ≤ l ∧ l ≤ 8) : Sy.bit s l = decide (Sy.path s (l + 1) % 2 = 1) := by
  rw [Sy.path_of h (by omega), show (9 - (l + 1)) = 8 - l by omega]
  unfold Sy.bit
  simp [h, h']
theorem Sy.bit_none {s l : Int} (h : ¬ ((0 ≤ s ∧ s ≤ 256) ∧ 0 ≤ l ∧ l ≤ 8)) : Sy.bit s l = false := by
  unfold Sy.bit
  rw [decide_eq_false_iff_not]
  intro ⟨h1, h2, _⟩
  exact h ⟨h1, h2⟩

theorem issym (s : Int) (w : World) : Calls Tryz.prog 69 #[.int .i64 s] w fun e w' => e = .returned (.bool (decide (0 ≤ s ∧ s ≤ 256))) ∧ w = w' := by
  by_cases h0 : 0 ≤ s
  · by_cases h1 : s < 257
    · rw [decide_eq_true (p := 0 ≤ s ∧ s ≤ 256) (by omega)]
      go_enter Tryz.func69, Tryz.ntmps69
      go_wp2
      go_ret
      exact ⟨rfl, rfl⟩
    · rw [decide_eq_false (p := 0 ≤ s ∧ s ≤ 256) (by omega)]
      go_enter Tryz.func69, Tryz.ntmps69
      go_wp2
      go_ret
      exact ⟨rfl, rfl⟩
  · rw [decide_eq_false (p := 0 ≤ s ∧ s ≤ 256) (by omega)]
    go_enter Tryz.func69, Tryz.ntmps69
    go_wp2
    go_ret
    exact ⟨rfl, rfl⟩
theorem islev (s : Int) (w : World) : Calls Tryz.prog 81 #[.int .i64 s] w fun e w' => e = .returned (.bool (decide (0 ≤ s ∧ s ≤ 8))) ∧ w = w' := by
  by_cases h0 : 0 ≤ s
  · by_cases h1 : s < 9
    · rw [decide_eq_true (p := 0 ≤ s ∧ s ≤ 8) (by omega)]
      go_enter Tryz.func81, Tryz.ntmps81
      go_wp2
      go_ret
      exact ⟨rfl, rfl⟩
    · rw [decide_eq_false (p := 0 ≤ s ∧ s ≤ 8) (by omega)]
      go_enter Tryz.func81, Tryz.ntmps81
      go_wp2
      go_ret
      exact ⟨rfl, rfl⟩
  · rw [decide_eq_false (p := 0 ≤ s ∧ s ≤ 8) (by omega)]
    go_enter Tryz.func81, Tryz.ntmps81
    go_wp2
    go_ret
    exact ⟨rfl, rfl⟩
theorem sof (b : Int) (w : World) (h : 0 ≤ b ∧ b ≤ 255) : Calls Tryz.prog 65 #[.int .u8 b] w fun e w' => e = .returned (.int .i64 (b + 1)) ∧ w = w' := by
  go_enter Tryz.func65, Tryz.ntmps65
  go_wp2
  go_ret
  exact ⟨rfl, rfl⟩
theorem issym_yes {s : Int} (w : World) (h : 0 ≤ s ∧ s ≤ 256) : Calls Tryz.prog 69 #[.int .i64 s] w fun e w' => e = .returned (.bool true) ∧ w = w' := by
  have := issym s w
  rwa [decide_eq_true (p := 0 ≤ s ∧ s ≤ 256) h] at this
theorem issym_no {s : Int} (w : World) (h : ¬ (0 ≤ s ∧ s ≤ 256)) : Calls Tryz.prog 69 #[.int .i64 s] w fun e w' => e = .returned (.bool false) ∧ w = w' := by
  have := issym s w
  rwa [decide_eq_false (p := 0 ≤ s ∧ s ≤ 256) h] at this
theorem islev_yes {s : Int} (w : World) (h : 0 ≤ s ∧ s ≤ 8) : Calls Tryz.prog 81 #[.int .i64 s] w fun e w' => e = .returned (.bool true) ∧ w = w' := by
  have := islev s w
  rwa [decide_eq_true (p := 0 ≤ s ∧ s ≤ 8) h] at this
theorem islev_no {s : Int} (w : World) (h : ¬ (0 ≤ s ∧ s ≤ 8)) : Calls Tryz.prog 81 #[.int .i64 s] w fun e w' => e = .returned (.bool false) ∧ w = w' := by
  have := islev s w
  rwa [decide_eq_false (p := 0 ≤ s ∧ s ≤ 8) h] at this
theorem spath (s l : Int) (w : World) : Calls Tryz.prog 82 #[.int .i64 s, .int .i64 l] w fun e w' => e = .returned (.int .i64 (Sy.path s l)) ∧ w = w' := by
  by_cases h : 0 ≤ s ∧ s ≤ 256
  · by_cases h' : 0 ≤ l ∧ l ≤ 9
    · by_cases h9 : l = 9
      · subst h9
        rw [Sy.path_nine h]
        obtain ⟨h0, h1⟩ := h
        clear h'
        go_enter Tryz.func82, Tryz.ntmps82
        go_wp2_with fail
        refine (issym_yes _ (by omega)).mono ?_; rintro e w' ⟨rfl, rfl⟩
        go_wp2_with fail
        refine (islev_no _ (by omega)).mono ?_; rintro e w' ⟨rfl, rfl⟩
        go_wp2_with fail
        go_ret
        exact ⟨rfl, rfl⟩
      · rw [Sy.path_of h h']
        obtain ⟨h0, h1⟩ := h
        obtain ⟨h2, h3⟩ := h'
        have hd := Sy.div_rng ⟨h0, h1⟩ (9 - l).toNat
        go_enter Tryz.func82, Tryz.ntmps82
        go_wp2_with fail
        refine (issym_yes _ (by omega)).mono ?_; rintro e w' ⟨rfl, rfl⟩
        go_wp2_with fail
        refine (islev_yes _ (by omega)).mono ?_; rintro e w' ⟨rfl, rfl⟩
        go_wp2_with fail
        go_ret
        exact ⟨rfl, rfl⟩
    · rw [Sy.path_none (fun k => h' k.2)]
      go_enter Tryz.func82, Tryz.ntmps82
      go_wp2_with fail
      refine (issym_yes _ h).mono ?_; rintro e w' ⟨rfl, rfl⟩
      go_wp2_with fail
      refine (islev_no _ (by omega)).mono ?_; rintro e w' ⟨rfl, rfl⟩
      have : ¬ l = 9 := by omega
      go_wp2_with fail
      go_ret
      exact ⟨rfl, rfl⟩
  · rw [Sy.path_none (fun k => h k.1)]
    go_enter Tryz.func82, Tryz.ntmps82
    go_wp2_with fail
    refine (issym_no _ h).mono ?_; rintro e w' ⟨rfl, rfl⟩
    go_wp2_with fail
    go_ret
    exact ⟨rfl, rfl⟩
theorem and_one {p : Int} (h : 0 ≤ p ∧ p ≤ 256) : (bits .and .i64 p 1 == 1) = decide (p % 2 = 1) := by
  obtain ⟨n, rfl⟩ := Int.eq_ofNat_of_zero_le h.1
  have hb : bits .and .i64 (n : Int) 1 = ((n &&& 1 : Nat) : Int) := by
    have h1 : (BitVec.ofInt 64 (n : Int)).toNat = n := by
      rw [BitVec.ofInt_natCast, BitVec.toNat_ofNat]; exact Nat.mod_eq_of_lt (by omega)
    have h2 : (BitVec.ofInt 64 (1 : Int)).toNat = 1 := rfl
    show IntKind.i64.wrap ((BitVec.ofInt 64 (n : Int) &&& BitVec.ofInt 64 (1 : Int)).toNat : Int) = _
    rw [BitVec.toNat_and, h1, h2, Nat.and_one_is_mod]
    have h3 : n % 2 < 2 := Nat.mod_lt _ (by decide)
    generalize n % 2 = m at h3
    have : m = 0 ∨ m = 1 := by omega
    rcases this with rfl | rfl <;> rfl
  rw [hb, Nat.and_one_is_mod]
  by_cases h2 : n % 2 = 1
  · rw [decide_eq_true (p := (n : Int) % 2 = 1) (by omega), h2]; rfl
  · rw [decide_eq_false (p := (n : Int) % 2 = 1) (by omega), show n % 2 = 0 by omega]; rfl
theorem sbit (s l : Int) (w : World) : Calls Tryz.prog 68 #[.int .i64 s, .int .i64 l] w fun e w' => e = .returned (.bool (Sy.bit s l)) ∧ w = w' := by
  by_cases h : 0 ≤ s ∧ s ≤ 256
  · by_cases h' : 0 ≤ l ∧ l ≤ 8
    · rw [Sy.bit_of h h']
      have hr : 0 ≤ Sy.path s (l + 1) ∧ Sy.path s (l + 1) ≤ 256 := by rw [Sy.path_of h (by omega)]; exact Sy.div_rng h _
      obtain ⟨h2, h3⟩ := h'
      have HS := Lib.hid h
      clear h
      go_enter Tryz.func68, Tryz.ntmps68
      go_wp2_with fail
      refine (issym_yes _ HS.out).mono ?_; rintro e w' ⟨rfl, rfl⟩
      go_wp2_with fail
      refine (islev_yes _ (by omega)).mono ?_; rintro e w' ⟨rfl, rfl⟩
      go_wp2_with fail
      refine (spath _ _ _).mono ?_; rintro e w' ⟨rfl, rfl⟩
      obtain ⟨p, ep⟩ : ∃ p, Sy.path s (l + 1) = p := ⟨_, rfl⟩
      have EP := Lib.hid ep
      rw [ep] at hr
      rw [ep]
      clear ep
      go_wp2_with fail
      go_ret
      exact ⟨congrArg (fun b => Ending.returned (Value.bool b)) ((and_one hr).trans (by rw [EP.out])), rfl⟩
    · rw [Sy.bit_none (fun k => h' k.2)]
      go_enter Tryz.func68, Tryz.ntmps68
      go_wp2_with fail
      refine (issym_yes _ h).mono ?_; rintro e w' ⟨rfl, rfl⟩
      go_wp2_with fail
      refine (islev_no _ h').mono ?_; rintro e w' ⟨rfl, rfl⟩
      go_wp2_with fail
      go_ret
      exact ⟨rfl, rfl⟩
  · rw [Sy.bit_none (fun k => h k.1)]
    go_enter Tryz.func68, Tryz.ntmps68
    go_wp2_with fail
    refine (issym_no _ h).mono ?_; rintro e w' ⟨rfl, rfl⟩
    go_wp2_with fail
    go_ret
    exact ⟨rfl, rfl⟩
theorem sbyte (s : Int) (w : World) (h : 1 ≤ s ∧ s ≤ 256) : Calls Tryz.prog 49 #[.int .i64 s] w fun e w' => e = .returned (.tuple #[.int .u8 (s - 1), .bool true]) ∧ w = w' := by
  go_enter Tryz.func49, Tryz.ntmps49
  go_wp2_with fail
  refine (issym_yes _ (by omega)).mono ?_; rintro e w' ⟨rfl, rfl⟩
  go_wp2_with fail
  go_ret2
  exact ⟨rfl, rfl⟩
theorem sbyte_none (s : Int) (w : World) (h : ¬ (1 ≤ s ∧ s ≤ 256)) : Calls Tryz.prog 49 #[.int .i64 s] w fun e w' => e = .returned (.tuple #[.int .u8 0, .bool false]) ∧ w = w' := by
  by_cases h0 : s = 0
  · subst h0
    clear h
    go_enter Tryz.func49, Tryz.ntmps49
    go_wp2_with fail
    refine (issym_yes _ (by omega)).mono ?_; rintro e w' ⟨rfl, rfl⟩
    go_wp2_with fail
    go_ret2
    exact ⟨rfl, rfl⟩
  · go_enter Tryz.func49, Tryz.ntmps49
    go_wp2_with fail
    refine (issym_no _ (by omega)).mono ?_; rintro e w' ⟨rfl, rfl⟩
    go_wp2_with fail
    go_ret2
    exact ⟨rfl, rfl⟩
end Go.Proofs.YthbbokoeiifjdaaGreatDoor
