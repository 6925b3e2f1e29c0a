/- The document's own answer for symbols (scrimshawref6): Is, Bit, Path: contracts of the walk. -/
import Derived.Test.YtaglnomjlnlgoaaDoorSy
namespace Go.Proofs.YtaglnomjlnlgoaaDoor
open Go Go.RowKit

theorem ris (s : Int) (w : World) : Calls Tryd.prog 44 #[.int .i64 s] w fun e w' => e = .returned (.bool (decide (0 ≤ s ∧ s ≤ 256))) ∧ w = w' := by
  by_cases h0 : 0 ≤ s
  · by_cases h1 : s < 257
    · rw [decide_eq_true (p := 0 ≤ s ∧ s ≤ 256) (by omega)]
      go_enter Tryd.func44, Tryd.ntmps44
      go_wp2
      go_ret
      exact ⟨rfl, rfl⟩
    · rw [decide_eq_false (p := 0 ≤ s ∧ s ≤ 256) (by omega)]
      go_enter Tryd.func44, Tryd.ntmps44
      go_wp2
      go_ret
      exact ⟨rfl, rfl⟩
  · rw [decide_eq_false (p := 0 ≤ s ∧ s ≤ 256) (by omega)]
    go_enter Tryd.func44, Tryd.ntmps44
    go_wp2
    go_ret
    exact ⟨rfl, rfl⟩
theorem ris_yes {s : Int} (w : World) (h : 0 ≤ s ∧ s ≤ 256) : Calls Tryd.prog 44 #[.int .i64 s] w fun e w' => e = .returned (.bool true) ∧ w = w' := by
  have := ris s w
  rwa [decide_eq_true (p := 0 ≤ s ∧ s ≤ 256) h] at this
theorem ris_no {s : Int} (w : World) (h : ¬ (0 ≤ s ∧ s ≤ 256)) : Calls Tryd.prog 44 #[.int .i64 s] w fun e w' => e = .returned (.bool false) ∧ w = w' := by
  have := ris s w
  rwa [decide_eq_false (p := 0 ≤ s ∧ s ≤ 256) h] at this
theorem rpath (s l : Int) (w : World) : Calls Tryd.prog 26 #[.int .i64 s, .int .i64 l] w fun e w' => e = .returned (.int .i64 (Sy.path s l)) ∧ w = w' := by
  by_cases h : 0 ≤ s ∧ s ≤ 256
  · by_cases h9 : l = 9
    · subst h9
      rw [Sy.path_nine h]
      obtain ⟨h0, h1⟩ := h
      go_enter Tryd.func26, Tryd.ntmps26
      go_wp2_with fail
      refine (ris_yes _ (by omega)).mono ?_; rintro e w' ⟨rfl, rfl⟩
      go_wp2_with fail
      go_ret
      exact ⟨rfl, rfl⟩
    · by_cases h2 : 0 ≤ l
      · by_cases h3 : l ≤ 9
        · rw [Sy.path_of h ⟨h2, h3⟩]
          have hd := Sy.div_rng h (9 - l).toNat
          obtain ⟨h0, h1⟩ := h
          go_enter Tryd.func26, Tryd.ntmps26
          go_wp2_with fail
          refine (ris_yes _ (by omega)).mono ?_; rintro e w' ⟨rfl, rfl⟩
          go_wp2_with fail
          go_ret
          exact ⟨rfl, rfl⟩
        · rw [Sy.path_none (fun k => by omega)]
          go_enter Tryd.func26, Tryd.ntmps26
          go_wp2_with fail
          refine (ris_yes _ h).mono ?_; rintro e w' ⟨rfl, rfl⟩
          go_wp2_with fail
          go_ret
          exact ⟨rfl, rfl⟩
      · rw [Sy.path_none (fun k => by omega)]
        go_enter Tryd.func26, Tryd.ntmps26
        go_wp2_with fail
        refine (ris_yes _ h).mono ?_; rintro e w' ⟨rfl, rfl⟩
        go_wp2_with fail
        go_ret
        exact ⟨rfl, rfl⟩
  · rw [Sy.path_none (fun k => h k.1)]
    go_enter Tryd.func26, Tryd.ntmps26
    go_wp2_with fail
    refine (ris_no _ h).mono ?_; rintro e w' ⟨rfl, rfl⟩
    go_wp2_with fail
    go_ret
    exact ⟨rfl, rfl⟩
theorem rbit (s l : Int) (w : World) : Calls Tryd.prog 27 #[.int .i64 s, .int .i64 l] w fun e w' => e = .returned (.bool (Sy.bit s l)) ∧ w = w' := by
  by_cases h : 0 ≤ s ∧ s ≤ 256
  · by_cases h2 : 0 ≤ l
    · by_cases h3 : l ≤ 8
      · rw [Sy.bit_of h ⟨h2, h3⟩, Sy.path_of h (by omega), show (9 - (l + 1)) = 8 - l by omega]
        have hd := Sy.div_rng h (8 - l).toNat
        have hs := Lib.hid h
        clear h
        go_enter Tryd.func27, Tryd.ntmps27
        go_wp2_with fail
        refine (ris_yes _ hs.out).mono ?_; rintro e w' ⟨rfl, rfl⟩
        go_wp2_with fail
        go_ret
        exact ⟨congrArg (fun b => Ending.returned (Value.bool b)) (and_one hd), rfl⟩
      · rw [Sy.bit_none (fun k => by omega)]
        go_enter Tryd.func27, Tryd.ntmps27
        go_wp2_with fail
        refine (ris_yes _ h).mono ?_; rintro e w' ⟨rfl, rfl⟩
        go_wp2_with fail
        go_ret
        exact ⟨rfl, rfl⟩
    · rw [Sy.bit_none (fun k => by omega)]
      go_enter Tryd.func27, Tryd.ntmps27
      go_wp2_with fail
      refine (ris_yes _ h).mono ?_; rintro e w' ⟨rfl, rfl⟩
      go_wp2_with fail
      go_ret
      exact ⟨rfl, rfl⟩
  · rw [Sy.bit_none (fun k => h k.1)]
    go_enter Tryd.func27, Tryd.ntmps27
    go_wp2_with fail
    refine (ris_no _ h).mono ?_; rintro e w' ⟨rfl, rfl⟩
    go_wp2_with fail
    go_ret
    exact ⟨rfl, rfl⟩
end Go.Proofs.YtaglnomjlnlgoaaDoor
