/- The document's own answer for symbols (scrimshawref6): Is, Bit, Path: contracts of the walk. -/
import Derived.Test.YtfncjkkdemeclaaSy
namespace Go.Proofs.Ytfncjkkdemeclaa
open Go Go.RowKit

theorem ris (s : Int) (w : World) : Calls Try.prog 37 #[.int .i64 s] w fun e w' => e = .returned (.bool (decide (0 ≤ s ∧ s ≤ 256))) ∧ w = w' := by
  by_cases h0 : 0 ≤ s
  · by_cases h1 : s < 257
    · rw [decide_eq_true (p := 0 ≤ s ∧ s ≤ 256) (by omega)]
      go_enter Try.func37, Try.ntmps37
      go_wp2
      go_ret
      exact ⟨rfl, rfl⟩
    · rw [decide_eq_false (p := 0 ≤ s ∧ s ≤ 256) (by omega)]
      go_enter Try.func37, Try.ntmps37
      go_wp2
      go_ret
      exact ⟨rfl, rfl⟩
  · rw [decide_eq_false (p := 0 ≤ s ∧ s ≤ 256) (by omega)]
    go_enter Try.func37, Try.ntmps37
    go_wp2
    go_ret
    exact ⟨rfl, rfl⟩
theorem ris_yes {s : Int} (w : World) (h : 0 ≤ s ∧ s ≤ 256) : Calls Try.prog 37 #[.int .i64 s] w fun e w' => e = .returned (.bool true) ∧ w = w' := by
  have := ris s w
  rwa [decide_eq_true (p := 0 ≤ s ∧ s ≤ 256) h] at this
theorem ris_no {s : Int} (w : World) (h : ¬ (0 ≤ s ∧ s ≤ 256)) : Calls Try.prog 37 #[.int .i64 s] w fun e w' => e = .returned (.bool false) ∧ w = w' := by
  have := ris s w
  rwa [decide_eq_false (p := 0 ≤ s ∧ s ≤ 256) h] at this
end Go.Proofs.Ytfncjkkdemeclaa
