/- Visits of a wave. -/
import Derived.Test.YtaglnomjlnlgoaaGreatDoorWaa
namespace Go.Proofs.YtaglnomjlnlgoaaGreatDoor
open Go Go.RowKit Go.ChangeAt Tr

theorem wvisits {w : World} {x : Wx} {m : List Int} (h : Wav w x m) :
    Calls Tryz.prog 40 #[.pointer (some ⟨x.t, 0, none⟩)] w fun e w' => e = .returned (.int .i64 x.v) ∧ w = w' := by
  have q0 : w.cell? ⟨x.t, 1, none⟩ = some (.int .i64 x.v) := (cell_of h.web.top).trans rfl
  clear h
  go_enter Tryz.func40, Tryz.ntmps40
  go_wp2_with fail
  go_ret
  exact ⟨rfl, rfl⟩
end Go.Proofs.YtaglnomjlnlgoaaGreatDoor
