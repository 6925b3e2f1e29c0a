/- WavePlays as a walk over the code's own wave. -/
import Derived.Test.YtaglnomjlnlgoaaGreatDoorWaf
import Derived.Test.YtaglnomjlnlgoaaGreatDoorWaV
import Derived.Test.YtaglnomjlnlgoaaGreatDoorLaidB
import Derived.Test.YtaglnomjlnlgoaaGreatDoorLwH
namespace Go.Proofs.YtaglnomjlnlgoaaGreatDoor
open Go Go.RowKit Go.ChangeAt Tr Wk

theorem O7_vis : O7.Vis := fun {w t x m} h => by
  obtain ⟨rfl, h⟩ := h
  exact wvisits h
theorem waveplays_w (a0 : Option Addr) (len0 cap0 : Nat) (z0 : List Int) (few : Bool) (a2 : Option Addr) (len2 cap2 : Nat) (W : World) (r0 : IsRow .i64 W a0 len0 cap0 z0) (w2 : RdOps W a2 len2) (hL : LaidFact W) :
    Calls Tryz.prog 3 #[.slice a0 len0 cap0, .bool few, .slice a2 len2 cap2] W fun e w' => e = .returned (.bool true) ∧ Below W.heap.size W w' :=
  waveplays_o O7 O7_vis a0 len0 cap0 few a2 len2 cap2 W (RdZ.of_row r0) w2 hL.tab hL.pos
end Go.Proofs.YtaglnomjlnlgoaaGreatDoor
