/- The listed variable of math/bits: what the row's condition on it gives a walk. -/
import Derived.Test.YthbbokoeiifjdaaGreatDoorBitsA
import Derived.Test.YthbbokoeiifjdaaGreatDoorRows
import Derived.ProofKit
import Derived.LaidMore
import Derived.OpenShut
import Derived.MakeChecks
import Derived.Laws.Rows
namespace Go.Proofs.YthbbokoeiifjdaaGreatDoor
open Go Go.ChangeShapes Go.WideShapes Go.ChangeAt Go.RowKit

def laidL : List (String × DataW Unit) := [("math/bits.deBruijn64tab", Rows.laid_math_bits_deBruijn64tab)]
theorem gTab : Tryz.prog.globalNamed "math/bits.deBruijn64tab" = some 0 := by kernel_rfl
theorem tTab : (Tryz.prog.globals[0]?).map (·.type) = some 142 := by kernel_rfl
theorem laid_met (os : Os) (args : Array Value) : laidMetH Tryz.prog laidL ((World.doorLaid Tryz.prog 400 os).forCall (fun _ _ => 0) ⟨#[], args, []⟩).memory :=
  laidMetH_of_parts3 (fuel := 8) (laidMet_of_run' 8 (by kernel_rfl) (by kernel_rfl)) (by kernel_rfl) (by kernel_rfl)
theorem laid_list : (Rows.laid_math_bits_deBruijn64tab : DataW Unit) = .agg (Lib.deBruijn64tab.map fun (n : Nat) => .lit (.int .u8 (n : Int))) := rfl
structure LaidFact (W : World) : Prop where
  tab : TabAt W
  pos : 0 < W.heap.size
theorem of_laid {W : World} (h : laidMetH Tryz.prog laidL W) : LaidFact W := by
  rw [MakeChecks.laidMetH_plain _ _ _ (by kernel_rfl)] at h
  obtain ⟨ps, ⟨g0, t0, cs0, f0, p0, q0, hg0, ht0, hv0, hd0, _, _⟩, _, _⟩ := h
  obtain rfl := Option.some.inj (gTab.symm.trans hg0)
  obtain rfl := Option.some.inj (tTab.symm.trans ht0)
  obtain ⟨xs, m1, rfl, hx1, hlen, hn3, hel⟩ := DataW.trod_array Tryz.underlying142 hd0
  have c1 : Tryz.prog.cellsOf 5 = 1 := by kernel_rfl
  have c64 : Tryz.prog.cellsOf 142 = 64 := by kernel_rfl
  rw [laid_list] at hx1
  simp only [Prod.mk.injEq, DataW.agg.injEq] at hx1
  have key : TabAt W := by
    intro j hj
    have h0 := hel j hj
    rw [c1] at h0
    have hxj : j < xs.length := by omega
    rw [List.getElem?_eq_getElem hxj] at h0
    obtain ⟨k, e1, e2, _⟩ := DataW.trod_int Tryz.underlying5 h0
    have e3 : (xs.map (·.1))[j]? = (Lib.deBruijn64tab.map fun (n : Nat) => (DataW.lit (.int .u8 (n : Int)) : DataW Unit))[j]? := by rw [← hx1.1]
    rw [List.getElem?_map, List.getElem?_eq_getElem hxj, List.getElem?_map, e2] at e3
    have hlj : j < Lib.deBruijn64tab.length := hj
    rw [List.getElem?_eq_getElem hlj] at e3
    simp at e3
    have e4 : Lib.deBruijn64tab.getD j 0 = Lib.deBruijn64tab[j] := by rw [List.getD_eq_getElem?_getD, List.getElem?_eq_getElem hlj]; rfl
    rw [World.var?_cell hg0 hv0 j, e4, ← e3]
    have hcl : j < cs0.toList.length := by omega
    rw [Nat.mul_one, List.drop_eq_getElem_cons hcl] at e1
    simp at e1
    rw [Array.getElem?_eq_getElem (by simpa using hcl), e1]
  exact ⟨key, block_lt_of_cell (key 0 (by decide))⟩
end Go.Proofs.YthbbokoeiifjdaaGreatDoor
