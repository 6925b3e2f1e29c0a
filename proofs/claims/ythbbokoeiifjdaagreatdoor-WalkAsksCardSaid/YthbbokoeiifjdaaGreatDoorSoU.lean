/- Layer 9's statements as walks: SortedAsks. -/
import Derived.Test.YthbbokoeiifjdaaGreatDoorSoi
import Derived.IntWalk
import Derived.Deep.DeepCutAuto
namespace Go.Proofs.YthbbokoeiifjdaaGreatDoor
open Go Go.RowKit Go.ChangeAt

/-- A slice of integers that came in, as it is read. -/
theorem RdL.of_row {w : World} {a : Option Addr} {len cap : Nat} {zs : List Int} (h : IsRow .i64 w a len cap zs) : ∃ l : List Int, l.length = len ∧ RdL w a cap l := by
  rcases h with ⟨rfl, rfl, rfl, rfl⟩ | ⟨x, rfl, hlc, hm, hz, hcell, hwf⟩
  · exact ⟨[], rfl, RdL.nil w⟩
  · have hl : (zs.take len).length = len := by rw [List.length_take]; omega
    refine ⟨zs.take len, hl, by omega, hm, (fun e => by cases e), fun hp => ?_⟩
    obtain ⟨b, off, rfl, hc⟩ := ints_at hcell (by omega)
    refine ⟨b, off, rfl, block_lt_of_cell (hc 0 (by omega)), fun i hi => ?_⟩
    rw [hc i (by omega), List.getD_eq_getElem?_getD, List.getD_eq_getElem?_getD, List.getElem?_take_of_lt (by omega)]
/-- What the document's Back answers. -/
theorem r6back_of {a : Option Addr} {cap n : Nat} {l : List Int} (t : List UInt8) (w : World) (h : RdL w a cap l) (hl : l.length = n) (hm : n ≤ 100000) (ht : Lx t = l) :
    Calls Tryz.prog 12 #[.slice a n cap] w fun e w' => e = .returned (.tuple #[.string (str t), .bool true]) ∧ Below w.heap.size w w' := by
  refine (r6back w h hl hm).mono ?_
  rintro e w' ⟨⟨t', h1, rfl⟩ | ⟨h1, _⟩, hb⟩
  · obtain rfl := Lx_inj (ht.trans h1.symm)
    exact ⟨rfl, hb⟩
  · exact absurd ht (h1 t)
theorem r6back_no {a : Option Addr} {cap n : Nat} {l : List Int} (w : World) (h : RdL w a cap l) (hl : l.length = n) (hm : n ≤ 100000) (ht : ∀ t, Lx t ≠ l) :
    Calls Tryz.prog 12 #[.slice a n cap] w fun e w' => e = .returned (.tuple #[.string (str []), .bool false]) ∧ Below w.heap.size w w' := by
  refine (r6back w h hl hm).mono ?_
  rintro e w' ⟨⟨t', h1, _⟩ | ⟨_, rfl⟩, hb⟩
  · exact absurd h1 (ht t')
  · exact ⟨rfl, hb⟩

end Go.Proofs.YthbbokoeiifjdaaGreatDoor
