/- Symbols (chapter 6): lists of bytes as they are read; the parts of a text; the contracts of length and All. -/
import Derived.Test.YtaglnomjlnlgoaaDoorSy
import Derived.Test.YtaglnomjlnlgoaaDoorAre
namespace Go.Proofs.YtaglnomjlnlgoaaDoor
open Go Go.RowKit Go.ChangeAt

/-- The symbols of bytes, without the end. -/
def Sy.of (l : List UInt8) : List Int := l.map fun b => (b.toNat : Int) + 1
theorem Sy.of_len (l : List UInt8) : (Sy.of l).length = l.length := by unfold Sy.of; exact List.length_map _
theorem Sy.of_app (l m : List UInt8) : Sy.of (l ++ m) = Sy.of l ++ Sy.of m := by unfold Sy.of; exact List.map_append
theorem Sy.of_one (b : UInt8) : Sy.of [b] = [(b.toNat : Int) + 1] := rfl
theorem Sy.take_of (l : List UInt8) {m : Nat} (h : m < l.length) : Sy.of (l.take (m + 1)) = Sy.of (l.take m) ++ [((l.getD m 0).toNat : Int) + 1] := by
  rw [List.take_succ_eq_append_getElem h, Sy.of_app, Sy.of_one, List.getD_eq_getElem?_getD, List.getElem?_eq_getElem h]
  rfl

/-- A slice of bytes, as it is read. -/
def RdU (w : World) (a : Option Addr) (cap : Nat) (l : List UInt8) : Prop :=
  l.length ≤ cap ∧ cap ≤ maxLen ∧ (0 < l.length → ∃ b off, a = some ⟨b, off, none⟩ ∧ b < w.heap.size ∧ ∀ i, i < l.length → w.cell? ⟨b, off + i, none⟩ = some (.int .u8 ((l.getD i 0).toNat : Int)))
theorem RdU.nil (w : World) (a : Option Addr) (cap : Nat) (h : cap ≤ maxLen) : RdU w a cap [] := ⟨Nat.zero_le _, h, fun h => absurd h (by decide)⟩
theorem RdU.stay {w w' : World} {S : Nat → Prop} {a : Option Addr} {cap : Nat} {l : List UInt8} (h : RdU w a cap l) (hb : Stay S w w') (hs : 0 < l.length → ∀ ad, a = some ad → ad.block < w.heap.size → ¬ S ad.block) : RdU w' a cap l := by
  obtain ⟨h1, h2, h4⟩ := h
  refine ⟨h1, h2, fun hp => ?_⟩
  obtain ⟨b, off, ha, hlt, hc⟩ := h4 hp
  exact ⟨b, off, ha, Nat.lt_of_lt_of_le hlt hb.size, fun i hi => (hb.cell (p := ⟨b, off + i, none⟩) hlt (hs hp ⟨b, off, none⟩ ha hlt)).trans (hc i hi)⟩
theorem RdU.below {w w' : World} {a : Option Addr} {cap : Nat} {l : List UInt8} (h : RdU w a cap l) (hb : Below w.heap.size w w') : RdU w' a cap l :=
  h.stay (Stay.of_below (S := fun _ => False) hb) (fun _ _ _ _ h => h)
/-- A row of bytes that came in, as it is read. -/
theorem RdU.of_row {w : World} {a : Option Addr} {len cap : Nat} {zs : List Int} (h : IsRow .u8 w a len cap zs) : ∃ l : List UInt8, l.length = len ∧ RdU w a cap l := by
  rcases h with ⟨rfl, rfl, rfl, rfl⟩ | ⟨x, rfl, hlc, hm, hz, hcell, hwf⟩
  · exact ⟨[], rfl, RdU.nil w _ _ (by decide)⟩
  · have hl : ((zs.take len).map fun n => UInt8.ofNat n.toNat).length = len := by rw [List.length_map, List.length_take]; omega
    refine ⟨(zs.take len).map fun n => UInt8.ofNat n.toNat, hl, by omega, hm, fun hpos => ?_⟩
    obtain ⟨b, off, rfl, hc⟩ := ints_at hcell (by omega)
    refine ⟨b, off, rfl, block_lt_of_cell (hc 0 (by omega)), fun i hi => ?_⟩
    have hi2 : i < zs.length := by omega
    have hb := bounds_u8 (hwf (zs[i]) (List.getElem_mem hi2))
    rw [hc i hi2, List.getD_eq_getElem?_getD, List.getD_eq_getElem?_getD, List.getElem?_eq_getElem hi2, List.getElem?_map, List.getElem?_take_of_lt (by omega), List.getElem?_eq_getElem hi2]
    simp
    omega

/-- A slice of slices of bytes, as it is read. -/
def RdP (w : World) (v : Value) (ps : List (List UInt8)) : Prop :=
  ∃ a cap, v = .slice a ps.length cap ∧ ps.length ≤ 1000000 ∧ (0 < ps.length → ∃ b off, a = some ⟨b, off, none⟩ ∧ b < w.heap.size ∧ ∀ i, i < ps.length → ∃ ai ci, w.cell? ⟨b, off + i, none⟩ = some (.slice ai (ps.getD i []).length ci) ∧ RdU w ai ci (ps.getD i []))
theorem RdP.below {w w' : World} {v : Value} {ps : List (List UInt8)} (h : RdP w v ps) (hb : Below w.heap.size w w') : RdP w' v ps := by
  obtain ⟨a, cap, rfl, h1, h2⟩ := h
  refine ⟨a, cap, rfl, h1, fun hp => ?_⟩
  obtain ⟨b, off, rfl, hlt, hc⟩ := h2 hp
  refine ⟨b, off, rfl, Nat.lt_of_lt_of_le hlt hb.size, fun i hi => ?_⟩
  obtain ⟨ai, ci, h3, h4⟩ := hc i hi
  exact ⟨ai, ci, (hb.cell (p := ⟨b, off + i, none⟩) hlt).trans h3, h4.below hb⟩
theorem Sy.flat_take (ps : List (List UInt8)) {m : Nat} (h : m < ps.length) : (ps.take (m + 1)).flatten = (ps.take m).flatten ++ ps.getD m [] := by
  rw [List.take_succ_eq_append_getElem h, List.flatten_append, List.getD_eq_getElem?_getD, List.getElem?_eq_getElem h]
  simp
theorem Sy.flat_le (ps : List (List UInt8)) (m : Nat) : (ps.take m).flatten.length ≤ ps.flatten.length := by
  have h : (ps.take m).flatten ++ (ps.drop m).flatten = ps.flatten := by rw [← List.flatten_append, List.take_append_drop]
  have := congrArg List.length h
  rw [List.length_append] at this
  omega

/-- How many bytes the first m parts have. -/
def Sy.tot (ps : List (List UInt8)) (m : Nat) : Nat := (ps.take m).flatten.length
theorem Sy.tot_succ {ps : List (List UInt8)} {m : Nat} (h : m < ps.length) : Sy.tot ps (m + 1) = Sy.tot ps m + (ps.getD m []).length := by
  unfold Sy.tot; rw [Sy.flat_take ps h, List.length_append]
theorem Sy.tot_le (ps : List (List UInt8)) (m : Nat) : Sy.tot ps m ≤ ps.flatten.length := Sy.flat_le ps m
theorem Sy.tot_all (ps : List (List UInt8)) {m : Nat} (h : ps.length ≤ m) : Sy.tot ps m = ps.flatten.length := by unfold Sy.tot; rw [List.take_of_length_le h]
theorem OwnI.push {base : Nat} {w : World} {v : Value} {l : List Int} {n : Nat} {k : Int} (hn : l.length = n) (h : w.ownsRow base 3 1 v (n + 1) (l.map (Value.int .i64) ++ [Value.int .i64 k])) : OwnI base w v (l ++ [k]) := by
  subst hn
  unfold OwnI
  rw [List.length_append, List.map_append]
  exact h
theorem u8_rng (b : UInt8) : (0 : Int) ≤ (b.toNat : Int) ∧ (b.toNat : Int) ≤ 255 := by
  have := b.toNat_lt
  omega
end Go.Proofs.YtaglnomjlnlgoaaDoor
