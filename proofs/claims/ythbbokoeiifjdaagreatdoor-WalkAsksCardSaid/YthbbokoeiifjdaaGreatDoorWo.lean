/- Waves as the statements use them: what is asked of their calls (a record of contracts, to be paid by the code's own); slices of shapes, read. -/
import Derived.Test.YthbbokoeiifjdaaGreatDoorWvg
import Derived.Test.YthbbokoeiifjdaaGreatDoorBlo
import Derived.Test.YthbbokoeiifjdaaGreatDoorAre
import Derived.Test.YthbbokoeiifjdaaGreatDoorFbm
namespace Go.Proofs.YthbbokoeiifjdaaGreatDoor
open Go Go.RowKit Go.ChangeAt

abbrev Sh := Int × Int × Int × Int
/-- A slice of shapes, as it is read. -/
def RdS (w : World) (a : Option Addr) (l : List Sh) : Prop :=
  l.length ≤ 1000000 ∧ (0 < l.length → ∃ b off, a = some ⟨b, off, none⟩ ∧ b < w.heap.size ∧ ∀ i, i < l.length →
    ∃ L H V N : Int, l.getD i (0, 0, 0, 0) = (L, H, V, N) ∧ L ≤ 9223372036854775807 ∧ H ≤ 9223372036854775807 ∧ V ≤ 9223372036854775807 ∧
      w.cell? ⟨b, off + i * 4, none⟩ = some (.int .i64 L) ∧ w.cell? ⟨b, off + i * 4 + 1, none⟩ = some (.int .i64 H) ∧
      w.cell? ⟨b, off + i * 4 + 2, none⟩ = some (.int .i64 V) ∧ w.cell? ⟨b, off + i * 4 + 3, none⟩ = some (.int .i64 N))
theorem RdS.nil (w : World) (a : Option Addr) : RdS w a [] := ⟨by decide, fun h => absurd h (by decide)⟩
theorem RdS.below {w w' : World} {a : Option Addr} {l : List Sh} (h : RdS w a l) (hb : Below w.heap.size w w') : RdS w' a l := by
  refine ⟨h.1, fun hp => ?_⟩
  obtain ⟨b, off, ha, hlt, hc⟩ := h.2 hp
  refine ⟨b, off, ha, Nat.lt_of_lt_of_le hlt hb.size, fun i hi => ?_⟩
  obtain ⟨L, H, V, N, h1, h2, h3, h4, c0, c1, c2, c3⟩ := hc i hi
  exact ⟨L, H, V, N, h1, h2, h3, h4, (hb.cell (p := ⟨b, _, none⟩) hlt).trans c0, (hb.cell (p := ⟨b, _, none⟩) hlt).trans c1, (hb.cell (p := ⟨b, _, none⟩) hlt).trans c2, (hb.cell (p := ⟨b, _, none⟩) hlt).trans c3⟩
/-- The greatest height of some shapes, from a least one on. -/
def hiS (h : Int) (l : List Sh) : Int := l.foldl (fun h s => max h s.2.1) h
theorem hiS_succ {l : List Sh} {k : Nat} (h0 : Int) (h : k < l.length) {L H V N : Int} (hs : l.getD k (0, 0, 0, 0) = (L, H, V, N)) : hiS h0 (l.take (k + 1)) = max (hiS h0 (l.take k)) H := by
  have e : l[k] = (L, H, V, N) := by rw [← hs, List.getD_eq_getElem?_getD, List.getElem?_eq_getElem h]; rfl
  unfold hiS
  rw [List.take_succ_eq_append_getElem h, List.foldl_append, e]
  rfl
theorem hiS_ge (l : List Sh) : ∀ h0 : Int, h0 ≤ hiS h0 l := by
  induction l with
  | nil => intro h0; exact Int.le_refl _
  | cons s l ih => intro h0; have := ih (max h0 s.2.1); show h0 ≤ hiS (max h0 s.2.1) l; omega
theorem hiS_max (l : List Sh) : ∀ h0 : Int, 0 ≤ h0 → hiS h0 l = max h0 (hiS 0 l) := by
  induction l with
  | nil => intro h0 hp; show h0 = max h0 0; omega
  | cons s l ih =>
    intro h0 hp
    show hiS (max h0 s.2.1) l = max h0 (hiS (max 0 s.2.1) l)
    rw [ih (max h0 s.2.1) (by omega), ih (max 0 s.2.1) (by omega)]
    omega
theorem hiS_le (l : List Sh) (B : Int) : (∀ s ∈ l, s.2.1 ≤ B) → ∀ h0 : Int, h0 ≤ B → hiS h0 l ≤ B := by
  induction l with
  | nil => intro _ h0 h; exact h
  | cons s l ih =>
    intro hl h0 h
    have h1 := hl s (List.mem_cons_self ..)
    exact ih (fun x hx => hl x (List.mem_cons_of_mem _ hx)) (max h0 s.2.1) (by omega)

end Go.Proofs.YthbbokoeiifjdaaGreatDoor
