/- TallyPlays' steps as they are read; the law's own array of counts. -/
import Derived.Test.YthpopoimnbleeaaTyG
import Derived.Deep.Slices
import Derived.OpenShut
namespace Go.Proofs.Ythpopoimnbleeaa
open Go Go.RowKit Go.ChangeAt

/-- A slice of steps, as it is read. -/
def RdOp8 (w : World) (a : Option Addr) (len : Nat) : Prop :=
  len ≤ maxLen ∧ (0 < len → ∃ b off, a = some ⟨b, off, none⟩ ∧ b < w.heap.size ∧ ∀ i, i < len → ∃ (z k : Int), w.cell? ⟨b, off + i * 2, none⟩ = some (.int .i64 z) ∧ w.cell? ⟨b, off + i * 2 + 1, none⟩ = some (.int .i64 k) ∧ I64 z ∧ I64 k)
theorem add_none8 (b off j : Nat) : (⟨b, off, none⟩ : Addr).add j = ⟨b, off + j, none⟩ := by simp [Addr.add]
set_option maxRecDepth 100000 in
theorem open_ops8 {H : Type} {enc : TypeId × Value → H} {w : World} {base : Nat} {spare : Nat → Bool} {held : Bool} {fuel : Nat} {a : Option Addr} {len cap : Nat} {x : DataW H × List MemPlace}
    (h : DataW.trod enc Try.prog w base spare held fuel 32 [.slice a len cap] = some x) : RdOp8 w a len := by
  rcases Go.Deep.open_slice Try.underlying32 h with ⟨hc, _⟩ | ⟨ad, l, c, m, n, D, Pl, hc, hb, hl, hmx, hm, _, hel⟩
  · simp at hc
    obtain ⟨rfl, rfl, rfl⟩ := hc
    exact ⟨by decide, fun h => by omega⟩
  · simp at hc
    obtain ⟨rfl, rfl, rfl⟩ := hc
    have hlm : len ≤ m := by rw [hm]; split <;> omega
    have hC : Try.prog.cellsOf 35 = 2 := by kernel_rfl
    have hC1 : Try.prog.cellsOf 3 = 1 := by kernel_rfl
    have key : ∀ i, i < len → ∃ (z k : Int), w.cell? (ad.add (i * 2)) = some (.int .i64 z) ∧ w.cell? (ad.add (i * 2 + 1)) = some (.int .i64 k) ∧ (Lit.int .i64 z).wf = true ∧ (Lit.int .i64 k).wf = true := by
      intro i hi
      obtain ⟨cs', hcs, ht'⟩ := hel i (by omega)
      obtain ⟨ys, n', _, _, hlen, hyl, hf⟩ := DataW.trod_struct Try.underlying35 ht'
      obtain ⟨_, hcl, hat⟩ := World.cells?_some hcs
      rw [hC] at hcl hat
      match cs', hcl with
      | [v0, v1], _ =>
        have e0 : DataW.trod enc Try.prog w base spare held n' 3 (([v0, v1].drop 0).take (Try.prog.cellsOf 3)) = ys[0]? := hf 0 _ rfl
        have e1 : DataW.trod enc Try.prog w base spare held n' 3 (([v0, v1].drop 1).take (Try.prog.cellsOf 3)) = ys[1]? := hf 1 _ rfl
        rw [hC1] at e0 e1
        have hy0 : ys[0]? = some (ys[0]'(by rw [hyl]; decide)) := List.getElem?_eq_getElem _
        have hy1 : ys[1]? = some (ys[1]'(by rw [hyl]; decide)) := List.getElem?_eq_getElem _
        obtain ⟨z, hz, _, wz⟩ := DataW.trod_int Try.underlying3 (e0.trans hy0)
        obtain ⟨k, hk, _, wk⟩ := DataW.trod_int Try.underlying3 (e1.trans hy1)
        simp at hz hk
        subst hz hk
        have a0 := hat 0 (by decide)
        have a1 := hat 1 (by decide)
        refine ⟨z, k, ?_, ?_, wz, wk⟩
        · simpa [Addr.add, hC] using a0
        · rw [← Go.Deep.add_add, ← hC]; exact a1
    refine ⟨by omega, fun hpos => ?_⟩
    obtain ⟨b, off, spot⟩ := ad
    have hsp : spot = none := by
      obtain ⟨z, k, h0, _⟩ := key 0 hpos
      cases spot with
      | none => rfl
      | some s => simp [World.cell?, Addr.add] at h0; split at h0 <;> simp_all
    subst hsp
    obtain ⟨z, k, h0, _⟩ := key 0 hpos
    refine ⟨b, off, rfl, block_lt_of_cell h0, fun i hi => ?_⟩
    obtain ⟨z, k, h0, h1, wz, wk⟩ := key i hi
    have bz := bounds_i64 wz
    have bk := bounds_i64 wk
    refine ⟨z, k, ?_, ?_, ⟨bz.1, bz.2⟩, ⟨bk.1, bk.2⟩⟩
    · rw [add_none8] at h0; exact h0
    · rw [add_none8, ← Nat.add_assoc] at h1; exact h1
/-- Block A of the memory is an array of 257 counts. -/
def Cel (w : World) (A : Nat) (f : Ty.Cnt) : Prop :=
  ∃ c, w.heap[A]? = some (.cells c 33 (0, 0)) ∧ c.size = 257 ∧ ∀ i, i < 257 → c[i]? = some (.int .i64 (f i))
theorem Cel.cell {w : World} {A : Nat} {f : Ty.Cnt} (h : Cel w A f) {i : Nat} (hi : i < 257) : w.cell? ⟨A, i, none⟩ = some (.int .i64 (f i)) := by
  obtain ⟨c, h1, _, h3⟩ := h
  exact (cell_of h1).trans (h3 i hi)
theorem Cel.free {w : World} {A : Nat} {f : Ty.Cnt} (h : Cel w A f) (i : Nat) : w.frozen? ⟨A, i, none⟩ = false := by
  obtain ⟨c, h1, _, _⟩ := h
  exact free_of h1
theorem Cel.lt {w : World} {A : Nat} {f : Ty.Cnt} (h : Cel w A f) : A < w.heap.size := by
  obtain ⟨c, h1, _, _⟩ := h
  exact (Array.getElem?_eq_some_iff.1 h1).1
theorem Cel.stay {w w' : World} {A : Nat} {f : Ty.Cnt} {S : Nat → Prop} (h : Cel w A f) (hs : Stay S w w') (hn : ¬ S A) : Cel w' A f := by
  obtain ⟨c, h1, h2, h3⟩ := h
  exact ⟨c, hs.kept h1 hn, h2, h3⟩
theorem Cel.below {w w' : World} {A : Nat} {f : Ty.Cnt} (h : Cel w A f) (hs : Below w.heap.size w w') : Cel w' A f := h.stay (Stay.of_below (S := fun _ => False) hs) (fun e => e)
theorem Cel.set {w : World} {A : Nat} {f : Ty.Cnt} (h : Cel w A f) (i v : Nat) : Cel (w.setCell ⟨A, i, none⟩ (.int .i64 v)) A (Ty.add f i v) := by
  obtain ⟨c, h1, h2, h3⟩ := h
  refine ⟨_, set_of h1 _, by rw [Array.size_setIfInBounds]; exact h2, fun j hj => ?_⟩
  by_cases e : j = i
  · subst e
    rw [Ty.add_at, Array.getElem?_setIfInBounds_self_of_lt (by omega)]
  · rw [Ty.add_ne f v e, Array.getElem?_setIfInBounds_ne (Ne.symm e)]
    exact h3 j hj
theorem infoC : (Try.prog.info? 33).map (fun i => i.zero) = some (some (.agg (Array.replicate 257 (.int .i64 0)))) := by kernel_rfl
theorem zeroC : ∃ zs : Array Value, (∀ w, (zeroValue 33).run Try.prog w = .ok (.agg zs) w) ∧ zs.size = 257 ∧ ∀ j, j < 257 → zs[j]? = some (.int .i64 0) := by
  refine ⟨Array.replicate 257 (.int .i64 0), fun w => ?_, Array.size_replicate, fun j hj => by rw [Array.getElem?_replicate, if_pos hj]⟩
  obtain ⟨i, hi, hz⟩ := Option.map_eq_some_iff.1 infoC
  simp [zeroValue, typeInfo, hi, hz]
theorem Cel.new {w : World} {zs : Array Value} (hn : zs.size = 257) (hz : ∀ j, j < 257 → zs[j]? = some (.int .i64 0)) : Cel (w.alloc (.cells zs 33)) w.heap.size (Ty.of []) :=
  ⟨zs, alloc_of, hn, fun i hi => by rw [hz i hi]; rfl⟩
/-- The tally and the array, side by side. -/
structure Pl8 (B : Nat) (W wr : World) (t A : Nat) (f : Ty.Cnt) : Prop where
  ts : Tst B W wr t f
  cl : Cel wr A f
  ne : A ≠ t
  lo : B ≤ A
theorem Pl8.beside {B : Nat} {W w w' : World} {t A : Nat} {f : Ty.Cnt} (h : Pl8 B W w t A f) (hb : Below w.heap.size w w') : Pl8 B W w' t A f := ⟨h.ts.beside hb, h.cl.below hb, h.ne, h.lo⟩
theorem Pl8.read {B : Nat} {W w w' : World} {t A : Nat} {f : Ty.Cnt} (h : Pl8 B W w t A f) (ht : Tst B W w' t f) (hs : Stay (· = t) w w') : Pl8 B W w' t A f := ⟨ht, h.cl.stay hs h.ne, h.ne, h.lo⟩
/-- The array follows the tally. -/
theorem Pl8.set {B : Nat} {W w w' : World} {t A : Nat} {f : Ty.Cnt} {i v : Nat} (h : Pl8 B W w t A f) (ht : Tst B W w' t (Ty.add f i v)) (hs : Stay (· = t) w w') : Pl8 B W (w'.setCell ⟨A, i, none⟩ (.int .i64 v)) t A (Ty.add f i v) := by
  have hc := (h.cl.stay hs h.ne).set i v
  have h1 : Stay (· = A) w' (w'.setCell ⟨A, i, none⟩ (.int .i64 v)) := Stay.setCell (S := fun k => k = A) (Stay.refl _ _) (p := ⟨A, i, none⟩) (.inr rfl) _
  exact ⟨ht.aside h1 (fun e => h.ne e.symm) (fun k _ (e : k = A) => e ▸ h.lo), hc, h.ne, h.lo⟩
end Go.Proofs.Ythpopoimnbleeaa
