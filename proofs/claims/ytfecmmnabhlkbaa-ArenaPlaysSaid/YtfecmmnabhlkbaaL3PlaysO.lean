/- A slice of steps that came in, each with a list of numbers, opened; ArenaPlays as its row wants it. -/
import Derived.Test.YtfecmmnabhlkbaaL3PlaysW
import Derived.Deep.Slices
namespace Go.Proofs.Ytfecmmnabhlkbaa
open Go Go.ChangeShapes Go.WideShapes Go.ChangeAt Go.RowKit
theorem add_none (b off j : Nat) : (⟨b, off, none⟩ : Addr).add j = ⟨b, off + j, none⟩ := by simp [Addr.add]
/-- A slice of integers inside another value. -/
theorem open_in {H : Type} {enc : TypeId × Value → H} {w : World} {base : Nat} {spare : Nat → Bool} {held : Bool} {fuel : Nat} {v : Value} {x : DataW H × List MemPlace}
    (h : DataW.trod enc Try.prog w base spare held fuel 26 [v] = some x) : ∃ (la : Option Addr) (lc : Nat) (l : List Int), v = .slice la l.length lc ∧ RdL w la lc l := by
  have hC : Try.prog.cellsOf 3 = 1 := by kernel_rfl
  rcases Go.Deep.open_slice1 Try.underlying26 hC h with ⟨hc, _⟩ | ⟨ad, len, cap, m, n, V, D, Pl, hc, hb, hl, hmx, hm, _, hel⟩
  · simp at hc
    subst hc
    exact ⟨none, 0, [], rfl, RdL.nil w⟩
  · simp at hc
    subst hc
    have hlm : len ≤ m := by rw [hm]; split <;> omega
    have key : ∀ i, i < len → w.cell? (ad.add i) = some (.int .i64 (intOf (V i))) := by
      intro i hi
      obtain ⟨h1, h2⟩ := hel i (by omega)
      obtain ⟨k, hk, _, _⟩ := DataW.trod_int Try.underlying3 h2
      simp at hk
      rw [h1, hk]
      rfl
    have hlen : ((List.range len).map (fun i => intOf (V i))).length = len := by simp
    refine ⟨some ad, cap, (List.range len).map (fun i => intOf (V i)), by rw [hlen], ⟨by rw [hlen]; exact hl, hmx, (fun e => by cases e), fun hp => ?_⟩⟩
    rw [hlen] at hp
    obtain ⟨b, off, spot⟩ := ad
    have hsp : spot = none := by
      have h0 := key 0 hp
      cases spot with
      | none => rfl
      | some s => simp [World.cell?, Addr.add] at h0; split at h0 <;> simp_all
    subst hsp
    have h0 := key 0 hp
    refine ⟨b, off, rfl, by rw [add_none] at h0; exact block_lt_of_cell h0, fun i hi => ?_⟩
    rw [hlen] at hi
    have := key i hi
    rw [add_none] at this
    rw [this, List.getD_eq_getElem?_getD, List.getElem?_map, List.getElem?_range hi]
    rfl
theorem open_ops {H : Type} {enc : TypeId × Value → H} {w : World} {base : Nat} {spare : Nat → Bool} {held : Bool} {fuel : Nat} {a : Option Addr} {len cap : Nat} {x : DataW H × List MemPlace}
    (h : DataW.trod enc Try.prog w base spare held fuel 32 [.slice a len cap] = some x) : RdOps w a len := by
  rcases Go.Deep.open_slice Try.underlying32 h with ⟨hc, _⟩ | ⟨ad, l, c, m, n, D, Pl, hc, hb, hl, hmx, hm, _, hel⟩
  · simp at hc
    obtain ⟨rfl, rfl, rfl⟩ := hc
    exact ⟨by decide, fun h => by omega⟩
  · simp at hc
    obtain ⟨rfl, rfl, rfl⟩ := hc
    have hlm : len ≤ m := by rw [hm]; split <;> omega
    have hC : Try.prog.cellsOf 36 = 2 := by kernel_rfl
    have hC1 : Try.prog.cellsOf 3 = 1 := by kernel_rfl
    have hC2 : Try.prog.cellsOf 26 = 1 := by kernel_rfl
    have key : ∀ i, i < len → ∃ (z : Int) (la : Option Addr) (lc : Nat) (l : List Int), w.cell? (ad.add (i * 2)) = some (.int .i64 z) ∧ w.cell? (ad.add (i * 2 + 1)) = some (.slice la l.length lc) ∧ RdL w la lc l ∧ (Lit.int .i64 z).wf = true := by
      intro i hi
      obtain ⟨cs', hcs, ht'⟩ := hel i (by omega)
      obtain ⟨ys, n', _, _, hlen, hyl, hf⟩ := DataW.trod_struct Try.underlying36 ht'
      obtain ⟨_, hcl, hat⟩ := World.cells?_some hcs
      rw [hC] at hcl hat
      match cs', hcl with
      | [v0, v1], _ =>
        have e0 : DataW.trod enc Try.prog w base spare held n' 3 (([v0, v1].drop 0).take (Try.prog.cellsOf 3)) = ys[0]? := hf 0 _ rfl
        have e1 : DataW.trod enc Try.prog w base spare held n' 26 (([v0, v1].drop 1).take (Try.prog.cellsOf 26)) = ys[1]? := hf 1 _ rfl
        rw [hC1] at e0
        rw [hC2] at e1
        have hy0 : ys[0]? = some (ys[0]'(by rw [hyl]; decide)) := List.getElem?_eq_getElem _
        have hy1 : ys[1]? = some (ys[1]'(by rw [hyl]; decide)) := List.getElem?_eq_getElem _
        obtain ⟨z, hz, _, wz⟩ := DataW.trod_int Try.underlying3 (e0.trans hy0)
        have e1' : DataW.trod enc Try.prog w base spare held n' 26 [v1] = some _ := e1.trans hy1
        obtain ⟨la, lc, l, hv, hrd⟩ := open_in e1'
        simp at hz
        subst hz hv
        have a0 := hat 0 (by decide)
        have a1 := hat 1 (by decide)
        refine ⟨z, la, lc, l, ?_, ?_, hrd, wz⟩
        · simpa [Addr.add, hC] using a0
        · rw [← Go.Deep.add_add, ← hC]; exact a1
    refine ⟨by omega, fun hpos => ?_⟩
    obtain ⟨b, off, spot⟩ := ad
    have hsp : spot = none := by
      obtain ⟨z, la, lc, l, h0, _⟩ := key 0 hpos
      cases spot with
      | none => rfl
      | some s => simp [World.cell?, Addr.add] at h0; split at h0 <;> simp_all
    subst hsp
    obtain ⟨z, la, lc, l, h0, _⟩ := key 0 hpos
    refine ⟨b, off, rfl, by rw [add_none] at h0; exact block_lt_of_cell h0, fun i hi => ?_⟩
    obtain ⟨z, la, lc, l, h0, h1, h2, wz⟩ := key i hi
    have bz := bounds_i64 wz
    refine ⟨z, la, lc, l, ?_, ?_, h2, bz.1, bz.2⟩
    · rw [add_none] at h0; exact h0
    · rw [add_none, ← Nat.add_assoc] at h1; exact h1
theorem plays_r (a0 : Int) (a1 : Option Addr) (len1 cap1 : Nat) (W : World) (w0 : (Lit.int .i64 a0).wf = true) (w1 : RdOps W a1 len1) :
    Calls Try.prog 4 #[.int .i64 a0, .slice a1 len1 cap1] W fun e w' => e = .returned (.bool true) ∧ Below W.heap.size W w' :=
  plays_w a0 a1 len1 cap1 W w0 w1
end Go.Proofs.Ytfecmmnabhlkbaa
