/- A slice of steps that came in, opened; BlockPlays as its row wants it. -/
import Derived.Test.YtihekandplocmaaDoorL2Plays
import Derived.Deep.Slices
namespace Go.Proofs.YtihekandplocmaaDoor
open Go Go.ChangeShapes Go.WideShapes Go.ChangeAt Go.RowKit
theorem add_none (b off j : Nat) : (⟨b, off, none⟩ : Addr).add j = ⟨b, off + j, none⟩ := by simp [Addr.add]
theorem open_ops {H : Type} {enc : TypeId × Value → H} {w : World} {base : Nat} {spare : Nat → Bool} {held : Bool} {fuel : Nat} {a : Option Addr} {len cap : Nat} {x : DataW H × List MemPlace}
    (h : DataW.trod enc Tryd.prog w base spare held fuel 23 [.slice a len cap] = some x) : RdOps w a len := by
  rcases Go.Deep.open_slice Tryd.underlying23 h with ⟨hc, _⟩ | ⟨ad, l, c, m, n, D, Pl, hc, hb, hl, hmx, hm, _, hel⟩
  · simp at hc
    obtain ⟨rfl, rfl, rfl⟩ := hc
    exact ⟨by decide, fun h => by omega⟩
  · simp at hc
    obtain ⟨rfl, rfl, rfl⟩ := hc
    have hlm : len ≤ m := by rw [hm]; split <;> omega
    have hC : Tryd.prog.cellsOf 31 = 3 := by kernel_rfl
    have hC1 : Tryd.prog.cellsOf 3 = 1 := by kernel_rfl
    have hC2 : Tryd.prog.cellsOf 4 = 1 := by kernel_rfl
    have key : ∀ i, i < len → ∃ (z k : Int) (b : Bool), w.cell? (ad.add (i * 3)) = some (.int .i64 z) ∧ w.cell? (ad.add (i * 3 + 1)) = some (.int .i64 k) ∧ w.cell? (ad.add (i * 3 + 2)) = some (.bool b) ∧ (Lit.int .i64 z).wf = true ∧ (Lit.int .i64 k).wf = true := by
      intro i hi
      obtain ⟨cs', hcs, ht'⟩ := hel i (by omega)
      obtain ⟨ys, n', _, _, hlen, hyl, hf⟩ := DataW.trod_struct Tryd.underlying31 ht'
      obtain ⟨_, hcl, hat⟩ := World.cells?_some hcs
      rw [hC] at hcl hat
      match cs', hcl with
      | [v0, v1, v2], _ =>
        have e0 : DataW.trod enc Tryd.prog w base spare held n' 3 (([v0, v1, v2].drop 0).take (Tryd.prog.cellsOf 3)) = ys[0]? := hf 0 _ rfl
        have e1 : DataW.trod enc Tryd.prog w base spare held n' 3 (([v0, v1, v2].drop 1).take (Tryd.prog.cellsOf 3)) = ys[1]? := hf 1 _ rfl
        have e2 : DataW.trod enc Tryd.prog w base spare held n' 4 (([v0, v1, v2].drop 2).take (Tryd.prog.cellsOf 4)) = ys[2]? := hf 2 _ rfl
        rw [hC1] at e0 e1
        rw [hC2] at e2
        have hy0 : ys[0]? = some (ys[0]'(by rw [hyl]; decide)) := List.getElem?_eq_getElem _
        have hy1 : ys[1]? = some (ys[1]'(by rw [hyl]; decide)) := List.getElem?_eq_getElem _
        have hy2 : ys[2]? = some (ys[2]'(by rw [hyl]; decide)) := List.getElem?_eq_getElem _
        obtain ⟨z, hz, _, wz⟩ := DataW.trod_int Tryd.underlying3 (e0.trans hy0)
        obtain ⟨k, hk, _, wk⟩ := DataW.trod_int Tryd.underlying3 (e1.trans hy1)
        obtain ⟨b, hbb, _⟩ := DataW.trod_bool Tryd.underlying4 (e2.trans hy2)
        simp at hz hk hbb
        subst hz hk hbb
        have a0 := hat 0 (by decide)
        have a1 := hat 1 (by decide)
        have a2 := hat 2 (by decide)
        refine ⟨z, k, b, ?_, ?_, ?_, wz, wk⟩
        · simpa [Addr.add, hC] using a0
        · rw [← Go.Deep.add_add, ← hC]; exact a1
        · rw [← Go.Deep.add_add, ← hC]; exact a2
    refine ⟨by omega, fun hpos => ?_⟩
    obtain ⟨b, off, spot⟩ := ad
    have hsp : spot = none := by
      obtain ⟨z, k, c, h0, _⟩ := key 0 hpos
      cases spot with
      | none => rfl
      | some s => simp [World.cell?, Addr.add] at h0; split at h0 <;> simp_all
    subst hsp
    obtain ⟨z, k, c, h0, _⟩ := key 0 hpos
    refine ⟨b, off, rfl, block_lt_of_cell h0, fun i hi => ?_⟩
    obtain ⟨z, k, c, h0, h1, h2, wz, wk⟩ := key i hi
    have bz := bounds_i64 wz
    have bk := bounds_i64 wk
    refine ⟨z, k, c, ?_, ?_, ?_, ⟨bz.1, bz.2⟩, bk.1, bk.2⟩
    · rw [add_none] at h0; exact h0
    · rw [add_none, ← Nat.add_assoc] at h1; exact h1
    · rw [add_none, ← Nat.add_assoc] at h2; exact h2
theorem plays_r (a0 : Option Addr) (len0 cap0 : Nat) (z0 : List Int) (a1 : Option Addr) (len1 cap1 : Nat) (W : World) (w0 : IsRow .i64 W a0 len0 cap0 z0) (w1 : RdOps W a1 len1) (hL : LaidFact W) :
    Calls Tryd.prog 3 #[.slice a0 len0 cap0, .slice a1 len1 cap1] W fun e w' => e = .returned (.bool true) ∧ Below W.heap.size W w' :=
  plays_w a0 len0 cap0 a1 len1 cap1 W (RdI.of_row w0) w1 hL
end Go.Proofs.YtihekandplocmaaDoor
