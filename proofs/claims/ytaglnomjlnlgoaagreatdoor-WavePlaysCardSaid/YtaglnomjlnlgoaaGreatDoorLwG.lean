/- Stage 7: the list beside the wave, the steps that are played, In and Out of any list. -/
import Derived.Test.YtaglnomjlnlgoaaGreatDoorLwF
import Derived.OpenShut
import Derived.Deep.Slices
namespace Go.Proofs.YtaglnomjlnlgoaaGreatDoor
open Go Go.ChangeShapes Go.WideShapes Go.ChangeAt Go.RowKit

/-- A list that is read, and where it stands. -/
def RdF (w : World) (a : Option Addr) (cap : Nat) (l : List Int) : Prop := RdL w a cap l ∧ ((a = none ∧ cap = 0) ∨ ∃ b off, a = some ⟨b, off, none⟩ ∧ b < w.heap.size)
theorem RdF.stay {w w' : World} {S : Nat → Prop} {a : Option Addr} {cap : Nat} {l : List Int} (h : RdF w a cap l) (hb : Stay S w w') (hs : ∀ ad, a = some ad → ¬ S ad.block) : RdF w' a cap l :=
  ⟨h.1.stay hb (fun _ ad ha _ => hs ad ha), h.2.imp id fun ⟨b, off, ha, hlt⟩ => ⟨b, off, ha, Nat.lt_of_lt_of_le hlt hb.size⟩⟩
theorem RdF.below {w w' : World} {a : Option Addr} {cap : Nat} {l : List Int} (h : RdF w a cap l) (hb : Below w.heap.size w w') : RdF w' a cap l :=
  h.stay (Stay.of_below (S := fun _ => False) hb) (fun _ _ e => e)
theorem RdF.own {base : Nat} {w : World} {a : Option Addr} {cap : Nat} {l : List Int} (h : OwnI base w (.slice a l.length cap) l) : RdF w a cap l := by
  refine ⟨OwnI.rd h, ?_⟩
  rcases h.2 with ⟨hv, h0⟩ | ⟨g, cap', cur, hv, hb, hg, hn, hm, hs, ht⟩
  · simp at hv; exact .inl ⟨hv.1, hv.2.2⟩
  · simp at hv
    obtain ⟨rfl, rfl⟩ := hv
    exact .inr ⟨g, 0, rfl, lt_of_block hg⟩
/-- In and Out, of any list. -/
theorem r6in {l : List Int} {n : Nat} {a : Option Addr} {cap : Nat} (K : Int) (k : Nat) (x : Int) (m : List Int) (w : World) (h : RdF w a cap l) (hn : l.length = n) (hK : K = k) (hk : k ≤ n) (hl : n ≤ 1000000) (hm : Wv.ins l k x = m) :
    Calls Tryz.prog 13 #[.slice a n cap, .int .i64 K, .int .i64 x] w fun e w' => ∃ v, e = .returned v ∧ OwnI w.heap.size w' v m ∧ Below w.heap.size w w' := by
  subst hn hK hm
  rcases h.2 with ⟨rfl, rfl⟩ | ⟨b, off, rfl, hlt⟩
  · have h0 : l = [] := List.length_eq_zero_iff.1 (by have := h.1.1; omega)
    subst h0
    have hk0 : k = 0 := by simpa using hk
    subst hk0
    exact r6in_nil x w
  · refine r6in_any l b off cap k x w hk hlt (by omega) h.1.1 h.1.2.1 (fun i hi => ?_)
    obtain ⟨b', off', hb, _, hc⟩ := h.1.2.2.2 (by omega)
    injection hb with hb
    injection hb with h1 h2 h3
    subst h1 h2
    exact hc i hi
theorem r6out {l : List Int} {n : Nat} {a : Option Addr} {cap : Nat} (K : Int) (k : Nat) (m : List Int) (w : World) (h : RdF w a cap l) (hn : l.length = n) (hK : K = k) (hk : k < n) (hl : n ≤ 1000000) (hm : Wv.del l k = m) :
    Calls Tryz.prog 15 #[.slice a n cap, .int .i64 K] w fun e w' => ∃ v, e = .returned v ∧ OwnI w.heap.size w' v m ∧ Below w.heap.size w w' := by
  subst hn hK hm
  rcases h.2 with ⟨rfl, rfl⟩ | ⟨b, off, rfl, hlt⟩
  · have := h.1.1; omega
  · refine r6out_any l b off cap k w hk hlt (by omega) h.1.1 h.1.2.1 (fun i hi => ?_)
    obtain ⟨b', off', hb, _, hc⟩ := h.1.2.2.2 (by omega)
    injection hb with hb
    injection hb with h1 h2 h3
    subst h1 h2
    exact hc i hi

/-- The list beside the wave. -/
structure PlW (O : WOps) (B : Nat) (W wr : World) (t : Nat) (x : O.X) (m : List Int) (a : Option Addr) (cap : Nat) (l : List Int) : Prop where
  w : Wst O B W wr t x m
  rd : RdF wr a cap l
  off : ∀ ad, a = some ad → ¬ O.own x ad.block
theorem PlW.beside {O : WOps} {B : Nat} {W w w' : World} {t : Nat} {x : O.X} {m : List Int} {a : Option Addr} {cap : Nat} {l : List Int} (h : PlW O B W w t x m a cap l) (hb : Below w.heap.size w w') : PlW O B W w' t x m a cap l := ⟨h.w.beside hb, h.rd.below hb, h.off⟩
theorem PlW.next {O : WOps} {B : Nat} {W w w' : World} {t : Nat} {x x' : O.X} {m m' : List Int} {a : Option Addr} {cap : Nat} {l : List Int} (h : PlW O B W w t x m a cap l) (hw : Wst O B W w' t x' m') (hn : O.Nxt w w' x x') : PlW O B W w' t x' m' a cap l := by
  refine ⟨hw, h.rd.stay hn.1 h.off, fun ad ha e => ?_⟩
  rcases hn.2 _ e with e | e
  · exact h.off ad ha e
  · rcases h.rd.2 with ⟨h0, _⟩ | ⟨b, off, hb, hlt⟩
    · rw [h0] at ha; cases ha
    · rw [ha] at hb
      injection hb with hb
      subst hb
      have e' : w.heap.size ≤ b := e
      omega
/-- The list was made anew. -/
theorem PlW.own {O : WOps} {B : Nat} {W w w' : World} {t : Nat} {x : O.X} {m : List Int} {a : Option Addr} {cap : Nat} {l : List Int} (hw : Wst O B W w t x m) (h : OwnI w.heap.size w' (.slice a l.length cap) l) (hb : Below w.heap.size w w') : PlW O B W w' t x m a cap l := by
  refine ⟨hw.beside hb, RdF.own h, fun ad ha e => ?_⟩
  subst ha
  rcases h.2 with ⟨hv, h0⟩ | ⟨g, cap', cur, hv, hg0, hg, hn, hm, hs, ht⟩
  · cases hv
  · simp at hv
    have h1 := hw.lt _ e
    have h2 : ad.block = g := by rw [hv.1]
    omega
theorem OwnI.one {base : Nat} {w : World} {v : Value} {l : List Int} (h : OwnI base w v l) (hl : l.length = 1) : ∃ b cap, v = .slice (some ⟨b, 0, none⟩) 1 cap ∧ w.cell? ⟨b, 0, none⟩ = some (.int .i64 (l.getD 0 0)) := by
  obtain ⟨a, cap, rfl, _, _⟩ := own_form h
  obtain ⟨b, rfl, _, _, h3, _⟩ := OwnI.open h (by omega)
  exact ⟨b, cap, by rw [hl], h3 0 (by omega)⟩
/-- The step that is played, in its block. -/
def OpW (w : World) (ob : Nat) (z k c : Int) : Prop := w.heap[ob]? = some (.cells #[.int .i64 z, .int .i64 k, .int .i64 c] 32 (0, 0))
theorem OpW.c0 {w : World} {ob : Nat} {z k c : Int} (h : OpW w ob z k c) : w.cell? ⟨ob, 0, none⟩ = some (.int .i64 z) := cell_of h
theorem OpW.c1 {w : World} {ob : Nat} {z k c : Int} (h : OpW w ob z k c) : w.cell? ⟨ob, 1, none⟩ = some (.int .i64 k) := cell_of h
theorem OpW.c2 {w : World} {ob : Nat} {z k c : Int} (h : OpW w ob z k c) : w.cell? ⟨ob, 2, none⟩ = some (.int .i64 c) := cell_of h
theorem OpW.below {w w' : World} {ob : Nat} {z k c : Int} (h : OpW w ob z k c) (hb : Below w.heap.size w w') : OpW w' ob z k c := Below.keptB hb h (lt_of_block h)
theorem OpW.next {O : WOps} {w w' : World} {x x' : O.X} {ob : Nat} {z k c : Int} (h : OpW w ob z k c) (hn : O.Nxt w w' x x') (hs : ¬ O.own x ob) : OpW w' ob z k c := hn.1.kept h hs
theorem and7 (z : Int) : ∃ n : Nat, bits .and .i64 z 7 = (n : Int) ∧ n < 8 := by
  show ∃ n : Nat, IntKind.i64.wrap ((BitVec.ofInt 64 z &&& BitVec.ofInt 64 ((7 : Nat) : Int)).toNat : Int) = _ ∧ _
  have e7 : (BitVec.ofInt 64 ((7 : Nat) : Int)).toNat = 7 := rfl
  rw [BitVec.toNat_and, e7]
  generalize (BitVec.ofInt 64 z).toNat = x
  have h : x &&& 7 < 8 := Nat.and_lt_two_pow (n := 3) x (by decide)
  exact ⟨x &&& 7, IntWalk.i64_in _ (by omega), h⟩
/-- A slice of steps, as it is read. -/
def RdOps (w : World) (a : Option Addr) (len : Nat) : Prop :=
  len ≤ maxLen ∧ (0 < len → ∃ b off, a = some ⟨b, off, none⟩ ∧ b < w.heap.size ∧ ∀ i, i < len → ∃ (z k c : Int), w.cell? ⟨b, off + i * 3, none⟩ = some (.int .i64 z) ∧ w.cell? ⟨b, off + i * 3 + 1, none⟩ = some (.int .i64 k) ∧ w.cell? ⟨b, off + i * 3 + 2, none⟩ = some (.int .i64 c) ∧ (-9223372036854775808 ≤ z ∧ z ≤ 9223372036854775807) ∧ -9223372036854775808 ≤ k ∧ k ≤ 9223372036854775807)
theorem add_none (b off j : Nat) : (⟨b, off, none⟩ : Addr).add j = ⟨b, off + j, none⟩ := by simp [Addr.add]
set_option maxRecDepth 100000 in
theorem open_ops {H : Type} {enc : TypeId × Value → H} {w : World} {base : Nat} {spare : Nat → Bool} {held : Bool} {fuel : Nat} {a : Option Addr} {len cap : Nat} {x : DataW H × List MemPlace}
    (h : DataW.trod enc Tryz.prog w base spare held fuel 23 [.slice a len cap] = some x) : RdOps w a len := by
  rcases Go.Deep.open_slice Tryz.underlying23 h with ⟨hc, _⟩ | ⟨ad, l, c, m, n, D, Pl, hc, hb, hl, hmx, hm, _, hel⟩
  · simp at hc
    obtain ⟨rfl, rfl, rfl⟩ := hc
    exact ⟨by decide, fun h => by omega⟩
  · simp at hc
    obtain ⟨rfl, rfl, rfl⟩ := hc
    have hlm : len ≤ m := by rw [hm]; split <;> omega
    have hC : Tryz.prog.cellsOf 32 = 3 := by kernel_rfl
    have hC1 : Tryz.prog.cellsOf 3 = 1 := by kernel_rfl
    have key : ∀ i, i < len → ∃ (z k b : Int), w.cell? (ad.add (i * 3)) = some (.int .i64 z) ∧ w.cell? (ad.add (i * 3 + 1)) = some (.int .i64 k) ∧ w.cell? (ad.add (i * 3 + 2)) = some (.int .i64 b) ∧ (Lit.int .i64 z).wf = true ∧ (Lit.int .i64 k).wf = true := by
      intro i hi
      obtain ⟨cs', hcs, ht'⟩ := hel i (by omega)
      obtain ⟨ys, n', _, _, hlen, hyl, hf⟩ := DataW.trod_struct Tryz.underlying32 ht'
      obtain ⟨_, hcl, hat⟩ := World.cells?_some hcs
      rw [hC] at hcl hat
      match cs', hcl with
      | [v0, v1, v2], _ =>
        have e0 : DataW.trod enc Tryz.prog w base spare held n' 3 (([v0, v1, v2].drop 0).take (Tryz.prog.cellsOf 3)) = ys[0]? := hf 0 _ rfl
        have e1 : DataW.trod enc Tryz.prog w base spare held n' 3 (([v0, v1, v2].drop 1).take (Tryz.prog.cellsOf 3)) = ys[1]? := hf 1 _ rfl
        have e2 : DataW.trod enc Tryz.prog w base spare held n' 3 (([v0, v1, v2].drop 2).take (Tryz.prog.cellsOf 3)) = ys[2]? := hf 2 _ rfl
        rw [hC1] at e0 e1 e2
        have hy0 : ys[0]? = some (ys[0]'(by rw [hyl]; decide)) := List.getElem?_eq_getElem _
        have hy1 : ys[1]? = some (ys[1]'(by rw [hyl]; decide)) := List.getElem?_eq_getElem _
        have hy2 : ys[2]? = some (ys[2]'(by rw [hyl]; decide)) := List.getElem?_eq_getElem _
        obtain ⟨z, hz, _, wz⟩ := DataW.trod_int Tryz.underlying3 (e0.trans hy0)
        obtain ⟨k, hk, _, wk⟩ := DataW.trod_int Tryz.underlying3 (e1.trans hy1)
        obtain ⟨b, hbb, _, _⟩ := DataW.trod_int Tryz.underlying3 (e2.trans hy2)
        simp at hz hk hbb
        subst hz hk hbb
        have a0 := hat 0 (by decide)
        have a1 := hat 1 (by decide)
        have a2 := hat 2 (by decide)
        refine ⟨z, k, b, ?_, ?_, ?_, wz, wk⟩
        · simpa [Addr.add, hC] using a0
        · rw [← Go.Deep.add_add, ← hC]; exact a1
        · rw [← Go.Deep.add_add, ← hC]; exact a2
    refine ⟨by omega, fun hpos => ?_⟩
    obtain ⟨b, off, spot⟩ := ad
    have hsp : spot = none := by
      obtain ⟨z, k, c, h0, _⟩ := key 0 hpos
      cases spot with
      | none => rfl
      | some s => simp [World.cell?, Addr.add] at h0; split at h0 <;> simp_all
    subst hsp
    obtain ⟨z, k, c, h0, _⟩ := key 0 hpos
    refine ⟨b, off, rfl, block_lt_of_cell h0, fun i hi => ?_⟩
    obtain ⟨z, k, c, h0, h1, h2, wz, wk⟩ := key i hi
    have bz := bounds_i64 wz
    have bk := bounds_i64 wk
    refine ⟨z, k, c, ?_, ?_, ?_, ⟨bz.1, bz.2⟩, bk.1, bk.2⟩
    · rw [add_none] at h0; exact h0
    · rw [add_none, ← Nat.add_assoc] at h1; exact h1
    · rw [add_none, ← Nat.add_assoc] at h2; exact h2
end Go.Proofs.YtaglnomjlnlgoaaGreatDoor
