/- Stage 7's statements as walks, over the contracts that are asked of waves: WaveLevels. -/
import Derived.Test.YtaglnomjlnlgoaaGreatDoorLwE
import Derived.Deep.DeepCutAuto
namespace Go.Proofs.YtaglnomjlnlgoaaGreatDoor
open Go Go.RowKit Go.ChangeAt

theorem RdS.stay {w w' : World} {S : Nat → Prop} {a : Option Addr} {l : List Sh} (h : RdS w a l) (hb : Stay S w w') (hs : 0 < l.length → ∀ ad, a = some ad → ¬ S ad.block) : RdS w' a l := by
  refine ⟨h.1, fun hp => ?_⟩
  obtain ⟨b, off, rfl, hlt, hc⟩ := h.2 hp
  have hn := hs hp _ rfl
  refine ⟨b, off, rfl, Nat.lt_of_lt_of_le hlt hb.size, fun i hi => ?_⟩
  obtain ⟨L, H, V, N, h1, h2, h3, h4, c0, c1, c2, c3⟩ := hc i hi
  have hk : ∀ o, w'.cell? ⟨b, o, none⟩ = w.cell? ⟨b, o, none⟩ := fun o => hb.cell (p := ⟨b, o, none⟩) hlt hn
  exact ⟨L, H, V, N, h1, h2, h3, h4, (hk _).trans c0, (hk _).trans c1, (hk _).trans c2, (hk _).trans c3⟩
/-- A wave beside the shapes that were told of it. -/
structure Shd (O : WOps) (B : Nat) (W wr : World) (t : Nat) (x : O.X) (m : List Int) (a : Option Addr) (l : List Sh) : Prop where
  w : Wst O B W wr t x m
  rd : RdS wr a l
  off : 0 < l.length → ∀ ad, a = some ad → ¬ O.own x ad.block
theorem Shd.beside {O : WOps} {B : Nat} {W w w' : World} {t : Nat} {x : O.X} {m : List Int} {a : Option Addr} {l : List Sh} (h : Shd O B W w t x m a l) (hb : Below w.heap.size w w') : Shd O B W w' t x m a l := ⟨h.w.beside hb, h.rd.below hb, h.off⟩
theorem Shd.next {O : WOps} {B : Nat} {W w w' : World} {t : Nat} {x x' : O.X} {m m' : List Int} {a : Option Addr} {l : List Sh} (h : Shd O B W w t x m a l) (hw : Wst O B W w' t x' m') (hn : O.Nxt w w' x x') : Shd O B W w' t x' m' a l := by
  refine ⟨hw, h.rd.stay hn.1 h.off, fun hp ad ha e => ?_⟩
  rcases hn.2 _ e with e | e
  · exact h.off hp ad ha e
  · obtain ⟨b, off, hb, hlt, _⟩ := h.rd.2 hp
    rw [ha] at hb
    injection hb with hb
    subst hb
    have : b < w.heap.size := hlt
    have e' : w.heap.size ≤ b := e
    omega
theorem Shd.cell {O : WOps} {B : Nat} {W w : World} {t : Nat} {x : O.X} {m : List Int} {a : Option Addr} {l : List Sh} (h : Shd O B W w t x m a l) {k : Nat} (hk : k < l.length) : ∃ b off, a = some ⟨b, off, none⟩ ∧ w.cell? ⟨b, off + k * 4, none⟩ = some (.int .i64 (l.getD k (0, 0, 0, 0)).1) := by
  obtain ⟨b, off, ha, hlt, hc⟩ := h.rd.2 (by omega)
  obtain ⟨L, H, V, N, h1, h2, h3, h4, c0, c1, c2, c3⟩ := hc k hk
  exact ⟨b, off, ha, by rw [h1]; exact c0⟩
theorem Wst.level {O : WOps} {B : Nat} {W w : World} {t : Nat} {x : O.X} {m : List Int} (h : Wst O B W w t x m) (hm : m.length ≤ 1000000) (l p : Int) (hp : -9223372036854775808 ≤ p ∧ p ≤ 9223372036854775807) (M : List Bool) (hM : (if 0 ≤ l ∧ l ≤ 8 then Wv.bits m l.toNat p else []) = M) :
    Calls Tryz.prog 27 #[.pointer (some ⟨t, 0, none⟩), .int .i64 l, .int .i64 p] w fun e w' => ∃ v x', e = .returned v ∧ RdB w' v M ∧ Wst O B W w' t x' m ∧ O.Nxt w w' x x' := by
  subst hM
  exact (O.level l p h.E h.wav hm hp).mono fun _ _ ⟨v, x', he, h1, h2, h3, h4, _⟩ => ⟨v, x', he, h1, h.next h2 h3 h4, h3, h4⟩
theorem shp_at {O : WOps} {B : Nat} {W w : World} {t : Nat} {x : O.X} {m : List Int} (h : Wst O B W w t x m) (hm : m.length ≤ 1000000) (k : Nat) (hk : k < (Wv.lens m).length) : ((O.shp x).getD k (0, 0, 0, 0)).1 = ((Wv.lens m).getD k 0 : Int) := by
  have e := (O.shapes_are h.wav hm).1
  have hl := h.shlen hm
  have e2 := congrArg (fun l => l[k]?) e
  simp only [List.getElem?_map] at e2
  rw [List.getElem?_eq_getElem (by rw [hl]; exact hk), List.getElem?_eq_getElem hk] at e2
  rw [List.getD_eq_getElem?_getD, List.getD_eq_getElem?_getD, List.getElem?_eq_getElem (by rw [hl]; exact hk), List.getElem?_eq_getElem hk]
  simpa using e2

end Go.Proofs.YtaglnomjlnlgoaaGreatDoor
