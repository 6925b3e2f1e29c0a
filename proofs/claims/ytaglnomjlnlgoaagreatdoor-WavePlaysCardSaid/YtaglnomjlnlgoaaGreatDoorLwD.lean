/- Stage 7's statements as walks, over the contracts that are asked of waves: WaveBuilds. -/
import Derived.Test.YtaglnomjlnlgoaaGreatDoorLwC
namespace Go.Proofs.YtaglnomjlnlgoaaGreatDoor
open Go Go.RowKit Go.ChangeAt

/-- Three waves side by side. -/
structure Tri (O : WOps) (B : Nat) (W wr : World) (ta tb tc : Nat) (xa xb xc : O.X) (ma mb mc : List Int) : Prop where
  a : Wst O B W wr ta xa ma
  b : Wst O B W wr tb xb mb
  c : Wst O B W wr tc xc mc
  ab : ∀ i, O.own xa i → ¬ O.own xb i
  ac : ∀ i, O.own xa i → ¬ O.own xc i
  bc : ∀ i, O.own xb i → ¬ O.own xc i
theorem Wst.lt {O : WOps} {B : Nat} {W w : World} {t : Nat} {x : O.X} {m : List Int} (h : Wst O B W w t x m) : ∀ i, O.own x i → i < w.heap.size := O.lt h.wav
theorem Wst.byside {O : WOps} {B : Nat} {W w w' : World} {t t' : Nat} {x y y' : O.X} {m m' : List Int} (h : Wst O B W w t x m) (k : Wst O B W w t' y m') (hn : O.Nxt w w' y y') (hd : ∀ i, O.own x i → ¬ O.own y i) : Wst O B W w' t x m ∧ ∀ i, O.own x i → ¬ O.own y' i :=
  ⟨h.aside hn.1 hd (fun i _ e => k.own i e), fun i hi e => (hn.2 i e).elim (hd i hi) (fun e => by have := h.lt i hi; omega)⟩
theorem Tri.onA {O : WOps} {B : Nat} {W w w' : World} {ta tb tc : Nat} {xa xb xc xa' : O.X} {ma mb mc ma' : List Int} (h : Tri O B W w ta tb tc xa xb xc ma mb mc) (ha : Wst O B W w' ta xa' ma') (hn : O.Nxt w w' xa xa') : Tri O B W w' ta tb tc xa' xb xc ma' mb mc := by
  obtain ⟨h1, h2⟩ := h.b.byside h.a hn (fun i hi e => h.ab i e hi)
  obtain ⟨h3, h4⟩ := h.c.byside h.a hn (fun i hi e => h.ac i e hi)
  exact ⟨ha, h1, h3, fun i hi e => h2 i e hi, fun i hi e => h4 i e hi, h.bc⟩
theorem Tri.onB {O : WOps} {B : Nat} {W w w' : World} {ta tb tc : Nat} {xa xb xc xb' : O.X} {ma mb mc mb' : List Int} (h : Tri O B W w ta tb tc xa xb xc ma mb mc) (hb : Wst O B W w' tb xb' mb') (hn : O.Nxt w w' xb xb') : Tri O B W w' ta tb tc xa xb' xc ma mb' mc := by
  obtain ⟨h1, h2⟩ := h.a.byside h.b hn h.ab
  obtain ⟨h3, h4⟩ := h.c.byside h.b hn (fun i hi e => h.bc i e hi)
  exact ⟨h1, hb, h3, h2, h.ac, fun i hi e => h4 i e hi⟩
theorem Tri.onC {O : WOps} {B : Nat} {W w w' : World} {ta tb tc : Nat} {xa xb xc xc' : O.X} {ma mb mc mc' : List Int} (h : Tri O B W w ta tb tc xa xb xc ma mb mc) (hc : Wst O B W w' tc xc' mc') (hn : O.Nxt w w' xc xc') : Tri O B W w' ta tb tc xa xb xc' ma mb mc' := by
  obtain ⟨h1, h2⟩ := h.a.byside h.c hn h.ac
  obtain ⟨h3, h4⟩ := h.b.byside h.c hn h.bc
  exact ⟨h1, h3, hc, h.ab, h2, h4⟩
theorem Tri.beside {O : WOps} {B : Nat} {W w w' : World} {ta tb tc : Nat} {xa xb xc : O.X} {ma mb mc : List Int} (h : Tri O B W w ta tb tc xa xb xc ma mb mc) (hb : Below w.heap.size w w') : Tri O B W w' ta tb tc xa xb xc ma mb mc :=
  ⟨h.a.beside hb, h.b.beside hb, h.c.beside hb, h.ab, h.ac, h.bc⟩
/-- A new one, of none. -/
theorem Wst.fresh {O : WOps} {B : Nat} {W w : World} {t : Nat} {x : O.X} {m : List Int} (h : Wst O B W w t x m) :
    Calls Tryz.prog 5 #[.slice none 0 0] w fun e w' => ∃ t' x', e = .returned (.tuple #[.pointer (some ⟨t', 0, none⟩), .int .i64 0]) ∧ Wst O B W w' t' x' [] ∧ (∀ i, O.own x' i → w.heap.size ≤ i) ∧ Below w.heap.size w w' :=
  (O.new h.E (Nat.lt_of_lt_of_le h.pos h.le) (RdL.nil w) rfl (Nat.zero_le _) Wv.Good.nil).mono fun _ _ ⟨t', x', he, hw, ho, hb⟩ =>
    ⟨t', x', he, ⟨hw, fun i hi => Nat.le_trans h.le (ho i hi), h.below.trans (hb.mono h.le), O.E_below h.E (Nat.lt_of_lt_of_le h.pos h.le) hb, h.pos, Nat.le_trans h.le hb.size⟩, ho, hb⟩
/-- All of one, in a slice that none of those that were there has. -/
theorem Wst.alls {O : WOps} {B : Nat} {W w : World} {t : Nat} {x : O.X} {m : List Int} (h : Wst O B W w t x m) (hm : m.length ≤ 1000000) (n : Nat) (hn : m.length = n) :
    Calls Tryz.prog 7 #[.pointer (some ⟨t, 0, none⟩)] w fun e w' => ∃ a cap x', e = .returned (.slice a n cap) ∧ RdL w' a cap m ∧ (0 < m.length → ∀ ad, a = some ad → w.heap.size ≤ ad.block) ∧ Wst O B W w' t x' m ∧ O.Nxt w w' x x' := by
  refine (O.all h.E h.wav hm).mono ?_
  rintro _ w' ⟨v, x', rfl, h1, h2, h3, h4, _, _⟩
  obtain ⟨a, cap, rfl, hr⟩ := OwnI.form n h1 hn
  refine ⟨a, cap, x', rfl, hr, fun hp ad ha => ?_, h.next h2 h3 h4, h3, h4⟩
  obtain ⟨b, off, hb, _⟩ := hr.2.2.2 hp
  rw [ha] at hb
  injection hb with hb
  subst hb ha
  exact (h1.lt b rfl).1
theorem RdL.asideX {O : WOps} {B : Nat} {W w w1 w' : World} {t : Nat} {x x' : O.X} {m l : List Int} {a : Option Addr} {cap : Nat} (h : RdL w a cap l) (hw : Wst O B W w1 t x m) (hn : 0 < l.length → ∀ ad, a = some ad → w1.heap.size ≤ ad.block) (hs : O.Nxt w w' x x') : RdL w' a cap l :=
  h.stay hs.1 (fun hp ad ha _ e => by have := hn hp ad ha; have := hw.lt _ e; omega)

end Go.Proofs.YtaglnomjlnlgoaaGreatDoor
