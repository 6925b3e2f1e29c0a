/- Many trees in one memory: each by a key; none has a block of another. No law of a statement stands in it. -/
import Derived.Test.YthbbokoeiifjdaaGreatDoorTrg
namespace Go.Proofs.YthbbokoeiifjdaaGreatDoor
open Go Go.RowKit Go.ChangeAt Tr

/-- A tree of the forest: the least number of its blocks, where it is, what it has, its bits. -/
structure Ent where
  base : Nat
  t : Nat
  S : St
  m : List Bool
def For := Nat → Option Ent
def For.own (F : For) (b : Nat) : Prop := ∃ k e, F k = some e ∧ e.S.own b ≠ none
def For.put (F : For) (k : Nat) (e : Ent) : For := fun j => if j = k then some e else F j
theorem For.put_at (F : For) (k : Nat) (e : Ent) : F.put k e k = some e := if_pos rfl
theorem For.put_ne (F : For) {k j : Nat} (e : Ent) (h : j ≠ k) : F.put k e j = F j := if_neg h
structure Forest (B : Nat) (w : World) (F : For) : Prop where
  tre : ∀ k e, F k = some e → Tre e.base w e.t e.S e.m ∧ B ≤ e.base
  sep : ∀ k j e f, F k = some e → F j = some f → k ≠ j → ∀ b, e.S.own b ≠ none → f.S.own b = none
theorem TM.blocks {base t : Nat} {w : World} {S : St} (h : TM base w t S) {b : Nat} (hb : S.own b ≠ none) : base ≤ b ∧ b < w.heap.size := by
  obtain ⟨g, a, c, hx⟩ := h
  cases e : S.own b with
  | none => exact absurd e hb
  | some x => exact hx.lab b x e
theorem TM.at_own {base t : Nat} {w : World} {S : St} (h : TM base w t S) : S.own t ≠ none := by
  obtain ⟨g, a, c, hx⟩ := h
  rw [hx.ownt]
  exact fun h => by cases h
theorem Forest.blocks {B : Nat} {w : World} {F : For} (h : Forest B w F) {b : Nat} (hb : F.own b) : B ≤ b ∧ b < w.heap.size := by
  obtain ⟨k, e, hk, ho⟩ := hb
  obtain ⟨ht, hB⟩ := h.tre k e hk
  have := ht.1.blocks ho
  exact ⟨Nat.le_trans hB this.1, this.2⟩
theorem Forest.stay {B : Nat} {w w' : World} {F : For} {Z : Nat → Prop} (h : Forest B w F) (hb : Stay Z w w') (hz : ∀ b, F.own b → ¬ Z b) : Forest B w' F :=
  ⟨fun k e hk => ⟨⟨(h.tre k e hk).1.1.stay hb (fun b ho => hz b ⟨k, e, hk, ho⟩), (h.tre k e hk).1.2⟩, (h.tre k e hk).2⟩, h.sep⟩
theorem Forest.beside {B : Nat} {w w' : World} {F : For} (h : Forest B w F) (hb : Below w.heap.size w w') : Forest B w' F := h.stay (Stay.of_below (S := fun _ => False) hb) (fun _ _ e => e)
theorem Forest.nil (B : Nat) (w : World) : Forest B w (fun _ => .none) := ⟨fun _ _ h => (by cases h), fun _ _ _ _ h => (by cases h)⟩
/-- One of them was turned. -/
theorem Forest.turn {B : Nat} {w w' : World} {F : For} {k : Nat} {e : Ent} {S' : St} {m' : List Bool} (h : Forest B w F) (hk : F k = some e) (ht : Tre e.base w' e.t S' m') (hm : Mv w w' e.S S') : Forest B w' (F.put k ⟨e.base, e.t, S', m'⟩) := by
  have hother : ∀ j f, F j = some f → j ≠ k → Tre f.base w' f.t f.S f.m := fun j f hj hne =>
    ⟨(h.tre j f hj).1.1.stay hm.st (fun b ho he => ho (h.sep k j e f hk hj (Ne.symm hne) b he)), (h.tre j f hj).1.2⟩
  have hnew : ∀ j f, F j = some f → j ≠ k → ∀ b, S'.own b ≠ none → f.S.own b = none := fun j f hj hne b hb => by
    rcases hm.ne b hb with h1 | h1
    · exact h.sep k j e f hk hj (Ne.symm hne) b h1
    · cases e2 : f.S.own b with
      | none => rfl
      | some x =>
        have := ((h.tre j f hj).1.1.blocks (b := b) (by rw [e2]; exact fun h => by cases h)).2
        omega
  refine ⟨fun j f hj => ?_, fun i j f g hi hj hne b hb => ?_⟩
  · by_cases e1 : j = k
    · subst e1
      rw [For.put_at] at hj
      injection hj with hj
      subst hj
      exact ⟨ht, (h.tre j e hk).2⟩
    · rw [For.put_ne _ _ e1] at hj
      exact ⟨hother j f hj e1, (h.tre j f hj).2⟩
  · by_cases e1 : i = k
    · subst e1
      rw [For.put_at] at hi
      injection hi with hi
      subst hi
      rw [For.put_ne _ _ (Ne.symm hne)] at hj
      exact hnew j g hj (Ne.symm hne) b hb
    · rw [For.put_ne _ _ e1] at hi
      by_cases e2 : j = k
      · subst e2
        rw [For.put_at] at hj
        injection hj with hj
        subst hj
        cases e3 : S'.own b with
        | none => rfl
        | some x => exact absurd (hnew i f hi e1 b (by rw [e3]; exact fun h => by cases h)) hb
      · rw [For.put_ne _ _ e2] at hj
        exact h.sep i j f g hi hj hne b hb
theorem For.turned {w w' : World} {F : For} {k : Nat} {e : Ent} {S' : St} {m' : List Bool} (hk : F k = some e) (hm : Mv w w' e.S S') : Stay F.own w w' ∧ ∀ b, (F.put k ⟨e.base, e.t, S', m'⟩).own b → F.own b ∨ w.heap.size ≤ b := by
  refine ⟨hm.st.mono (fun i _ hs => ⟨k, e, hk, hs⟩), fun b ⟨j, f, hj, ho⟩ => ?_⟩
  by_cases e1 : j = k
  · subst e1
    rw [For.put_at] at hj
    injection hj with hj
    subst hj
    exact (hm.ne b ho).imp (fun h => ⟨j, e, hk, h⟩) id
  · rw [For.put_ne _ _ e1] at hj
    exact .inl ⟨j, f, hj, ho⟩
/-- One of them was read. -/
theorem Forest.read {B : Nat} {w w' : World} {F : For} {k v : Nat} {e : Ent} (h : Forest B w F) (hk : F k = some e) (ht : Tre e.base w' e.t (e.S.see v) e.m) (hs : Stay (· = e.t) w w') :
    Forest B w' (F.put k ⟨e.base, e.t, e.S.see v, e.m⟩) ∧ Stay F.own w w' ∧ ∀ b, (F.put k ⟨e.base, e.t, e.S.see v, e.m⟩).own b → F.own b ∨ w.heap.size ≤ b := by
  have hm : Mv w w' e.S (e.S.see v) := (h.tre k e hk).1.1.mvt hs rfl
  exact ⟨h.turn hk ht hm, For.turned hk hm⟩
/-- One more, of blocks that nobody had. -/
theorem Forest.add {B : Nat} {w w' : World} {F : For} {k base t : Nat} {S : St} {m : List Bool} (h : Forest B w F) (hb : Below w.heap.size w w') (ht : Tre base w' t S m) (hB : w.heap.size ≤ base) (hB0 : B ≤ w.heap.size) : Forest B w' (F.put k ⟨base, t, S, m⟩) := by
  have h' := h.beside hb
  have hfar : ∀ j f, F j = some f → ∀ b, f.S.own b ≠ none → b < w.heap.size := fun j f hj b ho => ((h.tre j f hj).1.1.blocks ho).2
  have hnear : ∀ b, S.own b ≠ none → w.heap.size ≤ b := fun b ho => Nat.le_trans hB (ht.1.blocks ho).1
  refine ⟨fun j f hj => ?_, fun i j f g hi hj hne b hb => ?_⟩
  · by_cases e1 : j = k
    · subst e1
      rw [For.put_at] at hj
      injection hj with hj
      subst hj
      exact ⟨ht, Nat.le_trans hB0 hB⟩
    · rw [For.put_ne _ _ e1] at hj
      exact h'.tre j f hj
  · by_cases e1 : i = k
    · subst e1
      rw [For.put_at] at hi
      injection hi with hi
      subst hi
      rw [For.put_ne _ _ (Ne.symm hne)] at hj
      cases e3 : g.S.own b with
      | none => rfl
      | some x =>
        have h1 := hfar j g hj b (by rw [e3]; exact fun h => by cases h)
        have h2 := hnear b hb
        omega
    · rw [For.put_ne _ _ e1] at hi
      by_cases e2 : j = k
      · subst e2
        rw [For.put_at] at hj
        injection hj with hj
        subst hj
        cases e3 : S.own b with
        | none => rfl
        | some x =>
          have h1 := hfar i f hi b hb
          have h2 := hnear b (by rw [e3]; exact fun h => by cases h)
          omega
      · rw [For.put_ne _ _ e2] at hj
        exact h.sep i j f g hi hj hne b hb
end Go.Proofs.YthbbokoeiifjdaaGreatDoor
