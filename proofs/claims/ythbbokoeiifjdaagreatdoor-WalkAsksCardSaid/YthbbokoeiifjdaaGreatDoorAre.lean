/- Arenas as plain lists: which numbers are taken (a list of bools), which were freed (a list of numbers), what Take and Free make of them. No function of the program stands in it. Lists of integers in memory: what is read, what is the call's own. And lists of bools of the call's own. No function of the program stands in it. Arenas in memory, and what package arena's functions that only read do, and New and mark: contracts of the walk. What Take and Free of package arena do: contracts of the walk. What Free of package arena does: contracts of the walk. -/
import Derived.Test.YthbbokoeiifjdaaGreatDoorBas
import Derived.Outline
import Derived.WalkSpells
import Derived.Laws.Rows
import Derived.Laws.OwnMore
import Derived.WalkLawsBesides
import Derived.Deep.RegionHeld3
import Derived.Deep.AppendLies
import Derived.Lib.Hide
import Derived.BigQuiet
import Derived.BigRegion
import Derived.RegionTactic
import Derived.ChangeAlike
import Derived.Deep.RegionLaw
import Derived.Laws.AppendOwnNone
import Derived.LoopTactic
import Derived.Deep.QuietTactic
import Derived.Maps.AppendAt
namespace Go.Proofs.YthbbokoeiifjdaaGreatDoor
namespace Ar

/-- The list with each of the numbers of l set to b. -/
def setAll (T : List Bool) (b : Bool) (l : List Int) : List Bool := l.foldl (fun T k => T.set k.toNat b) T
/-- Is k taken? -/
def is (T : List Bool) (k : Int) : Bool := decide (0 ≤ k) && T.getD k.toNat false
/-- Is each number of l taken, and none of them there twice? -/
def good (T : List Bool) : List Int → Bool
  | [] => true
  | k :: l => is T k && good (T.set k.toNat false) l
/-- Take: the number, the error, and what is behind it. -/
def tk (most : Nat) (T : List Bool) (F : List Int) : Int × Int × List Bool × List Int :=
  match F.getLast? with
  | some k => (k, 0, T.set k.toNat true, F.dropLast)
  | none => if T.length < most then (T.length, 0, T ++ [true], []) else (-1, 3, T, [])
/-- Free: the error, and what is behind it. -/
def fr (T : List Bool) (F : List Int) (l : List Int) : Int × List Bool × List Int :=
  if good T l = true then (0, setAll T false l, F ++ l) else (7, T, F)
/-- What holds of an arena at all times. -/
structure S (most : Nat) (T : List Bool) (F : List Int) : Prop where
  tm : T.length ≤ most
  mx : most ≤ 268435456
  nd : F.Nodup
  fr : ∀ k ∈ F, 0 ≤ k ∧ k < T.length ∧ T.getD k.toNat false = false

theorem setAll_length (b : Bool) (l : List Int) : ∀ T : List Bool, (setAll T b l).length = T.length := by
  induction l with
  | nil => intro T; rfl
  | cons k l ih =>
    intro T
    show (setAll (T.set k.toNat b) b l).length = _
    rw [ih, List.length_set]
theorem setAll_append (T : List Bool) (b : Bool) (l m : List Int) : setAll T b (l ++ m) = setAll (setAll T b l) b m := List.foldl_append
theorem take_succ (l : List Int) (i : Nat) (h : i < l.length) : l.take (i + 1) = l.take i ++ [l.getD i 0] := by
  rw [List.take_succ_eq_append_getElem h, List.getD_eq_getElem?_getD, List.getElem?_eq_getElem h]
  rfl
theorem setAll_succ (T : List Bool) (b : Bool) (l : List Int) (i : Nat) (h : i < l.length) : setAll T b (l.take (i + 1)) = (setAll T b (l.take i)).set (l.getD i 0).toNat b := by
  rw [take_succ l i h, setAll_append]
  rfl
theorem getD_set (T : List Bool) (i j : Nat) (b : Bool) : (T.set i b).getD j false = if i = j ∧ j < T.length then b else T.getD j false := by
  rw [List.getD_eq_getElem?_getD, List.getD_eq_getElem?_getD, List.getElem?_set]
  by_cases h : i = j
  · subst h
    by_cases h2 : i < T.length
    · simp [h2]
    · simp [h2]
  · simp [h]
theorem getD_setAll (b : Bool) (l : List Int) (j : Nat) : ∀ T : List Bool, (setAll T b l).getD j false = if (∃ k ∈ l, k.toNat = j) ∧ j < T.length then b else T.getD j false := by
  induction l with
  | nil => intro T; simp [setAll]
  | cons k l ih =>
    intro T
    show (setAll (T.set k.toNat b) b l).getD j false = _
    rw [ih, getD_set, List.length_set]
    by_cases h2 : j < T.length
    · by_cases h1 : ∃ k ∈ l, k.toNat = j
      · have h3 : ∃ k' ∈ k :: l, k'.toNat = j := by obtain ⟨k', a, b⟩ := h1; exact ⟨k', List.mem_cons_of_mem _ a, b⟩
        rw [if_pos ⟨h1, h2⟩, if_pos ⟨h3, h2⟩]
      · by_cases h4 : k.toNat = j
        · rw [if_neg (fun h => h1 h.1), if_pos ⟨h4, h2⟩, if_pos ⟨⟨k, List.mem_cons_self, h4⟩, h2⟩]
        · rw [if_neg (fun h => h1 h.1), if_neg (fun h => h4 h.1), if_neg]
          rintro ⟨⟨k', a, b⟩, _⟩
          rcases List.mem_cons.1 a with rfl | a
          · exact h4 b
          · exact h1 ⟨k', a, b⟩
    · rw [if_neg (fun h => h2 h.2), if_neg (fun h => h2 h.2), if_neg (fun h => h2 h.2)]
theorem is_lt {T : List Bool} {k : Int} (h : is T k = true) : 0 ≤ k ∧ k < T.length ∧ T.getD k.toNat false = true := by
  unfold is at h
  rw [Bool.and_eq_true, decide_eq_true_eq] at h
  refine ⟨h.1, ?_, h.2⟩
  apply Int.not_le.1
  intro h2
  have h3 := h.2
  rw [List.getD_eq_getElem?_getD, List.getElem?_eq_none (by omega)] at h3
  cases h3
theorem is_of {T : List Bool} {k : Int} (h : 0 ≤ k) (h2 : T.getD k.toNat false = true) : is T k = true := by
  unfold is
  rw [decide_eq_true h, h2]
  rfl
theorem is_out {T : List Bool} {k : Int} (h : k < 0 ∨ (T.length : Int) ≤ k) : is T k = false := by
  cases e : is T k with
  | false => rfl
  | true => have := is_lt e; omega
theorem is_set {T : List Bool} {k j : Int} (hk : 0 ≤ k) : is (T.set k.toNat false) j = (is T j && !decide (k = j)) := by
  unfold is
  rw [getD_set]
  by_cases h0 : 0 ≤ j
  · by_cases h1 : k = j
    · subst h1
      by_cases h2 : k.toNat < T.length
      · simp [h2]
      · simp [h2]
    · rw [if_neg (by omega)]
      simp [h1]
  · simp [h0]
theorem good_snoc (l : List Int) (k : Int) : ∀ T : List Bool, good T (l ++ [k]) = (good T l && is (setAll T false l) k) := by
  induction l with
  | nil => intro T; simp [good, setAll]
  | cons j l ih =>
    intro T
    show (is T j && good (T.set j.toNat false) (l ++ [k])) = ((is T j && good (T.set j.toNat false) l) && is (setAll (T.set j.toNat false) false l) k)
    rw [ih, Bool.and_assoc]
theorem good_succ (T : List Bool) (l : List Int) (i : Nat) (h : i < l.length) : good T (l.take (i + 1)) = (good T (l.take i) && is (setAll T false (l.take i)) (l.getD i 0)) := by
  rw [take_succ l i h, good_snoc]
theorem good_append (l m : List Int) : ∀ T : List Bool, good T (l ++ m) = (good T l && good (setAll T false l) m) := by
  induction l with
  | nil => intro T; simp [good, setAll]
  | cons j l ih =>
    intro T
    show (is T j && good (T.set j.toNat false) (l ++ m)) = ((is T j && good (T.set j.toNat false) l) && good (setAll (T.set j.toNat false) false l) m)
    rw [ih, Bool.and_assoc]
/-- Where a piece of the list fails, the list fails. -/
theorem good_take {T : List Bool} {l : List Int} (i : Nat) (h : good T (l.take i) = false) : good T l = false := by
  rw [← List.take_append_drop i l, good_append, h]
  rfl
theorem good_mem (l : List Int) : ∀ T : List Bool, good T l = true → l.Nodup ∧ ∀ k ∈ l, is T k = true := by
  induction l with
  | nil => intro T _; exact ⟨List.nodup_nil, fun k h => by cases h⟩
  | cons j l ih =>
    intro T h
    have h' : (is T j && good (T.set j.toNat false) l) = true := h
    rw [Bool.and_eq_true] at h'
    obtain ⟨h1, h2⟩ := ih _ h'.2
    have h0 := (is_lt h'.1).1
    refine ⟨List.nodup_cons.2 ⟨fun hm => ?_, h1⟩, fun k hk => ?_⟩
    · have := h2 j hm
      rw [is_set h0] at this
      simp at this
    · rcases List.mem_cons.1 hk with rfl | hk
      · exact h'.1
      · have := h2 k hk
        rw [is_set h0, Bool.and_eq_true] at this
        exact this.1
/-- What is taken behind the first ones have been let go. -/
theorem is_setAll (l : List Int) (j : Int) : ∀ T : List Bool, (∀ k ∈ l, 0 ≤ k) → is (setAll T false l) j = (is T j && !decide (j ∈ l)) := by
  induction l with
  | nil => intro T _; simp [setAll]
  | cons k l ih =>
    intro T h
    show is (setAll (T.set k.toNat false) false l) j = _
    rw [ih _ (fun k' h' => h k' (List.mem_cons_of_mem _ h')), is_set (h k List.mem_cons_self)]
    by_cases h1 : k = j
    · subst h1; simp
    · have h2 : ¬ j = k := fun e => h1 e.symm
      simp [h1, h2]
/-- Let go, and taken again. -/
theorem setAll_back {T : List Bool} {l : List Int} (h : good T l = true) : setAll (setAll T false l) true l = T := by
  obtain ⟨_, hm⟩ := good_mem l T h
  apply List.ext_getElem?
  intro j
  have hl : (setAll (setAll T false l) true l).length = T.length := by rw [setAll_length, setAll_length]
  by_cases hj : j < T.length
  · have e := getD_setAll true l j (setAll T false l)
    rw [setAll_length] at e
    have e1 := getD_setAll false l j T
    have e2 : (setAll (setAll T false l) true l).getD j false = T.getD j false := by
      rw [e]
      by_cases hk : ∃ k ∈ l, k.toNat = j
      · rw [if_pos ⟨hk, hj⟩]
        obtain ⟨k, hk1, hk2⟩ := hk
        rw [← hk2]
        exact (is_lt (hm k hk1)).2.2.symm
      · rw [if_neg (fun h => hk h.1), e1, if_neg (fun h => hk h.1)]
    rw [List.getD_eq_getElem?_getD, List.getD_eq_getElem?_getD, List.getElem?_eq_getElem (by omega), List.getElem?_eq_getElem hj] at e2
    rw [List.getElem?_eq_getElem (by omega), List.getElem?_eq_getElem hj]
    exact congrArg some e2
  · rw [List.getElem?_eq_none (by omega), List.getElem?_eq_none (by omega)]

theorem nodup_len {T : Nat} : ∀ {F : List Int}, F.Nodup → (∀ k ∈ F, 0 ≤ k ∧ k < T) → F.length ≤ T := by
  induction T with
  | zero =>
    intro F _ h
    cases F with
    | nil => exact Nat.le_refl _
    | cons k F => have := h k List.mem_cons_self; omega
  | succ T ih =>
    intro F hn h
    have h1 := ih (F := F.erase (T : Int)) (hn.erase _) (fun k hk => by
      have h2 := h k (List.mem_of_mem_erase hk)
      have h3 : k ≠ T := fun e => by subst e; exact (List.Nodup.not_mem_erase hn) hk
      omega)
    have h2 : F.length - 1 ≤ (F.erase (T : Int)).length := by
      rw [List.length_erase]
      split <;> omega
    omega
theorem S.len {most : Nat} {T : List Bool} {F : List Int} (h : S most T F) : F.length ≤ T.length :=
  nodup_len h.nd (fun k hk => ⟨(h.fr k hk).1, (h.fr k hk).2.1⟩)
theorem S.nil {most : Nat} (h : most ≤ 268435456) : S most [] [] := ⟨Nat.zero_le _, h, List.nodup_nil, fun k h => by cases h⟩
theorem S.good_len {most : Nat} {T : List Bool} {F l : List Int} (_h : S most T F) (hg : good T l = true) : l.length ≤ T.length := by
  obtain ⟨h1, h2⟩ := good_mem l T hg
  exact nodup_len h1 (fun k hk => ⟨(is_lt (h2 k hk)).1, (is_lt (h2 k hk)).2.1⟩)

/-- Take, where one was freed. -/
theorem tk_snoc (most : Nat) (T : List Bool) (F : List Int) (k : Int) : tk most T (F ++ [k]) = (k, 0, T.set k.toNat true, F) := by
  unfold tk
  rw [List.getLast?_append, List.dropLast_concat]
  rfl
theorem tk_new (most : Nat) (T : List Bool) (h : T.length < most) : tk most T [] = ((T.length : Int), 0, T ++ [true], []) := by
  unfold tk
  rw [List.getLast?_nil]
  exact if_pos h
theorem tk_full (most : Nat) (T : List Bool) (h : ¬ T.length < most) : tk most T [] = (-1, 3, T, []) := by
  unfold tk
  rw [List.getLast?_nil]
  exact if_neg h
theorem S.new {most : Nat} {T : List Bool} (h : S most T []) (hl : T.length < most) : S most (T ++ [true]) [] :=
  ⟨by rw [List.length_append]; exact hl, h.mx, List.nodup_nil, fun k h => by cases h⟩
theorem S.old {most : Nat} {T : List Bool} {F : List Int} {k : Int} (h : S most T (F ++ [k])) : 0 ≤ k ∧ k < T.length ∧ T.getD k.toNat false = false ∧ S most (T.set k.toNat true) F := by
  obtain ⟨h1, h2, h3⟩ := h.fr k (by simp)
  have hn := List.nodup_append.1 h.nd
  refine ⟨h1, h2, h3, by rw [List.length_set]; exact h.tm, h.mx, hn.1, fun j hj => ?_⟩
  obtain ⟨a, b, c⟩ := h.fr j (by simp [hj])
  have hne : j ≠ k := hn.2.2 j hj k (by simp)
  refine ⟨a, by rw [List.length_set]; exact b, ?_⟩
  rw [getD_set, if_neg (by omega)]
  exact c
theorem snoc_of {F : List Int} (h : F ≠ []) : ∃ G k, F = G ++ [k] := ⟨F.dropLast, F.getLast h, (List.dropLast_concat_getLast h).symm⟩
theorem S.tk {most : Nat} {T : List Bool} {F : List Int} (h : S most T F) : S most (tk most T F).2.2.1 (tk most T F).2.2.2 := by
  by_cases hF : F = []
  · subst hF
    by_cases hl : T.length < most
    · rw [tk_new _ _ hl]; exact h.new hl
    · rw [tk_full _ _ hl]; exact h
  · obtain ⟨G, k, rfl⟩ := snoc_of hF
    rw [tk_snoc]
    exact h.old.2.2.2
theorem S.freed {most : Nat} {T : List Bool} {F l : List Int} (h : S most T F) (hg : good T l = true) : S most (setAll T false l) (F ++ l) := by
  obtain ⟨h1, h2⟩ := good_mem l T hg
  refine ⟨by rw [setAll_length]; exact h.tm, h.mx, ?_, fun k hk => ?_⟩
  · rw [List.nodup_append]
    refine ⟨h.nd, h1, fun a ha b hb e => ?_⟩
    subst e
    have q1 := (h.fr a ha).2.2
    have q2 := (is_lt (h2 a hb)).2.2
    rw [q1] at q2
    cases q2
  · rw [setAll_length]
    rcases List.mem_append.1 hk with hk | hk
    · obtain ⟨a, b, c⟩ := h.fr k hk
      refine ⟨a, b, ?_⟩
      rw [getD_setAll]
      split
      · rfl
      · exact c
    · have := is_lt (h2 k hk)
      refine ⟨this.1, this.2.1, ?_⟩
      rw [getD_setAll, if_pos ⟨⟨k, hk, rfl⟩, by omega⟩]
theorem S.free {most : Nat} {T : List Bool} {F l : List Int} (h : S most T F) : S most (Ar.fr T F l).2.1 (Ar.fr T F l).2.2 := by
  unfold Ar.fr
  by_cases hg : good T l = true
  · rw [if_pos hg]; exact h.freed hg
  · rw [if_neg hg]; exact h
end Ar
end Go.Proofs.YthbbokoeiifjdaaGreatDoor
namespace Go.Proofs.YthbbokoeiifjdaaGreatDoor
open Go Go.RowKit Go.ChangeAt

theorem infoI : (Tryz.prog.info? 3).map (fun i => (i.zero, i.size, i.bytes)) = some (some (.int .i64 0), 1, 8) := by kernel_rfl
abbrev OwnI (base : Nat) (w : World) (v : Value) (l : List Int) : Prop := w.ownsRow base 3 1 v l.length (l.map (Value.int .i64))
/-- What a slice of the call's own looks like. -/
theorem own_form {w : World} {base : Nat} {e : TypeId} {size : Nat} {v : Value} {n : Nat} {xs : List Value} (h : w.ownsRow base e size v n xs) : ∃ a cap, v = .slice a n cap ∧ n ≤ cap ∧ cap ≤ maxLen := by
  rcases h.2 with ⟨hv, h0⟩ | ⟨g, cap, cur, hv, hb, hg, hn, hm, hs, ht⟩
  · exact ⟨none, 0, by rw [hv, h0], by omega, by decide⟩
  · exact ⟨_, cap, hv, hn, hm⟩
/-- A block of another type is not the slice's. -/
theorem own_ne {w : World} {base : Nat} {e t : TypeId} {size : Nat} {v : Value} {n : Nat} {xs : List Value} {g : Nat} {c : Array Value} {f : Nat × Nat} (h : w.ownsRow base e size v n xs) (hg : w.heap[g]? = some (.cells c t f)) (hne : t ≠ e) :
    ∀ k, v.ownBlock = some k → k ≠ g := by
  intro k hk ek
  subst ek
  rcases h.2 with ⟨hv, h0⟩ | ⟨g', cap, cur, hv, hb, hg', _⟩
  · subst hv; cases hk
  · subst hv
    have : g' = k := by simpa [Value.ownBlock] using hk
    subst this
    rw [hg] at hg'
    simp at hg'
    exact hne hg'.2.1
theorem own_ne2 {w : World} {base base' : Nat} {e t : TypeId} {size size' : Nat} {v v' : Value} {n n' : Nat} {xs xs' : List Value} (h : w.ownsRow base e size v n xs) (h' : w.ownsRow base' t size' v' n' xs') (hne : t ≠ e) :
    ∀ k, v.ownBlock = some k → v'.ownBlock ≠ some k := by
  intro k hk hk'
  rcases h'.2 with ⟨hv, h0⟩ | ⟨g', cap, cur, hv, hb, hg', _⟩
  · subst hv; cases hk'
  · subst hv
    have : g' = k := by simpa [Value.ownBlock] using hk'
    subst this
    exact own_ne h hg' hne _ hk rfl
theorem OwnI.app {base : Nat} {w : World} {v : Value} {l m : List Int} (h : w.ownsRow base 3 1 v (l.length + m.length) (l.map (Value.int .i64) ++ m.map (Value.int .i64))) : OwnI base w v (l ++ m) := by
  unfold OwnI
  rw [List.length_append, List.map_append]
  exact h
/-- A list that is not empty: its cells, which may be written. -/
theorem OwnB.open {base : Nat} {w : World} {a : Option Addr} {cap : Nat} {l : List Bool} (h : OwnB base w (.slice a l.length cap) l) (hne : 0 < l.length) :
    ∃ b, a = some ⟨b, 0, none⟩ ∧ base ≤ b ∧ b < w.heap.size ∧ (∀ i, i < l.length → w.cell? ⟨b, i, none⟩ = some (.bool (l.getD i false))) ∧ ∀ i, w.frozen? ⟨b, i, none⟩ = false := by
  have h2 := h.2
  rcases h2 with ⟨hv, h0⟩ | ⟨g, cap', cur, hv, hb, hg, hn, hm, hs, ht⟩
  · omega
  · simp only [Value.slice.injEq] at hv
    obtain ⟨rfl, _, rfl⟩ := hv
    refine ⟨g, rfl, hb, lt_of_block hg, fun i hi => ?_, fun i => World.ownsRow.frozenAt (w := w) h i⟩
    have := World.ownsRow.cellAt (w := w) h i (by omega)
    rw [this]
    simp [hi]
theorem OwnI.open {base : Nat} {w : World} {a : Option Addr} {cap : Nat} {l : List Int} (h : OwnI base w (.slice a l.length cap) l) (hne : 0 < l.length) :
    ∃ b, a = some ⟨b, 0, none⟩ ∧ base ≤ b ∧ b < w.heap.size ∧ (∀ i, i < l.length → w.cell? ⟨b, i, none⟩ = some (.int .i64 (l.getD i 0))) ∧ ∀ i, w.frozen? ⟨b, i, none⟩ = false := by
  have h2 := h.2
  rcases h2 with ⟨hv, h0⟩ | ⟨g, cap', cur, hv, hb, hg, hn, hm, hs, ht⟩
  · omega
  · simp only [Value.slice.injEq] at hv
    obtain ⟨rfl, _, rfl⟩ := hv
    refine ⟨g, rfl, hb, lt_of_block hg, fun i hi => ?_, fun i => World.ownsRow.frozenAt (w := w) h i⟩
    have := World.ownsRow.cellAt (w := w) h i (by omega)
    rw [this]
    simp [hi]
theorem grown_stay {w w' : World} {o : Option Nat} (h : w.grownBy w' o) : Stay (fun k => o = some k) w w' := by
  obtain ⟨h1, h2, h3, h4, h5⟩ := h
  exact ⟨h1, h2, h3, h4, fun k hk hs => h5 k hk (fun e => hs e.symm)⟩
/-- A store into a list of the call's own. -/
theorem OwnB.set {base : Nat} {w : World} {b cap : Nat} {l : List Bool} (h : OwnB base w (.slice (some ⟨b, 0, none⟩) l.length cap) l) (j : Nat) (x : Bool) :
    OwnB base (w.setCell ⟨b, j, none⟩ (.bool x)) (.slice (some ⟨b, 0, none⟩) (l.set j x).length cap) (l.set j x) := by
  have := (World.ownsRow.stored (w := w) h j (.bool x)).1
  unfold OwnB
  rw [List.length_set, List.map_set]
  exact this
/-- All but the last: of the same block. -/
theorem OwnI.init {base : Nat} {w : World} {b cap : Nat} {l : List Int} {k : Int} (h : OwnI base w (.slice (some ⟨b, 0, none⟩) (l ++ [k]).length cap) (l ++ [k])) : OwnI base w (.slice (some ⟨b, 0, none⟩) l.length cap) l := by
  refine ⟨by simp, .inr ?_⟩
  rcases h.2 with ⟨hv, h0⟩ | ⟨g, cap', cur, hv, hb, hg, hn, hm, hs, ht⟩
  · cases hv
  · simp only [Value.slice.injEq, Option.some.injEq, Addr.mk.injEq, and_true, true_and] at hv
    obtain ⟨rfl, rfl⟩ := hv
    have hlen : (l ++ [k]).length = l.length + 1 := by simp
    rw [hlen] at hn ht
    refine ⟨b, cap, cur, rfl, hb, hg, by omega, hm, hs, ?_⟩
    have h2 : (cur.toList.take ((l.length + 1) * 1)).take (l.length * 1) = (List.map (Value.int .i64) (l ++ [k])).take (l.length * 1) := by rw [ht]
    rw [List.take_take, Nat.min_eq_left (by omega), List.map_append, List.take_append_of_le_length (by simp)] at h2
    rw [h2]
    exact List.take_of_length_le (by simp)

/-- A slice of integers, as it is read. -/
def RdL (w : World) (a : Option Addr) (cap : Nat) (l : List Int) : Prop :=
  l.length ≤ cap ∧ cap ≤ maxLen ∧ (a = none → cap = 0) ∧ (0 < l.length → ∃ b off, a = some ⟨b, off, none⟩ ∧ b < w.heap.size ∧ ∀ i, i < l.length → w.cell? ⟨b, off + i, none⟩ = some (.int .i64 (l.getD i 0)))
theorem RdL.nil (w : World) : RdL w none 0 [] := ⟨Nat.le_refl _, by decide, fun _ => rfl, fun h => absurd h (by decide)⟩
theorem RdL.zero {w : World} {a : Option Addr} {cap : Nat} (h : cap ≤ maxLen) (ha : a = none → cap = 0) : RdL w a cap [] := ⟨Nat.zero_le _, h, ha, fun h => absurd h (by decide)⟩
theorem OwnI.rd {base : Nat} {w : World} {a : Option Addr} {cap : Nat} {l : List Int} (h : OwnI base w (.slice a l.length cap) l) : RdL w a cap l := by
  obtain ⟨a', cap', hv, h1, h2⟩ := own_form h
  simp only [Value.slice.injEq, true_and] at hv
  obtain ⟨rfl, rfl⟩ := hv
  refine ⟨h1, h2, fun e => ?_, fun hp => ?_⟩
  · subst e
    rcases h.2 with ⟨hv, h0⟩ | ⟨g, cap', cur, hv, hb, hg, hn, hm, hs, ht⟩
    · simp at hv; exact hv.2
    · cases hv
  · obtain ⟨b, ha, _, hlt, hc, _⟩ := OwnI.open h hp
    exact ⟨b, 0, ha, hlt, fun i hi => by rw [Nat.zero_add]; exact hc i hi⟩
theorem Stay.cell {S : Nat → Prop} {a b : World} (h : Stay S a b) {p : Addr} (hp : p.block < a.heap.size) (hs : ¬ S p.block) : b.cell? p = a.cell? p := by
  unfold World.cell?
  rw [h.block _ hp hs]
theorem RdL.stay {w w' : World} {S : Nat → Prop} {a : Option Addr} {cap : Nat} {l : List Int} (h : RdL w a cap l) (hb : Stay S w w') (hs : 0 < l.length → ∀ ad, a = some ad → ad.block < w.heap.size → ¬ S ad.block) : RdL w' a cap l := by
  obtain ⟨h1, h2, h3, h4⟩ := h
  refine ⟨h1, h2, h3, fun hp => ?_⟩
  obtain ⟨b, off, ha, hlt, hc⟩ := h4 hp
  exact ⟨b, off, ha, Nat.lt_of_lt_of_le hlt hb.size, fun i hi => (hb.cell (p := ⟨b, off + i, none⟩) hlt (hs hp ⟨b, off, none⟩ ha hlt)).trans (hc i hi)⟩
theorem RdL.below {w w' : World} {a : Option Addr} {cap : Nat} {l : List Int} (h : RdL w a cap l) (hb : Below w.heap.size w w') : RdL w' a cap l :=
  h.stay (Stay.of_below (S := fun _ => False) hb) (fun _ _ _ _ h => h)
/-- The first k of them. -/
theorem RdL.take {w : World} {a : Option Addr} {cap : Nat} {l : List Int} (h : RdL w a cap l) (k : Nat) : RdL w a cap (l.take k) := by
  obtain ⟨h1, h2, h3, h4⟩ := h
  have hl : (l.take k).length ≤ l.length := by rw [List.length_take]; omega
  refine ⟨by omega, h2, h3, fun hp => ?_⟩
  obtain ⟨b, off, ha, hlt, hc⟩ := h4 (by omega)
  refine ⟨b, off, ha, hlt, fun i hi => ?_⟩
  have hi2 : i < k := by rw [List.length_take] at hi; omega
  rw [hc i (by omega), List.getD_eq_getElem?_getD, List.getD_eq_getElem?_getD, List.getElem?_take_of_lt hi2]
/-- A slice that was just made of the numbers given. -/
theorem RdL.made {w : World} (l : List Int) (hl : l.length ≤ maxLen) : RdL (w.alloc (.cells (l.map (Value.int .i64)).toArray 3)) (some ⟨w.heap.size, 0, none⟩) l.length l := by
  refine ⟨Nat.le_refl _, hl, (fun e => by cases e), fun _ => ⟨w.heap.size, 0, rfl, by simp, fun i hi => ?_⟩⟩
  rw [Nat.zero_add]
  refine new_cell rfl ?_
  simp [hi]
theorem RdL.cells {w : World} {a : Option Addr} {cap : Nat} {l : List Int} (h : RdL w a cap l) (hp : 0 < l.length) : ∃ ad, a = some ad ∧ ∀ j u, (l.map (Value.int .i64))[j]? = some u → w.cell? (ad.add j) = some u := by
  obtain ⟨b, off, ha, _, hc⟩ := h.2.2.2 hp
  refine ⟨_, ha, fun j u hu => ?_⟩
  have hj : j < l.length := by
    have := (List.getElem?_eq_some_iff.1 hu).1
    simpa using this
  rw [List.getElem?_map, List.getElem?_eq_getElem hj] at hu
  simp at hu
  rw [show (⟨b, off, none⟩ : Addr).add j = ⟨b, off + j, none⟩ by simp [Addr.add], hc j hj, ← hu, List.getD_eq_getElem?_getD, List.getElem?_eq_getElem hj]
  rfl
theorem ints_one (l : List Int) : ∀ u ∈ l.map (Value.int .i64), u.oneCell' = true := by
  intro u hu
  obtain ⟨b, _, rfl⟩ := List.mem_map.1 hu
  rfl
end Go.Proofs.YthbbokoeiifjdaaGreatDoor
namespace Go.Proofs.YthbbokoeiifjdaaGreatDoor
open Go Go.RowKit Go.ChangeAt

/-- Block g of the memory is an arena; A holds its blocks. -/
def ArM (base : Nat) (t : TypeId) (A : Nat → Prop) (w : World) (g most : Nat) (T : List Bool) (F : List Int) : Prop :=
  A g ∧ (∀ k, A k → base ≤ k ∧ k < w.heap.size) ∧ ∃ a c a' c', w.heap[g]? = some (.cells #[.int .i64 most, .slice a T.length c, .slice a' F.length c'] t (0, 0)) ∧
    OwnB base w (.slice a T.length c) T ∧ OwnI base w (.slice a' F.length c') F ∧ (∀ k, (Value.slice a T.length c).ownBlock = some k → A k) ∧ (∀ k, (Value.slice a' F.length c').ownBlock = some k → A k)
theorem ArM.stay {base : Nat} {t : TypeId} {A S : Nat → Prop} {w w' : World} {g most : Nat} {T : List Bool} {F : List Int} (h : ArM base t A w g most T F) (hb : Stay S w w') (hs : ∀ k, A k → ¬ S k) : ArM base t A w' g most T F := by
  obtain ⟨h1, h2, a, c, a', c', h3, h4, h5, h6, h7⟩ := h
  exact ⟨h1, fun k hk => ⟨(h2 k hk).1, Nat.lt_of_lt_of_le (h2 k hk).2 hb.size⟩, a, c, a', c', hb.kept h3 (hs _ h1), ownsRow_stay h4 hb (fun k hk => hs k (h6 k hk)), ownsRow_stay h5 hb (fun k hk => hs k (h7 k hk)), h6, h7⟩
theorem ArM.below {base : Nat} {t : TypeId} {A : Nat → Prop} {w w' : World} {g most : Nat} {T : List Bool} {F : List Int} (h : ArM base t A w g most T F) (hb : Below w.heap.size w w') : ArM base t A w' g most T F :=
  h.stay (Stay.of_below (S := fun _ => False) hb) (fun _ _ h => h)
/-- The three cells. -/
structure CellsA (w : World) (g : Nat) (m u v : Value) : Prop where
  c0 : w.cell? ⟨g, 0, none⟩ = some m
  c1 : w.cell? ⟨g, 1, none⟩ = some u
  c2 : w.cell? ⟨g, 2, none⟩ = some v
  f0 : w.frozen? ⟨g, 0, none⟩ = false
  f1 : w.frozen? ⟨g, 1, none⟩ = false
  f2 : w.frozen? ⟨g, 2, none⟩ = false
theorem cellsA {w : World} {g : Nat} {m u v : Value} {t : TypeId} (h : w.heap[g]? = some (.cells #[m, u, v] t (0, 0))) : CellsA w g m u v :=
  ⟨(cell_of h).trans rfl, (cell_of h).trans rfl, (cell_of h).trans rfl, free_of h, free_of h, free_of h⟩
/-- A store into the list of those that are taken. -/
theorem ArM.setT {base : Nat} {t : TypeId} {A : Nat → Prop} {w : World} {g most b c c' : Nat} {a' : Option Addr} {T : List Bool} {F : List Int} (ht : t ≠ 4) (h1 : A g) (h2 : ∀ k, A k → base ≤ k ∧ k < w.heap.size)
    (h3 : w.heap[g]? = some (.cells #[.int .i64 most, .slice (some ⟨b, 0, none⟩) T.length c, .slice a' F.length c'] t (0, 0))) (h4 : OwnB base w (.slice (some ⟨b, 0, none⟩) T.length c) T) (h5 : OwnI base w (.slice a' F.length c') F)
    (h6 : A b) (h7 : ∀ k, (Value.slice a' F.length c').ownBlock = some k → A k) (j : Nat) (x : Bool) : ArM base t A (w.setCell ⟨b, j, none⟩ (.bool x)) g most (T.set j x) F := by
  have hst : Stay (fun k => k = b) w (w.setCell ⟨b, j, none⟩ (.bool x)) := Stay.setCell (S := fun k => k = b) (Stay.refl _ _) (p := ⟨b, j, none⟩) (.inr rfl) _
  have hne : g ≠ b := fun e => own_ne h4 h3 ht b rfl e.symm
  have h4' := OwnB.set h4 j x
  rw [List.length_set] at h4'
  refine ⟨h1, fun k hk => ⟨(h2 k hk).1, Nat.lt_of_lt_of_le (h2 k hk).2 hst.size⟩, some ⟨b, 0, none⟩, c, a', c', ?_, ?_, ownsRow_stay h5 hst (fun k hk e => own_ne2 h5 h4 (by decide) k hk (by rw [e]; rfl)), ?_, h7⟩
  · rw [List.length_set]; exact hst.kept h3 hne
  · rw [List.length_set]; exact h4'
  · rintro k hk
    have : b = k := by simpa [Value.ownBlock] using hk
    rw [← this]; exact h6

theorem anew_ok (most : Nat) (w : World) (h : most ≤ 268435456) : Calls Tryz.prog 106 #[.int .i64 most] w fun e w' => e = .returned (.pointer (some ⟨w.heap.size, 0, none⟩)) ∧ ArM w.heap.size 146 (fun k => k = w.heap.size) w' w.heap.size most [] [] ∧ Below w.heap.size w w' := by
  have h1 : ¬ (268435456 : Int) < most := by omega
  go_enter Tryz.func106, Tryz.ntmps106
  go_wp2
  go_ret
  refine ⟨rfl, ⟨rfl, fun k hk => ?_, none, 0, none, 0, alloc_of, World.ownsRow_nil _ _ _ _, World.ownsRow_nil _ _ _ _, fun k hk => by simp [Value.ownBlock] at hk, fun k hk => by simp [Value.ownBlock] at hk⟩, (Below.refl _ _).alloc (Nat.le_refl _) _⟩
  subst hk
  exact ⟨Nat.le_refl _, by simp⟩
theorem anew_no (most : Int) (w : World) (h : most < 0 ∨ 268435456 < most) : Calls Tryz.prog 106 #[.int .i64 most] w fun e w' => e = .returned (.pointer none) ∧ w = w' := by
  by_cases h0 : most < 0
  · clear h
    go_enter Tryz.func106, Tryz.ntmps106
    go_wp2
    go_ret
    exact ⟨rfl, rfl⟩
  · have h1 : 268435456 < most := by omega
    clear h
    go_enter Tryz.func106, Tryz.ntmps106
    go_wp2
    go_ret
    exact ⟨rfl, rfl⟩
theorem alive_nil (w : World) : Calls Tryz.prog 108 #[.pointer none] w fun e w' => e = .returned (.int .i64 0) ∧ w = w' := by
  go_enter Tryz.func108, Tryz.ntmps108
  go_wp2
  go_ret
  exact ⟨rfl, rfl⟩
theorem alive {base g most : Nat} {A : Nat → Prop} {T : List Bool} {F : List Int} (w : World) (h : ArM base 146 A w g most T F) (hs : Ar.S most T F) :
    Calls Tryz.prog 108 #[.pointer (some ⟨g, 0, none⟩)] w fun e w' => e = .returned (.int .i64 ((T.length - F.length : Nat) : Int)) ∧ ∃ n, w' = w.drewN n := by
  obtain ⟨h1, h2, a, c, a', c', h3, h4, h5, h6, h7⟩ := h
  obtain ⟨c0, c1, c2, f0, f1, f2⟩ := cellsA h3
  have q1 := hs.len
  have q2 := hs.tm
  have q3 := hs.mx
  clear h1 h2 h3 h4 h5 h6 h7 f0 f1 f2 c0 hs
  have e : ((T.length - F.length : Nat) : Int) = T.length - F.length := by omega
  rw [e]
  clear e
  go_enter Tryz.func108, Tryz.ntmps108
  go_wp2
  go_quiet (fail)
  go_wp2
  go_ret
  exact ⟨rfl, _, rfl⟩
theorem alive_n {base g most n : Nat} {A : Nat → Prop} {T : List Bool} {F : List Int} (w : World) (h : ArM base 146 A w g most T F) (hs : Ar.S most T F) (hn : T.length - F.length = n) :
    Calls Tryz.prog 108 #[.pointer (some ⟨g, 0, none⟩)] w fun e w' => e = .returned (.int .i64 n) ∧ ∃ n, w' = w.drewN n := by
  subst hn
  exact alive w h hs
theorem ArM.drewN {base : Nat} {t : TypeId} {A : Nat → Prop} {w : World} {g most : Nat} {T : List Bool} {F : List Int} (h : ArM base t A w g most T F) (n : Nat) : ArM base t A (w.drewN n) g most T F := h
end Go.Proofs.YthbbokoeiifjdaaGreatDoor
namespace Go.Proofs.YthbbokoeiifjdaaGreatDoor
open Go Go.RowKit Go.ChangeAt

/-- An arena behind a call: its blocks are those that it had, or new ones; all others stay. -/
def Turned (base : Nat) (t : TypeId) (A : Nat → Prop) (w w' : World) (g most : Nat) (T : List Bool) (F : List Int) : Prop :=
  ∃ A', ArM base t A' w' g most T F ∧ Stay A w w' ∧ ∀ k, A' k → A k ∨ w.heap.size ≤ k
/-- Another list of the freed ones in the arena's cell. -/
theorem ArM.setF {base : Nat} {t : TypeId} {A : Nat → Prop} {w1 : World} {g most c : Nat} {a a1 : Option Addr} {c1 n1 : Nat} {T : List Bool} {F1 : List Int} {v : Value} (hn : F1.length = n1) (hti : t ≠ 3) (h1 : A g) (h2 : ∀ k, A k → base ≤ k ∧ k < w1.heap.size)
    (h3 : w1.heap[g]? = some (.cells #[.int .i64 most, .slice a T.length c, v] t (0, 0))) (h4 : OwnB base w1 (.slice a T.length c) T) (h6 : ∀ k, (Value.slice a T.length c).ownBlock = some k → A k) (htb : t ≠ 4)
    (h5 : w1.ownsRow base 3 1 (.slice a1 n1 c1) n1 (F1.map (Value.int .i64))) (h7 : ∀ k, (Value.slice a1 n1 c1).ownBlock = some k → A k) : ArM base t A (w1.setCell ⟨g, 2, none⟩ (.slice a1 n1 c1)) g most T F1 := by
  subst hn
  have hst : Stay (fun k => k = g) w1 (w1.setCell ⟨g, 2, none⟩ (.slice a1 F1.length c1)) := Stay.setCell (S := fun k => k = g) (Stay.refl _ _) (p := ⟨g, 2, none⟩) (.inr rfl) _
  exact ⟨h1, fun k hk => ⟨(h2 k hk).1, Nat.lt_of_lt_of_le (h2 k hk).2 hst.size⟩, a, c, a1, c1, set_of h3 _, ownsRow_stay h4 hst (own_ne h4 h3 htb), ownsRow_stay h5 hst (own_ne h5 h3 hti), h6, h7⟩
theorem ArM.setV {base : Nat} {t : TypeId} {A : Nat → Prop} {w1 : World} {g most c' : Nat} {a' a1 : Option Addr} {c1 n1 : Nat} {T1 : List Bool} {F : List Int} {v : Value} (hn : T1.length = n1) (hti : t ≠ 3) (h1 : A g) (h2 : ∀ k, A k → base ≤ k ∧ k < w1.heap.size)
    (h3 : w1.heap[g]? = some (.cells #[.int .i64 most, v, .slice a' F.length c'] t (0, 0))) (h4 : OwnI base w1 (.slice a' F.length c') F) (h6 : ∀ k, (Value.slice a' F.length c').ownBlock = some k → A k) (htb : t ≠ 4)
    (h5 : w1.ownsRow base 4 1 (.slice a1 n1 c1) n1 (T1.map Value.bool)) (h7 : ∀ k, (Value.slice a1 n1 c1).ownBlock = some k → A k) : ArM base t A (w1.setCell ⟨g, 1, none⟩ (.slice a1 n1 c1)) g most T1 F := by
  subst hn
  have hst : Stay (fun k => k = g) w1 (w1.setCell ⟨g, 1, none⟩ (.slice a1 T1.length c1)) := Stay.setCell (S := fun k => k = g) (Stay.refl _ _) (p := ⟨g, 1, none⟩) (.inr rfl) _
  exact ⟨h1, fun k hk => ⟨(h2 k hk).1, Nat.lt_of_lt_of_le (h2 k hk).2 hst.size⟩, a1, c1, a', c', set_of h3 _, ownsRow_stay h5 hst (own_ne h5 h3 htb), ownsRow_stay h4 hst (own_ne h4 h3 hti), h7, h6⟩

theorem atake_nil (w : World) : Calls Tryz.prog 107 #[.pointer none] w fun e w' => e = .returned (.tuple #[.int .i64 (-1), .int .i64 6]) ∧ w = w' := by
  go_enter Tryz.func107, Tryz.ntmps107
  go_wp2
  go_ret2
  exact ⟨rfl, rfl⟩
theorem atake_full {base g most : Nat} {A : Nat → Prop} {T : List Bool} (w : World) (h : ArM base 146 A w g most T []) (hs : Ar.S most T []) (hl : ¬ T.length < most) :
    Calls Tryz.prog 107 #[.pointer (some ⟨g, 0, none⟩)] w fun e w' => e = .returned (.tuple #[.int .i64 (-1), .int .i64 3]) ∧ ∃ n, w' = w.drewN n := by
  have H := Lib.hid h
  have HS := Lib.hid hs
  have hlv : (T.length - ([] : List Int).length : Nat) = most := by have := hs.tm; simp; omega
  have HLV := Lib.hid hlv
  obtain ⟨h1, h2, a, c, a', c', h3, h4, h5, h6, h7⟩ := h
  obtain ⟨c0, c1, c2, f0, f1, f2⟩ := cellsA h3
  clear h1 h2 h3 h4 h5 h6 h7 f0 f1 f2 c1 c2 hs hl hlv
  go_enter Tryz.func107, Tryz.ntmps107
  go_wp2_with fail
  go_quiet ((go_at_call 108; exact Calls.quiet_of (alive_n _ (H.out.drewN _) HS.out HLV.out)))
  go_wp2_with fail
  go_ret2
  exact ⟨rfl, _, rfl⟩
set_option maxRecDepth 100000 in
theorem atake_new {base g most : Nat} {A : Nat → Prop} {T : List Bool} (w : World) (h : ArM base 146 A w g most T []) (hs : Ar.S most T []) (hl : T.length < most) :
    Calls Tryz.prog 107 #[.pointer (some ⟨g, 0, none⟩)] w fun e w' => e = .returned (.tuple #[.int .i64 T.length, .int .i64 0]) ∧ Turned base 146 A w w' g most (T ++ [true]) [] := by
  obtain ⟨i0, hi, hz0, hz1, hz2⟩ := info_parts infoB
  have H := Lib.hid h
  have HS := Lib.hid hs
  have HLV := Lib.hid (show (T.length - ([] : List Int).length : Nat) = T.length by simp)
  have hmx := hs.mx
  have c0 : w.cell? ⟨g, 0, none⟩ = some (.int .i64 most) := by
    obtain ⟨h1, h2, a, c, a', c', h3, h4, h5, h6, h7⟩ := h
    exact (cellsA h3).c0
  have hne : ¬ (T.length : Int) = most := by omega
  clear hs h
  go_enter Tryz.func107, Tryz.ntmps107
  go_wp2_with fail
  go_quiet ((go_at_call 108; exact Calls.quiet_of (alive_n _ (H.out.drewN _) HS.out HLV.out)))
  have hst0 : Stay A w (w.drewN nq) := (Stay.refl _ _).drewN _
  have HQ := Lib.hid (H.out.drewN nq)
  clear H c0
  generalize w.drewN nq = w0 at *
  obtain ⟨h1, h2, a, c, a', c', h3, h4, h5, h6, h7⟩ := HQ.out
  obtain ⟨c0, c1, c2, f0, f1, f2⟩ := cellsA h3
  have hbase : base ≤ w0.heap.size := by have := h2 g h1; omega
  have hgs : g < w0.heap.size := (h2 g h1).2
  have c2' : w0.cell? ⟨g, 2, none⟩ = some (.slice a' 0 c') := c2
  have H1 := Lib.hid h1
  have H2 := Lib.hid h2
  have H3 := Lib.hid h3
  have H4 := Lib.hid h4
  have H5 := Lib.hid h5
  have H6 := Lib.hid h6
  have H7 := Lib.hid h7
  clear h1 h2 h3 h4 h5 h6 h7 f0 f2 c0 c2
  go_wp2_with (first
    | (at_builtin; (refine wpList_append_own_at _ rfl (.tmp 28) (.tmp 29) 116 rfl base 4 i0 (.bool false) 1 1 Tryz.underlying116 hi hz0 hz1 hz2 rfl (by decide) _ _ _ rfl (World.ownsRow.alloc H4.out _) ⟨w0.heap.size, 0, none⟩ 1 1 [.bool true] rfl rfl (cell_one_new _ _ _) (fun u hu => by simp at hu; subst hu; rfl) (by unfold maxLen; omega) (by omega) (by simp; omega) ?_); intro v1 w1 hown1 hgrow1 hnil1 hat1;
       (obtain ⟨a1, k1, rfl, hk1, hk2⟩ := own_form hown1);
       (have hst1 : Stay (fun i => (Value.slice a T.length c).ownBlock = some i) w0 w1 := Stay.trans ((Stay.refl _ _).alloc _) (grown_stay hgrow1) (fun i hi e => e));
       (have h31 : w1.heap[g]? = _ := hst1.kept H3.out (fun e => own_ne H4.out H3.out (by decide) _ e rfl));
       (have h51 : OwnI base w1 (.slice a' 0 c') [] := ownsRow_stay H5.out hst1 (fun k hk e => own_ne2 H5.out H4.out (by decide) k hk e));
       (have hat2 : (Value.slice a1 (T.length + 1) k1).ownBlock = (Value.slice a T.length c).ownBlock ∨ (Value.slice a1 (T.length + 1) k1).ownBlock = some (w0.heap.size + 1) := by (rcases hat1 with e | e; exact .inl e; exact .inr (e.trans (by simp))));
       (obtain ⟨c01, c11, c21, f01, f11, f21⟩ := cellsA h31);
       (have H31 := Lib.hid h31); clear h31 f01 f21 c01 c21 hnil1 hgrow1 hat1))
  go_ret2
  have hz1 := hst1.size
  have hrow : w1.ownsRow base 4 1 (.slice a1 (T.length + 1) k1) (T.length + 1) ((T ++ [true]).map Value.bool) := by rw [List.map_append]; exact hown1
  have hlt1 := hown1.lt
  have hA1 : Stay A w0 w1 := hst1.mono (fun i _ e => H6.out i e)
  refine ⟨rfl, fun k => A k ∨ (w0.heap.size ≤ k ∧ k < w1.heap.size), ?_, hst0.trans (hA1.setCell (.inr H1.out) _) (fun _ _ h => h), fun k hk => ?_⟩
  · refine ArM.setV (by simp) (by decide) (.inl H1.out) (fun k hk => ?_) H31.out h51 (fun k hk => .inl (H7.out k hk)) (by decide) hrow (fun k hk => ?_)
    · rcases hk with hk | hk
      · exact ⟨(H2.out k hk).1, Nat.lt_of_lt_of_le (H2.out k hk).2 hz1⟩
      · exact ⟨Nat.le_trans hbase hk.1, hk.2⟩
    · rcases hat2 with e | e
      · exact .inl (H6.out k (e ▸ hk))
      · have := hlt1 k hk
        rw [e] at hk
        exact .inr ⟨by have := Option.some.inj hk; omega, this.2⟩
  · have := hst0.size
    rcases hk with hk | hk
    · exact .inl hk
    · exact .inr (by omega)
set_option maxRecDepth 100000 in
theorem atake_old {base g most : Nat} {A : Nat → Prop} {T : List Bool} {F : List Int} {k : Int} (w : World) (h : ArM base 146 A w g most T (F ++ [k])) (hs : Ar.S most T (F ++ [k])) :
    Calls Tryz.prog 107 #[.pointer (some ⟨g, 0, none⟩)] w fun e w' => e = .returned (.tuple #[.int .i64 k, .int .i64 0]) ∧ Turned base 146 A w w' g most (T.set k.toNat true) F := by
  have hold := hs.old
  obtain ⟨hk0, hk1, _, _⟩ := hold
  have hmx := hs.mx
  have htm := hs.tm
  obtain ⟨n, rfl⟩ := Int.eq_ofNat_of_zero_le hk0
  obtain ⟨lv, hlv⟩ : ∃ lv, T.length - (F ++ [(n : Int)]).length = lv := ⟨_, rfl⟩
  have hlen : (F ++ [(n : Int)]).length = F.length + 1 := by simp
  have hlen2 := hs.len
  have hne : ¬ (lv : Int) = most := by omega
  have H := Lib.hid h
  have HS := Lib.hid hs
  have HLV := Lib.hid hlv
  have c0 : w.cell? ⟨g, 0, none⟩ = some (.int .i64 most) := by
    obtain ⟨h1, h2, a, c, a', c', h3, h4, h5, h6, h7⟩ := h
    exact (cellsA h3).c0
  clear hs h hlv hk0
  go_enter Tryz.func107, Tryz.ntmps107
  go_wp2_with fail
  go_quiet ((go_at_call 108; exact Calls.quiet_of (alive_n _ (H.out.drewN _) HS.out HLV.out)))
  have hst0 : Stay A w (w.drewN nq) := (Stay.refl _ _).drewN _
  have HQ := Lib.hid (H.out.drewN nq)
  clear H c0
  generalize w.drewN nq = w0 at *
  obtain ⟨h1, h2, a, c, a', c', h3, h4, h5, h6, h7⟩ := HQ.out
  obtain ⟨b', rfl, hb0', hlt0', hc0', hf0'⟩ := OwnI.open h5 (by omega)
  obtain ⟨b, rfl, hb0, hlt0, hc0, hf0⟩ := OwnB.open h4 (by omega)
  have hfcell : w0.cell? ⟨b', F.length, none⟩ = some (.int .i64 n) := by rw [hc0' F.length (by omega)]; simp
  have htcell := hc0 n (by omega)
  have htf := hf0 n
  have h5' := OwnI.init h5
  obtain ⟨_, kc, e, hn1, _⟩ := own_form h5
  simp only [Value.slice.injEq] at e
  obtain ⟨rfl, _, rfl⟩ := e
  rw [hlen] at h3 hn1 hlen2
  obtain ⟨c0, c1, c2, f0, f1, f2⟩ := cellsA h3
  have hsl : (F.length : Int) ≤ c' := by omega
  have hbg : ¬ b = g := fun e => own_ne h4 h3 (by decide) b rfl e
  have hbb : ¬ b = b' := fun e => own_ne2 h4 h5' (by decide) b rfl (by rw [e]; rfl)
  have hA := h7 b' rfl
  have hst : Stay (fun k => k = g) w0 (w0.setCell ⟨g, 2, none⟩ (.slice (some ⟨b', 0, none⟩) F.length c')) := Stay.setCell (S := fun k => k = g) (Stay.refl _ _) (p := ⟨g, 2, none⟩) (.inr rfl) _
  have key := Lib.hid (ArM.setT (A := A) (F := F) (by decide) h1 (fun k hk => ⟨(h2 k hk).1, Nat.lt_of_lt_of_le (h2 k hk).2 hst.size⟩) (set_of h3 _) (ownsRow_stay h4 hst (own_ne h4 h3 (by decide))) (ownsRow_stay h5' hst (own_ne h5' h3 (by decide))) (h6 b rfl) (fun k hk => h7 k hk) n true)
  have H1 := Lib.hid h1
  have H4 := Lib.hid (h6 b rfl)
  clear h1 h2 h3 h4 h5 h6 h7 h5' hc0' hf0' hc0 hf0 hlen
  go_wp2_with fail
  go_ret2
  exact ⟨rfl, A, key.out, (hst0.setCell (p := ⟨g, 2, none⟩) (.inr H1.out) _).setCell (p := ⟨b, n, none⟩) (.inr H4.out) _, fun k hk => .inl hk⟩
theorem atake {base g most : Nat} {A : Nat → Prop} {T : List Bool} {F : List Int} (w : World) (h : ArM base 146 A w g most T F) (hs : Ar.S most T F) :
    Calls Tryz.prog 107 #[.pointer (some ⟨g, 0, none⟩)] w fun e w' => e = .returned (.tuple #[.int .i64 (Ar.tk most T F).1, .int .i64 (Ar.tk most T F).2.1]) ∧ Turned base 146 A w w' g most (Ar.tk most T F).2.2.1 (Ar.tk most T F).2.2.2 := by
  by_cases hF : F = []
  · subst hF
    by_cases hl : T.length < most
    · rw [Ar.tk_new _ _ hl]
      exact atake_new w h hs hl
    · rw [Ar.tk_full _ _ hl]
      refine (atake_full w h hs hl).mono ?_
      rintro e w' ⟨he, n, rfl⟩
      exact ⟨he, A, h.drewN n, (Stay.refl _ _).drewN n, fun k hk => .inl hk⟩
  · obtain ⟨G, k, rfl⟩ := Ar.snoc_of hF
    rw [Ar.tk_snoc]
    exact atake_old w h hs
end Go.Proofs.YthbbokoeiifjdaaGreatDoor
namespace Go.Proofs.YthbbokoeiifjdaaGreatDoor
open Go Go.RowKit Go.ChangeAt

/-- Behind the loop: all of them are marked, and none was wrong. -/
theorem wp_append_list {P : Program} (w : World) {ops : Array Oper} {rest : List Oper} {o : Oper} {a : Act} {Q : Exit → Act → World → Prop} (hgd : o.guard = none) (s x : Operand) (t : TypeId)
    (ho : o.op = .call { callee := .builtin .append, args := #[s, x], argTypes := #[t, t] })
    (base : Nat) (e : TypeId) (i : TypeInfo) (ht : P.underlying t = some (.slice e)) (hi : P.info? e = some i) (hz : i.zero = some (.int .i64 0)) (hsize : i.size = 1) (hby : i.bytes = 8)
    (v : Value) (F : List Int) (hs : a.eval s = v) (hown : w.ownsRow base e 1 v F.length (F.map (Value.int .i64)))
    (b : Option Addr) (c : Nat) (l : List Int) (hx : a.eval x = .slice b l.length c) (hl : RdL w b c l) (hm : F.length + l.length ≤ 1099511627776) (hbase : base ≤ w.heap.size)
    (h : ∀ v' w', w'.ownsRow base e 1 v' (F.length + l.length) ((F ++ l).map (Value.int .i64)) → w.grownBy w' v.ownBlock → (v'.ownBlock = v.ownBlock ∨ v'.ownBlock = some w.heap.size) → wpList P ops Q rest (a.put o.dst v') w') :
    wpList P ops Q (o :: rest) a w := by
  have go : ∀ ad, b = some ad → (∀ j u, (l.map (Value.int .i64))[j]? = some u → w.cell? (ad.add j) = some u) → wpList P ops Q (o :: rest) a w := by
    intro ad hb hc
    subst hb
    refine wpList_append_own_at w hgd s x t ho base e i (.int .i64 0) 1 8 ht hi hz hsize hby rfl (by decide) v F.length _ hs hown ad l.length c (l.map (Value.int .i64)) hx (by simp) hc (ints_one _) (by unfold maxLen; omega) (by omega) hbase ?_
    intro v' w' h1 h2 _ h4
    rw [← List.map_append] at h1
    exact h v' w' h1 h2 h4
  by_cases hp : 0 < l.length
  · obtain ⟨ad, hb, hc⟩ := hl.cells hp
    exact go ad hb hc
  · have h0 : l = [] := List.eq_nil_of_length_eq_zero (by omega)
    subst h0
    cases b with
    | some ad => exact go ad rfl (fun j u hu => by simp at hu)
    | none =>
      have hc := hl.2.2.1 rfl
      subst hc
      refine wpList_append_own_none hgd s x t ho base e i 1 ht hi v F.length _ hs hown hx ?_
      refine h v w ?_ ⟨rfl, rfl, rfl, Nat.le_refl _, fun _ _ _ => rfl⟩ (.inl rfl)
      rw [List.append_nil]
      exact hown
theorem ArM.lt {base : Nat} {t : TypeId} {A : Nat → Prop} {w : World} {g most : Nat} {T : List Bool} {F : List Int} (h : ArM base t A w g most T F) : ∀ k, A k → base ≤ k ∧ k < w.heap.size := h.2.1
end Go.Proofs.YthbbokoeiifjdaaGreatDoor
