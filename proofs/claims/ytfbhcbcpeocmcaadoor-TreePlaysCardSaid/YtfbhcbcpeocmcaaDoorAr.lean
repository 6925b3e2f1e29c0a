/- Arenas as plain lists: which numbers are taken (a list of bools), which were freed (a list of numbers), what Take and Free make of them. No function of the program stands in it. -/
import Derived.Test.YtfbhcbcpeocmcaaDoorFrame
namespace Go.Proofs.YtfbhcbcpeocmcaaDoor
namespace Ar

/-- The list with each of the numbers of l set to b. -/
def setAll (T : List Bool) (b : Bool) (l : List Int) : List Bool := l.foldl (fun T k => T.set k.toNat b) T
/-- Is k taken? -/
def is (T : List Bool) (k : Int) : Bool := decide (0 ≤ k) && T.getD k.toNat false
/-- Is each number of l taken, and none of them there twice? -/
def good (T : List Bool) : List Int → Bool
  | [] => true
  | k :: l => is T k && good (T.set k.toNat false) l
/-- Take: the number, the error, and what is behind it. -/
def tk (most : Nat) (T : List Bool) (F : List Int) : Int × Int × List Bool × List Int :=
  match F.getLast? with
  | some k => (k, 0, T.set k.toNat true, F.dropLast)
  | none => if T.length < most then (T.length, 0, T ++ [true], []) else (-1, 3, T, [])
/-- Free: the error, and what is behind it. -/
def fr (T : List Bool) (F : List Int) (l : List Int) : Int × List Bool × List Int :=
  if good T l = true then (0, setAll T false l, F ++ l) else (7, T, F)
/-- What holds of an arena at all times. -/
structure S (most : Nat) (T : List Bool) (F : List Int) : Prop where
  tm : T.length ≤ most
  mx : most ≤ 268435456
  nd : F.Nodup
  fr : ∀ k ∈ F, 0 ≤ k ∧ k < T.length ∧ T.getD k.toNat false = false

theorem setAll_length (b : Bool) (l : List Int) : ∀ T : List Bool, (setAll T b l).length = T.length := by
  induction l with
  | nil => intro T; rfl
  | cons k l ih =>
    intro T
    show (setAll (T.set k.toNat b) b l).length = _
    rw [ih, List.length_set]
theorem setAll_append (T : List Bool) (b : Bool) (l m : List Int) : setAll T b (l ++ m) = setAll (setAll T b l) b m := List.foldl_append
theorem take_succ (l : List Int) (i : Nat) (h : i < l.length) : l.take (i + 1) = l.take i ++ [l.getD i 0] := by
  rw [List.take_succ_eq_append_getElem h, List.getD_eq_getElem?_getD, List.getElem?_eq_getElem h]
  rfl
theorem setAll_succ (T : List Bool) (b : Bool) (l : List Int) (i : Nat) (h : i < l.length) : setAll T b (l.take (i + 1)) = (setAll T b (l.take i)).set (l.getD i 0).toNat b := by
  rw [take_succ l i h, setAll_append]
  rfl
theorem getD_set (T : List Bool) (i j : Nat) (b : Bool) : (T.set i b).getD j false = if i = j ∧ j < T.length then b else T.getD j false := by
  rw [List.getD_eq_getElem?_getD, List.getD_eq_getElem?_getD, List.getElem?_set]
  by_cases h : i = j
  · subst h
    by_cases h2 : i < T.length
    · simp [h2]
    · simp [h2]
  · simp [h]
theorem getD_setAll (b : Bool) (l : List Int) (j : Nat) : ∀ T : List Bool, (setAll T b l).getD j false = if (∃ k ∈ l, k.toNat = j) ∧ j < T.length then b else T.getD j false := by
  induction l with
  | nil => intro T; simp [setAll]
  | cons k l ih =>
    intro T
    show (setAll (T.set k.toNat b) b l).getD j false = _
    rw [ih, getD_set, List.length_set]
    by_cases h2 : j < T.length
    · by_cases h1 : ∃ k ∈ l, k.toNat = j
      · have h3 : ∃ k' ∈ k :: l, k'.toNat = j := by obtain ⟨k', a, b⟩ := h1; exact ⟨k', List.mem_cons_of_mem _ a, b⟩
        rw [if_pos ⟨h1, h2⟩, if_pos ⟨h3, h2⟩]
      · by_cases h4 : k.toNat = j
        · rw [if_neg (fun h => h1 h.1), if_pos ⟨h4, h2⟩, if_pos ⟨⟨k, List.mem_cons_self, h4⟩, h2⟩]
        · rw [if_neg (fun h => h1 h.1), if_neg (fun h => h4 h.1), if_neg]
          rintro ⟨⟨k', a, b⟩, _⟩
          rcases List.mem_cons.1 a with rfl | a
          · exact h4 b
          · exact h1 ⟨k', a, b⟩
    · rw [if_neg (fun h => h2 h.2), if_neg (fun h => h2 h.2), if_neg (fun h => h2 h.2)]
theorem is_lt {T : List Bool} {k : Int} (h : is T k = true) : 0 ≤ k ∧ k < T.length ∧ T.getD k.toNat false = true := by
  unfold is at h
  rw [Bool.and_eq_true, decide_eq_true_eq] at h
  refine ⟨h.1, ?_, h.2⟩
  apply Int.not_le.1
  intro h2
  have h3 := h.2
  rw [List.getD_eq_getElem?_getD, List.getElem?_eq_none (by omega)] at h3
  cases h3
theorem is_of {T : List Bool} {k : Int} (h : 0 ≤ k) (h2 : T.getD k.toNat false = true) : is T k = true := by
  unfold is
  rw [decide_eq_true h, h2]
  rfl
theorem is_out {T : List Bool} {k : Int} (h : k < 0 ∨ (T.length : Int) ≤ k) : is T k = false := by
  cases e : is T k with
  | false => rfl
  | true => have := is_lt e; omega
theorem is_set {T : List Bool} {k j : Int} (hk : 0 ≤ k) : is (T.set k.toNat false) j = (is T j && !decide (k = j)) := by
  unfold is
  rw [getD_set]
  by_cases h0 : 0 ≤ j
  · by_cases h1 : k = j
    · subst h1
      by_cases h2 : k.toNat < T.length
      · simp [h2]
      · simp [h2]
    · rw [if_neg (by omega)]
      simp [h1]
  · simp [h0]
theorem good_snoc (l : List Int) (k : Int) : ∀ T : List Bool, good T (l ++ [k]) = (good T l && is (setAll T false l) k) := by
  induction l with
  | nil => intro T; simp [good, setAll]
  | cons j l ih =>
    intro T
    show (is T j && good (T.set j.toNat false) (l ++ [k])) = ((is T j && good (T.set j.toNat false) l) && is (setAll (T.set j.toNat false) false l) k)
    rw [ih, Bool.and_assoc]
theorem good_succ (T : List Bool) (l : List Int) (i : Nat) (h : i < l.length) : good T (l.take (i + 1)) = (good T (l.take i) && is (setAll T false (l.take i)) (l.getD i 0)) := by
  rw [take_succ l i h, good_snoc]
theorem good_append (l m : List Int) : ∀ T : List Bool, good T (l ++ m) = (good T l && good (setAll T false l) m) := by
  induction l with
  | nil => intro T; simp [good, setAll]
  | cons j l ih =>
    intro T
    show (is T j && good (T.set j.toNat false) (l ++ m)) = ((is T j && good (T.set j.toNat false) l) && good (setAll (T.set j.toNat false) false l) m)
    rw [ih, Bool.and_assoc]
/-- Where a piece of the list fails, the list fails. -/
theorem good_take {T : List Bool} {l : List Int} (i : Nat) (h : good T (l.take i) = false) : good T l = false := by
  rw [← List.take_append_drop i l, good_append, h]
  rfl
theorem good_mem (l : List Int) : ∀ T : List Bool, good T l = true → l.Nodup ∧ ∀ k ∈ l, is T k = true := by
  induction l with
  | nil => intro T _; exact ⟨List.nodup_nil, fun k h => by cases h⟩
  | cons j l ih =>
    intro T h
    have h' : (is T j && good (T.set j.toNat false) l) = true := h
    rw [Bool.and_eq_true] at h'
    obtain ⟨h1, h2⟩ := ih _ h'.2
    have h0 := (is_lt h'.1).1
    refine ⟨List.nodup_cons.2 ⟨fun hm => ?_, h1⟩, fun k hk => ?_⟩
    · have := h2 j hm
      rw [is_set h0] at this
      simp at this
    · rcases List.mem_cons.1 hk with rfl | hk
      · exact h'.1
      · have := h2 k hk
        rw [is_set h0, Bool.and_eq_true] at this
        exact this.1
/-- What is taken behind the first ones have been let go. -/
theorem is_setAll (l : List Int) (j : Int) : ∀ T : List Bool, (∀ k ∈ l, 0 ≤ k) → is (setAll T false l) j = (is T j && !decide (j ∈ l)) := by
  induction l with
  | nil => intro T _; simp [setAll]
  | cons k l ih =>
    intro T h
    show is (setAll (T.set k.toNat false) false l) j = _
    rw [ih _ (fun k' h' => h k' (List.mem_cons_of_mem _ h')), is_set (h k List.mem_cons_self)]
    by_cases h1 : k = j
    · subst h1; simp
    · have h2 : ¬ j = k := fun e => h1 e.symm
      simp [h1, h2]
/-- Let go, and taken again. -/
theorem setAll_back {T : List Bool} {l : List Int} (h : good T l = true) : setAll (setAll T false l) true l = T := by
  obtain ⟨_, hm⟩ := good_mem l T h
  apply List.ext_getElem?
  intro j
  have hl : (setAll (setAll T false l) true l).length = T.length := by rw [setAll_length, setAll_length]
  by_cases hj : j < T.length
  · have e := getD_setAll true l j (setAll T false l)
    rw [setAll_length] at e
    have e1 := getD_setAll false l j T
    have e2 : (setAll (setAll T false l) true l).getD j false = T.getD j false := by
      rw [e]
      by_cases hk : ∃ k ∈ l, k.toNat = j
      · rw [if_pos ⟨hk, hj⟩]
        obtain ⟨k, hk1, hk2⟩ := hk
        rw [← hk2]
        exact (is_lt (hm k hk1)).2.2.symm
      · rw [if_neg (fun h => hk h.1), e1, if_neg (fun h => hk h.1)]
    rw [List.getD_eq_getElem?_getD, List.getD_eq_getElem?_getD, List.getElem?_eq_getElem (by omega), List.getElem?_eq_getElem hj] at e2
    rw [List.getElem?_eq_getElem (by omega), List.getElem?_eq_getElem hj]
    exact congrArg some e2
  · rw [List.getElem?_eq_none (by omega), List.getElem?_eq_none (by omega)]

theorem nodup_len {T : Nat} : ∀ {F : List Int}, F.Nodup → (∀ k ∈ F, 0 ≤ k ∧ k < T) → F.length ≤ T := by
  induction T with
  | zero =>
    intro F _ h
    cases F with
    | nil => exact Nat.le_refl _
    | cons k F => have := h k List.mem_cons_self; omega
  | succ T ih =>
    intro F hn h
    have h1 := ih (F := F.erase (T : Int)) (hn.erase _) (fun k hk => by
      have h2 := h k (List.mem_of_mem_erase hk)
      have h3 : k ≠ T := fun e => by subst e; exact (List.Nodup.not_mem_erase hn) hk
      omega)
    have h2 : F.length - 1 ≤ (F.erase (T : Int)).length := by
      rw [List.length_erase]
      split <;> omega
    omega
theorem S.len {most : Nat} {T : List Bool} {F : List Int} (h : S most T F) : F.length ≤ T.length :=
  nodup_len h.nd (fun k hk => ⟨(h.fr k hk).1, (h.fr k hk).2.1⟩)
theorem S.nil {most : Nat} (h : most ≤ 268435456) : S most [] [] := ⟨Nat.zero_le _, h, List.nodup_nil, fun k h => by cases h⟩
theorem S.good_len {most : Nat} {T : List Bool} {F l : List Int} (_h : S most T F) (hg : good T l = true) : l.length ≤ T.length := by
  obtain ⟨h1, h2⟩ := good_mem l T hg
  exact nodup_len h1 (fun k hk => ⟨(is_lt (h2 k hk)).1, (is_lt (h2 k hk)).2.1⟩)

/-- Take, where one was freed. -/
theorem tk_snoc (most : Nat) (T : List Bool) (F : List Int) (k : Int) : tk most T (F ++ [k]) = (k, 0, T.set k.toNat true, F) := by
  unfold tk
  rw [List.getLast?_append, List.dropLast_concat]
  rfl
theorem tk_new (most : Nat) (T : List Bool) (h : T.length < most) : tk most T [] = ((T.length : Int), 0, T ++ [true], []) := by
  unfold tk
  rw [List.getLast?_nil]
  exact if_pos h
theorem tk_full (most : Nat) (T : List Bool) (h : ¬ T.length < most) : tk most T [] = (-1, 3, T, []) := by
  unfold tk
  rw [List.getLast?_nil]
  exact if_neg h
theorem S.new {most : Nat} {T : List Bool} (h : S most T []) (hl : T.length < most) : S most (T ++ [true]) [] :=
  ⟨by rw [List.length_append]; exact hl, h.mx, List.nodup_nil, fun k h => by cases h⟩
theorem S.old {most : Nat} {T : List Bool} {F : List Int} {k : Int} (h : S most T (F ++ [k])) : 0 ≤ k ∧ k < T.length ∧ T.getD k.toNat false = false ∧ S most (T.set k.toNat true) F := by
  obtain ⟨h1, h2, h3⟩ := h.fr k (by simp)
  have hn := List.nodup_append.1 h.nd
  refine ⟨h1, h2, h3, by rw [List.length_set]; exact h.tm, h.mx, hn.1, fun j hj => ?_⟩
  obtain ⟨a, b, c⟩ := h.fr j (by simp [hj])
  have hne : j ≠ k := hn.2.2 j hj k (by simp)
  refine ⟨a, by rw [List.length_set]; exact b, ?_⟩
  rw [getD_set, if_neg (by omega)]
  exact c
theorem snoc_of {F : List Int} (h : F ≠ []) : ∃ G k, F = G ++ [k] := ⟨F.dropLast, F.getLast h, (List.dropLast_concat_getLast h).symm⟩
theorem S.tk {most : Nat} {T : List Bool} {F : List Int} (h : S most T F) : S most (tk most T F).2.2.1 (tk most T F).2.2.2 := by
  by_cases hF : F = []
  · subst hF
    by_cases hl : T.length < most
    · rw [tk_new _ _ hl]; exact h.new hl
    · rw [tk_full _ _ hl]; exact h
  · obtain ⟨G, k, rfl⟩ := snoc_of hF
    rw [tk_snoc]
    exact h.old.2.2.2
theorem S.freed {most : Nat} {T : List Bool} {F l : List Int} (h : S most T F) (hg : good T l = true) : S most (setAll T false l) (F ++ l) := by
  obtain ⟨h1, h2⟩ := good_mem l T hg
  refine ⟨by rw [setAll_length]; exact h.tm, h.mx, ?_, fun k hk => ?_⟩
  · rw [List.nodup_append]
    refine ⟨h.nd, h1, fun a ha b hb e => ?_⟩
    subst e
    have q1 := (h.fr a ha).2.2
    have q2 := (is_lt (h2 a hb)).2.2
    rw [q1] at q2
    cases q2
  · rw [setAll_length]
    rcases List.mem_append.1 hk with hk | hk
    · obtain ⟨a, b, c⟩ := h.fr k hk
      refine ⟨a, b, ?_⟩
      rw [getD_setAll]
      split
      · rfl
      · exact c
    · have := is_lt (h2 k hk)
      refine ⟨this.1, this.2.1, ?_⟩
      rw [getD_setAll, if_pos ⟨⟨k, hk, rfl⟩, by omega⟩]
theorem S.free {most : Nat} {T : List Bool} {F l : List Int} (h : S most T F) : S most (Ar.fr T F l).2.1 (Ar.fr T F l).2.2 := by
  unfold Ar.fr
  by_cases hg : good T l = true
  · rw [if_pos hg]; exact h.freed hg
  · rw [if_neg hg]; exact h
end Ar
end Go.Proofs.YtfbhcbcpeocmcaaDoor
