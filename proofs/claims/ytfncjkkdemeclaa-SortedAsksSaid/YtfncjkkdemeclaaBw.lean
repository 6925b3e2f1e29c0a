/- Sorted suffixes of a list of symbols, as plain lists: their order, rows and places. No function of the program stands in it. -/
namespace Go.Proofs.Ytfncjkkdemeclaa
namespace Bw

/-- The order of lists, symbol by symbol; a list goes ahead of what goes on behind it. -/
def lex : List Int → List Int → Bool
  | _, [] => false
  | [], _ :: _ => true
  | a :: x, b :: y => decide (a < b) || (decide (a = b) && lex x y)
theorem lex_nil (x : List Int) : lex x [] = false := by cases x <;> rfl
theorem lex_cons (a b : Int) (x y : List Int) : lex (a :: x) (b :: y) = true ↔ a < b ∨ (a = b ∧ lex x y = true) := by
  show (decide (a < b) || (decide (a = b) && lex x y)) = true ↔ _
  rw [Bool.or_eq_true, Bool.and_eq_true, decide_eq_true_iff, decide_eq_true_iff]
theorem lex_irrefl : ∀ x : List Int, lex x x = false
  | [] => rfl
  | a :: x => by
    cases h : lex (a :: x) (a :: x) with
    | false => rfl
    | true =>
      rcases (lex_cons a a x x).1 h with h1 | ⟨_, h1⟩
      · omega
      · rw [lex_irrefl x] at h1; cases h1
theorem lex_trans : ∀ x y z : List Int, lex x y = true → lex y z = true → lex x z = true
  | x, y, [], _, h2 => by rw [lex_nil] at h2; cases h2
  | x, [], _ :: _, h1, _ => by rw [lex_nil] at h1; cases h1
  | [], _ :: _, _ :: _, _, _ => rfl
  | a :: x, b :: y, c :: z, h1, h2 => by
    rw [lex_cons] at h1 h2 ⊢
    rcases h1 with h1 | ⟨rfl, h1⟩
    · rcases h2 with h2 | ⟨rfl, _⟩
      · exact .inl (by omega)
      · exact .inl h1
    · rcases h2 with h2 | ⟨rfl, h2⟩
      · exact .inl h2
      · exact .inr ⟨rfl, lex_trans x y z h1 h2⟩
theorem lex_total : ∀ x y : List Int, x ≠ y → lex x y = true ∨ lex y x = true
  | [], [], h => absurd rfl h
  | [], _ :: _, _ => .inl rfl
  | _ :: _, [], _ => .inr rfl
  | a :: x, b :: y, h => by
    rw [lex_cons, lex_cons]
    rcases Int.lt_trichotomy a b with h1 | h1 | h1
    · exact .inl (.inl h1)
    · subst h1
      rcases lex_total x y (fun e => h (by rw [e])) with h2 | h2
      · exact .inl (.inr ⟨rfl, h2⟩)
      · exact .inr (.inr ⟨rfl, h2⟩)
    · exact .inr (.inl h1)
theorem lex_asymm {x y : List Int} (h : lex x y = true) : lex y x = false := by
  cases e : lex y x with
  | false => rfl
  | true => have := lex_trans x y x h e; rw [lex_irrefl] at this; cases this

/-- The suffix that begins at p goes ahead of the one at q. -/
def bef (T : List Int) (p q : Nat) : Bool := lex (T.drop p) (T.drop q)
theorem bef_irrefl (T : List Int) (p : Nat) : bef T p p = false := lex_irrefl _
theorem bef_trans {T : List Int} {p q r : Nat} (h1 : bef T p q = true) (h2 : bef T q r = true) : bef T p r = true := lex_trans _ _ _ h1 h2
theorem bef_asymm {T : List Int} {p q : Nat} (h : bef T p q = true) : bef T q p = false := lex_asymm h
theorem drop_ne {T : List Int} {p q : Nat} (hp : p < T.length) (hq : q < T.length) (h : p ≠ q) : T.drop p ≠ T.drop q := fun e => by
  have := congrArg List.length e
  rw [List.length_drop, List.length_drop] at this
  omega
theorem bef_total {T : List Int} {p q : Nat} (hp : p < T.length) (hq : q < T.length) (h : p ≠ q) : bef T p q = true ∨ bef T q p = true := lex_total _ _ (drop_ne hp hq h)
theorem drop_cons {T : List Int} {p : Nat} (hp : p < T.length) : T.drop p = T.getD p 0 :: T.drop (p + 1) := by
  rw [List.drop_eq_getElem_cons hp, List.getD_eq_getElem?_getD, List.getElem?_eq_getElem hp]; rfl
/-- The first symbols tell, or what begins one further on. -/
theorem bef_step {T : List Int} {p q : Nat} (hp : p < T.length) (hq : q < T.length) : bef T p q = true ↔ T.getD p 0 < T.getD q 0 ∨ (T.getD p 0 = T.getD q 0 ∧ bef T (p + 1) (q + 1) = true) := by
  unfold bef
  rw [drop_cons hp, drop_cons hq, lex_cons]

/-- Rows: all places, each once, sorted. -/
structure IsRows (T : List Int) (R : List Nat) : Prop where
  len : R.length = T.length
  all : ∀ p, p < T.length → p ∈ R
  lt : ∀ p ∈ R, p < T.length
  sorted : R.Pairwise fun p q => bef T p q = true
/-- The row of a place: how many go ahead. -/
def row (T : List Int) (p : Nat) : Nat := ((List.range T.length).filter fun q => bef T q p).length
theorem IsRows.nodup {T : List Int} {R : List Nat} (h : IsRows T R) : R.Nodup := h.sorted.imp fun {a b} hab e => by subst e; rw [bef_irrefl] at hab; cases hab
theorem IsRows.perm {T : List Int} {R : List Nat} (h : IsRows T R) : R.Perm (List.range T.length) := by
  refine (List.perm_ext_iff_of_nodup h.nodup List.nodup_range).2 fun p => ?_
  rw [List.mem_range]
  exact ⟨h.lt p, h.all p⟩
theorem IsRows.bef_at {T : List Int} {R : List Nat} (h : IsRows T R) {i j : Nat} (hj : j < R.length) (hij : i < j) : bef T (R[i]'(by omega)) R[j] = true :=
  List.pairwise_iff_getElem.1 h.sorted i j (by omega) hj hij
theorem filter_first (f : Nat → Bool) : ∀ (l : List Nat) (i : Nat), i ≤ l.length → (∀ j (hj : j < l.length), f l[j] = decide (j < i)) → (l.filter f).length = i
  | [], i, hi, _ => by simp at hi; subst hi; rfl
  | a :: l, 0, _, h => by
    rw [List.filter_eq_nil_iff.2]
    · rfl
    · intro x hx
      obtain ⟨j, hj, rfl⟩ := List.getElem_of_mem hx
      rw [h j hj]
      simp
  | a :: l, i + 1, hi, h => by
    have h0 := h 0 (by simp)
    have e0 : f a = true := by simpa using h0
    rw [List.filter_cons, if_pos e0, List.length_cons, filter_first f l i (by simpa using hi) (fun j hj => by
      have := h (j + 1) (by simpa using hj)
      rw [List.getElem_cons_succ] at this
      rw [this]
      simp)]
theorem IsRows.row {T : List Int} {R : List Nat} (h : IsRows T R) {i : Nat} (hi : i < R.length) : Bw.row T R[i] = i := by
  unfold Bw.row
  rw [← (h.perm.filter _).length_eq]
  refine filter_first _ R i (by omega) fun j hj => ?_
  rcases Nat.lt_trichotomy j i with hji | hji | hji
  · rw [h.bef_at hi hji, decide_eq_true hji]
  · subst hji
    rw [bef_irrefl, decide_eq_false (by omega)]
  · rw [bef_asymm (h.bef_at hj hji), decide_eq_false (by omega)]
theorem IsRows.at_row {T : List Int} {R : List Nat} (h : IsRows T R) {p : Nat} (hp : p < T.length) : ∃ hr : Bw.row T p < R.length, R[Bw.row T p] = p := by
  obtain ⟨i, hi, e⟩ := List.getElem_of_mem (h.all p hp)
  have h1 := h.row hi
  rw [e] at h1
  subst h1
  exact ⟨hi, e⟩
theorem IsRows.unique {T : List Int} {R R' : List Nat} (h : IsRows T R) (h' : IsRows T R') : R = R' := by
  refine List.ext_getElem (by rw [h.len, h'.len]) fun i hi hi' => ?_
  have h1 := h.row hi
  obtain ⟨hr, e⟩ := h'.at_row (h.lt _ (List.getElem_mem hi))
  rw [← e]
  congr 1
theorem row_mono {T : List Int} {p q : Nat} (hp : p < T.length) (h : bef T p q = true) : row T p < row T q := by
  unfold row
  have h1 : ((List.range T.length).filter fun r => bef T r p) = ((List.range T.length).filter fun r => bef T r q).filter fun r => bef T r p := by
    rw [List.filter_filter]
    refine List.filter_congr fun r _ => ?_
    cases e : bef T r p with
    | false => simp
    | true => rw [bef_trans e h]; rfl
  rw [h1]
  have hm : p ∈ (List.range T.length).filter fun r => bef T r q := List.mem_filter.2 ⟨List.mem_range.2 hp, h⟩
  refine Nat.lt_of_le_of_ne (List.length_filter_le _ _) fun e => ?_
  have := List.length_filter_eq_length_iff.1 e p hm
  rw [bef_irrefl] at this
  cases this
theorem row_lt {T : List Int} {p : Nat} (hp : p < T.length) : row T p < T.length := by
  unfold row
  have h1 := List.length_filter_le (fun q => bef T q p) (List.range T.length)
  rw [List.length_range] at h1
  refine Nat.lt_of_le_of_ne h1 fun e => ?_
  have := List.length_filter_eq_length_iff.1 (e.trans List.length_range.symm) p (List.mem_range.2 hp)
  rw [bef_irrefl] at this
  cases this
theorem row_inj {T : List Int} {p q : Nat} (hp : p < T.length) (hq : q < T.length) (h : row T p = row T q) : p = q := by
  by_cases e : p = q
  · exact e
  · rcases bef_total hp hq e with h1 | h1
    · have := row_mono hp h1; omega
    · have := row_mono hq h1; omega
theorem bef_row {T : List Int} {p q : Nat} (hp : p < T.length) (hq : q < T.length) : bef T p q = true ↔ row T p < row T q := by
  constructor
  · exact row_mono hp
  · intro h
    by_cases e : p = q
    · subst e; omega
    · rcases bef_total hp hq e with h1 | h1
      · exact h1
      · have := row_mono hq h1; omega
/-- There are rows. -/
def rows (T : List Int) : List Nat := (List.range T.length).mergeSort fun p q => !bef T q p
theorem rows_is (T : List Int) : IsRows T (rows T) := by
  have hp : (rows T).Perm (List.range T.length) := List.mergeSort_perm _ _
  have hnd : (rows T).Nodup := hp.nodup_iff.2 List.nodup_range
  have hlt : ∀ p ∈ rows T, p < T.length := fun p h => List.mem_range.1 (hp.mem_iff.1 h)
  refine ⟨by rw [hp.length_eq, List.length_range], fun p h => hp.mem_iff.2 (List.mem_range.2 h), hlt, ?_⟩
  have hs : (rows T).Pairwise fun p q => (!bef T q p) = true := by
    unfold rows
    refine List.pairwise_mergeSort (fun a b c h1 h2 => ?_) (fun a b => ?_) _
    · simp only [Bool.not_eq_true'] at h1 h2 ⊢
      cases e : bef T c a with
      | false => rfl
      | true =>
        unfold bef at *
        by_cases e1 : T.drop b = T.drop a
        · rw [e1] at h2; rw [e] at h2; cases h2
        · rcases lex_total _ _ e1 with h3 | h3
          · rw [h3] at h1; cases h1
          · have := lex_trans _ _ _ e h3; rw [this] at h2; cases h2
    · cases e : bef T b a with
      | false => rfl
      | true => rw [bef_asymm e]; rfl
  have hboth := hs.and (List.nodup_iff_pairwise_ne.1 hnd)
  refine List.Pairwise.imp_of_mem ?_ hboth
  intro a b ha hb ⟨h1, h2⟩
  rcases bef_total (hlt a ha) (hlt b hb) h2 with h3 | h3
  · exact h3
  · rw [h3] at h1; cases h1
end Bw
end Go.Proofs.Ytfncjkkdemeclaa
