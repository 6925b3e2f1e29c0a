/- Sorted suffixes of a list of symbols, as plain lists: their order, rows and places. No function of the program stands in it. The last column of the sorted suffixes, and the way from row to row. No function of the program stands in it. A text back from its last column. No function of the program stands in it. Which columns are a text's: those that are read from the end to the end through all rows. No function of the program stands in it. Sorting places by twice as many symbols: the order of the first symbols, rows that keep it, groups. No function of the program stands in it. Rows of a text's tail; first symbols; rows that begin with a pattern. No function of the program stands in it. Texts as bytes: their symbols with the end, their rows, their last column. No function of the program stands in it. Walks over rows, as plain lists: back and on, round, narrowed by each symbol in turn, first symbols. No function of the program stands in it. Where a pattern stands: places, and the rows that it has. No function of the program stands in it. -/

namespace Go.Proofs.YthbbokoeiifjdaaGreatDoor
namespace Bw

/-- The order of lists, symbol by symbol; a list goes ahead of what goes on behind it. -/
def lex : List Int → List Int → Bool
  | _, [] => false
  | [], _ :: _ => true
  | a :: x, b :: y => decide (a < b) || (decide (a = b) && lex x y)
theorem lex_nil (x : List Int) : lex x [] = false := by cases x <;> rfl
theorem lex_cons (a b : Int) (x y : List Int) : lex (a :: x) (b :: y) = true ↔ a < b ∨ (a = b ∧ lex x y = true) := by
  show (decide (a < b) || (decide (a = b) && lex x y)) = true ↔ _
  rw [Bool.or_eq_true, Bool.and_eq_true, decide_eq_true_iff, decide_eq_true_iff]
theorem lex_irrefl : ∀ x : List Int, lex x x = false
  | [] => rfl
  | a :: x => by
    cases h : lex (a :: x) (a :: x) with
    | false => rfl
    | true =>
      rcases (lex_cons a a x x).1 h with h1 | ⟨_, h1⟩
      · omega
      · rw [lex_irrefl x] at h1; cases h1
theorem lex_trans : ∀ x y z : List Int, lex x y = true → lex y z = true → lex x z = true
  | x, y, [], _, h2 => by rw [lex_nil] at h2; cases h2
  | x, [], _ :: _, h1, _ => by rw [lex_nil] at h1; cases h1
  | [], _ :: _, _ :: _, _, _ => rfl
  | a :: x, b :: y, c :: z, h1, h2 => by
    rw [lex_cons] at h1 h2 ⊢
    rcases h1 with h1 | ⟨rfl, h1⟩
    · rcases h2 with h2 | ⟨rfl, _⟩
      · exact .inl (by omega)
      · exact .inl h1
    · rcases h2 with h2 | ⟨rfl, h2⟩
      · exact .inl h2
      · exact .inr ⟨rfl, lex_trans x y z h1 h2⟩
theorem lex_total : ∀ x y : List Int, x ≠ y → lex x y = true ∨ lex y x = true
  | [], [], h => absurd rfl h
  | [], _ :: _, _ => .inl rfl
  | _ :: _, [], _ => .inr rfl
  | a :: x, b :: y, h => by
    rw [lex_cons, lex_cons]
    rcases Int.lt_trichotomy a b with h1 | h1 | h1
    · exact .inl (.inl h1)
    · subst h1
      rcases lex_total x y (fun e => h (by rw [e])) with h2 | h2
      · exact .inl (.inr ⟨rfl, h2⟩)
      · exact .inr (.inr ⟨rfl, h2⟩)
    · exact .inr (.inl h1)
theorem lex_asymm {x y : List Int} (h : lex x y = true) : lex y x = false := by
  cases e : lex y x with
  | false => rfl
  | true => have := lex_trans x y x h e; rw [lex_irrefl] at this; cases this

/-- The suffix that begins at p goes ahead of the one at q. -/
def bef (T : List Int) (p q : Nat) : Bool := lex (T.drop p) (T.drop q)
theorem bef_irrefl (T : List Int) (p : Nat) : bef T p p = false := lex_irrefl _
theorem bef_trans {T : List Int} {p q r : Nat} (h1 : bef T p q = true) (h2 : bef T q r = true) : bef T p r = true := lex_trans _ _ _ h1 h2
theorem bef_asymm {T : List Int} {p q : Nat} (h : bef T p q = true) : bef T q p = false := lex_asymm h
theorem drop_ne {T : List Int} {p q : Nat} (hp : p < T.length) (hq : q < T.length) (h : p ≠ q) : T.drop p ≠ T.drop q := fun e => by
  have := congrArg List.length e
  rw [List.length_drop, List.length_drop] at this
  omega
theorem bef_total {T : List Int} {p q : Nat} (hp : p < T.length) (hq : q < T.length) (h : p ≠ q) : bef T p q = true ∨ bef T q p = true := lex_total _ _ (drop_ne hp hq h)
theorem drop_cons {T : List Int} {p : Nat} (hp : p < T.length) : T.drop p = T.getD p 0 :: T.drop (p + 1) := by
  rw [List.drop_eq_getElem_cons hp, List.getD_eq_getElem?_getD, List.getElem?_eq_getElem hp]; rfl
/-- The first symbols tell, or what begins one further on. -/
theorem bef_step {T : List Int} {p q : Nat} (hp : p < T.length) (hq : q < T.length) : bef T p q = true ↔ T.getD p 0 < T.getD q 0 ∨ (T.getD p 0 = T.getD q 0 ∧ bef T (p + 1) (q + 1) = true) := by
  unfold bef
  rw [drop_cons hp, drop_cons hq, lex_cons]

/-- Rows: all places, each once, sorted. -/
structure IsRows (T : List Int) (R : List Nat) : Prop where
  len : R.length = T.length
  all : ∀ p, p < T.length → p ∈ R
  lt : ∀ p ∈ R, p < T.length
  sorted : R.Pairwise fun p q => bef T p q = true
/-- The row of a place: how many go ahead. -/
def row (T : List Int) (p : Nat) : Nat := ((List.range T.length).filter fun q => bef T q p).length
theorem IsRows.nodup {T : List Int} {R : List Nat} (h : IsRows T R) : R.Nodup := h.sorted.imp fun {a b} hab e => by subst e; rw [bef_irrefl] at hab; cases hab
theorem IsRows.perm {T : List Int} {R : List Nat} (h : IsRows T R) : R.Perm (List.range T.length) := by
  refine (List.perm_ext_iff_of_nodup h.nodup List.nodup_range).2 fun p => ?_
  rw [List.mem_range]
  exact ⟨h.lt p, h.all p⟩
theorem IsRows.bef_at {T : List Int} {R : List Nat} (h : IsRows T R) {i j : Nat} (hj : j < R.length) (hij : i < j) : bef T (R[i]'(by omega)) R[j] = true :=
  List.pairwise_iff_getElem.1 h.sorted i j (by omega) hj hij
theorem filter_first (f : Nat → Bool) : ∀ (l : List Nat) (i : Nat), i ≤ l.length → (∀ j (hj : j < l.length), f l[j] = decide (j < i)) → (l.filter f).length = i
  | [], i, hi, _ => by simp at hi; subst hi; rfl
  | a :: l, 0, _, h => by
    rw [List.filter_eq_nil_iff.2]
    · rfl
    · intro x hx
      obtain ⟨j, hj, rfl⟩ := List.getElem_of_mem hx
      rw [h j hj]
      simp
  | a :: l, i + 1, hi, h => by
    have h0 := h 0 (by simp)
    have e0 : f a = true := by simpa using h0
    rw [List.filter_cons, if_pos e0, List.length_cons, filter_first f l i (by simpa using hi) (fun j hj => by
      have := h (j + 1) (by simpa using hj)
      rw [List.getElem_cons_succ] at this
      rw [this]
      simp)]
theorem IsRows.row {T : List Int} {R : List Nat} (h : IsRows T R) {i : Nat} (hi : i < R.length) : Bw.row T R[i] = i := by
  unfold Bw.row
  rw [← (h.perm.filter _).length_eq]
  refine filter_first _ R i (by omega) fun j hj => ?_
  rcases Nat.lt_trichotomy j i with hji | hji | hji
  · rw [h.bef_at hi hji, decide_eq_true hji]
  · subst hji
    rw [bef_irrefl, decide_eq_false (by omega)]
  · rw [bef_asymm (h.bef_at hj hji), decide_eq_false (by omega)]
theorem IsRows.at_row {T : List Int} {R : List Nat} (h : IsRows T R) {p : Nat} (hp : p < T.length) : ∃ hr : Bw.row T p < R.length, R[Bw.row T p] = p := by
  obtain ⟨i, hi, e⟩ := List.getElem_of_mem (h.all p hp)
  have h1 := h.row hi
  rw [e] at h1
  subst h1
  exact ⟨hi, e⟩
theorem IsRows.unique {T : List Int} {R R' : List Nat} (h : IsRows T R) (h' : IsRows T R') : R = R' := by
  refine List.ext_getElem (by rw [h.len, h'.len]) fun i hi hi' => ?_
  have h1 := h.row hi
  obtain ⟨hr, e⟩ := h'.at_row (h.lt _ (List.getElem_mem hi))
  rw [← e]
  congr 1
theorem row_mono {T : List Int} {p q : Nat} (hp : p < T.length) (h : bef T p q = true) : row T p < row T q := by
  unfold row
  have h1 : ((List.range T.length).filter fun r => bef T r p) = ((List.range T.length).filter fun r => bef T r q).filter fun r => bef T r p := by
    rw [List.filter_filter]
    refine List.filter_congr fun r _ => ?_
    cases e : bef T r p with
    | false => simp
    | true => rw [bef_trans e h]; rfl
  rw [h1]
  have hm : p ∈ (List.range T.length).filter fun r => bef T r q := List.mem_filter.2 ⟨List.mem_range.2 hp, h⟩
  refine Nat.lt_of_le_of_ne (List.length_filter_le _ _) fun e => ?_
  have := List.length_filter_eq_length_iff.1 e p hm
  rw [bef_irrefl] at this
  cases this
theorem row_lt {T : List Int} {p : Nat} (hp : p < T.length) : row T p < T.length := by
  unfold row
  have h1 := List.length_filter_le (fun q => bef T q p) (List.range T.length)
  rw [List.length_range] at h1
  refine Nat.lt_of_le_of_ne h1 fun e => ?_
  have := List.length_filter_eq_length_iff.1 (e.trans List.length_range.symm) p (List.mem_range.2 hp)
  rw [bef_irrefl] at this
  cases this
theorem row_inj {T : List Int} {p q : Nat} (hp : p < T.length) (hq : q < T.length) (h : row T p = row T q) : p = q := by
  by_cases e : p = q
  · exact e
  · rcases bef_total hp hq e with h1 | h1
    · have := row_mono hp h1; omega
    · have := row_mono hq h1; omega
theorem bef_row {T : List Int} {p q : Nat} (hp : p < T.length) (hq : q < T.length) : bef T p q = true ↔ row T p < row T q := by
  constructor
  · exact row_mono hp
  · intro h
    by_cases e : p = q
    · subst e; omega
    · rcases bef_total hp hq e with h1 | h1
      · exact h1
      · have := row_mono hq h1; omega
/-- There are rows. -/
def rows (T : List Int) : List Nat := (List.range T.length).mergeSort fun p q => !bef T q p
theorem rows_is (T : List Int) : IsRows T (rows T) := by
  have hp : (rows T).Perm (List.range T.length) := List.mergeSort_perm _ _
  have hnd : (rows T).Nodup := hp.nodup_iff.2 List.nodup_range
  have hlt : ∀ p ∈ rows T, p < T.length := fun p h => List.mem_range.1 (hp.mem_iff.1 h)
  refine ⟨by rw [hp.length_eq, List.length_range], fun p h => hp.mem_iff.2 (List.mem_range.2 h), hlt, ?_⟩
  have hs : (rows T).Pairwise fun p q => (!bef T q p) = true := by
    unfold rows
    refine List.pairwise_mergeSort (fun a b c h1 h2 => ?_) (fun a b => ?_) _
    · simp only [Bool.not_eq_true'] at h1 h2 ⊢
      cases e : bef T c a with
      | false => rfl
      | true =>
        unfold bef at *
        by_cases e1 : T.drop b = T.drop a
        · rw [e1] at h2; rw [e] at h2; cases h2
        · rcases lex_total _ _ e1 with h3 | h3
          · rw [h3] at h1; cases h1
          · have := lex_trans _ _ _ e h3; rw [this] at h2; cases h2
    · cases e : bef T b a with
      | false => rfl
      | true => rw [bef_asymm e]; rfl
  have hboth := hs.and (List.nodup_iff_pairwise_ne.1 hnd)
  refine List.Pairwise.imp_of_mem ?_ hboth
  intro a b ha hb ⟨h1, h2⟩
  rcases bef_total (hlt a ha) (hlt b hb) h2 with h3 | h3
  · exact h3
  · rw [h3] at h1; cases h1
end Bw
end Go.Proofs.YthbbokoeiifjdaaGreatDoor
namespace Go.Proofs.YthbbokoeiifjdaaGreatDoor
namespace Bw

/-- How many numbers below N fit. -/
def cnt (N : Nat) (P : Nat → Bool) : Nat := ((List.range N).filter P).length
theorem cnt_congr {N : Nat} {P Q : Nat → Bool} (h : ∀ r, r < N → P r = Q r) : cnt N P = cnt N Q := by
  unfold cnt
  rw [List.filter_congr fun r hr => h r (List.mem_range.1 hr)]
theorem cnt_succ (N : Nat) (P : Nat → Bool) : cnt (N + 1) P = cnt N P + if P N = true then 1 else 0 := by
  unfold cnt
  rw [List.range_succ, List.filter_append, List.length_append]
  congr 1
  by_cases h : P N = true
  · rw [if_pos h]; simp [h]
  · rw [if_neg h]; simp [h]
theorem cnt_shift (N : Nat) (P : Nat → Bool) : cnt (N + 1) P = (if P 0 = true then 1 else 0) + cnt N fun r => P (r + 1) := by
  induction N with
  | zero => rw [cnt_succ]; unfold cnt; simp
  | succ N ih =>
    rw [cnt_succ, ih, cnt_succ N]
    omega
theorem cnt_or {N : Nat} {P Q : Nat → Bool} (h : ∀ r, r < N → ¬ (P r = true ∧ Q r = true)) : cnt N (fun r => P r || Q r) = cnt N P + cnt N Q := by
  induction N with
  | zero => rfl
  | succ N ih =>
    rw [cnt_succ, cnt_succ, cnt_succ, ih fun r hr => h r (by omega)]
    have := h N (by omega)
    cases hp : P N <;> cases hq : Q N <;> simp [hp, hq] at this ⊢ <;> omega
theorem cnt_none {N : Nat} {P : Nat → Bool} (h : ∀ r, r < N → P r = false) : cnt N P = 0 := by
  unfold cnt
  rw [List.filter_eq_nil_iff.2]
  · rfl
  · intro r hr
    rw [h r (List.mem_range.1 hr)]
    decide
theorem cnt_list (T : List Int) (f : Int → Bool) : cnt T.length (fun r => f (T.getD r 0)) = T.countP f := by
  induction T with
  | nil => rfl
  | cons a T ih =>
    rw [List.length_cons, cnt_shift, List.countP_cons]
    have : cnt T.length (fun r => f ((a :: T).getD (r + 1) 0)) = T.countP f := by
      rw [← ih]
      exact cnt_congr fun r _ => by simp
    rw [this]
    simp only [List.getD_cons_zero]
    omega

/-- A text with its end: the end is 0, the last one, and no other is. -/
structure IsTxt (T : List Int) : Prop where
  pos : 0 < T.length
  last : T.getD (T.length - 1) 0 = 0
  other : ∀ p, p + 1 < T.length → 1 ≤ T.getD p 0
theorem IsTxt.of (l : List Int) (h : ∀ s ∈ l, 1 ≤ s) : IsTxt (l ++ [0]) := by
  refine ⟨by simp, by simp, fun p hp => ?_⟩
  have hp' : p < l.length := by simpa using hp
  rw [List.getD_eq_getElem?_getD, List.getElem?_append_left hp', List.getElem?_eq_getElem hp']
  exact h _ (List.getElem_mem hp')
theorem IsTxt.zero_iff {T : List Int} (h : IsTxt T) {p : Nat} (hp : p < T.length) : T.getD p 0 = 0 ↔ p = T.length - 1 := by
  constructor
  · intro e
    apply Nat.le_antisymm (by omega)
    apply Nat.le_of_not_lt
    intro h2
    have := h.other p (by omega)
    omega
  · rintro rfl; exact h.last
theorem IsTxt.nonneg {T : List Int} (h : IsTxt T) {p : Nat} (hp : p < T.length) : 0 ≤ T.getD p 0 := by
  by_cases e : p = T.length - 1
  · rw [(h.zero_iff hp).2 e]; exact Int.le_refl _
  · have := h.other p (by omega); omega
/-- One place ahead, around the end; one behind. -/
def prd (N p : Nat) : Nat := if p = 0 then N - 1 else p - 1
def suc (N p : Nat) : Nat := if p = N - 1 then 0 else p + 1
theorem prd_lt {N p : Nat} (h : p < N) : prd N p < N := by unfold prd; split <;> omega
theorem suc_lt {N p : Nat} (h : p < N) : suc N p < N := by unfold suc; split <;> omega
theorem suc_prd {N p : Nat} (h : p < N) : suc N (prd N p) = p := by unfold suc prd; split <;> split <;> omega
theorem prd_suc {N p : Nat} (_ : p < N) : prd N (suc N p) = p := by unfold suc prd; split <;> (try split) <;> omega
/-- The last column, of any rows. -/
def lst (T : List Int) (R : List Nat) : List Int := R.map fun p => T.getD (prd T.length p) 0
theorem lst_len (T : List Int) (R : List Nat) : (lst T R).length = R.length := List.length_map _
theorem lst_at {T : List Int} {R : List Nat} {i : Nat} (hi : i < R.length) : (lst T R).getD i 0 = T.getD (prd T.length R[i]) 0 := by
  unfold lst
  rw [List.getD_eq_getElem?_getD, List.getElem?_map, List.getElem?_eq_getElem hi]
  rfl
theorem filter_take (f : Nat → Bool) : ∀ (l : List Nat) (i : Nat), i ≤ l.length → (∀ j (hj : j < l.length), f l[j] = decide (j < i)) → l.filter f = l.take i
  | [], i, _, _ => by simp
  | a :: l, 0, _, h => by
    rw [List.take_zero, List.filter_eq_nil_iff]
    intro x hx
    obtain ⟨j, hj, rfl⟩ := List.getElem_of_mem hx
    rw [h j hj]
    simp
  | a :: l, i + 1, hi, h => by
    have h0 := h 0 (by simp)
    have e0 : f a = true := by simpa using h0
    rw [List.filter_cons, if_pos e0, List.take_succ_cons, filter_take f l i (by simpa using hi) (fun j hj => by
      have := h (j + 1) (by simpa using hj)
      rw [List.getElem_cons_succ] at this
      rw [this]
      simp)]
/-- How many s among the first i of the last column: by places. -/
theorem IsRows.rank {T : List Int} {R : List Nat} (h : IsRows T R) {i : Nat} (hi : i ≤ R.length) (s : Int) : ((lst T R).take i).count s = cnt T.length fun p => decide (Bw.row T p < i) && decide (T.getD (prd T.length p) 0 = s) := by
  have h1 : R.filter (fun p => decide (Bw.row T p < i)) = R.take i := filter_take _ R i hi fun j hj => by rw [h.row hj]
  unfold lst cnt
  rw [← List.map_take, List.count_eq_length_filter, List.filter_map, List.length_map, ← h1, List.filter_filter, ← (h.perm.filter _).length_eq]
  congr 1
  refine List.filter_congr fun p _ => ?_
  rw [Bool.and_comm]
  congr 1
/-- How many symbols are less than s. -/
def low (T : List Int) (s : Int) : Nat := T.countP fun x => decide (x < s)
theorem low_cnt (T : List Int) (s : Int) : low T s = cnt T.length fun r => decide (T.getD r 0 < s) := (cnt_list T fun x => decide (x < s)).symm
/-- From a row to that of the suffix one ahead. -/
theorem IsRows.back {T : List Int} {R : List Nat} (h : IsRows T R) (ht : IsTxt T) {i : Nat} (hi : i < R.length) :
    Bw.row T (prd T.length R[i]) = low T ((lst T R).getD i 0) + ((lst T R).take i).count ((lst T R).getD i 0) := by
  rw [lst_at hi, h.rank (by omega), low_cnt]
  have hR := h.lt _ (List.getElem_mem hi)
  have hrow := h.row hi
  obtain ⟨p, hp⟩ : ∃ p, R[i] = p := ⟨_, rfl⟩
  rw [hp] at hR hrow ⊢
  have hN := ht.pos
  by_cases h0 : p = 0
  · subst h0
    have e1 : prd T.length 0 = T.length - 1 := rfl
    rw [e1, ht.last]
    have z1 : cnt T.length (fun r => decide (T.getD r 0 < 0)) = 0 := cnt_none fun r hr => decide_eq_false (by have := ht.nonneg hr; omega)
    have z2 : cnt T.length (fun q => decide (Bw.row T q < i) && decide (T.getD (prd T.length q) 0 = 0)) = 0 := cnt_none fun q hq => by
      by_cases e : T.getD (prd T.length q) 0 = 0
      · have e2 := (ht.zero_iff (prd_lt hq)).1 e
        have e3 : q = 0 := by unfold prd at e2; split at e2 <;> omega
        subst e3
        rw [hrow]
        simp
      · rw [decide_eq_false e, Bool.and_false]
    rw [z1, z2]
    show ((List.range T.length).filter fun q => bef T q (T.length - 1)).length = 0
    refine cnt_none fun r hr => ?_
    cases e : bef T r (T.length - 1) with
    | false => rfl
    | true =>
      rcases (bef_step hr (by omega)).1 e with h2 | ⟨h2, h3⟩
      · rw [ht.last] at h2
        have := ht.nonneg hr
        omega
      · rw [ht.last] at h2
        have h4 := (ht.zero_iff hr).1 h2
        subst h4
        rw [bef_irrefl] at h3
        cases h3
  · have e1 : prd T.length p = p - 1 := if_neg h0
    rw [e1]
    obtain ⟨q, rfl⟩ : ∃ q, p = q + 1 := ⟨p - 1, by omega⟩
    rw [Nat.add_sub_cancel]
    obtain ⟨s, hs⟩ : ∃ s, T.getD q 0 = s := ⟨_, rfl⟩
    have hs1 := ht.other q hR
    rw [hs] at hs1 ⊢
    have hrowq : Bw.row T q = cnt T.length fun r => decide (T.getD r 0 < s) || (decide (T.getD r 0 = s) && bef T (r + 1) (q + 1)) := by
      refine cnt_congr fun r hr => ?_
      have h1 := bef_step hr (show q < T.length by omega)
      rw [hs] at h1
      cases e : bef T r q with
      | true =>
        rcases h1.1 e with h2 | ⟨h2, h3⟩
        · rw [decide_eq_true h2]; rfl
        · rw [decide_eq_true h2, h3]; simp
      | false =>
        have h2 : ¬ (T.getD r 0 < s ∨ (T.getD r 0 = s ∧ bef T (r + 1) (q + 1) = true)) := fun h2 => by rw [h1.2 h2] at e; cases e
        by_cases h3 : T.getD r 0 < s
        · exact absurd (.inl h3) h2
        · rw [decide_eq_false h3]
          by_cases h4 : T.getD r 0 = s
          · rw [decide_eq_true h4]
            cases h5 : bef T (r + 1) (q + 1) with
            | false => rfl
            | true => exact absurd (.inr ⟨h4, h5⟩) h2
          · rw [decide_eq_false h4]; rfl
    rw [hrowq, cnt_or]
    · congr 1
      obtain ⟨N, hNN⟩ : ∃ N, T.length = N + 1 := ⟨T.length - 1, by omega⟩
      have hl : ¬ T.getD N 0 = s := by
        have := ht.last
        rw [hNN, Nat.add_sub_cancel] at this
        omega
      rw [hNN]
      have hz : prd (N + 1) 0 = N := rfl
      rw [cnt_succ, cnt_shift, hz, decide_eq_false hl]
      rw [Bool.false_and, Bool.and_false, if_neg (by decide), Nat.add_zero, Nat.zero_add]
      refine cnt_congr fun r hr => ?_
      have hp1 : prd (N + 1) (r + 1) = r := if_neg (by omega)
      rw [hp1, Bool.and_comm]
      congr 1
      have h1 := bef_row (T := T) (p := r + 1) (q := q + 1) (by omega) hR
      rw [hrow] at h1
      cases e : bef T (r + 1) (q + 1) with
      | true => rw [decide_eq_true (h1.1 e)]
      | false => rw [decide_eq_false (fun h2 => by rw [h1.2 h2] at e; cases e)]
    · intro r _ ⟨h1, h2⟩
      simp only [Bool.and_eq_true, decide_eq_true_iff] at h1 h2
      omega
end Bw
end Go.Proofs.YthbbokoeiifjdaaGreatDoor
namespace Go.Proofs.YthbbokoeiifjdaaGreatDoor
namespace Bw

theorem range_map (T : List Int) : (List.range T.length).map (fun p => T.getD p 0) = T := by
  refine List.ext_getElem (by rw [List.length_map, List.length_range]) fun i h1 h2 => ?_
  rw [List.getElem_map, List.getElem_range, List.getD_eq_getElem?_getD, List.getElem?_eq_getElem h2]
  rfl
/-- The last column has the text's symbols. -/
theorem IsRows.perm_lst {T : List Int} {R : List Nat} (h : IsRows T R) (hN : 0 < T.length) : (lst T R).Perm T := by
  have h1 : (lst T R).Perm ((List.range T.length).map fun p => T.getD (prd T.length p) 0) := h.perm.map _
  refine h1.trans ?_
  obtain ⟨M, hM⟩ : ∃ M, T.length = M + 1 := ⟨T.length - 1, by omega⟩
  have h2 : (List.range (M + 1)).map (fun p => T.getD (prd (M + 1) p) 0) = T.getD M 0 :: (List.range M).map fun p => T.getD p 0 := by
    rw [List.range_succ_eq_map, List.map_cons, List.map_map]
    congr 1
  have h3 : T = (List.range M).map (fun p => T.getD p 0) ++ [T.getD M 0] := by
    have := range_map T
    rw [hM, List.range_succ, List.map_append] at this
    exact this.symm
  rw [hM, h2]
  conv => rhs; rw [h3]
  exact List.perm_append_singleton _ _ |>.symm
theorem IsRows.low_lst {T : List Int} {R : List Nat} (h : IsRows T R) (hN : 0 < T.length) (s : Int) : low (lst T R) s = low T s := (h.perm_lst hN).countP_eq _
theorem row_end {T : List Int} (ht : IsTxt T) : row T (T.length - 1) = 0 := by
  have hN := ht.pos
  refine cnt_none fun r hr => ?_
  cases e : bef T r (T.length - 1) with
  | false => rfl
  | true =>
    rcases (bef_step hr (by omega)).1 e with h2 | ⟨h2, h3⟩
    · rw [ht.last] at h2
      have := ht.nonneg hr
      omega
    · rw [ht.last] at h2
      have h4 := (ht.zero_iff hr).1 h2
      subst h4
      rw [bef_irrefl] at h3
      cases h3
/-- From row to row, by the last column alone. -/
def bk (l : List Int) (r : Nat) : Nat := low l (l.getD r 0) + (l.take r).count (l.getD r 0)
def stp (l : List Int) : Nat → Nat
  | 0 => 0
  | k + 1 => bk l (stp l k)
theorem IsRows.bk {T : List Int} {R : List Nat} (h : IsRows T R) (ht : IsTxt T) {p : Nat} (hp : p < T.length) : Bw.bk (lst T R) (Bw.row T p) = Bw.row T (prd T.length p) ∧ (lst T R).getD (Bw.row T p) 0 = T.getD (prd T.length p) 0 := by
  obtain ⟨hr, e⟩ := h.at_row hp
  have h1 := h.back ht hr
  rw [e, ← h.low_lst ht.pos] at h1
  have h2 := lst_at (T := T) hr
  rw [e] at h2
  exact ⟨h1.symm, h2⟩
theorem IsRows.stp {T : List Int} {R : List Nat} (h : IsRows T R) (ht : IsTxt T) : ∀ k, k < T.length → Bw.stp (lst T R) k = Bw.row T (T.length - 1 - k)
  | 0, _ => (row_end ht).symm
  | k + 1, hk => by
    have ih := h.stp ht k (by omega)
    show Bw.bk (lst T R) (Bw.stp (lst T R) k) = _
    rw [ih, (h.bk ht (show T.length - 1 - k < T.length by omega)).1]
    congr 1
    unfold prd
    rw [if_neg (by omega)]
    omega
/-- The symbols of the text, from its end. -/
theorem IsRows.read {T : List Int} {R : List Nat} (h : IsRows T R) (ht : IsTxt T) {k : Nat} (hk : k + 1 < T.length) : (lst T R).getD (Bw.stp (lst T R) k) 0 = T.getD (T.length - 2 - k) 0 := by
  rw [h.stp ht k (by omega), (h.bk ht (by omega)).2]
  congr 1
  unfold prd
  rw [if_neg (by omega)]
  omega
/-- One text has one last column, and one last column one text. -/
theorem lst_inj {T T' : List Int} (ht : IsTxt T) (ht' : IsTxt T') (h : lst T (rows T) = lst T' (rows T')) : T = T' := by
  have hl : T.length = T'.length := by
    have := congrArg List.length h
    rw [lst_len, lst_len, (rows_is T).len, (rows_is T').len] at this
    exact this
  have hN := ht.pos
  have hat : ∀ i, i < T.length → T.getD i 0 = T'.getD i 0 := fun i hi => by
    by_cases e : i = T.length - 1
    · rw [(ht.zero_iff hi).2 e, (ht'.zero_iff (by omega)).2 (by omega)]
    · have h1 := (rows_is T).read ht (k := T.length - 2 - i) (by omega)
      have h2 := (rows_is T').read ht' (k := T.length - 2 - i) (by omega)
      rw [h] at h1
      rw [h1, ← hl] at h2
      rw [show T.length - 2 - (T.length - 2 - i) = i by omega] at h2
      exact h2
  refine List.ext_getElem hl fun i h1 h2 => ?_
  have := hat i h1
  rw [List.getD_eq_getElem?_getD, List.getElem?_eq_getElem h1, List.getD_eq_getElem?_getD, List.getElem?_eq_getElem h2] at this
  exact this
end Bw
end Go.Proofs.YthbbokoeiifjdaaGreatDoor
namespace Go.Proofs.YthbbokoeiifjdaaGreatDoor
namespace Bw

theorem low_mono (l : List Int) {s t : Int} (h : s < t) : low l s + l.count s ≤ low l t := by
  unfold low
  induction l with
  | nil => simp
  | cons a l ih =>
    rw [List.countP_cons, List.countP_cons, List.count_cons]
    by_cases h1 : a < s
    · have e1 : ¬ (a == s) = true := by simp; omega
      rw [if_pos (decide_eq_true h1), if_pos (decide_eq_true (show a < t by omega)), if_neg e1]
      omega
    · by_cases h2 : a = s
      · have e1 : (a == s) = true := by simp [h2]
        rw [if_neg (by simpa using h1), if_pos (decide_eq_true (show a < t by omega)), if_pos e1]
        omega
      · have e1 : ¬ (a == s) = true := by simpa using h2
        rw [if_neg (by simpa using h1), if_neg e1]
        split <;> omega
theorem low_len (l : List Int) (s : Int) : low l s + l.count s ≤ l.length := by
  unfold low
  induction l with
  | nil => simp
  | cons a l ih =>
    rw [List.countP_cons, List.count_cons, List.length_cons]
    by_cases h1 : a < s
    · have e1 : ¬ (a == s) = true := by simp; omega
      rw [if_pos (decide_eq_true h1), if_neg e1]
      omega
    · rw [if_neg (by simpa using h1)]
      split <;> omega
theorem count_take_lt {l : List Int} {r : Nat} (h : r < l.length) : (l.take r).count (l.getD r 0) < l.count (l.getD r 0) := by
  have h1 : l.take r ++ l.getD r 0 :: l.drop (r + 1) = l := by
    have := List.take_append_drop r l
    rw [List.drop_eq_getElem_cons h] at this
    rw [List.getD_eq_getElem?_getD, List.getElem?_eq_getElem h]
    exact this
  obtain ⟨s, hs⟩ : ∃ s, l.getD r 0 = s := ⟨_, rfl⟩
  rw [hs] at h1 ⊢
  have h2 := congrArg (List.count s) h1
  rw [List.count_append, List.count_cons_self] at h2
  omega
theorem count_take_mono {l : List Int} {q r : Nat} (hq : q < r) (hr : r ≤ l.length) : (l.take q).count (l.getD q 0) < (l.take r).count (l.getD q 0) := by
  have h1 : (l.take r).getD q 0 = l.getD q 0 := by
    rw [List.getD_eq_getElem?_getD, List.getElem?_take_of_lt hq, ← List.getD_eq_getElem?_getD]
  have h2 := count_take_lt (l := l.take r) (r := q) (by rw [List.length_take]; omega)
  rw [h1, List.take_take, Nat.min_eq_left (by omega)] at h2
  exact h2
theorem bk_lt {l : List Int} {r : Nat} (h : r < l.length) : bk l r < l.length := by
  unfold bk
  have h1 := count_take_lt h
  have h2 := low_len l (l.getD r 0)
  omega
theorem bk_mono {l : List Int} {q r : Nat} (hq : q < l.length) (hr : r < l.length) (h : l.getD q 0 < l.getD r 0 ∨ (l.getD q 0 = l.getD r 0 ∧ q < r)) : bk l q < bk l r := by
  unfold bk
  rcases h with h | ⟨h1, h2⟩
  · have h3 := count_take_lt hq
    have h4 := low_mono l h
    omega
  · have h3 := count_take_mono (l := l) h2 (by omega)
    rw [h1] at h3 ⊢
    omega
theorem bk_order {l : List Int} {q r : Nat} (hq : q < l.length) (hr : r < l.length) (h : bk l q < bk l r) : l.getD q 0 < l.getD r 0 ∨ (l.getD q 0 = l.getD r 0 ∧ q < r) := by
  rcases Int.lt_trichotomy (l.getD q 0) (l.getD r 0) with h1 | h1 | h1
  · exact .inl h1
  · rcases Nat.lt_trichotomy q r with h2 | h2 | h2
    · exact .inr ⟨h1, h2⟩
    · subst h2; omega
    · have := bk_mono hr hq (.inr ⟨h1.symm, h2⟩); omega
  · have := bk_mono hr hq (.inl h1); omega
theorem bk_inj {l : List Int} {q r : Nat} (hq : q < l.length) (hr : r < l.length) (h : bk l q = bk l r) : q = r := by
  rcases Int.lt_trichotomy (l.getD q 0) (l.getD r 0) with h1 | h1 | h1
  · have := bk_mono hq hr (.inl h1); omega
  · rcases Nat.lt_trichotomy q r with h2 | h2 | h2
    · have := bk_mono hq hr (.inr ⟨h1, h2⟩); omega
    · exact h2
    · have := bk_mono hr hq (.inr ⟨h1.symm, h2⟩); omega
  · have := bk_mono hr hq (.inl h1); omega
theorem stp_lt {l : List Int} (h : 0 < l.length) : ∀ k, stp l k < l.length
  | 0 => h
  | k + 1 => bk_lt (stp_lt h k)
theorem stp_back {l : List Int} (h : 0 < l.length) : ∀ i d, stp l i = stp l (i + d) → stp l 0 = stp l d
  | 0, d, e => by rw [Nat.zero_add] at e; exact e
  | i + 1, d, e => by
    refine stp_back h i d ?_
    have e' : bk l (stp l i) = bk l (stp l (i + d)) := by
      rw [show i + 1 + d = (i + d) + 1 by omega] at e
      exact e
    exact bk_inj (stp_lt h i) (stp_lt h (i + d)) e'
theorem stp_shift {l : List Int} {d : Nat} (e : stp l 0 = stp l d) : ∀ k, stp l k = stp l (k + d)
  | 0 => by rw [Nat.zero_add]; exact e
  | k + 1 => by
    rw [show k + 1 + d = (k + d) + 1 by omega]
    show bk l (stp l k) = bk l (stp l (k + d))
    rw [stp_shift e k]
/-- Of as many numbers below n as there are, all different, each is one. -/
theorem sum_one : ∀ (n : Nat) (g : Nat → Nat), (∀ r, r < n → g r ≤ 1) → ((List.range n).map g).sum = n → ∀ r, r < n → g r = 1
  | 0, _, _, _, r, hr => absurd hr (Nat.not_lt_zero r)
  | n + 1, g, h1, h2, r, hr => by
    have h3 : ∀ m, (∀ r, r < m → g r ≤ 1) → ((List.range m).map g).sum ≤ m := fun m => by
      induction m with
      | zero => intro _; simp
      | succ m ih =>
        intro hm
        rw [List.range_succ, List.map_append, List.sum_append]
        have := ih fun r hr => hm r (by omega)
        have := hm m (by omega)
        simp
        omega
    rw [List.range_succ, List.map_append, List.sum_append] at h2
    have h4 := h3 n fun r hr => h1 r (by omega)
    have h5 := h1 n (by omega)
    simp at h2
    by_cases e : r = n
    · subst e; omega
    · exact sum_one n g (fun r hr => h1 r (by omega)) (by omega) r (by omega)
theorem cnt_le_one {n : Nat} {P : Nat → Bool} (h : ∀ i j, i < n → j < n → P i = true → P j = true → i = j) : cnt n P ≤ 1 := by
  induction n with
  | zero => exact Nat.zero_le _
  | succ n ih =>
    rw [cnt_succ]
    by_cases e : P n = true
    · rw [if_pos e, cnt_none]
      · omega
      · intro r hr
        cases e2 : P r with
        | false => rfl
        | true => have := h r n (by omega) (by omega) e2 e; omega
    · rw [if_neg e]
      exact ih fun i j hi hj => h i j (by omega) (by omega)
theorem cnt_pos {n : Nat} {P : Nat → Bool} (h : 0 < cnt n P) : ∃ i, i < n ∧ P i = true := by
  obtain ⟨x, hx⟩ := List.exists_mem_of_length_pos h
  obtain ⟨h1, h2⟩ := List.mem_filter.1 hx
  exact ⟨x, List.mem_range.1 h1, h2⟩
theorem sum_cnt (f : Nat → Nat) (n : Nat) : ∀ N, (∀ i, i < N → f i < n) → ((List.range n).map fun r => cnt N fun i => f i == r).sum = N
  | 0, _ => by
    have : ∀ m : Nat, ((List.range m).map fun _ => 0).sum = 0 := fun m => by
      induction m with
      | zero => rfl
      | succ m ih => rw [List.range_succ, List.map_append, List.sum_append, ih]; rfl
    exact this n
  | N + 1, h => by
    have ih := sum_cnt f n N fun i hi => h i (by omega)
    have h1 : ∀ m, ((List.range m).map fun r => cnt (N + 1) fun i => f i == r).sum = ((List.range m).map fun r => cnt N fun i => f i == r).sum + if f N < m then 1 else 0 := fun m => by
      induction m with
      | zero => rfl
      | succ m ihm =>
        rw [List.range_succ, List.map_append, List.map_append, List.sum_append, List.sum_append, ihm]
        simp only [List.map_cons, List.map_nil, List.sum_cons, List.sum_nil]
        rw [cnt_succ]
        by_cases e : f N = m
        · subst e; simp; omega
        · have e1 : ¬ (f N == m) = true := by simpa using e
          rw [if_neg e1]
          by_cases e2 : f N < m
          · rw [if_pos e2, if_pos (by omega)]; omega
          · rw [if_neg e2, if_neg (by omega)]; omega
    rw [h1, ih, if_pos (h N (by omega))]
theorem onto {n : Nat} {f : Nat → Nat} (hlt : ∀ i, i < n → f i < n) (hinj : ∀ i j, i < n → j < n → f i = f j → i = j) {r : Nat} (hr : r < n) : ∃ i, i < n ∧ f i = r := by
  have h1 := sum_one n (fun r => cnt n fun i => f i == r) (fun r _ => cnt_le_one fun i j hi hj e1 e2 => hinj i j hi hj (by rw [beq_iff_eq] at e1 e2; rw [e1, e2])) (sum_cnt f n n hlt) r hr
  obtain ⟨i, hi, e⟩ := cnt_pos (n := n) (P := fun i => f i == r) (by show 0 < _; omega)
  exact ⟨i, hi, by simpa using e⟩
/-- A column is read through: no end but at the last step. -/
structure Thru (l : List Int) : Prop where
  pos : 0 < l.length
  nn : ∀ s ∈ l, 0 ≤ s
  mid : ∀ k, k + 1 < l.length → l.getD (stp l k) 0 ≠ 0
  fin : l.getD (stp l (l.length - 1)) 0 = 0
theorem Thru.inj {l : List Int} (h : Thru l) {i j : Nat} (hi : i < l.length) (hj : j < l.length) (e : stp l i = stp l j) : i = j := by
  have key : ∀ i j, i < j → j < l.length → stp l i = stp l j → False := fun i j hij hj e => by
    have e1 : stp l i = stp l (i + (j - i)) := by rw [e]; congr 1; omega
    have e2 := stp_shift (stp_back h.pos i (j - i) e1) (l.length - 1 - (j - i))
    rw [show l.length - 1 - (j - i) + (j - i) = l.length - 1 by omega] at e2
    have h1 := h.mid (l.length - 1 - (j - i)) (by omega)
    rw [e2] at h1
    exact h1 h.fin
  rcases Nat.lt_trichotomy i j with h1 | h1 | h1
  · exact (key i j h1 hj e).elim
  · exact h1
  · exact (key j i h1 hi e.symm).elim
/-- The text that is read. -/
def txt (l : List Int) : List Int := ((List.range (l.length - 1)).map fun k => l.getD (stp l (l.length - 2 - k)) 0) ++ [0]
theorem txt_len {l : List Int} (h : 0 < l.length) : (txt l).length = l.length := by
  unfold txt
  rw [List.length_append, List.length_map, List.length_range]
  simp
  omega
theorem txt_at {l : List Int} {k : Nat} (hk : k + 1 < l.length) : (txt l).getD (l.length - 2 - k) 0 = l.getD (stp l k) 0 := by
  unfold txt
  rw [List.getD_eq_getElem?_getD, List.getElem?_append_left (by rw [List.length_map, List.length_range]; omega), List.getElem?_map, List.getElem?_range (by omega)]
  show l.getD (stp l (l.length - 2 - (l.length - 2 - k))) 0 = _
  congr 2
  omega
theorem txt_last {l : List Int} (_ : 0 < l.length) : (txt l).getD (l.length - 1) 0 = 0 := by
  unfold txt
  rw [List.getD_eq_getElem?_getD, List.getElem?_append_right (by rw [List.length_map, List.length_range]; omega), List.length_map, List.length_range, Nat.sub_self]
  rfl
theorem Thru.is_txt {l : List Int} (h : Thru l) : IsTxt (txt l) := by
  have hp := h.pos
  refine ⟨by rw [txt_len hp]; exact hp, by rw [txt_len hp]; exact txt_last hp, fun p hp2 => ?_⟩
  rw [txt_len hp] at hp2
  have h1 := txt_at (l := l) (k := l.length - 2 - p) (by omega)
  rw [show l.length - 2 - (l.length - 2 - p) = p by omega] at h1
  rw [h1]
  have h2 := h.mid (l.length - 2 - p) (by omega)
  have h3 := stp_lt hp (l.length - 2 - p)
  have h4 := h.nn (l.getD (stp l (l.length - 2 - p)) 0) (by rw [List.getD_eq_getElem?_getD, List.getElem?_eq_getElem h3]; exact List.getElem_mem h3)
  omega
/-- The step at which a row is passed. -/
theorem Thru.step {l : List Int} (h : Thru l) {r : Nat} (hr : r < l.length) : ∃ k, k < l.length ∧ stp l k = r :=
  onto (fun i _ => stp_lt h.pos i) (fun _ _ hi hj e => h.inj hi hj e) hr
theorem Thru.sorted {l : List Int} (h : Thru l) : ∀ (d i j : Nat), i < l.length → j < l.length → l.length - (l.length - 1 - i) ≤ d → stp l i < stp l j → bef (txt l) (l.length - 1 - i) (l.length - 1 - j) = true
  | 0, i, j, hi, _, hd, _ => by omega
  | d + 1, i, j, hi, hj, hd, hlt => by
    have ht := h.is_txt
    have hl := txt_len h.pos
    have hji : stp l j ≠ 0 := by omega
    obtain ⟨j', rfl⟩ : ∃ j', j = j' + 1 := by
      cases j with
      | zero => exact absurd rfl hji
      | succ j => exact ⟨j, rfl⟩
    have ej : (txt l).getD (l.length - 1 - (j' + 1)) 0 = l.getD (stp l j') 0 := by
      have := txt_at (l := l) (k := j') hj
      rw [← this]
      congr 1
      omega
    rw [bef_step (by rw [hl]; omega) (by rw [hl]; omega), ej]
    have hnz := h.mid j' hj
    have hjm : l.getD (stp l j') 0 ∈ l := by
      have h3 := stp_lt h.pos j'
      rw [List.getD_eq_getElem?_getD, List.getElem?_eq_getElem h3]
      exact List.getElem_mem h3
    have hjn := h.nn _ hjm
    cases i with
    | zero =>
      left
      have := txt_last h.pos
      rw [show l.length - 1 - 0 = l.length - 1 by omega, this]
      omega
    | succ i =>
      have ei : (txt l).getD (l.length - 1 - (i + 1)) 0 = l.getD (stp l i) 0 := by
        have := txt_at (l := l) (k := i) hi
        rw [← this]
        congr 1
        omega
      rw [ei]
      rcases bk_order (stp_lt h.pos i) (stp_lt h.pos j') hlt with h1 | ⟨h1, h2⟩
      · exact .inl h1
      · refine .inr ⟨h1, ?_⟩
        have := h.sorted d i j' (by omega) (by omega) (by omega) h2
        rw [show l.length - 1 - (i + 1) + 1 = l.length - 1 - i by omega, show l.length - 1 - (j' + 1) + 1 = l.length - 1 - j' by omega]
        exact this
/-- Such a column is its text's. -/
theorem Thru.is_last {l : List Int} (h : Thru l) : lst (txt l) (rows (txt l)) = l := by
  have ht := h.is_txt
  have hl := txt_len h.pos
  have hp := h.pos
  have hR := rows_is (txt l)
  have hrl : (rows (txt l)).length = l.length := by rw [hR.len, hl]
  have hat : ∀ k, k < l.length → row (txt l) (l.length - 1 - k) = stp l k := fun k hk => by
    have h1 : row (txt l) (l.length - 1 - k) = cnt l.length fun r => decide (r < stp l k) := by
      have h2 : row (txt l) (l.length - 1 - k) = cnt (txt l).length fun q => bef (txt l) q (l.length - 1 - k) := rfl
      rw [h2, hl]
      have h3 : cnt l.length (fun q => bef (txt l) q (l.length - 1 - k)) = cnt l.length fun i => decide (stp l i < stp l k) := by
        have h4 : (List.range l.length).reverse.Perm (List.range l.length) := List.reverse_perm _
        have h5 : (List.range l.length).reverse = (List.range l.length).map fun i => l.length - 1 - i := by
          refine List.ext_getElem (by simp) fun i h1 h2 => ?_
          rw [List.getElem_reverse, List.getElem_map, List.getElem_range, List.getElem_range, List.length_range]
        unfold cnt
        rw [← (h4.filter _).length_eq, h5, List.filter_map, List.length_map]
        congr 1
        refine List.filter_congr fun i hi => ?_
        have hi' := List.mem_range.1 hi
        show bef (txt l) (l.length - 1 - i) (l.length - 1 - k) = _
        by_cases e : stp l i < stp l k
        · rw [decide_eq_true e]
          exact h.sorted _ i k hi' hk (Nat.le_refl _) e
        · rw [decide_eq_false e]
          by_cases e2 : i = k
          · subst e2; exact bef_irrefl _ _
          · refine bef_asymm (h.sorted _ k i hk hi' (Nat.le_refl _) ?_)
            have : stp l i ≠ stp l k := fun e3 => e2 (h.inj hi' hk e3)
            omega
      rw [h3]
      have h6 : ((List.range l.length).map (stp l)).Perm (List.range l.length) := by
        refine (List.perm_ext_iff_of_nodup ?_ List.nodup_range).2 fun r => ?_
        · rw [List.nodup_iff_pairwise_ne, List.pairwise_map]
          refine List.Pairwise.imp_of_mem ?_ (List.nodup_iff_pairwise_ne.1 List.nodup_range)
          intro a b ha hb hne e
          exact hne (h.inj (List.mem_range.1 ha) (List.mem_range.1 hb) e)
        · rw [List.mem_map, List.mem_range]
          constructor
          · rintro ⟨i, _, rfl⟩; exact stp_lt hp i
          · intro hr
            obtain ⟨i, hi, e⟩ := h.step hr
            exact ⟨i, List.mem_range.2 hi, e⟩
      unfold cnt
      rw [show (List.filter (fun r => decide (r < stp l k)) (List.range l.length)).length = _ from (h6.filter _).length_eq.symm, List.filter_map, List.length_map]
      rfl
    rw [h1]
    have h7 := stp_lt hp k
    unfold cnt
    refine filter_first _ (List.range l.length) (stp l k) (by rw [List.length_range]; omega) fun j hj => ?_
    rw [List.getElem_range]
  refine List.ext_getElem (by rw [lst_len, hrl]) fun r h1 h2 => ?_
  obtain ⟨k, hk, e⟩ := h.step h2
  have h3 := hR.bk ht (p := l.length - 1 - k) (by rw [hl]; omega)
  rw [hat k hk, e, hl] at h3
  have h4 := h3.2
  rw [List.getD_eq_getElem?_getD, List.getElem?_eq_getElem h1] at h4
  have h5 : (lst (txt l) (rows (txt l)))[r] = (txt l).getD (prd l.length (l.length - 1 - k)) 0 := h4
  rw [h5]
  have h6 : l[r] = l.getD (stp l k) 0 := by rw [e, List.getD_eq_getElem?_getD, List.getElem?_eq_getElem h2]; rfl
  rw [h6]
  by_cases hlast : k = l.length - 1
  · subst hlast
    rw [h.fin, Nat.sub_self]
    exact txt_last hp
  · rw [← txt_at (l := l) (k := k) (by omega)]
    congr 1
    unfold prd
    rw [if_neg (by omega)]
    omega
end Bw
end Go.Proofs.YthbbokoeiifjdaaGreatDoor
namespace Go.Proofs.YthbbokoeiifjdaaGreatDoor
namespace Bw

/-- The first h symbols at p and at q are alike; those at p go ahead. -/
def eqn (T : List Int) : Nat → Nat → Nat → Bool
  | 0, _, _ => true
  | h + 1, p, q => decide (T.getD p 0 = T.getD q 0) && eqn T h (p + 1) (q + 1)
def ltn (T : List Int) : Nat → Nat → Nat → Bool
  | 0, _, _ => false
  | h + 1, p, q => decide (T.getD p 0 < T.getD q 0) || (decide (T.getD p 0 = T.getD q 0) && ltn T h (p + 1) (q + 1))
theorem eqn_succ {T : List Int} {h p q : Nat} : eqn T (h + 1) p q = true ↔ T.getD p 0 = T.getD q 0 ∧ eqn T h (p + 1) (q + 1) = true := by
  show (decide _ && _) = true ↔ _
  rw [Bool.and_eq_true, decide_eq_true_iff]
theorem ltn_succ {T : List Int} {h p q : Nat} : ltn T (h + 1) p q = true ↔ T.getD p 0 < T.getD q 0 ∨ (T.getD p 0 = T.getD q 0 ∧ ltn T h (p + 1) (q + 1) = true) := by
  show (decide _ || (decide _ && _)) = true ↔ _
  rw [Bool.or_eq_true, Bool.and_eq_true, decide_eq_true_iff, decide_eq_true_iff]
theorem eqn_refl (T : List Int) : ∀ h p, eqn T h p p = true
  | 0, _ => rfl
  | h + 1, p => eqn_succ.2 ⟨rfl, eqn_refl T h (p + 1)⟩
theorem eqn_symm {T : List Int} : ∀ {h p q}, eqn T h p q = true → eqn T h q p = true
  | 0, _, _, _ => rfl
  | h + 1, p, q, e => by
    rw [eqn_succ] at e ⊢
    exact ⟨e.1.symm, eqn_symm e.2⟩
theorem eqn_trans {T : List Int} : ∀ {h p q r}, eqn T h p q = true → eqn T h q r = true → eqn T h p r = true
  | 0, _, _, _, _, _ => rfl
  | h + 1, p, q, r, e, f => by
    rw [eqn_succ] at e f ⊢
    exact ⟨e.1.trans f.1, eqn_trans e.2 f.2⟩
theorem ltn_ne {T : List Int} : ∀ {h p q}, ltn T h p q = true → eqn T h p q = true → False
  | 0, _, _, e, _ => by cases e
  | h + 1, p, q, e, f => by
    rw [ltn_succ] at e
    rw [eqn_succ] at f
    rcases e with e | e
    · omega
    · exact ltn_ne e.2 f.2
theorem ltn_irrefl {T : List Int} {h p : Nat} (e : ltn T h p p = true) : False := ltn_ne e (eqn_refl T h p)
theorem ltn_trans {T : List Int} : ∀ {h p q r}, ltn T h p q = true → ltn T h q r = true → ltn T h p r = true
  | 0, _, _, _, e, _ => by cases e
  | h + 1, p, q, r, e, f => by
    rw [ltn_succ] at e f ⊢
    rcases e with e | ⟨e, e2⟩
    · rcases f with f | ⟨f, _⟩
      · exact .inl (by omega)
      · exact .inl (by omega)
    · rcases f with f | ⟨f, f2⟩
      · exact .inl (by omega)
      · exact .inr ⟨e.trans f, ltn_trans e2 f2⟩
theorem ltn_left {T : List Int} : ∀ {h p q r}, eqn T h p q = true → ltn T h q r = true → ltn T h p r = true
  | 0, _, _, _, _, f => by cases f
  | h + 1, p, q, r, e, f => by
    rw [eqn_succ] at e
    rw [ltn_succ] at f ⊢
    rcases f with f | ⟨f, f2⟩
    · exact .inl (by omega)
    · exact .inr ⟨e.1.trans f, ltn_left e.2 f2⟩
theorem ltn_right {T : List Int} : ∀ {h p q r}, ltn T h p q = true → eqn T h q r = true → ltn T h p r = true
  | 0, _, _, _, f, _ => by cases f
  | h + 1, p, q, r, f, e => by
    rw [eqn_succ] at e
    rw [ltn_succ] at f ⊢
    rcases f with f | ⟨f, f2⟩
    · exact .inl (by omega)
    · exact .inr ⟨f.trans e.1, ltn_right f2 e.2⟩
theorem ltn_tri (T : List Int) : ∀ h p q, ltn T h p q = true ∨ eqn T h p q = true ∨ ltn T h q p = true
  | 0, _, _ => .inr (.inl rfl)
  | h + 1, p, q => by
    rw [ltn_succ, ltn_succ, eqn_succ]
    rcases Int.lt_trichotomy (T.getD p 0) (T.getD q 0) with e | e | e
    · exact .inl (.inl e)
    · rcases ltn_tri T h (p + 1) (q + 1) with f | f | f
      · exact .inl (.inr ⟨e, f⟩)
      · exact .inr (.inl ⟨e, f⟩)
      · exact .inr (.inr (.inr ⟨e.symm, f⟩))
    · exact .inr (.inr (.inl e))
theorem eqn_add {T : List Int} (b : Nat) : ∀ a p q, eqn T (a + b) p q = true ↔ eqn T a p q = true ∧ eqn T b (p + a) (q + a) = true
  | 0, p, q => by rw [Nat.zero_add]; exact ⟨fun h => ⟨rfl, h⟩, fun h => h.2⟩
  | a + 1, p, q => by
    rw [show a + 1 + b = (a + b) + 1 by omega, eqn_succ, eqn_succ, eqn_add b a, show p + 1 + a = p + (a + 1) by omega, show q + 1 + a = q + (a + 1) by omega, and_assoc]
theorem ltn_add {T : List Int} (b : Nat) : ∀ a p q, ltn T (a + b) p q = true ↔ ltn T a p q = true ∨ (eqn T a p q = true ∧ ltn T b (p + a) (q + a) = true)
  | 0, p, q => by
    rw [Nat.zero_add]
    exact ⟨fun h => .inr ⟨rfl, h⟩, fun h => by
      rcases h with h | h
      · cases h
      · exact h.2⟩
  | a + 1, p, q => by
    rw [show a + 1 + b = (a + b) + 1 by omega, ltn_succ, ltn_succ, eqn_succ, ltn_add b a, show p + 1 + a = p + (a + 1) by omega, show q + 1 + a = q + (a + 1) by omega]
    constructor
    · rintro (h | ⟨h, h2 | h2⟩)
      · exact .inl (.inl h)
      · exact .inl (.inr ⟨h, h2⟩)
      · exact .inr ⟨⟨h, h2.1⟩, h2.2⟩
    · rintro ((h | h) | h)
      · exact .inl h
      · exact .inr ⟨h.1, .inl h.2⟩
      · exact .inr ⟨h.1.1, .inr ⟨h.1.2, h.2⟩⟩
theorem eqn_at {T : List Int} : ∀ {h p q i}, eqn T h p q = true → i < h → T.getD (p + i) 0 = T.getD (q + i) 0
  | 0, _, _, _, _, hi => absurd hi (Nat.not_lt_zero _)
  | h + 1, p, q, 0, e, _ => (eqn_succ.1 e).1
  | h + 1, p, q, i + 1, e, hi => by
    have := eqn_at (i := i) (eqn_succ.1 e).2 (by omega)
    rwa [show p + 1 + i = p + (i + 1) by omega, show q + 1 + i = q + (i + 1) by omega] at this
theorem eqn_one {T : List Int} {p q : Nat} : eqn T 1 p q = true ↔ T.getD p 0 = T.getD q 0 := by
  rw [eqn_succ]
  exact ⟨fun h => h.1, fun h => ⟨h, rfl⟩⟩
theorem ltn_one {T : List Int} {p q : Nat} : ltn T 1 p q = true ↔ T.getD p 0 < T.getD q 0 := by
  rw [ltn_succ]
  constructor
  · rintro (h | ⟨_, h⟩)
    · exact h
    · cases h
  · intro h; exact .inl h
theorem eqn_far1 {T : List Int} (ht : IsTxt T) {h p q : Nat} (hq : q < T.length) (hpq : p < q) (e : eqn T h p q = true) : q + h < T.length := by
  apply Nat.lt_of_not_le
  intro hle
  have h1 := eqn_at (i := T.length - 1 - q) e (by omega)
  rw [show q + (T.length - 1 - q) = T.length - 1 by omega, ht.last] at h1
  have h2 := ht.other (p + (T.length - 1 - q)) (by omega)
  omega
/-- Two of one group have no end ahead of what stands behind. -/
theorem eqn_far {T : List Int} (ht : IsTxt T) {h p q : Nat} (hp : p < T.length) (hq : q < T.length) (hpq : p ≠ q) (e : eqn T h p q = true) : p + h < T.length ∧ q + h < T.length := by
  rcases Nat.lt_or_gt_of_ne hpq with h1 | h1
  · have := eqn_far1 ht hq h1 e; omega
  · have := eqn_far1 ht hp h1 (eqn_symm e); omega
theorem ltn_bef {T : List Int} (ht : IsTxt T) : ∀ {h p q}, p < T.length → q < T.length → ltn T h p q = true → bef T p q = true
  | 0, _, _, _, _, e => by cases e
  | h + 1, p, q, hp, hq, e => by
    rw [bef_step hp hq]
    rcases ltn_succ.1 e with e1 | ⟨e1, e2⟩
    · exact .inl e1
    · refine .inr ⟨e1, ?_⟩
      by_cases h1 : p = T.length - 1
      · rw [(ht.zero_iff hp).2 h1] at e1
        have h2 := (ht.zero_iff hq).1 e1.symm
        rw [h1, h2] at e2
        exact (ltn_irrefl e2).elim
      · by_cases h2 : q = T.length - 1
        · rw [(ht.zero_iff hq).2 h2] at e1
          exact absurd ((ht.zero_iff hp).1 e1) h1
        · exact ltn_bef ht (by omega) (by omega) e2

/-- Counting. -/
theorem cnt_le {N : Nat} {P Q : Nat → Bool} (h : ∀ r, r < N → P r = true → Q r = true) : cnt N P ≤ cnt N Q := by
  induction N with
  | zero => exact Nat.le_refl _
  | succ N ih =>
    rw [cnt_succ, cnt_succ]
    have h1 := ih fun r hr => h r (by omega)
    have h2 := h N (by omega)
    by_cases e : P N = true
    · rw [if_pos e, if_pos (h2 e)]; omega
    · rw [if_neg e]; omega
theorem cnt_lt {N : Nat} {P Q : Nat → Bool} (h : ∀ r, r < N → P r = true → Q r = true) {m : Nat} (hm : m < N) (h1 : P m = false) (h2 : Q m = true) : cnt N P < cnt N Q := by
  induction N with
  | zero => omega
  | succ N ih =>
    rw [cnt_succ, cnt_succ]
    by_cases e : m = N
    · subst e
      rw [if_pos h2, h1, if_neg (by decide)]
      have := cnt_le (N := m) fun r hr => h r (by omega)
      omega
    · have h3 := ih (fun r hr => h r (by omega)) (by omega)
      have h4 := h N (by omega)
      by_cases e2 : P N = true
      · rw [if_pos e2, if_pos (h4 e2)]; omega
      · rw [if_neg e2]; omega
theorem cnt_all (N : Nat) : cnt N (fun _ => true) = N := by
  induction N with
  | zero => rfl
  | succ N ih => rw [cnt_succ, ih]; rfl
theorem cnt_max (N : Nat) (P : Nat → Bool) : cnt N P ≤ N := by
  have := cnt_le (N := N) (P := P) (Q := fun _ => true) fun _ _ _ => rfl
  rwa [cnt_all] at this
theorem cnt_below {N : Nat} {P : Nat → Bool} {m : Nat} (hm : m < N) (h : P m = false) : cnt N P < N := by
  have := cnt_lt (N := N) (P := P) (Q := fun _ => true) (fun _ _ _ => rfl) hm h rfl
  rwa [cnt_all] at this
theorem cnt_one {N : Nat} {P : Nat → Bool} {m : Nat} (hm : m < N) (h : P m = true) (hu : ∀ r, r < N → P r = true → r = m) : cnt N P = 1 := by
  have h1 := cnt_le_one (n := N) (P := P) fun i j hi hj h1 h2 => (hu i hi h1).trans (hu j hj h2).symm
  have h2 := cnt_lt (N := N) (P := fun _ => false) (Q := P) (fun _ _ h => by cases h) hm rfl h
  have h3 := cnt_none (N := N) (P := fun _ => false) fun _ _ => rfl
  omega
theorem cnt_upto (k : Nat) : ∀ N, k ≤ N → cnt N (fun q => decide (q < k)) = k
  | 0, h => by have : k = 0 := by omega
               subst this; rfl
  | N + 1, h => by
    rw [cnt_succ]
    by_cases e : k = N + 1
    · subst e
      rw [if_pos (by simp), cnt_congr (Q := fun _ => true) fun r hr => by simp; omega, cnt_all]
    · rw [cnt_upto k N (by omega), if_neg (by simp; omega)]
      omega
/-- Of places that have rows, each its own, as many fit as rows do. -/
theorem cnt_map {N : Nat} {r : Nat → Nat} (hlt : ∀ p, p < N → r p < N) (hinj : ∀ p q, p < N → q < N → r p = r q → p = q) (P : Nat → Bool) : cnt N (fun p => P (r p)) = cnt N P := by
  have h6 : ((List.range N).map r).Perm (List.range N) := by
    refine (List.perm_ext_iff_of_nodup ?_ List.nodup_range).2 fun i => ?_
    · rw [List.nodup_iff_pairwise_ne, List.pairwise_map]
      refine List.Pairwise.imp_of_mem ?_ (List.nodup_iff_pairwise_ne.1 List.nodup_range)
      intro a b ha hb hne e
      exact hne (hinj a b (List.mem_range.1 ha) (List.mem_range.1 hb) e)
    · rw [List.mem_map, List.mem_range]
      constructor
      · rintro ⟨i, hi, rfl⟩; exact hlt i (List.mem_range.1 hi)
      · intro hr
        obtain ⟨j, hj, e⟩ := onto hlt hinj hr
        exact ⟨j, List.mem_range.2 hj, e⟩
  unfold cnt
  rw [← (h6.filter P).length_eq, List.filter_map, List.length_map]
  rfl

/-- Rows of places, in an order of the first h symbols; ro tells the place of each row. -/
structure Ord (T : List Int) (h : Nat) (r ro : Nat → Nat) : Prop where
  lt : ∀ p, p < T.length → r p < T.length
  mono : ∀ p q, p < T.length → q < T.length → ltn T h p q = true → r p < r q
  at_ : ∀ p, p < T.length → ro (r p) = p
theorem Ord.inj {T : List Int} {h : Nat} {r ro : Nat → Nat} (o : Ord T h r ro) (p q : Nat) (hp : p < T.length) (hq : q < T.length) (e : r p = r q) : p = q := by
  have h1 := o.at_ p hp
  rw [e, o.at_ q hq] at h1
  exact h1.symm
theorem Ord.row {T : List Int} {h : Nat} {r ro : Nat → Nat} (o : Ord T h r ro) {i : Nat} (hi : i < T.length) : ro i < T.length ∧ r (ro i) = i := by
  obtain ⟨p, hp, rfl⟩ := onto o.lt o.inj hi
  rw [o.at_ p hp]
  exact ⟨hp, rfl⟩
theorem Ord.cnt {T : List Int} {h : Nat} {r ro : Nat → Nat} (o : Ord T h r ro) {k : Nat} (hk : k ≤ T.length) : Bw.cnt T.length (fun q => decide (r q < k)) = k :=
  (cnt_map o.lt o.inj fun i => decide (i < k)).trans (cnt_upto k _ hk)
/-- The first row of a place's group. -/
def hd (T : List Int) (h p : Nat) : Nat := cnt T.length fun q => ltn T h q p
theorem hd_lt {T : List Int} {h p : Nat} (hp : p < T.length) : hd T h p < T.length :=
  cnt_below hp (by cases e : ltn T h p p with
    | false => rfl
    | true => exact (ltn_irrefl e).elim)
theorem hd_eq {T : List Int} {h p q : Nat} (e : eqn T h p q = true) : hd T h p = hd T h q :=
  cnt_congr fun r _ => by
    cases e1 : ltn T h r p with
    | true => rw [ltn_right e1 e]
    | false =>
      cases e2 : ltn T h r q with
      | true => rw [ltn_right e2 (eqn_symm e)] at e1; cases e1
      | false => rfl
theorem hd_mono {T : List Int} {h p q : Nat} (hp : p < T.length) (e : ltn T h p q = true) : hd T h p < hd T h q :=
  cnt_lt (fun _ _ h => ltn_trans h e) hp (by cases e : ltn T h p p with
    | false => rfl
    | true => exact (ltn_irrefl e).elim) e
theorem hd_iff {T : List Int} {h p q : Nat} (hp : p < T.length) (hq : q < T.length) : hd T h p = hd T h q ↔ eqn T h p q = true := by
  constructor
  · intro e
    rcases ltn_tri T h p q with h1 | h1 | h1
    · have := hd_mono hp h1; omega
    · exact h1
    · have := hd_mono hq h1; omega
  · exact hd_eq
/-- One that is alone in its group has its first row. -/
theorem Ord.alone {T : List Int} {h : Nat} {r ro : Nat → Nat} (o : Ord T h r ro) {p : Nat} (hp : p < T.length) (ha : ∀ q, q < T.length → eqn T h q p = true → q = p) : r p = hd T h p := by
  rw [← o.cnt (k := r p) (Nat.le_of_lt (o.lt p hp))]
  unfold hd
  refine cnt_congr fun q hq => ?_
  cases e : ltn T h q p with
  | true => exact decide_eq_true (o.mono q p hq hp e)
  | false =>
    refine decide_eq_false fun h1 => ?_
    rcases ltn_tri T h q p with h2 | h2 | h2
    · rw [h2] at e; cases e
    · rw [ha q hq h2] at h1; omega
    · have := o.mono p q hp hq h2; omega
/-- The order by twice as many symbols: by h, then by the rows of what stands h behind. -/
def two (T : List Int) (h : Nat) (r : Nat → Nat) (p q : Nat) : Bool := ltn T h p q || (eqn T h p q && decide (r (p + h) < r (q + h)))
theorem two_iff {T : List Int} {h : Nat} {r : Nat → Nat} {p q : Nat} : two T h r p q = true ↔ ltn T h p q = true ∨ (eqn T h p q = true ∧ r (p + h) < r (q + h)) := by
  unfold two
  rw [Bool.or_eq_true, Bool.and_eq_true, decide_eq_true_iff]
theorem two_irrefl {T : List Int} {h : Nat} {r : Nat → Nat} {p : Nat} : two T h r p p = false := by
  cases e : two T h r p p with
  | false => rfl
  | true =>
    rcases two_iff.1 e with h1 | h1
    · exact (ltn_irrefl h1).elim
    · omega
theorem two_trans {T : List Int} {h : Nat} {r : Nat → Nat} {p q s : Nat} (h1 : two T h r p q = true) (h2 : two T h r q s = true) : two T h r p s = true := by
  rw [two_iff] at h1 h2 ⊢
  rcases h1 with h1 | ⟨h1, h3⟩
  · rcases h2 with h2 | ⟨h2, h4⟩
    · exact .inl (ltn_trans h1 h2)
    · exact .inl (ltn_right h1 h2)
  · rcases h2 with h2 | ⟨h2, h4⟩
    · exact .inl (ltn_left h1 h2)
    · exact .inr ⟨eqn_trans h1 h2, by omega⟩
/-- The rows by twice as many symbols. -/
def nxt (T : List Int) (h : Nat) (r : Nat → Nat) (p : Nat) : Nat := cnt T.length fun q => two T h r q p
theorem nxt_lt {T : List Int} {h : Nat} {r : Nat → Nat} {p : Nat} (hp : p < T.length) : nxt T h r p < T.length := cnt_below hp two_irrefl
theorem nxt_mono {T : List Int} {h : Nat} {r : Nat → Nat} {p q : Nat} (hp : p < T.length) (e : two T h r p q = true) : nxt T h r p < nxt T h r q :=
  cnt_lt (fun _ _ h => two_trans h e) hp two_irrefl e
theorem nxt_inj {T : List Int} (ht : IsTxt T) {h : Nat} {r ro : Nat → Nat} (o : Ord T h r ro) (p q : Nat) (hp : p < T.length) (hq : q < T.length) (e : nxt T h r p = nxt T h r q) : p = q := by
  by_cases hpq : p = q
  · exact hpq
  · rcases ltn_tri T h p q with h1 | h1 | h1
    · have := nxt_mono (r := r) hp (two_iff.2 (.inl h1)); omega
    · have h2 := eqn_far ht hp hq hpq h1
      rcases Nat.lt_trichotomy (r (p + h)) (r (q + h)) with h3 | h3 | h3
      · have := nxt_mono (r := r) hp (two_iff.2 (.inr ⟨h1, h3⟩)); omega
      · have := o.inj _ _ h2.1 h2.2 h3; omega
      · have := nxt_mono (r := r) hq (two_iff.2 (.inr ⟨eqn_symm h1, h3⟩)); omega
    · have := nxt_mono (r := r) hq (two_iff.2 (.inl h1)); omega
theorem nxt_ord {T : List Int} (ht : IsTxt T) {h : Nat} {r ro ro' : Nat → Nat} (o : Ord T h r ro) (hat : ∀ p, p < T.length → ro' (nxt T h r p) = p) : Ord T (h + h) (nxt T h r) ro' := by
  refine ⟨fun p hp => nxt_lt hp, fun p q hp hq e => ?_, hat⟩
  refine nxt_mono hp (two_iff.2 ?_)
  rcases (ltn_add h h p q).1 e with h1 | ⟨h1, h2⟩
  · exact .inl h1
  · by_cases hpq : p = q
    · subst hpq; exact (ltn_irrefl h2).elim
    · have h3 := eqn_far ht hp hq hpq h1
      exact .inr ⟨h1, o.mono _ _ h3.1 h3.2 h2⟩
/-- How many of the group g have taken their rows, when k rows have been asked. -/
def tkn (T : List Int) (h : Nat) (r : Nat → Nat) (k g : Nat) : Nat := cnt T.length fun q => decide (q + h < T.length ∧ r (q + h) < k ∧ hd T h q = g)
theorem tkn_zero (T : List Int) (h : Nat) (r : Nat → Nat) (g : Nat) : tkn T h r 0 g = 0 := cnt_none fun _ _ => decide_eq_false fun h => absurd h.2.1 (Nat.not_lt_zero _)
theorem tkn_at {T : List Int} (ht : IsTxt T) {h : Nat} {r : Nat → Nat} {p : Nat} (hp : p < T.length) : hd T h p + tkn T h r (r (p + h)) (hd T h p) = nxt T h r p := by
  have h0 : nxt T h r p = hd T h p + cnt T.length fun q => eqn T h q p && decide (r (q + h) < r (p + h)) :=
    cnt_or (P := fun q => ltn T h q p) (Q := fun q => eqn T h q p && decide (r (q + h) < r (p + h))) fun _ _ h1 => ltn_ne h1.1 (by
      have := h1.2
      rw [Bool.and_eq_true] at this
      exact this.1)
  rw [h0]
  congr 1
  refine cnt_congr fun q hq => ?_
  by_cases e : eqn T h q p = true
  · rw [e, Bool.true_and]
    by_cases hqp : q = p
    · subst hqp
      rw [decide_eq_false (by omega), decide_eq_false (by omega)]
    · have h2 := eqn_far ht hq hp hqp e
      refine decide_eq_decide.2 ⟨fun h => h.2.1, fun h => ⟨h2.1, h, hd_eq e⟩⟩
  · rw [show eqn T h q p = false by simpa using e, Bool.false_and]
    exact decide_eq_false fun h1 => e ((hd_iff hq hp).1 h1.2.2)
theorem tkn_skip {T : List Int} {h : Nat} {r ro : Nat → Nat} (o : Ord T h r ro) {k : Nat} (hb : ro k < h) (g : Nat) : tkn T h r (k + 1) g = tkn T h r k g := by
  refine cnt_congr fun q hq => decide_eq_decide.2 ⟨fun h1 => ⟨h1.1, ?_, h1.2.2⟩, fun h1 => ⟨h1.1, by omega, h1.2.2⟩⟩
  have h2 : r (q + h) ≠ k := fun e => by
    have := o.at_ _ h1.1
    rw [e] at this
    omega
  omega
theorem tkn_next {T : List Int} {h : Nat} {r ro : Nat → Nat} (o : Ord T h r ro) {k p : Nat} (hk : k < T.length) (hb : ro k = p + h) (g : Nat) : tkn T h r (k + 1) g = tkn T h r k g + if g = hd T h p then 1 else 0 := by
  obtain ⟨h1, h2⟩ := o.row hk
  rw [hb] at h1 h2
  have h3 : tkn T h r (k + 1) g = cnt T.length fun q => decide (q + h < T.length ∧ r (q + h) < k ∧ hd T h q = g) || decide (q = p ∧ hd T h p = g) := by
    refine cnt_congr fun q hq => ?_
    by_cases e : q = p
    · subst e
      rw [h2]
      by_cases e2 : hd T h q = g
      · rw [decide_eq_true (by omega), decide_eq_true (p := q = q ∧ hd T h q = g) ⟨rfl, e2⟩, Bool.or_true]
      · rw [decide_eq_false (by omega), decide_eq_false (by omega), decide_eq_false (p := q = q ∧ hd T h q = g) (by omega)]; rfl
    · rw [decide_eq_false (p := q = p ∧ hd T h p = g) (by omega), Bool.or_false]
      refine decide_eq_decide.2 ⟨fun h4 => ⟨h4.1, ?_, h4.2.2⟩, fun h4 => ⟨h4.1, by omega, h4.2.2⟩⟩
      have h5 : r (q + h) ≠ k := fun e3 => by
        have := o.inj _ _ h4.1 h1 (e3.trans h2.symm)
        omega
      omega
  rw [h3, cnt_or fun q _ h4 => by
    have h5 := of_decide_eq_true h4.1
    have h6 := of_decide_eq_true h4.2
    rw [h6.1, h2] at h5
    omega]
  congr 1
  by_cases e : g = hd T h p
  · rw [if_pos e]
    exact cnt_one (m := p) (by omega) (decide_eq_true ⟨rfl, e.symm⟩) fun q _ h4 => (of_decide_eq_true h4).1
  · rw [if_neg e]
    exact cnt_none fun q _ => decide_eq_false fun h4 => e h4.2.symm
/-- What the rows are while they are taken. -/
structure Tak (T : List Int) (h : Nat) (r : Nat → Nat) (k : Nat) (ro : Nat → Nat) : Prop where
  near : ∀ p, p < T.length → p + h < T.length → r (p + h) < k → ro (nxt T h r p) = p
  far : ∀ p, p < T.length → T.length ≤ p + h → ro (nxt T h r p) = p
theorem Tak.zero {T : List Int} (ht : IsTxt T) {h : Nat} {r ro : Nat → Nat} (o : Ord T h r ro) : Tak T h r 0 ro := by
  refine ⟨fun p _ _ h1 => absurd h1 (Nat.not_lt_zero _), fun p hp h1 => ?_⟩
  have ha : ∀ q, q < T.length → eqn T h q p = true → q = p := fun q hq e => by
    by_cases hqp : q = p
    · exact hqp
    · have := eqn_far ht hq hp hqp e; omega
  have h2 : nxt T h r p = hd T h p := by
    unfold nxt hd
    refine cnt_congr fun q hq => ?_
    by_cases e : eqn T h q p = true
    · rw [ha q hq e, two_irrefl]
      cases e : ltn T h p p with
      | false => rfl
      | true => exact (ltn_irrefl e).elim
    · unfold two
      rw [show eqn T h q p = false by simpa using e, Bool.false_and, Bool.or_false]
  rw [h2, ← o.alone hp ha]
  exact o.at_ p hp
theorem Tak.skip {T : List Int} {h : Nat} {r ro ro' : Nat → Nat} (o : Ord T h r ro) {k : Nat} (hb : ro k < h) (t : Tak T h r k ro') : Tak T h r (k + 1) ro' := by
  refine ⟨fun p hp h1 h2 => t.near p hp h1 ?_, t.far⟩
  have h3 : r (p + h) ≠ k := fun e => by
    have := o.at_ _ h1
    rw [e] at this
    omega
  omega
theorem Tak.next {T : List Int} (ht : IsTxt T) {h : Nat} {r ro ro' : Nat → Nat} (o : Ord T h r ro) {k p : Nat} (hk : k < T.length) (hb : ro k = p + h) (t : Tak T h r k ro') : Tak T h r (k + 1) (fun j => if j = nxt T h r p then p else ro' j) := by
  obtain ⟨h1, h2⟩ := o.row hk
  rw [hb] at h1 h2
  refine ⟨fun q hq h3 h4 => ?_, fun q hq h3 => ?_⟩
  · show (if nxt T h r q = nxt T h r p then p else ro' (nxt T h r q)) = q
    by_cases e : q = p
    · rw [e, if_pos rfl]
    · rw [if_neg fun e2 => e (nxt_inj ht o q p hq (by omega) e2)]
      refine t.near q hq h3 ?_
      have h5 : r (q + h) ≠ k := fun e3 => by
        have := o.inj _ _ h3 h1 (e3.trans h2.symm)
        omega
      omega
  · show (if nxt T h r q = nxt T h r p then p else ro' (nxt T h r q)) = q
    by_cases e : q = p
    · omega
    · rw [if_neg fun e2 => e (nxt_inj ht o q p hq (by omega) e2)]
      exact t.far q hq h3
theorem Tak.done {T : List Int} (ht : IsTxt T) {h : Nat} {r ro ro' : Nat → Nat} (o : Ord T h r ro) (t : Tak T h r T.length ro') : Ord T (h + h) (nxt T h r) ro' := by
  refine nxt_ord ht o fun p hp => ?_
  by_cases h1 : p + h < T.length
  · exact t.near p hp h1 (o.lt _ h1)
  · exact t.far p hp (by omega)

/-- The first rows of groups, one behind the other; how many groups the first rows have. -/
def gh (E : Nat → Nat → Bool) (ro : Nat → Nat) : Nat → Nat
  | 0 => 0
  | i + 1 => if E (ro i) (ro (i + 1)) = true then gh E ro i else i + 1
def gc (E : Nat → Nat → Bool) (ro : Nat → Nat) : Nat → Nat
  | 0 => 1
  | i + 1 => if E (ro i) (ro (i + 1)) = true then gc E ro i else gc E ro i + 1
theorem gh_le (E : Nat → Nat → Bool) (ro : Nat → Nat) : ∀ i, gh E ro i ≤ i
  | 0 => Nat.le_refl _
  | i + 1 => by
    have := gh_le E ro i
    show (if E (ro i) (ro (i + 1)) = true then gh E ro i else i + 1) ≤ i + 1
    split <;> omega
theorem gc_le (E : Nat → Nat → Bool) (ro : Nat → Nat) : ∀ i, gc E ro i ≤ i + 1
  | 0 => Nat.le_refl _
  | i + 1 => by
    have := gc_le E ro i
    show (if E (ro i) (ro (i + 1)) = true then gc E ro i else gc E ro i + 1) ≤ i + 1 + 1
    split <;> omega
theorem gc_all {E : Nat → Nat → Bool} {ro : Nat → Nat} : ∀ {n}, gc E ro n = n + 1 → ∀ i, i < n → E (ro i) (ro (i + 1)) = false
  | 0, _, i, hi => absurd hi (Nat.not_lt_zero _)
  | n + 1, h, i, hi => by
    have h1 := gc_le E ro n
    have h2 : (if E (ro n) (ro (n + 1)) = true then gc E ro n else gc E ro n + 1) = n + 1 + 1 := h
    by_cases e : E (ro n) (ro (n + 1)) = true
    · rw [if_pos e] at h2; omega
    · rw [if_neg e] at h2
      by_cases e2 : i = n
      · subst e2; simpa using e
      · exact gc_all (n := n) (by omega) i (by omega)
theorem gc_of {E : Nat → Nat → Bool} {ro : Nat → Nat} : ∀ {n}, (∀ i, i < n → E (ro i) (ro (i + 1)) = false) → gc E ro n = n + 1
  | 0, _ => rfl
  | n + 1, h => by
    show (if _ then _ else _) = _
    rw [if_neg (by rw [h n (by omega)]; decide), gc_of (n := n) fun i hi => h i (by omega)]
theorem Ord.gh {T : List Int} {h : Nat} {r ro : Nat → Nat} (o : Ord T h r ro) : ∀ {i}, i < T.length → gh (eqn T h) ro i = hd T h (ro i)
  | 0, hi => by
    obtain ⟨h1, h2⟩ := o.row hi
    refine (cnt_none fun q hq => ?_).symm
    cases e : ltn T h q (ro 0) with
    | false => rfl
    | true => have := o.mono q _ hq h1 e; omega
  | i + 1, hi => by
    obtain ⟨h1, h2⟩ := o.row hi
    obtain ⟨h3, h4⟩ := o.row (i := i) (by omega)
    have ih := Ord.gh o (i := i) (by omega)
    show (if eqn T h (ro i) (ro (i + 1)) = true then Bw.gh (eqn T h) ro i else i + 1) = _
    by_cases e : eqn T h (ro i) (ro (i + 1)) = true
    · rw [if_pos e, ih, hd_eq e]
    · rw [if_neg e]
      have h5 : ltn T h (ro i) (ro (i + 1)) = true := by
        rcases ltn_tri T h (ro i) (ro (i + 1)) with h6 | h6 | h6
        · exact h6
        · exact absurd h6 e
        · have := o.mono _ _ h1 h3 h6; omega
      conv => lhs; rw [← o.cnt (k := i + 1) (by omega)]
      refine cnt_congr fun q hq => ?_
      cases e2 : ltn T h q (ro (i + 1)) with
      | true => exact decide_eq_true (by have := o.mono _ _ hq h1 e2; omega)
      | false =>
        refine decide_eq_false fun h6 => ?_
        rcases ltn_tri T h q (ro i) with h7 | h7 | h7
        · rw [ltn_trans h7 h5] at e2; cases e2
        · rw [ltn_left h7 h5] at e2; cases e2
        · have := o.mono _ _ h3 hq h7; omega
/-- Rows whose neighbours all differ are the rows. -/
theorem Ord.rows {T : List Int} (ht : IsTxt T) {h : Nat} {r ro : Nat → Nat} (o : Ord T h r ro) (hd : ∀ i, i + 1 < T.length → eqn T h (ro i) (ro (i + 1)) = false) : IsRows T ((List.range T.length).map ro) := by
  have h1 : ∀ d i, i + d + 1 < T.length → ltn T h (ro i) (ro (i + d + 1)) = true := fun d => by
    have step : ∀ i, i + 1 < T.length → ltn T h (ro i) (ro (i + 1)) = true := fun i hi => by
      obtain ⟨a1, a2⟩ := o.row hi
      obtain ⟨b1, b2⟩ := o.row (i := i) (by omega)
      rcases ltn_tri T h (ro i) (ro (i + 1)) with h6 | h6 | h6
      · exact h6
      · rw [hd i hi] at h6; cases h6
      · have := o.mono _ _ a1 b1 h6; omega
    induction d with
    | zero => exact step
    | succ d ih => intro i hi; exact ltn_trans (ih i (by omega)) (step (i + d + 1) hi)
  refine ⟨by rw [List.length_map, List.length_range], fun p hp => List.mem_map.2 ⟨r p, List.mem_range.2 (o.lt p hp), o.at_ p hp⟩, fun p hp => ?_, ?_⟩
  · obtain ⟨i, hi, rfl⟩ := List.mem_map.1 hp
    exact (o.row (List.mem_range.1 hi)).1
  · rw [List.pairwise_iff_getElem]
    intro i j hi hj hij
    rw [List.length_map, List.length_range] at hi hj
    rw [List.getElem_map, List.getElem_map, List.getElem_range, List.getElem_range]
    have h2 := h1 (j - i - 1) i (by omega)
    rw [show i + (j - i - 1) + 1 = j by omega] at h2
    exact ltn_bef ht (o.row hi).1 (o.row hj).1 h2
theorem far_all {T : List Int} (ht : IsTxt T) {h : Nat} {r ro : Nat → Nat} (o : Ord T h r ro) (hh : T.length ≤ h) (i : Nat) (hi : i + 1 < T.length) : eqn T h (ro i) (ro (i + 1)) = false := by
  cases e : eqn T h (ro i) (ro (i + 1)) with
  | false => rfl
  | true =>
    obtain ⟨a1, a2⟩ := o.row hi
    obtain ⟨b1, b2⟩ := o.row (i := i) (by omega)
    have := eqn_far ht b1 a1 (fun e2 => by rw [e2] at b2; omega) e
    omega
/-- The rows by the first symbol. -/
theorem Ord.first {T : List Int} {ro : Nat → Nat} (hat : ∀ p, p < T.length → ro (bk T p) = p) : Ord T 1 (bk T) ro :=
  ⟨fun _ hp => bk_lt hp, fun _ _ hp hq e => bk_mono hp hq (.inl (ltn_one.1 e)), hat⟩
end Bw
end Go.Proofs.YthbbokoeiifjdaaGreatDoor
namespace Go.Proofs.YthbbokoeiifjdaaGreatDoor
namespace Bw

/-- The rows of what a text ends with stand in the same order. -/
theorem bef_app (A T : List Int) (p q : Nat) : bef (A ++ T) (A.length + p) (A.length + q) = bef T p q := by
  unfold bef
  have h : ∀ p, (A ++ T).drop (A.length + p) = T.drop p := fun p => by
    rw [List.drop_append, List.drop_of_length_le (by omega), show A.length + p - A.length = p by omega]
    rfl
  rw [h, h]
theorem IsRows.tail {A T : List Int} {R : List Nat} (h : IsRows (A ++ T) R) : IsRows T ((R.filter fun p => decide (A.length ≤ p)).map fun p => p - A.length) := by
  have hmem : ∀ p, p ∈ (R.filter fun p => decide (A.length ≤ p)).map (fun p => p - A.length) ↔ p < T.length := fun p => by
    rw [List.mem_map]
    constructor
    · rintro ⟨q, hq, rfl⟩
      obtain ⟨h1, h2⟩ := List.mem_filter.1 hq
      have h3 := h.lt q h1
      rw [List.length_append] at h3
      have h4 : A.length ≤ q := of_decide_eq_true h2
      omega
    · intro hp
      exact ⟨A.length + p, List.mem_filter.2 ⟨h.all _ (by rw [List.length_append]; omega), decide_eq_true (by omega)⟩, by omega⟩
  have hs : ((R.filter fun p => decide (A.length ≤ p)).map fun p => p - A.length).Pairwise fun p q => bef T p q = true := by
    rw [List.pairwise_map]
    refine List.Pairwise.imp_of_mem ?_ (h.sorted.filter _)
    intro a b ha hb hab
    have h1 : A.length ≤ a := of_decide_eq_true (List.mem_filter.1 ha).2
    have h2 : A.length ≤ b := of_decide_eq_true (List.mem_filter.1 hb).2
    rw [← bef_app A T, show A.length + (a - A.length) = a by omega, show A.length + (b - A.length) = b by omega]
    exact hab
  have hnd : ((R.filter fun p => decide (A.length ≤ p)).map fun p => p - A.length).Nodup := hs.imp fun {a b} hab e => by subst e; rw [bef_irrefl] at hab; cases hab
  have hperm : ((R.filter fun p => decide (A.length ≤ p)).map fun p => p - A.length).Perm (List.range T.length) :=
    (List.perm_ext_iff_of_nodup hnd List.nodup_range).2 fun p => by rw [hmem p, List.mem_range]
  exact ⟨by rw [hperm.length_eq, List.length_range], fun p hp => (hmem p).2 hp, fun p hp => (hmem p).1 hp, hs⟩
/-- The rows of the suffixes with a symbol ahead stand together. -/
theorem row_block {T : List Int} {p : Nat} (hp : p < T.length) : low T (T.getD p 0) ≤ row T p ∧ row T p < low T (T.getD p 0) + T.count (T.getD p 0) := by
  obtain ⟨s, hs⟩ : ∃ s, T.getD p 0 = s := ⟨_, rfl⟩
  rw [hs, low_cnt]
  have hcount : T.count s = cnt T.length fun r => decide (T.getD r 0 = s) := by
    rw [cnt_list T fun x => decide (x = s), List.count_eq_countP]
    rfl
  rw [hcount]
  have hr : row T p = cnt T.length fun r => decide (T.getD r 0 < s) || (decide (T.getD r 0 = s) && bef T (r + 1) (p + 1)) := by
    refine cnt_congr fun r hr => ?_
    have h1 := bef_step hr hp
    rw [hs] at h1
    cases e : bef T r p with
    | true =>
      rcases h1.1 e with h2 | ⟨h2, h3⟩
      · rw [decide_eq_true h2]; rfl
      · rw [decide_eq_true h2, h3]; simp
    | false =>
      have h2 : ¬ (T.getD r 0 < s ∨ (T.getD r 0 = s ∧ bef T (r + 1) (p + 1) = true)) := fun h2 => by rw [h1.2 h2] at e; cases e
      by_cases h3 : T.getD r 0 < s
      · exact absurd (.inl h3) h2
      · rw [decide_eq_false h3]
        by_cases h4 : T.getD r 0 = s
        · rw [decide_eq_true h4]
          cases h5 : bef T (r + 1) (p + 1) with
          | false => rfl
          | true => exact absurd (.inr ⟨h4, h5⟩) h2
        · rw [decide_eq_false h4]; rfl
  have hor := cnt_or (N := T.length) (P := fun r => decide (T.getD r 0 < s)) (Q := fun r => decide (T.getD r 0 = s) && bef T (r + 1) (p + 1)) fun r _ ⟨h1, h2⟩ => by
    simp only [Bool.and_eq_true, decide_eq_true_iff] at h1 h2
    omega
  have hlt : cnt T.length (fun r => decide (T.getD r 0 = s) && bef T (r + 1) (p + 1)) < cnt T.length fun r => decide (T.getD r 0 = s) := by
    unfold cnt
    have h1 : (List.range T.length).filter (fun r => decide (T.getD r 0 = s) && bef T (r + 1) (p + 1)) = ((List.range T.length).filter fun r => decide (T.getD r 0 = s)).filter fun r => bef T (r + 1) (p + 1) := by
      rw [List.filter_filter]
      exact List.filter_congr fun r _ => Bool.and_comm _ _
    rw [h1]
    refine Nat.lt_of_le_of_ne (List.length_filter_le _ _) fun e => ?_
    have hm : p ∈ (List.range T.length).filter fun r => decide (T.getD r 0 = s) := List.mem_filter.2 ⟨List.mem_range.2 hp, decide_eq_true hs⟩
    have := List.length_filter_eq_length_iff.1 e p hm
    rw [bef_irrefl] at this
    cases this
  rw [hr, hor]
  omega
/-- Where a row lies between the sums its first symbol is known. -/
theorem first_of {T : List Int} {p : Nat} (hp : p < T.length) {s : Int} (h1 : low T s ≤ row T p) (h2 : row T p < low T s + T.count s) : T.getD p 0 = s := by
  obtain ⟨h3, h4⟩ := row_block hp
  rcases Int.lt_trichotomy (T.getD p 0) s with h | h | h
  · have := low_mono T h; omega
  · exact h
  · have := low_mono T h; omega
/-- The row of a suffix, by that of the suffix one further on. -/
theorem IsRows.ahead {T : List Int} {R : List Nat} (h : IsRows T R) (ht : IsTxt T) {p : Nat} (hp : p + 1 < T.length) :
    Bw.row T p = low T (T.getD p 0) + ((lst T R).take (Bw.row T (p + 1))).count (T.getD p 0) ∧ (lst T R).getD (Bw.row T (p + 1)) 0 = T.getD p 0 := by
  obtain ⟨hr, e⟩ := h.at_row hp
  have h1 := h.back ht hr
  have h2 := lst_at (T := T) hr
  rw [e] at h1 h2
  have h3 : prd T.length (p + 1) = p := if_neg (by omega)
  rw [h3] at h1 h2
  rw [h2] at h1
  exact ⟨h1, h2⟩
theorem count_le_of {l : List Int} {a b : Nat} (h : a ≤ b) (s : Int) : (l.take a).count s ≤ (l.take b).count s := List.Sublist.count_le s (List.take_sublist_take_left h)
/-- The rows from lo on, below hi, are those of the suffixes that begin with a pattern. -/
def Spans (T : List Int) (q : List Int) (lo hi : Nat) : Prop := ∀ p, p < T.length → ((lo ≤ row T p ∧ row T p < hi) ↔ q <+: T.drop p)
theorem spans_nil (T : List Int) : Spans T [] 0 T.length := fun _ hp => ⟨fun _ => List.nil_prefix, fun _ => ⟨Nat.zero_le _, row_lt hp⟩⟩
theorem IsRows.narrow {T : List Int} {R : List Nat} (h : IsRows T R) (ht : IsTxt T) {q : List Int} {lo hi : Nat} {s : Int} (hs : 1 ≤ s) (hsp : Spans T q lo hi) :
    Spans T (s :: q) (low T s + ((lst T R).take lo).count s) (low T s + ((lst T R).take hi).count s) := by
  intro p hp
  have hcl : ∀ k, ((lst T R).take k).count s ≤ T.count s := fun k => by
    rw [← (h.perm_lst ht.pos).count_eq s]
    exact List.Sublist.count_le s (List.take_sublist k _)
  have hpre : (s :: q) <+: T.drop p ↔ T.getD p 0 = s ∧ q <+: T.drop (p + 1) := by
    rw [drop_cons hp, List.cons_prefix_cons]
    constructor
    · rintro ⟨h1, h2⟩; exact ⟨h1.symm, h2⟩
    · rintro ⟨h1, h2⟩; exact ⟨h1.symm, h2⟩
  rw [hpre]
  constructor
  · rintro ⟨h1, h2⟩
    have hl := hcl hi
    have hf := first_of hp (s := s) (by omega) (by omega)
    have hp1 : p + 1 < T.length := by
      apply Nat.lt_of_le_of_ne hp
      intro e
      have := (ht.zero_iff hp).2 (by omega)
      omega
    obtain ⟨h3, h4⟩ := h.ahead ht hp1
    rw [hf] at h3 h4
    refine ⟨hf, (hsp (p + 1) hp1).1 ⟨?_, ?_⟩⟩
    · apply Nat.le_of_not_lt
      intro hlt
      have hrl : Bw.row T (p + 1) < (lst T R).length := by rw [lst_len, h.len]; exact row_lt (T := T) hp1
      by_cases e : lo ≤ (lst T R).length
      · have h6 := count_take_mono (l := lst T R) hlt e
        rw [h4] at h6
        omega
      · have h6 := count_take_lt hrl
        rw [h4] at h6
        rw [List.take_of_length_le (show (lst T R).length ≤ lo by omega)] at h1
        omega
    · apply Nat.lt_of_not_le
      intro hle
      have := count_le_of (l := lst T R) hle s
      omega
  · rintro ⟨hf, hq⟩
    have hp1 : p + 1 < T.length := by
      apply Nat.lt_of_le_of_ne hp
      intro e
      have := (ht.zero_iff hp).2 (by omega)
      omega
    obtain ⟨h1, h2⟩ := (hsp (p + 1) hp1).2 hq
    obtain ⟨h3, h4⟩ := h.ahead ht hp1
    rw [hf] at h3 h4
    have hrl : Bw.row T (p + 1) < (lst T R).length := by rw [lst_len, h.len]; exact row_lt (T := T) hp1
    have h5 := count_le_of (l := lst T R) h1 s
    refine ⟨by omega, ?_⟩
    by_cases e : hi ≤ (lst T R).length
    · have h6 := count_take_mono (l := lst T R) h2 e
      rw [h4] at h6
      omega
    · have h6 := count_take_lt hrl
      rw [h4] at h6
      rw [List.take_of_length_le (show (lst T R).length ≤ hi by omega)]
      omega
/-- As many rows as places. -/
theorem spans_count {T : List Int} {q : List Int} {lo hi : Nat} (h : Spans T q lo hi) (hh : hi ≤ T.length) : hi - lo = cnt T.length fun p => q.isPrefixOf (T.drop p) := by
  have hR := rows_is T
  have h1 : cnt T.length (fun p => q.isPrefixOf (T.drop p)) = cnt T.length fun p => decide (lo ≤ row T p) && decide (row T p < hi) := by
    refine cnt_congr fun p hp => ?_
    have h2 := h p hp
    cases e : q.isPrefixOf (T.drop p) with
    | true =>
      obtain ⟨h3, h4⟩ := h2.2 (List.isPrefixOf_iff_prefix.1 e)
      rw [decide_eq_true h3, decide_eq_true h4]; rfl
    | false =>
      cases e2 : (decide (lo ≤ row T p) && decide (row T p < hi)) with
      | false => rfl
      | true =>
        simp only [Bool.and_eq_true, decide_eq_true_iff] at e2
        have := List.isPrefixOf_iff_prefix.2 (h2.1 e2)
        rw [this] at e; cases e
  rw [h1]
  unfold cnt
  rw [← (hR.perm.filter _).length_eq]
  have h3 : ((rows T).map fun p => row T p) = List.range T.length := by
    refine List.ext_getElem (by rw [List.length_map, hR.len, List.length_range]) fun i h1 h2 => ?_
    rw [List.getElem_map, List.getElem_range]
    exact hR.row _
  have h4 : ((rows T).filter fun p => decide (lo ≤ row T p) && decide (row T p < hi)).length = ((List.range T.length).filter fun r => decide (lo ≤ r) && decide (r < hi)).length := by
    rw [← h3, List.filter_map, List.length_map]
    rfl
  rw [h4]
  have h5 : ∀ n, ((List.range n).filter fun r => decide (lo ≤ r) && decide (r < hi)).length = min n hi - lo := fun n => by
    induction n with
    | zero => simp
    | succ n ih =>
      rw [List.range_succ, List.filter_append, List.length_append, ih]
      by_cases e1 : lo ≤ n
      · by_cases e2 : n < hi
        · simp [e1, e2]; omega
        · simp [e1, e2]; omega
      · simp [e1]; omega
  rw [h5, Nat.min_eq_right hh]
end Bw
end Go.Proofs.YthbbokoeiifjdaaGreatDoor
namespace Go.Proofs.YthbbokoeiifjdaaGreatDoor
namespace Bw

/-- A text's symbols, with its end; all are bytes. -/
def sy (t : List Int) : List Int := t.map (fun b => b + 1) ++ [0]
def Byt (t : List Int) : Prop := ∀ b ∈ t, 0 ≤ b ∧ b ≤ 255
theorem sy_len (t : List Int) : (sy t).length = t.length + 1 := by unfold sy; rw [List.length_append, List.length_map]; rfl
theorem sy_txt {t : List Int} (h : Byt t) : IsTxt (sy t) := IsTxt.of _ fun s hs => by
  obtain ⟨b, hb, rfl⟩ := List.mem_map.1 hs
  have := h b hb
  omega
theorem sy_app (a b : List Int) : sy (a ++ b) = a.map (fun b => b + 1) ++ sy b := by unfold sy; rw [List.map_append, List.append_assoc]
theorem sy_inj {t t' : List Int} (h : sy t = sy t') : t = t' := by
  have h1 := List.append_cancel_right h
  have h2 : ∀ x y : List Int, x.map (fun b => b + 1) = y.map (fun b => b + 1) → x = y := fun x => by
    induction x with
    | nil => intro y h; cases y with
      | nil => rfl
      | cons b y => cases h
    | cons a x ih => intro y h; cases y with
      | nil => cases h
      | cons b y =>
        rw [List.map_cons, List.map_cons] at h
        injection h with h3 h4
        rw [ih y h4, show a = b by omega]
  exact h2 t t' h1
theorem sy_at {t : List Int} {i : Nat} (hi : i < t.length) : (sy t).getD i 0 = t.getD i 0 + 1 := by
  unfold sy
  rw [List.getD_eq_getElem?_getD, List.getElem?_append_left (by rw [List.length_map]; exact hi), List.getElem?_map, List.getElem?_eq_getElem hi, List.getD_eq_getElem?_getD, List.getElem?_eq_getElem hi]
  rfl
theorem sy_end (t : List Int) : (sy t).getD t.length 0 = 0 := by
  unfold sy
  rw [List.getD_eq_getElem?_getD, List.getElem?_append_right (by rw [List.length_map]; exact Nat.le_refl _), List.length_map, Nat.sub_self]
  rfl
theorem sy_good {t : List Int} (h : Byt t) : ∀ s ∈ sy t, 0 ≤ s ∧ s ≤ 256 := fun s hs => by
  unfold sy at hs
  rcases List.mem_append.1 hs with h1 | h1
  · obtain ⟨b, hb, rfl⟩ := List.mem_map.1 h1
    have := h b hb
    omega
  · rw [List.mem_singleton.1 h1]; decide
theorem sy_zero {t : List Int} (h : Byt t) : (sy t).count 0 = 1 := by
  unfold sy
  rw [List.count_append, List.count_eq_zero.2]
  · rfl
  · intro h1
    obtain ⟨b, hb, e⟩ := List.mem_map.1 h1
    have := h b hb
    omega
/-- The last column of a text. -/
def lastT (t : List Int) : List Int := lst (sy t) (rows (sy t))
theorem lastT_len (t : List Int) : (lastT t).length = t.length + 1 := by unfold lastT; rw [lst_len, (rows_is _).len, sy_len]
theorem lastT_perm (t : List Int) : (lastT t).Perm (sy t) := (rows_is _).perm_lst (by rw [sy_len]; omega)
theorem lastT_inj {t t' : List Int} (h : Byt t) (h' : Byt t') (e : lastT t = lastT t') : t = t' := sy_inj (lst_inj (sy_txt h) (sy_txt h') e)
theorem lastT_good {t : List Int} (h : Byt t) : ∀ s ∈ lastT t, 0 ≤ s ∧ s ≤ 256 := fun s hs => sy_good h s ((lastT_perm t).mem_iff.1 hs)
theorem lastT_zero {t : List Int} (h : Byt t) : (lastT t).count 0 = 1 := by rw [(lastT_perm t).count_eq, sy_zero h]
theorem lastT_of {t : List Int} {R : List Nat} (h : IsRows (sy t) R) : lst (sy t) R = lastT t := by rw [h.unique (rows_is (sy t))]; rfl
/-- A column that is read through is a text's; a text's column is read through. -/
theorem thru_lastT {t : List Int} (h : Byt t) : Thru (lastT t) := by
  have ht := sy_txt h
  have hR := rows_is (sy t)
  have hl : (lastT t).length = (sy t).length := by rw [lastT_len, sy_len]
  refine ⟨by rw [lastT_len]; omega, fun s hs => (lastT_good h s hs).1, fun k hk => ?_, ?_⟩
  · rw [hl] at hk
    have h1 := hR.read ht hk
    show (lst (sy t) (rows (sy t))).getD (stp (lst (sy t) (rows (sy t))) k) 0 ≠ 0
    rw [h1]
    have h2 := ht.other ((sy t).length - 2 - k) (by omega)
    omega
  · rw [hl]
    have hN := ht.pos
    show (lst (sy t) (rows (sy t))).getD (stp (lst (sy t) (rows (sy t))) ((sy t).length - 1)) 0 = 0
    rw [hR.stp ht _ (by omega), (hR.bk ht (by omega)).2, Nat.sub_self]
    exact ht.last
theorem thru_text {l : List Int} (h : Thru l) (hg : ∀ s ∈ l, s ≤ 256) : ∃ t, Byt t ∧ txt l = sy t ∧ lastT t = l := by
  refine ⟨((List.range (l.length - 1)).map fun k => l.getD (stp l (l.length - 2 - k)) 0).map (fun s => s - 1), fun b hb => ?_, ?_, ?_⟩
  · obtain ⟨s, hs, rfl⟩ := List.mem_map.1 hb
    obtain ⟨k, hk, rfl⟩ := List.mem_map.1 hs
    have hk' := List.mem_range.1 hk
    have h1 := h.mid (l.length - 2 - k) (by omega)
    have h2 := stp_lt h.pos (l.length - 2 - k)
    have h3 : l.getD (stp l (l.length - 2 - k)) 0 ∈ l := by
      rw [List.getD_eq_getElem?_getD, List.getElem?_eq_getElem h2]
      exact List.getElem_mem h2
    have h4 := h.nn _ h3
    have h5 := hg _ h3
    omega
  · unfold txt sy
    rw [List.map_map]
    congr 1
    conv => lhs; rw [← List.map_id ((List.range (l.length - 1)).map fun k => l.getD (stp l (l.length - 2 - k)) 0)]
    refine List.map_congr_left fun s _ => ?_
    show s = s - 1 + 1
    omega
  · have e : sy (((List.range (l.length - 1)).map fun k => l.getD (stp l (l.length - 2 - k)) 0).map fun s => s - 1) = txt l := by
      unfold txt sy
      rw [List.map_map]
      congr 1
      conv => rhs; rw [← List.map_id ((List.range (l.length - 1)).map fun k => l.getD (stp l (l.length - 2 - k)) 0)]
      refine List.map_congr_left fun s _ => ?_
      show s - 1 + 1 = s
      omega
    unfold lastT
    rw [e]
    exact h.is_last
/-- The order of suffixes is that of strings. -/
theorem lex_sy : ∀ x y : List Int, Byt x → Byt y → lex (sy x) (sy y) = lex x y
  | [], [], _, _ => rfl
  | [], b :: y, _, hy => by
    have := hy b (List.mem_cons_self ..)
    show (decide ((0 : Int) < b + 1) || _) = true
    rw [decide_eq_true (by omega)]; rfl
  | a :: x, [], hx, _ => by
    have := hx a (List.mem_cons_self ..)
    show (decide (a + 1 < 0) || (decide (a + 1 = 0) && _)) = false
    rw [decide_eq_false (by omega), decide_eq_false (by omega)]; rfl
  | a :: x, b :: y, hx, hy => by
    have ih := lex_sy x y (fun c hc => hx c (List.mem_cons_of_mem _ hc)) (fun c hc => hy c (List.mem_cons_of_mem _ hc))
    show (decide (a + 1 < b + 1) || (decide (a + 1 = b + 1) && lex (sy x) (sy y))) = (decide (a < b) || (decide (a = b) && lex x y))
    rw [ih]
    congr 1
    · exact decide_eq_decide.2 (by omega)
    · congr 1
      exact decide_eq_decide.2 (by omega)
theorem sy_drop {t : List Int} {p : Nat} (hp : p ≤ t.length) : (sy t).drop p = sy (t.drop p) := by
  unfold sy
  rw [List.drop_append_of_le_length (by rw [List.length_map]; exact hp), List.map_drop]
theorem bef_bytes {t : List Int} (h : Byt t) {p q : Nat} (hp : p ≤ t.length) (hq : q ≤ t.length) : bef (sy t) p q = lex (t.drop p) (t.drop q) := by
  unfold bef
  rw [sy_drop hp, sy_drop hq]
  exact lex_sy _ _ (fun b hb => h b (List.mem_of_mem_drop hb)) (fun b hb => h b (List.mem_of_mem_drop hb))
/-- A text of one letter. -/
theorem lastT_runs (c : Int) (k : Nat) (hc : 0 ≤ c ∧ c ≤ 255) : lastT (List.replicate k c) = List.replicate k (c + 1) ++ [0] := by
  have hsy : sy (List.replicate k c) = List.replicate k (c + 1) ++ [0] := by unfold sy; rw [List.map_replicate]
  obtain ⟨l, hl⟩ : ∃ l, List.replicate k (c + 1) ++ [0] = l := ⟨_, rfl⟩
  have hlen : l.length = k + 1 := by rw [← hl]; simp
  have hlt : ∀ j, j < k → l.getD j 0 = c + 1 := fun j hj => by
    rw [← hl, List.getD_eq_getElem?_getD, List.getElem?_append_left (by rw [List.length_replicate]; exact hj), List.getElem?_replicate, if_pos hj]
    rfl
  have hend : l.getD k 0 = 0 := by
    rw [← hl, List.getD_eq_getElem?_getD, List.getElem?_append_right (by rw [List.length_replicate]; exact Nat.le_refl _), List.length_replicate, Nat.sub_self]
    rfl
  have hlow : low l (c + 1) = 1 := by
    unfold low
    rw [← hl, List.countP_append, List.countP_eq_zero.2]
    · have : (0 : Int) < c + 1 := by omega
      simp [this]
    · intro a ha
      rw [List.eq_of_mem_replicate ha]
      simp
  have htake : ∀ j, j ≤ k → (l.take j).count (c + 1) = j := fun j hj => by
    rw [← hl, List.take_append_of_le_length (by rw [List.length_replicate]; exact hj), List.take_replicate, Nat.min_eq_left hj, List.count_replicate_self]
  have hstp : ∀ j, j ≤ k → stp l j = j := fun j => by
    induction j with
    | zero => intro _; rfl
    | succ j ih =>
      intro hj
      show bk l (stp l j) = j + 1
      rw [ih (by omega)]
      unfold bk
      rw [hlt j (by omega), hlow, htake j (by omega)]
      omega
  have hthru : Thru l := by
    refine ⟨by omega, fun s hs => ?_, fun j hj => ?_, ?_⟩
    · rw [← hl] at hs
      rcases List.mem_append.1 hs with h1 | h1
      · rw [List.eq_of_mem_replicate h1]; omega
      · rw [List.mem_singleton.1 h1]; exact Int.le_refl _
    · rw [hstp j (by omega), hlt j (by omega)]; omega
    · rw [hlen, Nat.add_sub_cancel, hstp k (Nat.le_refl _)]; exact hend
  have htxt : txt l = l := by
    unfold txt
    rw [hlen, Nat.add_sub_cancel]
    conv => rhs; rw [← hl]
    congr 1
    refine List.ext_getElem (by simp) fun i h1 h2 => ?_
    rw [List.length_map, List.length_range] at h1
    rw [List.getElem_map, List.getElem_range, List.getElem_replicate, hstp _ (by omega), hlt _ (by omega)]
  have h1 := hthru.is_last
  rw [htxt] at h1
  unfold lastT
  rw [hsy, hl]
  exact h1
end Bw
end Go.Proofs.YthbbokoeiifjdaaGreatDoor
namespace Go.Proofs.YthbbokoeiifjdaaGreatDoor
namespace Bw

/-- The row of the suffix one behind (of the end: of the whole text). -/
def onr (T : List Int) (R : List Nat) (r : Nat) : Nat := row T (suc T.length (R.getD r 0))
theorem getD_nat {R : List Nat} {r : Nat} (h : r < R.length) : R.getD r 0 = R[r] := by
  rw [List.getD_eq_getElem?_getD, List.getElem?_eq_getElem h]; rfl
theorem IsRows.place {T : List Int} {R : List Nat} (h : IsRows T R) {r : Nat} (hr : r < T.length) : R.getD r 0 < T.length ∧ Bw.row T (R.getD r 0) = r := by
  have hr' : r < R.length := by rw [h.len]; exact hr
  rw [getD_nat hr']
  exact ⟨h.lt _ (List.getElem_mem hr'), h.row hr'⟩
theorem IsRows.at_place {T : List Int} {R : List Nat} (h : IsRows T R) {p : Nat} (hp : p < T.length) : R.getD (Bw.row T p) 0 = p := by
  obtain ⟨h1, h2⟩ := h.at_row hp
  rw [getD_nat h1]
  exact h2
theorem IsRows.bk_at {T : List Int} {R : List Nat} (h : IsRows T R) (ht : IsTxt T) {r : Nat} (hr : r < T.length) : Bw.bk (lst T R) r = Bw.row T (prd T.length (R.getD r 0)) := by
  obtain ⟨h1, h2⟩ := h.place hr
  have h3 := (h.bk ht h1).1
  rwa [h2] at h3
theorem IsRows.on_lt {T : List Int} {R : List Nat} (h : IsRows T R) {r : Nat} (hr : r < T.length) : onr T R r < T.length := row_lt (suc_lt (h.place hr).1)
theorem IsRows.on_back {T : List Int} {R : List Nat} (h : IsRows T R) (ht : IsTxt T) {r : Nat} (hr : r < T.length) : onr T R (Bw.bk (lst T R) r) = r := by
  obtain ⟨h1, h2⟩ := h.place hr
  unfold onr
  rw [h.bk_at ht hr, h.at_place (prd_lt h1), suc_prd h1, h2]
theorem IsRows.back_on {T : List Int} {R : List Nat} (h : IsRows T R) (ht : IsTxt T) {r : Nat} (hr : r < T.length) : Bw.bk (lst T R) (onr T R r) = r := by
  obtain ⟨h1, h2⟩ := h.place hr
  rw [h.bk_at ht (h.on_lt hr)]
  unfold onr
  rw [h.at_place (suc_lt h1), prd_suc h1, h2]
/-- The first symbol of a row is what the row one behind has in the last column. -/
theorem IsRows.first_on {T : List Int} {R : List Nat} (h : IsRows T R) {r : Nat} (hr : r < T.length) : (lst T R).getD (onr T R r) 0 = T.getD (R.getD r 0) 0 := by
  obtain ⟨h1, _⟩ := h.place hr
  have h2 := h.on_lt hr
  have h3 : onr T R r < R.length := by rw [h.len]; exact h2
  rw [lst_at h3, ← getD_nat h3]
  unfold onr
  rw [h.at_place (suc_lt h1), prd_suc h1]
theorem IsRows.rises {T : List Int} {R : List Nat} (h : IsRows T R) {r : Nat} (hr : r + 1 < T.length) : T.getD (R.getD r 0) 0 ≤ T.getD (R.getD (r + 1) 0) 0 := by
  have hr' : r + 1 < R.length := by rw [h.len]; exact hr
  have h1 := h.bef_at hr' (i := r) (by omega)
  rw [← getD_nat hr', ← getD_nat (show r < R.length by omega), bef_step (h.place (by omega)).1 (h.place hr).1] at h1
  rcases h1 with h1 | ⟨h1, _⟩ <;> omega
/-- Steps back: places, rows. -/
def pls (N p : Nat) : Nat → Nat
  | 0 => p
  | i + 1 => prd N (pls N p i)
theorem pls_at {N p : Nat} (hp : p < N) : ∀ i, i ≤ N → pls N p i = if i ≤ p then p - i else p + N - i
  | 0, _ => by rw [if_pos (Nat.zero_le _)]; rfl
  | i + 1, hi => by
    show prd N (pls N p i) = _
    rw [pls_at hp i (by omega)]
    unfold prd
    split <;> split <;> split <;> omega
theorem pls_lt {N p : Nat} (hp : p < N) : ∀ i, pls N p i < N
  | 0 => hp
  | i + 1 => prd_lt (pls_lt hp i)
theorem pls_inj {N p i j : Nat} (hp : p < N) (hi : i < N) (hj : j < N) (e : pls N p i = pls N p j) : i = j := by
  rw [pls_at hp i (by omega), pls_at hp j (by omega)] at e
  split at e <;> split at e <;> omega
theorem pls_round {N p : Nat} (hp : p < N) : pls N p N = p := by
  rw [pls_at hp N (Nat.le_refl _)]
  split <;> omega
def bks (l : List Int) (r : Nat) : Nat → Nat
  | 0 => r
  | i + 1 => bk l (bks l r i)
theorem IsRows.bks {T : List Int} {R : List Nat} (h : IsRows T R) (ht : IsTxt T) {r : Nat} (hr : r < T.length) : ∀ i, Bw.bks (lst T R) r i = Bw.row T (pls T.length (R.getD r 0) i)
  | 0 => (h.place hr).2.symm
  | i + 1 => by
    show Bw.bk (lst T R) (Bw.bks (lst T R) r i) = _
    have h1 := pls_lt (h.place hr).1 i
    rw [h.bks ht hr i, h.bk_at ht (row_lt h1), h.at_place h1]
    rfl
theorem IsRows.bks_lt {T : List Int} {R : List Nat} (h : IsRows T R) (ht : IsTxt T) {r : Nat} (hr : r < T.length) (i : Nat) : Bw.bks (lst T R) r i < T.length := by
  rw [h.bks ht hr]
  exact row_lt (pls_lt (h.place hr).1 i)
theorem IsRows.bks_inj {T : List Int} {R : List Nat} (h : IsRows T R) (ht : IsTxt T) {r i j : Nat} (hr : r < T.length) (hi : i < T.length) (hj : j < T.length) (e : Bw.bks (lst T R) r i = Bw.bks (lst T R) r j) : i = j := by
  rw [h.bks ht hr, h.bks ht hr] at e
  have hp := (h.place hr).1
  exact pls_inj hp hi hj (row_inj (pls_lt hp i) (pls_lt hp j) e)
theorem IsRows.bks_round {T : List Int} {R : List Nat} (h : IsRows T R) (ht : IsTxt T) {r : Nat} (hr : r < T.length) : Bw.bks (lst T R) r T.length = r := by
  rw [h.bks ht hr, pls_round (h.place hr).1, (h.place hr).2]

/-- Narrowed rows. -/
def nar (l : List Int) (k : Nat) (s : Int) : Nat := low l s + (l.take k).count s
theorem low_next (l : List Int) (s : Int) : low l (s + 1) = low l s + l.count s := by
  unfold low
  induction l with
  | nil => rfl
  | cons a l ih =>
    rw [List.countP_cons, List.countP_cons, List.count_cons, ih]
    by_cases h1 : a < s
    · have e1 : ¬ (a == s) = true := by simp; omega
      rw [if_pos (decide_eq_true (show a < s + 1 by omega)), if_pos (decide_eq_true h1), if_neg e1]
      omega
    · by_cases h2 : a = s
      · have e1 : (a == s) = true := by simp [h2]
        rw [if_pos (decide_eq_true (show a < s + 1 by omega)), if_neg (by simpa using h1), if_pos e1]
        omega
      · have e1 : ¬ (a == s) = true := by simpa using h2
        have h3 : ¬ a < s + 1 := by omega
        rw [if_neg (by simpa using h3), if_neg (by simpa using h1), if_neg e1]
        omega
theorem nar_mono (l : List Int) {a b : Nat} (h : a ≤ b) (s : Int) : nar l a s ≤ nar l b s := by
  unfold nar
  have := count_le_of (l := l) h s
  omega
theorem nar_next (l : List Int) (a b : Nat) (s : Int) : nar l b s ≤ nar l a (s + 1) := by
  unfold nar
  have h1 : (l.take b).count s ≤ l.count s := List.Sublist.count_le s (List.take_sublist b l)
  rw [low_next]
  omega
theorem nar_le (l : List Int) (a : Nat) (s : Int) : nar l a s ≤ l.length := by
  have h1 : (l.take a).count s ≤ l.count s := List.Sublist.count_le s (List.take_sublist a l)
  have h2 := low_len l s
  unfold nar
  omega
/-- What symbols below s together leave of the rows from a on, below b. -/
theorem nar_sum (l : List Int) (a b : Nat) (s : Int) : (low (l.take b) (s + 1) : Int) - low (l.take a) (s + 1) = (low (l.take b) s : Int) - low (l.take a) s + ((nar l b s : Int) - nar l a s) := by
  rw [low_next, low_next]
  unfold nar
  omega
theorem low_top {l : List Int} {s : Int} (h : ∀ x ∈ l, x < s) : low l s = l.length := by
  unfold low
  rw [List.countP_eq_length]
  intro a ha
  exact decide_eq_true (h a ha)
theorem low_bot {l : List Int} (h : ∀ s ∈ l, 0 ≤ s) : low l 0 = 0 := by
  unfold low
  rw [List.countP_eq_zero]
  intro a ha
  have := h a ha
  simp
  omega
end Bw
end Go.Proofs.YthbbokoeiifjdaaGreatDoor
namespace Go.Proofs.YthbbokoeiifjdaaGreatDoor
namespace Bw

/-- The symbols of bytes, without the end. -/
def sb (p : List UInt8) : List Int := p.map fun b => (b.toNat : Int) + 1
/-- A text's symbols with its end. -/
def sx (t : List UInt8) : List Int := sb t ++ [0]
theorem sb_len (p : List UInt8) : (sb p).length = p.length := List.length_map _
theorem sx_len (t : List UInt8) : (sx t).length = t.length + 1 := by unfold sx; rw [List.length_append, sb_len]; rfl
theorem sx_txt (t : List UInt8) : IsTxt (sx t) := IsTxt.of _ fun s hs => by
  obtain ⟨b, _, rfl⟩ := List.mem_map.1 hs
  omega
theorem sb_pref : ∀ p x : List UInt8, (sb p).isPrefixOf (sb x ++ [0]) = p.isPrefixOf x
  | [], x => by cases x <;> rfl
  | b :: p, [] => by
    show (((b.toNat : Int) + 1 == 0) && _) = false
    rw [show ((b.toNat : Int) + 1 == 0) = false by simp; omega, Bool.false_and]
  | b :: p, c :: x => by
    have ih := sb_pref p x
    show (((b.toNat : Int) + 1 == (c.toNat : Int) + 1) && (sb p).isPrefixOf (sb x ++ [0])) = (b == c && p.isPrefixOf x)
    rw [ih]
    congr 1
    rw [Bool.eq_iff_iff, beq_iff_eq, beq_iff_eq, ← UInt8.toNat_inj]
    omega
theorem sx_drop {t : List UInt8} {i : Nat} (hi : i ≤ t.length) : (sx t).drop i = sb (t.drop i) ++ [0] := by
  unfold sx sb
  rw [List.drop_append_of_le_length (by rw [List.length_map]; exact hi), List.map_drop]
/-- Where a pattern stands, rising. -/
def plcs (t p : List UInt8) : List Nat := (List.range (t.length + 1)).filter fun i => p.isPrefixOf (t.drop i)
theorem plcs_cnt (t p : List UInt8) : (plcs t p).length = cnt (sx t).length fun i => (sb p).isPrefixOf ((sx t).drop i) := by
  unfold plcs cnt
  rw [sx_len]
  congr 1
  refine List.filter_congr fun i hi => ?_
  have := List.mem_range.1 hi
  rw [sx_drop (by omega), sb_pref]
/-- Rows of a pattern: as many as places. -/
theorem spans_plcs {t p : List UInt8} {lo hi : Nat} (h : Spans (sx t) (sb p) lo hi) (hh : hi ≤ t.length + 1) : hi - lo = (plcs t p).length := by
  rw [plcs_cnt]
  exact spans_count h (by rw [sx_len]; exact hh)
/-- Narrowed by one symbol more, ahead. -/
theorem spans_nar {t p : List UInt8} {lo hi : Nat} (b : UInt8) (h : Spans (sx t) (sb p) lo hi) {L : List Int} (hL : L = lst (sx t) (rows (sx t))) : Spans (sx t) (sb (b :: p)) (nar L lo ((b.toNat : Int) + 1)) (nar L hi ((b.toNat : Int) + 1)) := by
  have hR := rows_is (sx t)
  have h1 := hR.narrow (sx_txt t) (s := (b.toNat : Int) + 1) (by omega) h
  unfold nar
  rw [hL, hR.low_lst (by rw [sx_len]; omega)]
  exact h1
theorem plcs_none {t p : List UInt8} {i : Nat} (h : t.length < i + p.length) (hi : i ≤ t.length) : p.isPrefixOf (t.drop i) = false := by
  cases e : p.isPrefixOf (t.drop i) with
  | false => rfl
  | true =>
    have := (List.isPrefixOf_iff_prefix.1 e).length_le
    rw [List.length_drop] at this
    omega
end Bw
end Go.Proofs.YthbbokoeiifjdaaGreatDoor
