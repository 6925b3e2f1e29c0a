/- The last column of the sorted suffixes, and the way from row to row. No function of the program stands in it. -/
import Derived.Test.YtfncjkkdemeclaaBw
namespace Go.Proofs.Ytfncjkkdemeclaa
namespace Bw

/-- How many numbers below N fit. -/
def cnt (N : Nat) (P : Nat → Bool) : Nat := ((List.range N).filter P).length
theorem cnt_congr {N : Nat} {P Q : Nat → Bool} (h : ∀ r, r < N → P r = Q r) : cnt N P = cnt N Q := by
  unfold cnt
  rw [List.filter_congr fun r hr => h r (List.mem_range.1 hr)]
theorem cnt_succ (N : Nat) (P : Nat → Bool) : cnt (N + 1) P = cnt N P + if P N = true then 1 else 0 := by
  unfold cnt
  rw [List.range_succ, List.filter_append, List.length_append]
  congr 1
  by_cases h : P N = true
  · rw [if_pos h]; simp [h]
  · rw [if_neg h]; simp [h]
theorem cnt_shift (N : Nat) (P : Nat → Bool) : cnt (N + 1) P = (if P 0 = true then 1 else 0) + cnt N fun r => P (r + 1) := by
  induction N with
  | zero => rw [cnt_succ]; unfold cnt; simp
  | succ N ih =>
    rw [cnt_succ, ih, cnt_succ N]
    omega
theorem cnt_or {N : Nat} {P Q : Nat → Bool} (h : ∀ r, r < N → ¬ (P r = true ∧ Q r = true)) : cnt N (fun r => P r || Q r) = cnt N P + cnt N Q := by
  induction N with
  | zero => rfl
  | succ N ih =>
    rw [cnt_succ, cnt_succ, cnt_succ, ih fun r hr => h r (by omega)]
    have := h N (by omega)
    cases hp : P N <;> cases hq : Q N <;> simp [hp, hq] at this ⊢ <;> omega
theorem cnt_none {N : Nat} {P : Nat → Bool} (h : ∀ r, r < N → P r = false) : cnt N P = 0 := by
  unfold cnt
  rw [List.filter_eq_nil_iff.2]
  · rfl
  · intro r hr
    rw [h r (List.mem_range.1 hr)]
    decide
theorem cnt_list (T : List Int) (f : Int → Bool) : cnt T.length (fun r => f (T.getD r 0)) = T.countP f := by
  induction T with
  | nil => rfl
  | cons a T ih =>
    rw [List.length_cons, cnt_shift, List.countP_cons]
    have : cnt T.length (fun r => f ((a :: T).getD (r + 1) 0)) = T.countP f := by
      rw [← ih]
      exact cnt_congr fun r _ => by simp
    rw [this]
    simp only [List.getD_cons_zero]
    omega

/-- A text with its end: the end is 0, the last one, and no other is. -/
structure IsTxt (T : List Int) : Prop where
  pos : 0 < T.length
  last : T.getD (T.length - 1) 0 = 0
  other : ∀ p, p + 1 < T.length → 1 ≤ T.getD p 0
theorem IsTxt.of (l : List Int) (h : ∀ s ∈ l, 1 ≤ s) : IsTxt (l ++ [0]) := by
  refine ⟨by simp, by simp, fun p hp => ?_⟩
  have hp' : p < l.length := by simpa using hp
  rw [List.getD_eq_getElem?_getD, List.getElem?_append_left hp', List.getElem?_eq_getElem hp']
  exact h _ (List.getElem_mem hp')
theorem IsTxt.zero_iff {T : List Int} (h : IsTxt T) {p : Nat} (hp : p < T.length) : T.getD p 0 = 0 ↔ p = T.length - 1 := by
  constructor
  · intro e
    apply Nat.le_antisymm (by omega)
    apply Nat.le_of_not_lt
    intro h2
    have := h.other p (by omega)
    omega
  · rintro rfl; exact h.last
theorem IsTxt.nonneg {T : List Int} (h : IsTxt T) {p : Nat} (hp : p < T.length) : 0 ≤ T.getD p 0 := by
  by_cases e : p = T.length - 1
  · rw [(h.zero_iff hp).2 e]; exact Int.le_refl _
  · have := h.other p (by omega); omega
/-- One place ahead, around the end; one behind. -/
def prd (N p : Nat) : Nat := if p = 0 then N - 1 else p - 1
def suc (N p : Nat) : Nat := if p = N - 1 then 0 else p + 1
theorem prd_lt {N p : Nat} (h : p < N) : prd N p < N := by unfold prd; split <;> omega
theorem suc_lt {N p : Nat} (h : p < N) : suc N p < N := by unfold suc; split <;> omega
theorem suc_prd {N p : Nat} (h : p < N) : suc N (prd N p) = p := by unfold suc prd; split <;> split <;> omega
theorem prd_suc {N p : Nat} (_ : p < N) : prd N (suc N p) = p := by unfold suc prd; split <;> (try split) <;> omega
/-- The last column, of any rows. -/
def lst (T : List Int) (R : List Nat) : List Int := R.map fun p => T.getD (prd T.length p) 0
theorem lst_len (T : List Int) (R : List Nat) : (lst T R).length = R.length := List.length_map _
theorem lst_at {T : List Int} {R : List Nat} {i : Nat} (hi : i < R.length) : (lst T R).getD i 0 = T.getD (prd T.length R[i]) 0 := by
  unfold lst
  rw [List.getD_eq_getElem?_getD, List.getElem?_map, List.getElem?_eq_getElem hi]
  rfl
theorem filter_take (f : Nat → Bool) : ∀ (l : List Nat) (i : Nat), i ≤ l.length → (∀ j (hj : j < l.length), f l[j] = decide (j < i)) → l.filter f = l.take i
  | [], i, _, _ => by simp
  | a :: l, 0, _, h => by
    rw [List.take_zero, List.filter_eq_nil_iff]
    intro x hx
    obtain ⟨j, hj, rfl⟩ := List.getElem_of_mem hx
    rw [h j hj]
    simp
  | a :: l, i + 1, hi, h => by
    have h0 := h 0 (by simp)
    have e0 : f a = true := by simpa using h0
    rw [List.filter_cons, if_pos e0, List.take_succ_cons, filter_take f l i (by simpa using hi) (fun j hj => by
      have := h (j + 1) (by simpa using hj)
      rw [List.getElem_cons_succ] at this
      rw [this]
      simp)]
/-- How many s among the first i of the last column: by places. -/
theorem IsRows.rank {T : List Int} {R : List Nat} (h : IsRows T R) {i : Nat} (hi : i ≤ R.length) (s : Int) : ((lst T R).take i).count s = cnt T.length fun p => decide (Bw.row T p < i) && decide (T.getD (prd T.length p) 0 = s) := by
  have h1 : R.filter (fun p => decide (Bw.row T p < i)) = R.take i := filter_take _ R i hi fun j hj => by rw [h.row hj]
  unfold lst cnt
  rw [← List.map_take, List.count_eq_length_filter, List.filter_map, List.length_map, ← h1, List.filter_filter, ← (h.perm.filter _).length_eq]
  congr 1
  refine List.filter_congr fun p _ => ?_
  rw [Bool.and_comm]
  congr 1
/-- How many symbols are less than s. -/
def low (T : List Int) (s : Int) : Nat := T.countP fun x => decide (x < s)
theorem low_cnt (T : List Int) (s : Int) : low T s = cnt T.length fun r => decide (T.getD r 0 < s) := (cnt_list T fun x => decide (x < s)).symm
/-- From a row to that of the suffix one ahead. -/
theorem IsRows.back {T : List Int} {R : List Nat} (h : IsRows T R) (ht : IsTxt T) {i : Nat} (hi : i < R.length) :
    Bw.row T (prd T.length R[i]) = low T ((lst T R).getD i 0) + ((lst T R).take i).count ((lst T R).getD i 0) := by
  rw [lst_at hi, h.rank (by omega), low_cnt]
  have hR := h.lt _ (List.getElem_mem hi)
  have hrow := h.row hi
  obtain ⟨p, hp⟩ : ∃ p, R[i] = p := ⟨_, rfl⟩
  rw [hp] at hR hrow ⊢
  have hN := ht.pos
  by_cases h0 : p = 0
  · subst h0
    have e1 : prd T.length 0 = T.length - 1 := rfl
    rw [e1, ht.last]
    have z1 : cnt T.length (fun r => decide (T.getD r 0 < 0)) = 0 := cnt_none fun r hr => decide_eq_false (by have := ht.nonneg hr; omega)
    have z2 : cnt T.length (fun q => decide (Bw.row T q < i) && decide (T.getD (prd T.length q) 0 = 0)) = 0 := cnt_none fun q hq => by
      by_cases e : T.getD (prd T.length q) 0 = 0
      · have e2 := (ht.zero_iff (prd_lt hq)).1 e
        have e3 : q = 0 := by unfold prd at e2; split at e2 <;> omega
        subst e3
        rw [hrow]
        simp
      · rw [decide_eq_false e, Bool.and_false]
    rw [z1, z2]
    show ((List.range T.length).filter fun q => bef T q (T.length - 1)).length = 0
    refine cnt_none fun r hr => ?_
    cases e : bef T r (T.length - 1) with
    | false => rfl
    | true =>
      rcases (bef_step hr (by omega)).1 e with h2 | ⟨h2, h3⟩
      · rw [ht.last] at h2
        have := ht.nonneg hr
        omega
      · rw [ht.last] at h2
        have h4 := (ht.zero_iff hr).1 h2
        subst h4
        rw [bef_irrefl] at h3
        cases h3
  · have e1 : prd T.length p = p - 1 := if_neg h0
    rw [e1]
    obtain ⟨q, rfl⟩ : ∃ q, p = q + 1 := ⟨p - 1, by omega⟩
    rw [Nat.add_sub_cancel]
    obtain ⟨s, hs⟩ : ∃ s, T.getD q 0 = s := ⟨_, rfl⟩
    have hs1 := ht.other q hR
    rw [hs] at hs1 ⊢
    have hrowq : Bw.row T q = cnt T.length fun r => decide (T.getD r 0 < s) || (decide (T.getD r 0 = s) && bef T (r + 1) (q + 1)) := by
      refine cnt_congr fun r hr => ?_
      have h1 := bef_step hr (show q < T.length by omega)
      rw [hs] at h1
      cases e : bef T r q with
      | true =>
        rcases h1.1 e with h2 | ⟨h2, h3⟩
        · rw [decide_eq_true h2]; rfl
        · rw [decide_eq_true h2, h3]; simp
      | false =>
        have h2 : ¬ (T.getD r 0 < s ∨ (T.getD r 0 = s ∧ bef T (r + 1) (q + 1) = true)) := fun h2 => by rw [h1.2 h2] at e; cases e
        by_cases h3 : T.getD r 0 < s
        · exact absurd (.inl h3) h2
        · rw [decide_eq_false h3]
          by_cases h4 : T.getD r 0 = s
          · rw [decide_eq_true h4]
            cases h5 : bef T (r + 1) (q + 1) with
            | false => rfl
            | true => exact absurd (.inr ⟨h4, h5⟩) h2
          · rw [decide_eq_false h4]; rfl
    rw [hrowq, cnt_or]
    · congr 1
      obtain ⟨N, hNN⟩ : ∃ N, T.length = N + 1 := ⟨T.length - 1, by omega⟩
      have hl : ¬ T.getD N 0 = s := by
        have := ht.last
        rw [hNN, Nat.add_sub_cancel] at this
        omega
      rw [hNN]
      have hz : prd (N + 1) 0 = N := rfl
      rw [cnt_succ, cnt_shift, hz, decide_eq_false hl]
      rw [Bool.false_and, Bool.and_false, if_neg (by decide), Nat.add_zero, Nat.zero_add]
      refine cnt_congr fun r hr => ?_
      have hp1 : prd (N + 1) (r + 1) = r := if_neg (by omega)
      rw [hp1, Bool.and_comm]
      congr 1
      have h1 := bef_row (T := T) (p := r + 1) (q := q + 1) (by omega) hR
      rw [hrow] at h1
      cases e : bef T (r + 1) (q + 1) with
      | true => rw [decide_eq_true (h1.1 e)]
      | false => rw [decide_eq_false (fun h2 => by rw [h1.2 h2] at e; cases e)]
    · intro r _ ⟨h1, h2⟩
      simp only [Bool.and_eq_true, decide_eq_true_iff] at h1 h2
      omega
end Bw
end Go.Proofs.Ytfncjkkdemeclaa
