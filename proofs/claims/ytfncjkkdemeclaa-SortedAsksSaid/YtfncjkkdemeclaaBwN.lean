/- Rows of a text's tail; first symbols; rows that begin with a pattern. No function of the program stands in it. -/
import Derived.Test.YtfncjkkdemeclaaBwE
namespace Go.Proofs.Ytfncjkkdemeclaa
namespace Bw

/-- The rows of what a text ends with stand in the same order. -/
theorem bef_app (A T : List Int) (p q : Nat) : bef (A ++ T) (A.length + p) (A.length + q) = bef T p q := by
  unfold bef
  have h : ∀ p, (A ++ T).drop (A.length + p) = T.drop p := fun p => by
    rw [List.drop_append, List.drop_of_length_le (by omega), show A.length + p - A.length = p by omega]
    rfl
  rw [h, h]
theorem IsRows.tail {A T : List Int} {R : List Nat} (h : IsRows (A ++ T) R) : IsRows T ((R.filter fun p => decide (A.length ≤ p)).map fun p => p - A.length) := by
  have hmem : ∀ p, p ∈ (R.filter fun p => decide (A.length ≤ p)).map (fun p => p - A.length) ↔ p < T.length := fun p => by
    rw [List.mem_map]
    constructor
    · rintro ⟨q, hq, rfl⟩
      obtain ⟨h1, h2⟩ := List.mem_filter.1 hq
      have h3 := h.lt q h1
      rw [List.length_append] at h3
      have h4 : A.length ≤ q := of_decide_eq_true h2
      omega
    · intro hp
      exact ⟨A.length + p, List.mem_filter.2 ⟨h.all _ (by rw [List.length_append]; omega), decide_eq_true (by omega)⟩, by omega⟩
  have hs : ((R.filter fun p => decide (A.length ≤ p)).map fun p => p - A.length).Pairwise fun p q => bef T p q = true := by
    rw [List.pairwise_map]
    refine List.Pairwise.imp_of_mem ?_ (h.sorted.filter _)
    intro a b ha hb hab
    have h1 : A.length ≤ a := of_decide_eq_true (List.mem_filter.1 ha).2
    have h2 : A.length ≤ b := of_decide_eq_true (List.mem_filter.1 hb).2
    rw [← bef_app A T, show A.length + (a - A.length) = a by omega, show A.length + (b - A.length) = b by omega]
    exact hab
  have hnd : ((R.filter fun p => decide (A.length ≤ p)).map fun p => p - A.length).Nodup := hs.imp fun {a b} hab e => by subst e; rw [bef_irrefl] at hab; cases hab
  have hperm : ((R.filter fun p => decide (A.length ≤ p)).map fun p => p - A.length).Perm (List.range T.length) :=
    (List.perm_ext_iff_of_nodup hnd List.nodup_range).2 fun p => by rw [hmem p, List.mem_range]
  exact ⟨by rw [hperm.length_eq, List.length_range], fun p hp => (hmem p).2 hp, fun p hp => (hmem p).1 hp, hs⟩
/-- The rows of the suffixes with a symbol ahead stand together. -/
theorem row_block {T : List Int} {p : Nat} (hp : p < T.length) : low T (T.getD p 0) ≤ row T p ∧ row T p < low T (T.getD p 0) + T.count (T.getD p 0) := by
  obtain ⟨s, hs⟩ : ∃ s, T.getD p 0 = s := ⟨_, rfl⟩
  rw [hs, low_cnt]
  have hcount : T.count s = cnt T.length fun r => decide (T.getD r 0 = s) := by
    rw [cnt_list T fun x => decide (x = s), List.count_eq_countP]
    rfl
  rw [hcount]
  have hr : row T p = cnt T.length fun r => decide (T.getD r 0 < s) || (decide (T.getD r 0 = s) && bef T (r + 1) (p + 1)) := by
    refine cnt_congr fun r hr => ?_
    have h1 := bef_step hr hp
    rw [hs] at h1
    cases e : bef T r p with
    | true =>
      rcases h1.1 e with h2 | ⟨h2, h3⟩
      · rw [decide_eq_true h2]; rfl
      · rw [decide_eq_true h2, h3]; simp
    | false =>
      have h2 : ¬ (T.getD r 0 < s ∨ (T.getD r 0 = s ∧ bef T (r + 1) (p + 1) = true)) := fun h2 => by rw [h1.2 h2] at e; cases e
      by_cases h3 : T.getD r 0 < s
      · exact absurd (.inl h3) h2
      · rw [decide_eq_false h3]
        by_cases h4 : T.getD r 0 = s
        · rw [decide_eq_true h4]
          cases h5 : bef T (r + 1) (p + 1) with
          | false => rfl
          | true => exact absurd (.inr ⟨h4, h5⟩) h2
        · rw [decide_eq_false h4]; rfl
  have hor := cnt_or (N := T.length) (P := fun r => decide (T.getD r 0 < s)) (Q := fun r => decide (T.getD r 0 = s) && bef T (r + 1) (p + 1)) fun r _ ⟨h1, h2⟩ => by
    simp only [Bool.and_eq_true, decide_eq_true_iff] at h1 h2
    omega
  have hlt : cnt T.length (fun r => decide (T.getD r 0 = s) && bef T (r + 1) (p + 1)) < cnt T.length fun r => decide (T.getD r 0 = s) := by
    unfold cnt
    have h1 : (List.range T.length).filter (fun r => decide (T.getD r 0 = s) && bef T (r + 1) (p + 1)) = ((List.range T.length).filter fun r => decide (T.getD r 0 = s)).filter fun r => bef T (r + 1) (p + 1) := by
      rw [List.filter_filter]
      exact List.filter_congr fun r _ => Bool.and_comm _ _
    rw [h1]
    refine Nat.lt_of_le_of_ne (List.length_filter_le _ _) fun e => ?_
    have hm : p ∈ (List.range T.length).filter fun r => decide (T.getD r 0 = s) := List.mem_filter.2 ⟨List.mem_range.2 hp, decide_eq_true hs⟩
    have := List.length_filter_eq_length_iff.1 e p hm
    rw [bef_irrefl] at this
    cases this
  rw [hr, hor]
  omega
/-- Where a row lies between the sums its first symbol is known. -/
theorem first_of {T : List Int} {p : Nat} (hp : p < T.length) {s : Int} (h1 : low T s ≤ row T p) (h2 : row T p < low T s + T.count s) : T.getD p 0 = s := by
  obtain ⟨h3, h4⟩ := row_block hp
  rcases Int.lt_trichotomy (T.getD p 0) s with h | h | h
  · have := low_mono T h; omega
  · exact h
  · have := low_mono T h; omega
/-- The row of a suffix, by that of the suffix one further on. -/
theorem IsRows.ahead {T : List Int} {R : List Nat} (h : IsRows T R) (ht : IsTxt T) {p : Nat} (hp : p + 1 < T.length) :
    Bw.row T p = low T (T.getD p 0) + ((lst T R).take (Bw.row T (p + 1))).count (T.getD p 0) ∧ (lst T R).getD (Bw.row T (p + 1)) 0 = T.getD p 0 := by
  obtain ⟨hr, e⟩ := h.at_row hp
  have h1 := h.back ht hr
  have h2 := lst_at (T := T) hr
  rw [e] at h1 h2
  have h3 : prd T.length (p + 1) = p := if_neg (by omega)
  rw [h3] at h1 h2
  rw [h2] at h1
  exact ⟨h1, h2⟩
theorem count_le_of {l : List Int} {a b : Nat} (h : a ≤ b) (s : Int) : (l.take a).count s ≤ (l.take b).count s := List.Sublist.count_le s (List.take_sublist_take_left h)
/-- The rows from lo on, below hi, are those of the suffixes that begin with a pattern. -/
def Spans (T : List Int) (q : List Int) (lo hi : Nat) : Prop := ∀ p, p < T.length → ((lo ≤ row T p ∧ row T p < hi) ↔ q <+: T.drop p)
theorem spans_nil (T : List Int) : Spans T [] 0 T.length := fun _ hp => ⟨fun _ => List.nil_prefix, fun _ => ⟨Nat.zero_le _, row_lt hp⟩⟩
theorem IsRows.narrow {T : List Int} {R : List Nat} (h : IsRows T R) (ht : IsTxt T) {q : List Int} {lo hi : Nat} {s : Int} (hs : 1 ≤ s) (hsp : Spans T q lo hi) :
    Spans T (s :: q) (low T s + ((lst T R).take lo).count s) (low T s + ((lst T R).take hi).count s) := by
  intro p hp
  have hcl : ∀ k, ((lst T R).take k).count s ≤ T.count s := fun k => by
    rw [← (h.perm_lst ht.pos).count_eq s]
    exact List.Sublist.count_le s (List.take_sublist k _)
  have hpre : (s :: q) <+: T.drop p ↔ T.getD p 0 = s ∧ q <+: T.drop (p + 1) := by
    rw [drop_cons hp, List.cons_prefix_cons]
    constructor
    · rintro ⟨h1, h2⟩; exact ⟨h1.symm, h2⟩
    · rintro ⟨h1, h2⟩; exact ⟨h1.symm, h2⟩
  rw [hpre]
  constructor
  · rintro ⟨h1, h2⟩
    have hl := hcl hi
    have hf := first_of hp (s := s) (by omega) (by omega)
    have hp1 : p + 1 < T.length := by
      apply Nat.lt_of_le_of_ne hp
      intro e
      have := (ht.zero_iff hp).2 (by omega)
      omega
    obtain ⟨h3, h4⟩ := h.ahead ht hp1
    rw [hf] at h3 h4
    refine ⟨hf, (hsp (p + 1) hp1).1 ⟨?_, ?_⟩⟩
    · apply Nat.le_of_not_lt
      intro hlt
      have hrl : Bw.row T (p + 1) < (lst T R).length := by rw [lst_len, h.len]; exact row_lt (T := T) hp1
      by_cases e : lo ≤ (lst T R).length
      · have h6 := count_take_mono (l := lst T R) hlt e
        rw [h4] at h6
        omega
      · have h6 := count_take_lt hrl
        rw [h4] at h6
        rw [List.take_of_length_le (show (lst T R).length ≤ lo by omega)] at h1
        omega
    · apply Nat.lt_of_not_le
      intro hle
      have := count_le_of (l := lst T R) hle s
      omega
  · rintro ⟨hf, hq⟩
    have hp1 : p + 1 < T.length := by
      apply Nat.lt_of_le_of_ne hp
      intro e
      have := (ht.zero_iff hp).2 (by omega)
      omega
    obtain ⟨h1, h2⟩ := (hsp (p + 1) hp1).2 hq
    obtain ⟨h3, h4⟩ := h.ahead ht hp1
    rw [hf] at h3 h4
    have hrl : Bw.row T (p + 1) < (lst T R).length := by rw [lst_len, h.len]; exact row_lt (T := T) hp1
    have h5 := count_le_of (l := lst T R) h1 s
    refine ⟨by omega, ?_⟩
    by_cases e : hi ≤ (lst T R).length
    · have h6 := count_take_mono (l := lst T R) h2 e
      rw [h4] at h6
      omega
    · have h6 := count_take_lt hrl
      rw [h4] at h6
      rw [List.take_of_length_le (show (lst T R).length ≤ hi by omega)]
      omega
/-- As many rows as places. -/
theorem spans_count {T : List Int} {q : List Int} {lo hi : Nat} (h : Spans T q lo hi) (hh : hi ≤ T.length) : hi - lo = cnt T.length fun p => q.isPrefixOf (T.drop p) := by
  have hR := rows_is T
  have h1 : cnt T.length (fun p => q.isPrefixOf (T.drop p)) = cnt T.length fun p => decide (lo ≤ row T p) && decide (row T p < hi) := by
    refine cnt_congr fun p hp => ?_
    have h2 := h p hp
    cases e : q.isPrefixOf (T.drop p) with
    | true =>
      obtain ⟨h3, h4⟩ := h2.2 (List.isPrefixOf_iff_prefix.1 e)
      rw [decide_eq_true h3, decide_eq_true h4]; rfl
    | false =>
      cases e2 : (decide (lo ≤ row T p) && decide (row T p < hi)) with
      | false => rfl
      | true =>
        simp only [Bool.and_eq_true, decide_eq_true_iff] at e2
        have := List.isPrefixOf_iff_prefix.2 (h2.1 e2)
        rw [this] at e; cases e
  rw [h1]
  unfold cnt
  rw [← (hR.perm.filter _).length_eq]
  have h3 : ((rows T).map fun p => row T p) = List.range T.length := by
    refine List.ext_getElem (by rw [List.length_map, hR.len, List.length_range]) fun i h1 h2 => ?_
    rw [List.getElem_map, List.getElem_range]
    exact hR.row _
  have h4 : ((rows T).filter fun p => decide (lo ≤ row T p) && decide (row T p < hi)).length = ((List.range T.length).filter fun r => decide (lo ≤ r) && decide (r < hi)).length := by
    rw [← h3, List.filter_map, List.length_map]
    rfl
  rw [h4]
  have h5 : ∀ n, ((List.range n).filter fun r => decide (lo ≤ r) && decide (r < hi)).length = min n hi - lo := fun n => by
    induction n with
    | zero => simp
    | succ n ih =>
      rw [List.range_succ, List.filter_append, List.length_append, ih]
      by_cases e1 : lo ≤ n
      · by_cases e2 : n < hi
        · simp [e1, e2]; omega
        · simp [e1, e2]; omega
      · simp [e1]; omega
  rw [h5, Nat.min_eq_right hh]
end Bw
end Go.Proofs.Ytfncjkkdemeclaa
