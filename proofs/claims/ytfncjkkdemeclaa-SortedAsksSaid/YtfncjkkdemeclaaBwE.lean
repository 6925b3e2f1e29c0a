/- Which columns are a text's: those that are read from the end to the end through all rows. No function of the program stands in it. -/
import Derived.Test.YtfncjkkdemeclaaBwD
namespace Go.Proofs.Ytfncjkkdemeclaa
namespace Bw

theorem low_mono (l : List Int) {s t : Int} (h : s < t) : low l s + l.count s ≤ low l t := by
  unfold low
  induction l with
  | nil => simp
  | cons a l ih =>
    rw [List.countP_cons, List.countP_cons, List.count_cons]
    by_cases h1 : a < s
    · have e1 : ¬ (a == s) = true := by simp; omega
      rw [if_pos (decide_eq_true h1), if_pos (decide_eq_true (show a < t by omega)), if_neg e1]
      omega
    · by_cases h2 : a = s
      · have e1 : (a == s) = true := by simp [h2]
        rw [if_neg (by simpa using h1), if_pos (decide_eq_true (show a < t by omega)), if_pos e1]
        omega
      · have e1 : ¬ (a == s) = true := by simpa using h2
        rw [if_neg (by simpa using h1), if_neg e1]
        split <;> omega
theorem low_len (l : List Int) (s : Int) : low l s + l.count s ≤ l.length := by
  unfold low
  induction l with
  | nil => simp
  | cons a l ih =>
    rw [List.countP_cons, List.count_cons, List.length_cons]
    by_cases h1 : a < s
    · have e1 : ¬ (a == s) = true := by simp; omega
      rw [if_pos (decide_eq_true h1), if_neg e1]
      omega
    · rw [if_neg (by simpa using h1)]
      split <;> omega
theorem count_take_lt {l : List Int} {r : Nat} (h : r < l.length) : (l.take r).count (l.getD r 0) < l.count (l.getD r 0) := by
  have h1 : l.take r ++ l.getD r 0 :: l.drop (r + 1) = l := by
    have := List.take_append_drop r l
    rw [List.drop_eq_getElem_cons h] at this
    rw [List.getD_eq_getElem?_getD, List.getElem?_eq_getElem h]
    exact this
  obtain ⟨s, hs⟩ : ∃ s, l.getD r 0 = s := ⟨_, rfl⟩
  rw [hs] at h1 ⊢
  have h2 := congrArg (List.count s) h1
  rw [List.count_append, List.count_cons_self] at h2
  omega
theorem count_take_mono {l : List Int} {q r : Nat} (hq : q < r) (hr : r ≤ l.length) : (l.take q).count (l.getD q 0) < (l.take r).count (l.getD q 0) := by
  have h1 : (l.take r).getD q 0 = l.getD q 0 := by
    rw [List.getD_eq_getElem?_getD, List.getElem?_take_of_lt hq, ← List.getD_eq_getElem?_getD]
  have h2 := count_take_lt (l := l.take r) (r := q) (by rw [List.length_take]; omega)
  rw [h1, List.take_take, Nat.min_eq_left (by omega)] at h2
  exact h2
theorem bk_lt {l : List Int} {r : Nat} (h : r < l.length) : bk l r < l.length := by
  unfold bk
  have h1 := count_take_lt h
  have h2 := low_len l (l.getD r 0)
  omega
theorem bk_mono {l : List Int} {q r : Nat} (hq : q < l.length) (hr : r < l.length) (h : l.getD q 0 < l.getD r 0 ∨ (l.getD q 0 = l.getD r 0 ∧ q < r)) : bk l q < bk l r := by
  unfold bk
  rcases h with h | ⟨h1, h2⟩
  · have h3 := count_take_lt hq
    have h4 := low_mono l h
    omega
  · have h3 := count_take_mono (l := l) h2 (by omega)
    rw [h1] at h3 ⊢
    omega
theorem bk_order {l : List Int} {q r : Nat} (hq : q < l.length) (hr : r < l.length) (h : bk l q < bk l r) : l.getD q 0 < l.getD r 0 ∨ (l.getD q 0 = l.getD r 0 ∧ q < r) := by
  rcases Int.lt_trichotomy (l.getD q 0) (l.getD r 0) with h1 | h1 | h1
  · exact .inl h1
  · rcases Nat.lt_trichotomy q r with h2 | h2 | h2
    · exact .inr ⟨h1, h2⟩
    · subst h2; omega
    · have := bk_mono hr hq (.inr ⟨h1.symm, h2⟩); omega
  · have := bk_mono hr hq (.inl h1); omega
theorem bk_inj {l : List Int} {q r : Nat} (hq : q < l.length) (hr : r < l.length) (h : bk l q = bk l r) : q = r := by
  rcases Int.lt_trichotomy (l.getD q 0) (l.getD r 0) with h1 | h1 | h1
  · have := bk_mono hq hr (.inl h1); omega
  · rcases Nat.lt_trichotomy q r with h2 | h2 | h2
    · have := bk_mono hq hr (.inr ⟨h1, h2⟩); omega
    · exact h2
    · have := bk_mono hr hq (.inr ⟨h1.symm, h2⟩); omega
  · have := bk_mono hr hq (.inl h1); omega
theorem stp_lt {l : List Int} (h : 0 < l.length) : ∀ k, stp l k < l.length
  | 0 => h
  | k + 1 => bk_lt (stp_lt h k)
theorem stp_back {l : List Int} (h : 0 < l.length) : ∀ i d, stp l i = stp l (i + d) → stp l 0 = stp l d
  | 0, d, e => by rw [Nat.zero_add] at e; exact e
  | i + 1, d, e => by
    refine stp_back h i d ?_
    have e' : bk l (stp l i) = bk l (stp l (i + d)) := by
      rw [show i + 1 + d = (i + d) + 1 by omega] at e
      exact e
    exact bk_inj (stp_lt h i) (stp_lt h (i + d)) e'
theorem stp_shift {l : List Int} {d : Nat} (e : stp l 0 = stp l d) : ∀ k, stp l k = stp l (k + d)
  | 0 => by rw [Nat.zero_add]; exact e
  | k + 1 => by
    rw [show k + 1 + d = (k + d) + 1 by omega]
    show bk l (stp l k) = bk l (stp l (k + d))
    rw [stp_shift e k]
/-- Of as many numbers below n as there are, all different, each is one. -/
theorem sum_one : ∀ (n : Nat) (g : Nat → Nat), (∀ r, r < n → g r ≤ 1) → ((List.range n).map g).sum = n → ∀ r, r < n → g r = 1
  | 0, _, _, _, r, hr => absurd hr (Nat.not_lt_zero r)
  | n + 1, g, h1, h2, r, hr => by
    have h3 : ∀ m, (∀ r, r < m → g r ≤ 1) → ((List.range m).map g).sum ≤ m := fun m => by
      induction m with
      | zero => intro _; simp
      | succ m ih =>
        intro hm
        rw [List.range_succ, List.map_append, List.sum_append]
        have := ih fun r hr => hm r (by omega)
        have := hm m (by omega)
        simp
        omega
    rw [List.range_succ, List.map_append, List.sum_append] at h2
    have h4 := h3 n fun r hr => h1 r (by omega)
    have h5 := h1 n (by omega)
    simp at h2
    by_cases e : r = n
    · subst e; omega
    · exact sum_one n g (fun r hr => h1 r (by omega)) (by omega) r (by omega)
theorem cnt_le_one {n : Nat} {P : Nat → Bool} (h : ∀ i j, i < n → j < n → P i = true → P j = true → i = j) : cnt n P ≤ 1 := by
  induction n with
  | zero => exact Nat.zero_le _
  | succ n ih =>
    rw [cnt_succ]
    by_cases e : P n = true
    · rw [if_pos e, cnt_none]
      · omega
      · intro r hr
        cases e2 : P r with
        | false => rfl
        | true => have := h r n (by omega) (by omega) e2 e; omega
    · rw [if_neg e]
      exact ih fun i j hi hj => h i j (by omega) (by omega)
theorem cnt_pos {n : Nat} {P : Nat → Bool} (h : 0 < cnt n P) : ∃ i, i < n ∧ P i = true := by
  obtain ⟨x, hx⟩ := List.exists_mem_of_length_pos h
  obtain ⟨h1, h2⟩ := List.mem_filter.1 hx
  exact ⟨x, List.mem_range.1 h1, h2⟩
theorem sum_cnt (f : Nat → Nat) (n : Nat) : ∀ N, (∀ i, i < N → f i < n) → ((List.range n).map fun r => cnt N fun i => f i == r).sum = N
  | 0, _ => by
    have : ∀ m : Nat, ((List.range m).map fun _ => 0).sum = 0 := fun m => by
      induction m with
      | zero => rfl
      | succ m ih => rw [List.range_succ, List.map_append, List.sum_append, ih]; rfl
    exact this n
  | N + 1, h => by
    have ih := sum_cnt f n N fun i hi => h i (by omega)
    have h1 : ∀ m, ((List.range m).map fun r => cnt (N + 1) fun i => f i == r).sum = ((List.range m).map fun r => cnt N fun i => f i == r).sum + if f N < m then 1 else 0 := fun m => by
      induction m with
      | zero => rfl
      | succ m ihm =>
        rw [List.range_succ, List.map_append, List.map_append, List.sum_append, List.sum_append, ihm]
        simp only [List.map_cons, List.map_nil, List.sum_cons, List.sum_nil]
        rw [cnt_succ]
        by_cases e : f N = m
        · subst e; simp; omega
        · have e1 : ¬ (f N == m) = true := by simpa using e
          rw [if_neg e1]
          by_cases e2 : f N < m
          · rw [if_pos e2, if_pos (by omega)]; omega
          · rw [if_neg e2, if_neg (by omega)]; omega
    rw [h1, ih, if_pos (h N (by omega))]
theorem onto {n : Nat} {f : Nat → Nat} (hlt : ∀ i, i < n → f i < n) (hinj : ∀ i j, i < n → j < n → f i = f j → i = j) {r : Nat} (hr : r < n) : ∃ i, i < n ∧ f i = r := by
  have h1 := sum_one n (fun r => cnt n fun i => f i == r) (fun r _ => cnt_le_one fun i j hi hj e1 e2 => hinj i j hi hj (by rw [beq_iff_eq] at e1 e2; rw [e1, e2])) (sum_cnt f n n hlt) r hr
  obtain ⟨i, hi, e⟩ := cnt_pos (n := n) (P := fun i => f i == r) (by show 0 < _; omega)
  exact ⟨i, hi, by simpa using e⟩
/-- A column is read through: no end but at the last step. -/
structure Thru (l : List Int) : Prop where
  pos : 0 < l.length
  nn : ∀ s ∈ l, 0 ≤ s
  mid : ∀ k, k + 1 < l.length → l.getD (stp l k) 0 ≠ 0
  fin : l.getD (stp l (l.length - 1)) 0 = 0
theorem Thru.inj {l : List Int} (h : Thru l) {i j : Nat} (hi : i < l.length) (hj : j < l.length) (e : stp l i = stp l j) : i = j := by
  have key : ∀ i j, i < j → j < l.length → stp l i = stp l j → False := fun i j hij hj e => by
    have e1 : stp l i = stp l (i + (j - i)) := by rw [e]; congr 1; omega
    have e2 := stp_shift (stp_back h.pos i (j - i) e1) (l.length - 1 - (j - i))
    rw [show l.length - 1 - (j - i) + (j - i) = l.length - 1 by omega] at e2
    have h1 := h.mid (l.length - 1 - (j - i)) (by omega)
    rw [e2] at h1
    exact h1 h.fin
  rcases Nat.lt_trichotomy i j with h1 | h1 | h1
  · exact (key i j h1 hj e).elim
  · exact h1
  · exact (key j i h1 hi e.symm).elim
/-- The text that is read. -/
def txt (l : List Int) : List Int := ((List.range (l.length - 1)).map fun k => l.getD (stp l (l.length - 2 - k)) 0) ++ [0]
theorem txt_len {l : List Int} (h : 0 < l.length) : (txt l).length = l.length := by
  unfold txt
  rw [List.length_append, List.length_map, List.length_range]
  simp
  omega
theorem txt_at {l : List Int} {k : Nat} (hk : k + 1 < l.length) : (txt l).getD (l.length - 2 - k) 0 = l.getD (stp l k) 0 := by
  unfold txt
  rw [List.getD_eq_getElem?_getD, List.getElem?_append_left (by rw [List.length_map, List.length_range]; omega), List.getElem?_map, List.getElem?_range (by omega)]
  show l.getD (stp l (l.length - 2 - (l.length - 2 - k))) 0 = _
  congr 2
  omega
theorem txt_last {l : List Int} (_ : 0 < l.length) : (txt l).getD (l.length - 1) 0 = 0 := by
  unfold txt
  rw [List.getD_eq_getElem?_getD, List.getElem?_append_right (by rw [List.length_map, List.length_range]; omega), List.length_map, List.length_range, Nat.sub_self]
  rfl
theorem Thru.is_txt {l : List Int} (h : Thru l) : IsTxt (txt l) := by
  have hp := h.pos
  refine ⟨by rw [txt_len hp]; exact hp, by rw [txt_len hp]; exact txt_last hp, fun p hp2 => ?_⟩
  rw [txt_len hp] at hp2
  have h1 := txt_at (l := l) (k := l.length - 2 - p) (by omega)
  rw [show l.length - 2 - (l.length - 2 - p) = p by omega] at h1
  rw [h1]
  have h2 := h.mid (l.length - 2 - p) (by omega)
  have h3 := stp_lt hp (l.length - 2 - p)
  have h4 := h.nn (l.getD (stp l (l.length - 2 - p)) 0) (by rw [List.getD_eq_getElem?_getD, List.getElem?_eq_getElem h3]; exact List.getElem_mem h3)
  omega
/-- The step at which a row is passed. -/
theorem Thru.step {l : List Int} (h : Thru l) {r : Nat} (hr : r < l.length) : ∃ k, k < l.length ∧ stp l k = r :=
  onto (fun i _ => stp_lt h.pos i) (fun _ _ hi hj e => h.inj hi hj e) hr
theorem Thru.sorted {l : List Int} (h : Thru l) : ∀ (d i j : Nat), i < l.length → j < l.length → l.length - (l.length - 1 - i) ≤ d → stp l i < stp l j → bef (txt l) (l.length - 1 - i) (l.length - 1 - j) = true
  | 0, i, j, hi, _, hd, _ => by omega
  | d + 1, i, j, hi, hj, hd, hlt => by
    have ht := h.is_txt
    have hl := txt_len h.pos
    have hji : stp l j ≠ 0 := by omega
    obtain ⟨j', rfl⟩ : ∃ j', j = j' + 1 := by
      cases j with
      | zero => exact absurd rfl hji
      | succ j => exact ⟨j, rfl⟩
    have ej : (txt l).getD (l.length - 1 - (j' + 1)) 0 = l.getD (stp l j') 0 := by
      have := txt_at (l := l) (k := j') hj
      rw [← this]
      congr 1
      omega
    rw [bef_step (by rw [hl]; omega) (by rw [hl]; omega), ej]
    have hnz := h.mid j' hj
    have hjm : l.getD (stp l j') 0 ∈ l := by
      have h3 := stp_lt h.pos j'
      rw [List.getD_eq_getElem?_getD, List.getElem?_eq_getElem h3]
      exact List.getElem_mem h3
    have hjn := h.nn _ hjm
    cases i with
    | zero =>
      left
      have := txt_last h.pos
      rw [show l.length - 1 - 0 = l.length - 1 by omega, this]
      omega
    | succ i =>
      have ei : (txt l).getD (l.length - 1 - (i + 1)) 0 = l.getD (stp l i) 0 := by
        have := txt_at (l := l) (k := i) hi
        rw [← this]
        congr 1
        omega
      rw [ei]
      rcases bk_order (stp_lt h.pos i) (stp_lt h.pos j') hlt with h1 | ⟨h1, h2⟩
      · exact .inl h1
      · refine .inr ⟨h1, ?_⟩
        have := h.sorted d i j' (by omega) (by omega) (by omega) h2
        rw [show l.length - 1 - (i + 1) + 1 = l.length - 1 - i by omega, show l.length - 1 - (j' + 1) + 1 = l.length - 1 - j' by omega]
        exact this
/-- Such a column is its text's. -/
theorem Thru.is_last {l : List Int} (h : Thru l) : lst (txt l) (rows (txt l)) = l := by
  have ht := h.is_txt
  have hl := txt_len h.pos
  have hp := h.pos
  have hR := rows_is (txt l)
  have hrl : (rows (txt l)).length = l.length := by rw [hR.len, hl]
  have hat : ∀ k, k < l.length → row (txt l) (l.length - 1 - k) = stp l k := fun k hk => by
    have h1 : row (txt l) (l.length - 1 - k) = cnt l.length fun r => decide (r < stp l k) := by
      have h2 : row (txt l) (l.length - 1 - k) = cnt (txt l).length fun q => bef (txt l) q (l.length - 1 - k) := rfl
      rw [h2, hl]
      have h3 : cnt l.length (fun q => bef (txt l) q (l.length - 1 - k)) = cnt l.length fun i => decide (stp l i < stp l k) := by
        have h4 : (List.range l.length).reverse.Perm (List.range l.length) := List.reverse_perm _
        have h5 : (List.range l.length).reverse = (List.range l.length).map fun i => l.length - 1 - i := by
          refine List.ext_getElem (by simp) fun i h1 h2 => ?_
          rw [List.getElem_reverse, List.getElem_map, List.getElem_range, List.getElem_range, List.length_range]
        unfold cnt
        rw [← (h4.filter _).length_eq, h5, List.filter_map, List.length_map]
        congr 1
        refine List.filter_congr fun i hi => ?_
        have hi' := List.mem_range.1 hi
        show bef (txt l) (l.length - 1 - i) (l.length - 1 - k) = _
        by_cases e : stp l i < stp l k
        · rw [decide_eq_true e]
          exact h.sorted _ i k hi' hk (Nat.le_refl _) e
        · rw [decide_eq_false e]
          by_cases e2 : i = k
          · subst e2; exact bef_irrefl _ _
          · refine bef_asymm (h.sorted _ k i hk hi' (Nat.le_refl _) ?_)
            have : stp l i ≠ stp l k := fun e3 => e2 (h.inj hi' hk e3)
            omega
      rw [h3]
      have h6 : ((List.range l.length).map (stp l)).Perm (List.range l.length) := by
        refine (List.perm_ext_iff_of_nodup ?_ List.nodup_range).2 fun r => ?_
        · rw [List.nodup_iff_pairwise_ne, List.pairwise_map]
          refine List.Pairwise.imp_of_mem ?_ (List.nodup_iff_pairwise_ne.1 List.nodup_range)
          intro a b ha hb hne e
          exact hne (h.inj (List.mem_range.1 ha) (List.mem_range.1 hb) e)
        · rw [List.mem_map, List.mem_range]
          constructor
          · rintro ⟨i, _, rfl⟩; exact stp_lt hp i
          · intro hr
            obtain ⟨i, hi, e⟩ := h.step hr
            exact ⟨i, List.mem_range.2 hi, e⟩
      unfold cnt
      rw [show (List.filter (fun r => decide (r < stp l k)) (List.range l.length)).length = _ from (h6.filter _).length_eq.symm, List.filter_map, List.length_map]
      rfl
    rw [h1]
    have h7 := stp_lt hp k
    unfold cnt
    refine filter_first _ (List.range l.length) (stp l k) (by rw [List.length_range]; omega) fun j hj => ?_
    rw [List.getElem_range]
  refine List.ext_getElem (by rw [lst_len, hrl]) fun r h1 h2 => ?_
  obtain ⟨k, hk, e⟩ := h.step h2
  have h3 := hR.bk ht (p := l.length - 1 - k) (by rw [hl]; omega)
  rw [hat k hk, e, hl] at h3
  have h4 := h3.2
  rw [List.getD_eq_getElem?_getD, List.getElem?_eq_getElem h1] at h4
  have h5 : (lst (txt l) (rows (txt l)))[r] = (txt l).getD (prd l.length (l.length - 1 - k)) 0 := h4
  rw [h5]
  have h6 : l[r] = l.getD (stp l k) 0 := by rw [e, List.getD_eq_getElem?_getD, List.getElem?_eq_getElem h2]; rfl
  rw [h6]
  by_cases hlast : k = l.length - 1
  · subst hlast
    rw [h.fin, Nat.sub_self]
    exact txt_last hp
  · rw [← txt_at (l := l) (k := k) (by omega)]
    congr 1
    unfold prd
    rw [if_neg (by omega)]
    omega
end Bw
end Go.Proofs.Ytfncjkkdemeclaa
