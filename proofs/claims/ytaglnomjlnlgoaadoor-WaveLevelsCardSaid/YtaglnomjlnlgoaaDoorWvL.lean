/- Symbols that move, as plain lists: how many bits each node has, in order; sums of ranks; what is put in and taken out again. No function of the program stands in it. -/
import Derived.Test.YtaglnomjlnlgoaaDoorWv
namespace Go.Proofs.YtaglnomjlnlgoaaDoor
namespace Wv

/-- How many bits: of the first n paths of a level, those that have any; of all nodes ahead of the path p of the level l; of all. -/
def lvl (m : List Int) (v n : Nat) : List Nat := ((List.range n).map fun p : Nat => (bits m v (p : Int)).length).filter fun x => decide (0 < x)
def pre (m : List Int) (l p : Nat) : List Nat := ((List.range l).flatMap fun v => lvl m v (2 ^ v)) ++ lvl m l p
def lens (m : List Int) : List Nat := pre m 9 0
theorem lvl_succ (m : List Int) (v n : Nat) : lvl m v (n + 1) = lvl m v n ++ if 0 < (bits m v (n : Int)).length then [(bits m v (n : Int)).length] else [] := by
  unfold lvl
  rw [List.range_succ, List.map_append, List.filter_append]
  congr 1
  by_cases h : 0 < (bits m v (n : Int)).length
  · rw [if_pos h]; simp [h]
  · rw [if_neg h]; simp at h; simp [h]
theorem pre_zero (m : List Int) : pre m 0 0 = [] := rfl
theorem pre_has {m : List Int} {l p : Nat} (h : 0 < (bits m l (p : Int)).length) : pre m l (p + 1) = pre m l p ++ [(bits m l (p : Int)).length] := by
  unfold pre; rw [lvl_succ, if_pos h, List.append_assoc]
theorem pre_none {m : List Int} {l p : Nat} (h : ¬ 0 < (bits m l (p : Int)).length) : pre m l (p + 1) = pre m l p := by
  unfold pre; rw [lvl_succ, if_neg h, List.append_nil]
theorem pre_next (m : List Int) (l : Nat) : pre m (l + 1) 0 = pre m l (2 ^ l) := by
  unfold pre
  rw [List.range_succ, List.flatMap_append]
  simp [lvl]
theorem lvl_more (m : List Int) (v : Nat) : ∀ {n k : Nat}, n ≤ k → ∃ t, lvl m v k = lvl m v n ++ t
  | n, 0, h => ⟨[], by have : n = 0 := by omega
                       subst this; simp⟩
  | n, k + 1, h => by
    by_cases e : n = k + 1
    · subst e; exact ⟨[], by simp⟩
    · obtain ⟨t, ht⟩ := lvl_more m v (n := n) (k := k) (by omega)
      rw [lvl_succ, ht, List.append_assoc]
      exact ⟨_, rfl⟩
theorem pre_more (m : List Int) (l : Nat) : ∀ (d : Nat), ∃ t, pre m (l + d) 0 = pre m l 0 ++ t
  | 0 => ⟨[], by simp⟩
  | d + 1 => by
    obtain ⟨t, ht⟩ := pre_more m l d
    obtain ⟨u, hu⟩ : ∃ u, pre m (l + d) (2 ^ (l + d)) = pre m (l + d) 0 ++ u := by
      unfold pre
      obtain ⟨u, hu⟩ := lvl_more m (l + d) (n := 0) (k := 2 ^ (l + d)) (Nat.zero_le _)
      exact ⟨u, by rw [hu, List.append_assoc]⟩
    rw [show l + (d + 1) = (l + d) + 1 from rfl, pre_next, hu, ht, List.append_assoc]
    exact ⟨_, rfl⟩
theorem pre_lens (m : List Int) {l p : Nat} (hl : l < 9) (hp : p ≤ 2 ^ l) : ∃ t, lens m = pre m l p ++ t := by
  obtain ⟨t, ht⟩ := pre_more m (l + 1) (9 - (l + 1))
  rw [show l + 1 + (9 - (l + 1)) = 9 by omega] at ht
  obtain ⟨u, hu⟩ := lvl_more m l hp
  refine ⟨u ++ t, ?_⟩
  unfold lens
  rw [ht, pre_next]
  unfold pre
  rw [hu]
  simp only [List.append_assoc]
/-- The next node that has bits is the next in the list. -/
theorem lens_at {m : List Int} {l p : Nat} (hl : l < 9) (hp : p < 2 ^ l) (h : 0 < (bits m l (p : Int)).length) : (pre m l p).length < (lens m).length ∧ (lens m).getD (pre m l p).length 0 = (bits m l (p : Int)).length := by
  obtain ⟨t, ht⟩ := pre_lens m hl (show p + 1 ≤ 2 ^ l by omega)
  rw [ht, pre_has h]
  refine ⟨by simp, ?_⟩
  rw [List.getD_eq_getElem?_getD, List.append_assoc, List.getElem?_append_right (Nat.le_refl _), Nat.sub_self]
  rfl

/-- The ranks of the symbols below n together. -/
def rsum (m : List Int) (k : Nat) : Nat → Nat
  | 0 => 0
  | n + 1 => rsum m k n + rk m k (n : Int)
theorem rsum_zero (m : List Int) : ∀ n, rsum m 0 n = 0
  | 0 => rfl
  | n + 1 => by show rsum m 0 n + rk m 0 (n : Int) = 0; rw [rsum_zero m n]; simp [rk]
theorem rsum_succ {m : List Int} {k : Nat} (hk : k < m.length) (h0 : 0 ≤ m.getD k 0) : ∀ n : Nat, rsum m (k + 1) n = rsum m k n + if m.getD k 0 < n then 1 else 0
  | 0 => by rw [if_neg (by omega)]; rfl
  | n + 1 => by
    show rsum m (k + 1) n + rk m (k + 1) (n : Int) = rsum m k n + rk m k (n : Int) + _
    rw [rsum_succ hk h0 n, rk_succ (n : Int) hk]
    by_cases h1 : m.getD k 0 < (n : Int)
    · rw [if_pos h1, if_neg (by omega), if_pos (by omega)]; omega
    · by_cases h2 : m.getD k 0 = (n : Int)
      · rw [if_neg h1, if_pos h2, if_pos (by omega)]; omega
      · rw [if_neg h1, if_neg h2, if_neg (by omega)]; omega
theorem rsum_all {m : List Int} (h : Good m) : ∀ {k : Nat}, k ≤ m.length → rsum m k 257 = k
  | 0, _ => rsum_zero m 257
  | k + 1, hk => by
    have hg := h.at (show k < m.length by omega)
    rw [rsum_succ (by omega) hg.1 257, rsum_all h (by omega), if_pos (by omega)]
theorem rsum_le (m : List Int) (k : Nat) : ∀ n, rsum m k n ≤ n * k
  | 0 => Nat.zero_le _
  | n + 1 => by
    show rsum m k n + rk m k (n : Int) ≤ (n + 1) * k
    have h1 := rsum_le m k n
    have h2 := rk_le m k (n : Int)
    rw [Nat.succ_mul]
    omega
/-- The last one ahead of a place is ahead of it; the next one is not. -/
theorem sl_ahead {m : List Int} {k : Nat} {s : Int} (h : 0 < rk m k s) : 0 ≤ sl m ((rk m k s : Int) - 1) s ∧ sl m ((rk m k s : Int) - 1) s < k := by
  have hc : rk m k s ≤ m.count s := by unfold rk; exact List.Sublist.count_le s (List.take_sublist k m)
  obtain ⟨p, h0, h1, h2, h3⟩ := sl_is (l := m) (j := rk m k s - 1) (s := s) (by omega)
  have e : ((rk m k s - 1 : Nat) : Int) = (rk m k s : Int) - 1 := by omega
  rw [e] at h0
  rw [h0]
  refine ⟨by omega, ?_⟩
  by_cases hp : p < k
  · omega
  · have := rk_mono s (l := m) (show k ≤ p by omega)
    omega
theorem sl_behind (m : List Int) (k : Nat) (s : Int) : sl m (rk m k s) s = -1 ∨ (k : Int) ≤ sl m (rk m k s) s := by
  by_cases hc : rk m k s < m.count s
  · obtain ⟨p, h0, h1, h2, h3⟩ := sl_is (l := m) (j := rk m k s) (s := s) hc
    right
    rw [h0]
    by_cases hp : p < k
    · have h4 := rk_succ s h1
      rw [if_pos h2] at h4
      have := rk_mono s (l := m) (show p + 1 ≤ k by omega)
      omega
    · omega
  · exact .inl (sl_none (.inr (by omega)))
/-- In and out again; one by one from the front, from the back. -/
theorem ins_at {m : List Int} {k : Nat} {s : Int} (hk : k ≤ m.length) : (ins m k s).getD k 0 = s := by
  unfold ins
  rw [List.getD_eq_getElem?_getD, List.getElem?_append_right (by rw [List.length_take]; omega), List.length_take, show k - min k m.length = 0 by omega]
  rfl
theorem del_ins {m : List Int} {k : Nat} {s : Int} (hk : k ≤ m.length) : del (ins m k s) k = m := by
  unfold del ins
  have ht : (m.take k).length = k := by rw [List.length_take]; omega
  rw [List.take_left' ht, List.drop_append, ht, List.drop_of_length_le (by omega), show k + 1 - k = 1 by omega, List.drop_one]
  simp
theorem ins_end {m : List Int} {j : Nat} (hj : j < m.length) : ins (m.take j) j (m.getD j 0) = m.take (j + 1) := by
  unfold ins
  rw [List.take_of_length_le (by rw [List.length_take]; omega), List.drop_of_length_le (by rw [List.length_take]; omega), List.take_succ_eq_append_getElem hj, List.getD_eq_getElem?_getD, List.getElem?_eq_getElem hj]
  rfl
theorem ins_front {m : List Int} {j : Nat} (hj : j < m.length) : ins (m.drop (j + 1)) 0 (m.getD j 0) = m.drop j := by
  unfold ins
  rw [List.take_zero, List.drop_zero, List.drop_eq_getElem_cons hj, List.getD_eq_getElem?_getD, List.getElem?_eq_getElem hj]
  rfl
end Wv
end Go.Proofs.YtaglnomjlnlgoaaDoor
