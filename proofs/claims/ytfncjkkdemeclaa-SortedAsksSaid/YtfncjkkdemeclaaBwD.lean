/- A text back from its last column. No function of the program stands in it. -/
import Derived.Test.YtfncjkkdemeclaaBwL
namespace Go.Proofs.Ytfncjkkdemeclaa
namespace Bw

theorem range_map (T : List Int) : (List.range T.length).map (fun p => T.getD p 0) = T := by
  refine List.ext_getElem (by rw [List.length_map, List.length_range]) fun i h1 h2 => ?_
  rw [List.getElem_map, List.getElem_range, List.getD_eq_getElem?_getD, List.getElem?_eq_getElem h2]
  rfl
/-- The last column has the text's symbols. -/
theorem IsRows.perm_lst {T : List Int} {R : List Nat} (h : IsRows T R) (hN : 0 < T.length) : (lst T R).Perm T := by
  have h1 : (lst T R).Perm ((List.range T.length).map fun p => T.getD (prd T.length p) 0) := h.perm.map _
  refine h1.trans ?_
  obtain ⟨M, hM⟩ : ∃ M, T.length = M + 1 := ⟨T.length - 1, by omega⟩
  have h2 : (List.range (M + 1)).map (fun p => T.getD (prd (M + 1) p) 0) = T.getD M 0 :: (List.range M).map fun p => T.getD p 0 := by
    rw [List.range_succ_eq_map, List.map_cons, List.map_map]
    congr 1
  have h3 : T = (List.range M).map (fun p => T.getD p 0) ++ [T.getD M 0] := by
    have := range_map T
    rw [hM, List.range_succ, List.map_append] at this
    exact this.symm
  rw [hM, h2]
  conv => rhs; rw [h3]
  exact List.perm_append_singleton _ _ |>.symm
theorem IsRows.low_lst {T : List Int} {R : List Nat} (h : IsRows T R) (hN : 0 < T.length) (s : Int) : low (lst T R) s = low T s := (h.perm_lst hN).countP_eq _
theorem row_end {T : List Int} (ht : IsTxt T) : row T (T.length - 1) = 0 := by
  have hN := ht.pos
  refine cnt_none fun r hr => ?_
  cases e : bef T r (T.length - 1) with
  | false => rfl
  | true =>
    rcases (bef_step hr (by omega)).1 e with h2 | ⟨h2, h3⟩
    · rw [ht.last] at h2
      have := ht.nonneg hr
      omega
    · rw [ht.last] at h2
      have h4 := (ht.zero_iff hr).1 h2
      subst h4
      rw [bef_irrefl] at h3
      cases h3
/-- From row to row, by the last column alone. -/
def bk (l : List Int) (r : Nat) : Nat := low l (l.getD r 0) + (l.take r).count (l.getD r 0)
def stp (l : List Int) : Nat → Nat
  | 0 => 0
  | k + 1 => bk l (stp l k)
theorem IsRows.bk {T : List Int} {R : List Nat} (h : IsRows T R) (ht : IsTxt T) {p : Nat} (hp : p < T.length) : Bw.bk (lst T R) (Bw.row T p) = Bw.row T (prd T.length p) ∧ (lst T R).getD (Bw.row T p) 0 = T.getD (prd T.length p) 0 := by
  obtain ⟨hr, e⟩ := h.at_row hp
  have h1 := h.back ht hr
  rw [e, ← h.low_lst ht.pos] at h1
  have h2 := lst_at (T := T) hr
  rw [e] at h2
  exact ⟨h1.symm, h2⟩
theorem IsRows.stp {T : List Int} {R : List Nat} (h : IsRows T R) (ht : IsTxt T) : ∀ k, k < T.length → Bw.stp (lst T R) k = Bw.row T (T.length - 1 - k)
  | 0, _ => (row_end ht).symm
  | k + 1, hk => by
    have ih := h.stp ht k (by omega)
    show Bw.bk (lst T R) (Bw.stp (lst T R) k) = _
    rw [ih, (h.bk ht (show T.length - 1 - k < T.length by omega)).1]
    congr 1
    unfold prd
    rw [if_neg (by omega)]
    omega
/-- The symbols of the text, from its end. -/
theorem IsRows.read {T : List Int} {R : List Nat} (h : IsRows T R) (ht : IsTxt T) {k : Nat} (hk : k + 1 < T.length) : (lst T R).getD (Bw.stp (lst T R) k) 0 = T.getD (T.length - 2 - k) 0 := by
  rw [h.stp ht k (by omega), (h.bk ht (by omega)).2]
  congr 1
  unfold prd
  rw [if_neg (by omega)]
  omega
/-- One text has one last column, and one last column one text. -/
theorem lst_inj {T T' : List Int} (ht : IsTxt T) (ht' : IsTxt T') (h : lst T (rows T) = lst T' (rows T')) : T = T' := by
  have hl : T.length = T'.length := by
    have := congrArg List.length h
    rw [lst_len, lst_len, (rows_is T).len, (rows_is T').len] at this
    exact this
  have hN := ht.pos
  have hat : ∀ i, i < T.length → T.getD i 0 = T'.getD i 0 := fun i hi => by
    by_cases e : i = T.length - 1
    · rw [(ht.zero_iff hi).2 e, (ht'.zero_iff (by omega)).2 (by omega)]
    · have h1 := (rows_is T).read ht (k := T.length - 2 - i) (by omega)
      have h2 := (rows_is T').read ht' (k := T.length - 2 - i) (by omega)
      rw [h] at h1
      rw [h1, ← hl] at h2
      rw [show T.length - 2 - (T.length - 2 - i) = i by omega] at h2
      exact h2
  refine List.ext_getElem hl fun i h1 h2 => ?_
  have := hat i h1
  rw [List.getD_eq_getElem?_getD, List.getElem?_eq_getElem h1, List.getD_eq_getElem?_getD, List.getElem?_eq_getElem h2] at this
  exact this
end Bw
end Go.Proofs.Ytfncjkkdemeclaa
