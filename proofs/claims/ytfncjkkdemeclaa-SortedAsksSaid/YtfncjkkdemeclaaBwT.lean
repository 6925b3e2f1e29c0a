/- Texts as bytes: their symbols with the end, their rows, their last column. No function of the program stands in it. -/
import Derived.Test.YtfncjkkdemeclaaBwN
namespace Go.Proofs.Ytfncjkkdemeclaa
namespace Bw

/-- A text's symbols, with its end; all are bytes. -/
def sy (t : List Int) : List Int := t.map (fun b => b + 1) ++ [0]
def Byt (t : List Int) : Prop := ∀ b ∈ t, 0 ≤ b ∧ b ≤ 255
theorem sy_len (t : List Int) : (sy t).length = t.length + 1 := by unfold sy; rw [List.length_append, List.length_map]; rfl
theorem sy_txt {t : List Int} (h : Byt t) : IsTxt (sy t) := IsTxt.of _ fun s hs => by
  obtain ⟨b, hb, rfl⟩ := List.mem_map.1 hs
  have := h b hb
  omega
theorem sy_app (a b : List Int) : sy (a ++ b) = a.map (fun b => b + 1) ++ sy b := by unfold sy; rw [List.map_append, List.append_assoc]
theorem sy_inj {t t' : List Int} (h : sy t = sy t') : t = t' := by
  have h1 := List.append_cancel_right h
  have h2 : ∀ x y : List Int, x.map (fun b => b + 1) = y.map (fun b => b + 1) → x = y := fun x => by
    induction x with
    | nil => intro y h; cases y with
      | nil => rfl
      | cons b y => cases h
    | cons a x ih => intro y h; cases y with
      | nil => cases h
      | cons b y =>
        rw [List.map_cons, List.map_cons] at h
        injection h with h3 h4
        rw [ih y h4, show a = b by omega]
  exact h2 t t' h1
theorem sy_at {t : List Int} {i : Nat} (hi : i < t.length) : (sy t).getD i 0 = t.getD i 0 + 1 := by
  unfold sy
  rw [List.getD_eq_getElem?_getD, List.getElem?_append_left (by rw [List.length_map]; exact hi), List.getElem?_map, List.getElem?_eq_getElem hi, List.getD_eq_getElem?_getD, List.getElem?_eq_getElem hi]
  rfl
theorem sy_end (t : List Int) : (sy t).getD t.length 0 = 0 := by
  unfold sy
  rw [List.getD_eq_getElem?_getD, List.getElem?_append_right (by rw [List.length_map]; exact Nat.le_refl _), List.length_map, Nat.sub_self]
  rfl
theorem sy_good {t : List Int} (h : Byt t) : ∀ s ∈ sy t, 0 ≤ s ∧ s ≤ 256 := fun s hs => by
  unfold sy at hs
  rcases List.mem_append.1 hs with h1 | h1
  · obtain ⟨b, hb, rfl⟩ := List.mem_map.1 h1
    have := h b hb
    omega
  · rw [List.mem_singleton.1 h1]; decide
theorem sy_zero {t : List Int} (h : Byt t) : (sy t).count 0 = 1 := by
  unfold sy
  rw [List.count_append, List.count_eq_zero.2]
  · rfl
  · intro h1
    obtain ⟨b, hb, e⟩ := List.mem_map.1 h1
    have := h b hb
    omega
/-- The last column of a text. -/
def lastT (t : List Int) : List Int := lst (sy t) (rows (sy t))
theorem lastT_len (t : List Int) : (lastT t).length = t.length + 1 := by unfold lastT; rw [lst_len, (rows_is _).len, sy_len]
theorem lastT_perm (t : List Int) : (lastT t).Perm (sy t) := (rows_is _).perm_lst (by rw [sy_len]; omega)
theorem lastT_inj {t t' : List Int} (h : Byt t) (h' : Byt t') (e : lastT t = lastT t') : t = t' := sy_inj (lst_inj (sy_txt h) (sy_txt h') e)
theorem lastT_good {t : List Int} (h : Byt t) : ∀ s ∈ lastT t, 0 ≤ s ∧ s ≤ 256 := fun s hs => sy_good h s ((lastT_perm t).mem_iff.1 hs)
theorem lastT_zero {t : List Int} (h : Byt t) : (lastT t).count 0 = 1 := by rw [(lastT_perm t).count_eq, sy_zero h]
theorem lastT_of {t : List Int} {R : List Nat} (h : IsRows (sy t) R) : lst (sy t) R = lastT t := by rw [h.unique (rows_is (sy t))]; rfl
/-- A column that is read through is a text's; a text's column is read through. -/
theorem thru_lastT {t : List Int} (h : Byt t) : Thru (lastT t) := by
  have ht := sy_txt h
  have hR := rows_is (sy t)
  have hl : (lastT t).length = (sy t).length := by rw [lastT_len, sy_len]
  refine ⟨by rw [lastT_len]; omega, fun s hs => (lastT_good h s hs).1, fun k hk => ?_, ?_⟩
  · rw [hl] at hk
    have h1 := hR.read ht hk
    show (lst (sy t) (rows (sy t))).getD (stp (lst (sy t) (rows (sy t))) k) 0 ≠ 0
    rw [h1]
    have h2 := ht.other ((sy t).length - 2 - k) (by omega)
    omega
  · rw [hl]
    have hN := ht.pos
    show (lst (sy t) (rows (sy t))).getD (stp (lst (sy t) (rows (sy t))) ((sy t).length - 1)) 0 = 0
    rw [hR.stp ht _ (by omega), (hR.bk ht (by omega)).2, Nat.sub_self]
    exact ht.last
theorem thru_text {l : List Int} (h : Thru l) (hg : ∀ s ∈ l, s ≤ 256) : ∃ t, Byt t ∧ txt l = sy t ∧ lastT t = l := by
  refine ⟨((List.range (l.length - 1)).map fun k => l.getD (stp l (l.length - 2 - k)) 0).map (fun s => s - 1), fun b hb => ?_, ?_, ?_⟩
  · obtain ⟨s, hs, rfl⟩ := List.mem_map.1 hb
    obtain ⟨k, hk, rfl⟩ := List.mem_map.1 hs
    have hk' := List.mem_range.1 hk
    have h1 := h.mid (l.length - 2 - k) (by omega)
    have h2 := stp_lt h.pos (l.length - 2 - k)
    have h3 : l.getD (stp l (l.length - 2 - k)) 0 ∈ l := by
      rw [List.getD_eq_getElem?_getD, List.getElem?_eq_getElem h2]
      exact List.getElem_mem h2
    have h4 := h.nn _ h3
    have h5 := hg _ h3
    omega
  · unfold txt sy
    rw [List.map_map]
    congr 1
    conv => lhs; rw [← List.map_id ((List.range (l.length - 1)).map fun k => l.getD (stp l (l.length - 2 - k)) 0)]
    refine List.map_congr_left fun s _ => ?_
    show s = s - 1 + 1
    omega
  · have e : sy (((List.range (l.length - 1)).map fun k => l.getD (stp l (l.length - 2 - k)) 0).map fun s => s - 1) = txt l := by
      unfold txt sy
      rw [List.map_map]
      congr 1
      conv => rhs; rw [← List.map_id ((List.range (l.length - 1)).map fun k => l.getD (stp l (l.length - 2 - k)) 0)]
      refine List.map_congr_left fun s _ => ?_
      show s - 1 + 1 = s
      omega
    unfold lastT
    rw [e]
    exact h.is_last
/-- The order of suffixes is that of strings. -/
theorem lex_sy : ∀ x y : List Int, Byt x → Byt y → lex (sy x) (sy y) = lex x y
  | [], [], _, _ => rfl
  | [], b :: y, _, hy => by
    have := hy b (List.mem_cons_self ..)
    show (decide ((0 : Int) < b + 1) || _) = true
    rw [decide_eq_true (by omega)]; rfl
  | a :: x, [], hx, _ => by
    have := hx a (List.mem_cons_self ..)
    show (decide (a + 1 < 0) || (decide (a + 1 = 0) && _)) = false
    rw [decide_eq_false (by omega), decide_eq_false (by omega)]; rfl
  | a :: x, b :: y, hx, hy => by
    have ih := lex_sy x y (fun c hc => hx c (List.mem_cons_of_mem _ hc)) (fun c hc => hy c (List.mem_cons_of_mem _ hc))
    show (decide (a + 1 < b + 1) || (decide (a + 1 = b + 1) && lex (sy x) (sy y))) = (decide (a < b) || (decide (a = b) && lex x y))
    rw [ih]
    congr 1
    · exact decide_eq_decide.2 (by omega)
    · congr 1
      exact decide_eq_decide.2 (by omega)
theorem sy_drop {t : List Int} {p : Nat} (hp : p ≤ t.length) : (sy t).drop p = sy (t.drop p) := by
  unfold sy
  rw [List.drop_append_of_le_length (by rw [List.length_map]; exact hp), List.map_drop]
theorem bef_bytes {t : List Int} (h : Byt t) {p q : Nat} (hp : p ≤ t.length) (hq : q ≤ t.length) : bef (sy t) p q = lex (t.drop p) (t.drop q) := by
  unfold bef
  rw [sy_drop hp, sy_drop hq]
  exact lex_sy _ _ (fun b hb => h b (List.mem_of_mem_drop hb)) (fun b hb => h b (List.mem_of_mem_drop hb))
/-- A text of one letter. -/
theorem lastT_runs (c : Int) (k : Nat) (hc : 0 ≤ c ∧ c ≤ 255) : lastT (List.replicate k c) = List.replicate k (c + 1) ++ [0] := by
  have hsy : sy (List.replicate k c) = List.replicate k (c + 1) ++ [0] := by unfold sy; rw [List.map_replicate]
  obtain ⟨l, hl⟩ : ∃ l, List.replicate k (c + 1) ++ [0] = l := ⟨_, rfl⟩
  have hlen : l.length = k + 1 := by rw [← hl]; simp
  have hlt : ∀ j, j < k → l.getD j 0 = c + 1 := fun j hj => by
    rw [← hl, List.getD_eq_getElem?_getD, List.getElem?_append_left (by rw [List.length_replicate]; exact hj), List.getElem?_replicate, if_pos hj]
    rfl
  have hend : l.getD k 0 = 0 := by
    rw [← hl, List.getD_eq_getElem?_getD, List.getElem?_append_right (by rw [List.length_replicate]; exact Nat.le_refl _), List.length_replicate, Nat.sub_self]
    rfl
  have hlow : low l (c + 1) = 1 := by
    unfold low
    rw [← hl, List.countP_append, List.countP_eq_zero.2]
    · have : (0 : Int) < c + 1 := by omega
      simp [this]
    · intro a ha
      rw [List.eq_of_mem_replicate ha]
      simp
  have htake : ∀ j, j ≤ k → (l.take j).count (c + 1) = j := fun j hj => by
    rw [← hl, List.take_append_of_le_length (by rw [List.length_replicate]; exact hj), List.take_replicate, Nat.min_eq_left hj, List.count_replicate_self]
  have hstp : ∀ j, j ≤ k → stp l j = j := fun j => by
    induction j with
    | zero => intro _; rfl
    | succ j ih =>
      intro hj
      show bk l (stp l j) = j + 1
      rw [ih (by omega)]
      unfold bk
      rw [hlt j (by omega), hlow, htake j (by omega)]
      omega
  have hthru : Thru l := by
    refine ⟨by omega, fun s hs => ?_, fun j hj => ?_, ?_⟩
    · rw [← hl] at hs
      rcases List.mem_append.1 hs with h1 | h1
      · rw [List.eq_of_mem_replicate h1]; omega
      · rw [List.mem_singleton.1 h1]; exact Int.le_refl _
    · rw [hstp j (by omega), hlt j (by omega)]; omega
    · rw [hlen, Nat.add_sub_cancel, hstp k (Nat.le_refl _)]; exact hend
  have htxt : txt l = l := by
    unfold txt
    rw [hlen, Nat.add_sub_cancel]
    conv => rhs; rw [← hl]
    congr 1
    refine List.ext_getElem (by simp) fun i h1 h2 => ?_
    rw [List.length_map, List.length_range] at h1
    rw [List.getElem_map, List.getElem_range, List.getElem_replicate, hstp _ (by omega), hlt _ (by omega)]
  have h1 := hthru.is_last
  rw [htxt] at h1
  unfold lastT
  rw [hsy, hl]
  exact h1
end Bw
end Go.Proofs.Ytfncjkkdemeclaa
