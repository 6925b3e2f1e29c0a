/- Sorting places by twice as many symbols: the order of the first symbols, rows that keep it, groups. No function of the program stands in it. -/
import Derived.Test.YtfncjkkdemeclaaBwE
namespace Go.Proofs.Ytfncjkkdemeclaa
namespace Bw

/-- The first h symbols at p and at q are alike; those at p go ahead. -/
def eqn (T : List Int) : Nat → Nat → Nat → Bool
  | 0, _, _ => true
  | h + 1, p, q => decide (T.getD p 0 = T.getD q 0) && eqn T h (p + 1) (q + 1)
def ltn (T : List Int) : Nat → Nat → Nat → Bool
  | 0, _, _ => false
  | h + 1, p, q => decide (T.getD p 0 < T.getD q 0) || (decide (T.getD p 0 = T.getD q 0) && ltn T h (p + 1) (q + 1))
theorem eqn_succ {T : List Int} {h p q : Nat} : eqn T (h + 1) p q = true ↔ T.getD p 0 = T.getD q 0 ∧ eqn T h (p + 1) (q + 1) = true := by
  show (decide _ && _) = true ↔ _
  rw [Bool.and_eq_true, decide_eq_true_iff]
theorem ltn_succ {T : List Int} {h p q : Nat} : ltn T (h + 1) p q = true ↔ T.getD p 0 < T.getD q 0 ∨ (T.getD p 0 = T.getD q 0 ∧ ltn T h (p + 1) (q + 1) = true) := by
  show (decide _ || (decide _ && _)) = true ↔ _
  rw [Bool.or_eq_true, Bool.and_eq_true, decide_eq_true_iff, decide_eq_true_iff]
theorem eqn_refl (T : List Int) : ∀ h p, eqn T h p p = true
  | 0, _ => rfl
  | h + 1, p => eqn_succ.2 ⟨rfl, eqn_refl T h (p + 1)⟩
theorem eqn_symm {T : List Int} : ∀ {h p q}, eqn T h p q = true → eqn T h q p = true
  | 0, _, _, _ => rfl
  | h + 1, p, q, e => by
    rw [eqn_succ] at e ⊢
    exact ⟨e.1.symm, eqn_symm e.2⟩
theorem eqn_trans {T : List Int} : ∀ {h p q r}, eqn T h p q = true → eqn T h q r = true → eqn T h p r = true
  | 0, _, _, _, _, _ => rfl
  | h + 1, p, q, r, e, f => by
    rw [eqn_succ] at e f ⊢
    exact ⟨e.1.trans f.1, eqn_trans e.2 f.2⟩
theorem ltn_ne {T : List Int} : ∀ {h p q}, ltn T h p q = true → eqn T h p q = true → False
  | 0, _, _, e, _ => by cases e
  | h + 1, p, q, e, f => by
    rw [ltn_succ] at e
    rw [eqn_succ] at f
    rcases e with e | e
    · omega
    · exact ltn_ne e.2 f.2
theorem ltn_irrefl {T : List Int} {h p : Nat} (e : ltn T h p p = true) : False := ltn_ne e (eqn_refl T h p)
theorem ltn_trans {T : List Int} : ∀ {h p q r}, ltn T h p q = true → ltn T h q r = true → ltn T h p r = true
  | 0, _, _, _, e, _ => by cases e
  | h + 1, p, q, r, e, f => by
    rw [ltn_succ] at e f ⊢
    rcases e with e | ⟨e, e2⟩
    · rcases f with f | ⟨f, _⟩
      · exact .inl (by omega)
      · exact .inl (by omega)
    · rcases f with f | ⟨f, f2⟩
      · exact .inl (by omega)
      · exact .inr ⟨e.trans f, ltn_trans e2 f2⟩
theorem ltn_left {T : List Int} : ∀ {h p q r}, eqn T h p q = true → ltn T h q r = true → ltn T h p r = true
  | 0, _, _, _, _, f => by cases f
  | h + 1, p, q, r, e, f => by
    rw [eqn_succ] at e
    rw [ltn_succ] at f ⊢
    rcases f with f | ⟨f, f2⟩
    · exact .inl (by omega)
    · exact .inr ⟨e.1.trans f, ltn_left e.2 f2⟩
theorem ltn_right {T : List Int} : ∀ {h p q r}, ltn T h p q = true → eqn T h q r = true → ltn T h p r = true
  | 0, _, _, _, f, _ => by cases f
  | h + 1, p, q, r, f, e => by
    rw [eqn_succ] at e
    rw [ltn_succ] at f ⊢
    rcases f with f | ⟨f, f2⟩
    · exact .inl (by omega)
    · exact .inr ⟨f.trans e.1, ltn_right f2 e.2⟩
theorem ltn_tri (T : List Int) : ∀ h p q, ltn T h p q = true ∨ eqn T h p q = true ∨ ltn T h q p = true
  | 0, _, _ => .inr (.inl rfl)
  | h + 1, p, q => by
    rw [ltn_succ, ltn_succ, eqn_succ]
    rcases Int.lt_trichotomy (T.getD p 0) (T.getD q 0) with e | e | e
    · exact .inl (.inl e)
    · rcases ltn_tri T h (p + 1) (q + 1) with f | f | f
      · exact .inl (.inr ⟨e, f⟩)
      · exact .inr (.inl ⟨e, f⟩)
      · exact .inr (.inr (.inr ⟨e.symm, f⟩))
    · exact .inr (.inr (.inl e))
theorem eqn_add {T : List Int} (b : Nat) : ∀ a p q, eqn T (a + b) p q = true ↔ eqn T a p q = true ∧ eqn T b (p + a) (q + a) = true
  | 0, p, q => by rw [Nat.zero_add]; exact ⟨fun h => ⟨rfl, h⟩, fun h => h.2⟩
  | a + 1, p, q => by
    rw [show a + 1 + b = (a + b) + 1 by omega, eqn_succ, eqn_succ, eqn_add b a, show p + 1 + a = p + (a + 1) by omega, show q + 1 + a = q + (a + 1) by omega, and_assoc]
theorem ltn_add {T : List Int} (b : Nat) : ∀ a p q, ltn T (a + b) p q = true ↔ ltn T a p q = true ∨ (eqn T a p q = true ∧ ltn T b (p + a) (q + a) = true)
  | 0, p, q => by
    rw [Nat.zero_add]
    exact ⟨fun h => .inr ⟨rfl, h⟩, fun h => by
      rcases h with h | h
      · cases h
      · exact h.2⟩
  | a + 1, p, q => by
    rw [show a + 1 + b = (a + b) + 1 by omega, ltn_succ, ltn_succ, eqn_succ, ltn_add b a, show p + 1 + a = p + (a + 1) by omega, show q + 1 + a = q + (a + 1) by omega]
    constructor
    · rintro (h | ⟨h, h2 | h2⟩)
      · exact .inl (.inl h)
      · exact .inl (.inr ⟨h, h2⟩)
      · exact .inr ⟨⟨h, h2.1⟩, h2.2⟩
    · rintro ((h | h) | h)
      · exact .inl h
      · exact .inr ⟨h.1, .inl h.2⟩
      · exact .inr ⟨h.1.1, .inr ⟨h.1.2, h.2⟩⟩
theorem eqn_at {T : List Int} : ∀ {h p q i}, eqn T h p q = true → i < h → T.getD (p + i) 0 = T.getD (q + i) 0
  | 0, _, _, _, _, hi => absurd hi (Nat.not_lt_zero _)
  | h + 1, p, q, 0, e, _ => (eqn_succ.1 e).1
  | h + 1, p, q, i + 1, e, hi => by
    have := eqn_at (i := i) (eqn_succ.1 e).2 (by omega)
    rwa [show p + 1 + i = p + (i + 1) by omega, show q + 1 + i = q + (i + 1) by omega] at this
theorem eqn_one {T : List Int} {p q : Nat} : eqn T 1 p q = true ↔ T.getD p 0 = T.getD q 0 := by
  rw [eqn_succ]
  exact ⟨fun h => h.1, fun h => ⟨h, rfl⟩⟩
theorem ltn_one {T : List Int} {p q : Nat} : ltn T 1 p q = true ↔ T.getD p 0 < T.getD q 0 := by
  rw [ltn_succ]
  constructor
  · rintro (h | ⟨_, h⟩)
    · exact h
    · cases h
  · intro h; exact .inl h
theorem eqn_far1 {T : List Int} (ht : IsTxt T) {h p q : Nat} (hq : q < T.length) (hpq : p < q) (e : eqn T h p q = true) : q + h < T.length := by
  apply Nat.lt_of_not_le
  intro hle
  have h1 := eqn_at (i := T.length - 1 - q) e (by omega)
  rw [show q + (T.length - 1 - q) = T.length - 1 by omega, ht.last] at h1
  have h2 := ht.other (p + (T.length - 1 - q)) (by omega)
  omega
/-- Two of one group have no end ahead of what stands behind. -/
theorem eqn_far {T : List Int} (ht : IsTxt T) {h p q : Nat} (hp : p < T.length) (hq : q < T.length) (hpq : p ≠ q) (e : eqn T h p q = true) : p + h < T.length ∧ q + h < T.length := by
  rcases Nat.lt_or_gt_of_ne hpq with h1 | h1
  · have := eqn_far1 ht hq h1 e; omega
  · have := eqn_far1 ht hp h1 (eqn_symm e); omega
theorem ltn_bef {T : List Int} (ht : IsTxt T) : ∀ {h p q}, p < T.length → q < T.length → ltn T h p q = true → bef T p q = true
  | 0, _, _, _, _, e => by cases e
  | h + 1, p, q, hp, hq, e => by
    rw [bef_step hp hq]
    rcases ltn_succ.1 e with e1 | ⟨e1, e2⟩
    · exact .inl e1
    · refine .inr ⟨e1, ?_⟩
      by_cases h1 : p = T.length - 1
      · rw [(ht.zero_iff hp).2 h1] at e1
        have h2 := (ht.zero_iff hq).1 e1.symm
        rw [h1, h2] at e2
        exact (ltn_irrefl e2).elim
      · by_cases h2 : q = T.length - 1
        · rw [(ht.zero_iff hq).2 h2] at e1
          exact absurd ((ht.zero_iff hp).1 e1) h1
        · exact ltn_bef ht (by omega) (by omega) e2

/-- Counting. -/
theorem cnt_le {N : Nat} {P Q : Nat → Bool} (h : ∀ r, r < N → P r = true → Q r = true) : cnt N P ≤ cnt N Q := by
  induction N with
  | zero => exact Nat.le_refl _
  | succ N ih =>
    rw [cnt_succ, cnt_succ]
    have h1 := ih fun r hr => h r (by omega)
    have h2 := h N (by omega)
    by_cases e : P N = true
    · rw [if_pos e, if_pos (h2 e)]; omega
    · rw [if_neg e]; omega
theorem cnt_lt {N : Nat} {P Q : Nat → Bool} (h : ∀ r, r < N → P r = true → Q r = true) {m : Nat} (hm : m < N) (h1 : P m = false) (h2 : Q m = true) : cnt N P < cnt N Q := by
  induction N with
  | zero => omega
  | succ N ih =>
    rw [cnt_succ, cnt_succ]
    by_cases e : m = N
    · subst e
      rw [if_pos h2, h1, if_neg (by decide)]
      have := cnt_le (N := m) fun r hr => h r (by omega)
      omega
    · have h3 := ih (fun r hr => h r (by omega)) (by omega)
      have h4 := h N (by omega)
      by_cases e2 : P N = true
      · rw [if_pos e2, if_pos (h4 e2)]; omega
      · rw [if_neg e2]; omega
theorem cnt_all (N : Nat) : cnt N (fun _ => true) = N := by
  induction N with
  | zero => rfl
  | succ N ih => rw [cnt_succ, ih]; rfl
theorem cnt_max (N : Nat) (P : Nat → Bool) : cnt N P ≤ N := by
  have := cnt_le (N := N) (P := P) (Q := fun _ => true) fun _ _ _ => rfl
  rwa [cnt_all] at this
theorem cnt_below {N : Nat} {P : Nat → Bool} {m : Nat} (hm : m < N) (h : P m = false) : cnt N P < N := by
  have := cnt_lt (N := N) (P := P) (Q := fun _ => true) (fun _ _ _ => rfl) hm h rfl
  rwa [cnt_all] at this
theorem cnt_one {N : Nat} {P : Nat → Bool} {m : Nat} (hm : m < N) (h : P m = true) (hu : ∀ r, r < N → P r = true → r = m) : cnt N P = 1 := by
  have h1 := cnt_le_one (n := N) (P := P) fun i j hi hj h1 h2 => (hu i hi h1).trans (hu j hj h2).symm
  have h2 := cnt_lt (N := N) (P := fun _ => false) (Q := P) (fun _ _ h => by cases h) hm rfl h
  have h3 := cnt_none (N := N) (P := fun _ => false) fun _ _ => rfl
  omega
theorem cnt_upto (k : Nat) : ∀ N, k ≤ N → cnt N (fun q => decide (q < k)) = k
  | 0, h => by have : k = 0 := by omega
               subst this; rfl
  | N + 1, h => by
    rw [cnt_succ]
    by_cases e : k = N + 1
    · subst e
      rw [if_pos (by simp), cnt_congr (Q := fun _ => true) fun r hr => by simp; omega, cnt_all]
    · rw [cnt_upto k N (by omega), if_neg (by simp; omega)]
      omega
/-- Of places that have rows, each its own, as many fit as rows do. -/
theorem cnt_map {N : Nat} {r : Nat → Nat} (hlt : ∀ p, p < N → r p < N) (hinj : ∀ p q, p < N → q < N → r p = r q → p = q) (P : Nat → Bool) : cnt N (fun p => P (r p)) = cnt N P := by
  have h6 : ((List.range N).map r).Perm (List.range N) := by
    refine (List.perm_ext_iff_of_nodup ?_ List.nodup_range).2 fun i => ?_
    · rw [List.nodup_iff_pairwise_ne, List.pairwise_map]
      refine List.Pairwise.imp_of_mem ?_ (List.nodup_iff_pairwise_ne.1 List.nodup_range)
      intro a b ha hb hne e
      exact hne (hinj a b (List.mem_range.1 ha) (List.mem_range.1 hb) e)
    · rw [List.mem_map, List.mem_range]
      constructor
      · rintro ⟨i, hi, rfl⟩; exact hlt i (List.mem_range.1 hi)
      · intro hr
        obtain ⟨j, hj, e⟩ := onto hlt hinj hr
        exact ⟨j, List.mem_range.2 hj, e⟩
  unfold cnt
  rw [← (h6.filter P).length_eq, List.filter_map, List.length_map]
  rfl

/-- Rows of places, in an order of the first h symbols; ro tells the place of each row. -/
structure Ord (T : List Int) (h : Nat) (r ro : Nat → Nat) : Prop where
  lt : ∀ p, p < T.length → r p < T.length
  mono : ∀ p q, p < T.length → q < T.length → ltn T h p q = true → r p < r q
  at_ : ∀ p, p < T.length → ro (r p) = p
theorem Ord.inj {T : List Int} {h : Nat} {r ro : Nat → Nat} (o : Ord T h r ro) (p q : Nat) (hp : p < T.length) (hq : q < T.length) (e : r p = r q) : p = q := by
  have h1 := o.at_ p hp
  rw [e, o.at_ q hq] at h1
  exact h1.symm
theorem Ord.row {T : List Int} {h : Nat} {r ro : Nat → Nat} (o : Ord T h r ro) {i : Nat} (hi : i < T.length) : ro i < T.length ∧ r (ro i) = i := by
  obtain ⟨p, hp, rfl⟩ := onto o.lt o.inj hi
  rw [o.at_ p hp]
  exact ⟨hp, rfl⟩
theorem Ord.cnt {T : List Int} {h : Nat} {r ro : Nat → Nat} (o : Ord T h r ro) {k : Nat} (hk : k ≤ T.length) : Bw.cnt T.length (fun q => decide (r q < k)) = k :=
  (cnt_map o.lt o.inj fun i => decide (i < k)).trans (cnt_upto k _ hk)
/-- The first row of a place's group. -/
def hd (T : List Int) (h p : Nat) : Nat := cnt T.length fun q => ltn T h q p
theorem hd_lt {T : List Int} {h p : Nat} (hp : p < T.length) : hd T h p < T.length :=
  cnt_below hp (by cases e : ltn T h p p with
    | false => rfl
    | true => exact (ltn_irrefl e).elim)
theorem hd_eq {T : List Int} {h p q : Nat} (e : eqn T h p q = true) : hd T h p = hd T h q :=
  cnt_congr fun r _ => by
    cases e1 : ltn T h r p with
    | true => rw [ltn_right e1 e]
    | false =>
      cases e2 : ltn T h r q with
      | true => rw [ltn_right e2 (eqn_symm e)] at e1; cases e1
      | false => rfl
theorem hd_mono {T : List Int} {h p q : Nat} (hp : p < T.length) (e : ltn T h p q = true) : hd T h p < hd T h q :=
  cnt_lt (fun _ _ h => ltn_trans h e) hp (by cases e : ltn T h p p with
    | false => rfl
    | true => exact (ltn_irrefl e).elim) e
theorem hd_iff {T : List Int} {h p q : Nat} (hp : p < T.length) (hq : q < T.length) : hd T h p = hd T h q ↔ eqn T h p q = true := by
  constructor
  · intro e
    rcases ltn_tri T h p q with h1 | h1 | h1
    · have := hd_mono hp h1; omega
    · exact h1
    · have := hd_mono hq h1; omega
  · exact hd_eq
/-- One that is alone in its group has its first row. -/
theorem Ord.alone {T : List Int} {h : Nat} {r ro : Nat → Nat} (o : Ord T h r ro) {p : Nat} (hp : p < T.length) (ha : ∀ q, q < T.length → eqn T h q p = true → q = p) : r p = hd T h p := by
  rw [← o.cnt (k := r p) (Nat.le_of_lt (o.lt p hp))]
  unfold hd
  refine cnt_congr fun q hq => ?_
  cases e : ltn T h q p with
  | true => exact decide_eq_true (o.mono q p hq hp e)
  | false =>
    refine decide_eq_false fun h1 => ?_
    rcases ltn_tri T h q p with h2 | h2 | h2
    · rw [h2] at e; cases e
    · rw [ha q hq h2] at h1; omega
    · have := o.mono p q hp hq h2; omega
/-- The order by twice as many symbols: by h, then by the rows of what stands h behind. -/
def two (T : List Int) (h : Nat) (r : Nat → Nat) (p q : Nat) : Bool := ltn T h p q || (eqn T h p q && decide (r (p + h) < r (q + h)))
theorem two_iff {T : List Int} {h : Nat} {r : Nat → Nat} {p q : Nat} : two T h r p q = true ↔ ltn T h p q = true ∨ (eqn T h p q = true ∧ r (p + h) < r (q + h)) := by
  unfold two
  rw [Bool.or_eq_true, Bool.and_eq_true, decide_eq_true_iff]
theorem two_irrefl {T : List Int} {h : Nat} {r : Nat → Nat} {p : Nat} : two T h r p p = false := by
  cases e : two T h r p p with
  | false => rfl
  | true =>
    rcases two_iff.1 e with h1 | h1
    · exact (ltn_irrefl h1).elim
    · omega
theorem two_trans {T : List Int} {h : Nat} {r : Nat → Nat} {p q s : Nat} (h1 : two T h r p q = true) (h2 : two T h r q s = true) : two T h r p s = true := by
  rw [two_iff] at h1 h2 ⊢
  rcases h1 with h1 | ⟨h1, h3⟩
  · rcases h2 with h2 | ⟨h2, h4⟩
    · exact .inl (ltn_trans h1 h2)
    · exact .inl (ltn_right h1 h2)
  · rcases h2 with h2 | ⟨h2, h4⟩
    · exact .inl (ltn_left h1 h2)
    · exact .inr ⟨eqn_trans h1 h2, by omega⟩
/-- The rows by twice as many symbols. -/
def nxt (T : List Int) (h : Nat) (r : Nat → Nat) (p : Nat) : Nat := cnt T.length fun q => two T h r q p
theorem nxt_lt {T : List Int} {h : Nat} {r : Nat → Nat} {p : Nat} (hp : p < T.length) : nxt T h r p < T.length := cnt_below hp two_irrefl
theorem nxt_mono {T : List Int} {h : Nat} {r : Nat → Nat} {p q : Nat} (hp : p < T.length) (e : two T h r p q = true) : nxt T h r p < nxt T h r q :=
  cnt_lt (fun _ _ h => two_trans h e) hp two_irrefl e
theorem nxt_inj {T : List Int} (ht : IsTxt T) {h : Nat} {r ro : Nat → Nat} (o : Ord T h r ro) (p q : Nat) (hp : p < T.length) (hq : q < T.length) (e : nxt T h r p = nxt T h r q) : p = q := by
  by_cases hpq : p = q
  · exact hpq
  · rcases ltn_tri T h p q with h1 | h1 | h1
    · have := nxt_mono (r := r) hp (two_iff.2 (.inl h1)); omega
    · have h2 := eqn_far ht hp hq hpq h1
      rcases Nat.lt_trichotomy (r (p + h)) (r (q + h)) with h3 | h3 | h3
      · have := nxt_mono (r := r) hp (two_iff.2 (.inr ⟨h1, h3⟩)); omega
      · have := o.inj _ _ h2.1 h2.2 h3; omega
      · have := nxt_mono (r := r) hq (two_iff.2 (.inr ⟨eqn_symm h1, h3⟩)); omega
    · have := nxt_mono (r := r) hq (two_iff.2 (.inl h1)); omega
theorem nxt_ord {T : List Int} (ht : IsTxt T) {h : Nat} {r ro ro' : Nat → Nat} (o : Ord T h r ro) (hat : ∀ p, p < T.length → ro' (nxt T h r p) = p) : Ord T (h + h) (nxt T h r) ro' := by
  refine ⟨fun p hp => nxt_lt hp, fun p q hp hq e => ?_, hat⟩
  refine nxt_mono hp (two_iff.2 ?_)
  rcases (ltn_add h h p q).1 e with h1 | ⟨h1, h2⟩
  · exact .inl h1
  · by_cases hpq : p = q
    · subst hpq; exact (ltn_irrefl h2).elim
    · have h3 := eqn_far ht hp hq hpq h1
      exact .inr ⟨h1, o.mono _ _ h3.1 h3.2 h2⟩
/-- How many of the group g have taken their rows, when k rows have been asked. -/
def tkn (T : List Int) (h : Nat) (r : Nat → Nat) (k g : Nat) : Nat := cnt T.length fun q => decide (q + h < T.length ∧ r (q + h) < k ∧ hd T h q = g)
theorem tkn_zero (T : List Int) (h : Nat) (r : Nat → Nat) (g : Nat) : tkn T h r 0 g = 0 := cnt_none fun q _ => decide_eq_false fun h => absurd h.2.1 (Nat.not_lt_zero _)
theorem tkn_at {T : List Int} (ht : IsTxt T) {h : Nat} {r : Nat → Nat} {p : Nat} (hp : p < T.length) : hd T h p + tkn T h r (r (p + h)) (hd T h p) = nxt T h r p := by
  have h0 : nxt T h r p = hd T h p + cnt T.length fun q => eqn T h q p && decide (r (q + h) < r (p + h)) :=
    cnt_or (P := fun q => ltn T h q p) (Q := fun q => eqn T h q p && decide (r (q + h) < r (p + h))) fun _ _ h1 => ltn_ne h1.1 (by
      have := h1.2
      rw [Bool.and_eq_true] at this
      exact this.1)
  rw [h0]
  congr 1
  refine cnt_congr fun q hq => ?_
  by_cases e : eqn T h q p = true
  · rw [e, Bool.true_and]
    by_cases hqp : q = p
    · subst hqp
      rw [decide_eq_false (by omega), decide_eq_false (by omega)]
    · have h2 := eqn_far ht hq hp hqp e
      refine decide_eq_decide.2 ⟨fun h => h.2.1, fun h => ⟨h2.1, h, hd_eq e⟩⟩
  · rw [show eqn T h q p = false by simpa using e, Bool.false_and]
    exact decide_eq_false fun h1 => e ((hd_iff hq hp).1 h1.2.2)
theorem tkn_skip {T : List Int} {h : Nat} {r ro : Nat → Nat} (o : Ord T h r ro) {k : Nat} (hb : ro k < h) (g : Nat) : tkn T h r (k + 1) g = tkn T h r k g := by
  refine cnt_congr fun q hq => decide_eq_decide.2 ⟨fun h1 => ⟨h1.1, ?_, h1.2.2⟩, fun h1 => ⟨h1.1, by omega, h1.2.2⟩⟩
  have h2 : r (q + h) ≠ k := fun e => by
    have := o.at_ _ h1.1
    rw [e] at this
    omega
  omega
theorem tkn_next {T : List Int} {h : Nat} {r ro : Nat → Nat} (o : Ord T h r ro) {k p : Nat} (hk : k < T.length) (hb : ro k = p + h) (g : Nat) : tkn T h r (k + 1) g = tkn T h r k g + if g = hd T h p then 1 else 0 := by
  obtain ⟨h1, h2⟩ := o.row hk
  rw [hb] at h1 h2
  have h3 : tkn T h r (k + 1) g = cnt T.length fun q => decide (q + h < T.length ∧ r (q + h) < k ∧ hd T h q = g) || decide (q = p ∧ hd T h p = g) := by
    refine cnt_congr fun q hq => ?_
    by_cases e : q = p
    · subst e
      rw [h2]
      by_cases e2 : hd T h q = g
      · rw [decide_eq_true (by omega), decide_eq_true (p := q = q ∧ hd T h q = g) ⟨rfl, e2⟩, Bool.or_true]
      · rw [decide_eq_false (by omega), decide_eq_false (by omega), decide_eq_false (p := q = q ∧ hd T h q = g) (by omega)]; rfl
    · rw [decide_eq_false (p := q = p ∧ hd T h p = g) (by omega), Bool.or_false]
      refine decide_eq_decide.2 ⟨fun h4 => ⟨h4.1, ?_, h4.2.2⟩, fun h4 => ⟨h4.1, by omega, h4.2.2⟩⟩
      have h5 : r (q + h) ≠ k := fun e3 => by
        have := o.inj _ _ h4.1 h1 (e3.trans h2.symm)
        omega
      omega
  rw [h3, cnt_or fun q _ h4 => by
    have h5 := of_decide_eq_true h4.1
    have h6 := of_decide_eq_true h4.2
    rw [h6.1, h2] at h5
    omega]
  congr 1
  by_cases e : g = hd T h p
  · rw [if_pos e]
    exact cnt_one (m := p) (by omega) (decide_eq_true ⟨rfl, e.symm⟩) fun q _ h4 => (of_decide_eq_true h4).1
  · rw [if_neg e]
    exact cnt_none fun q _ => decide_eq_false fun h4 => e h4.2.symm
/-- What the rows are while they are taken. -/
structure Tak (T : List Int) (h : Nat) (r : Nat → Nat) (k : Nat) (ro : Nat → Nat) : Prop where
  near : ∀ p, p < T.length → p + h < T.length → r (p + h) < k → ro (nxt T h r p) = p
  far : ∀ p, p < T.length → T.length ≤ p + h → ro (nxt T h r p) = p
theorem Tak.zero {T : List Int} (ht : IsTxt T) {h : Nat} {r ro : Nat → Nat} (o : Ord T h r ro) : Tak T h r 0 ro := by
  refine ⟨fun p _ _ h1 => absurd h1 (Nat.not_lt_zero _), fun p hp h1 => ?_⟩
  have ha : ∀ q, q < T.length → eqn T h q p = true → q = p := fun q hq e => by
    by_cases hqp : q = p
    · exact hqp
    · have := eqn_far ht hq hp hqp e; omega
  have h2 : nxt T h r p = hd T h p := by
    unfold nxt hd
    refine cnt_congr fun q hq => ?_
    by_cases e : eqn T h q p = true
    · rw [ha q hq e, two_irrefl]
      cases e : ltn T h p p with
      | false => rfl
      | true => exact (ltn_irrefl e).elim
    · unfold two
      rw [show eqn T h q p = false by simpa using e, Bool.false_and, Bool.or_false]
  rw [h2, ← o.alone hp ha]
  exact o.at_ p hp
theorem Tak.skip {T : List Int} {h : Nat} {r ro ro' : Nat → Nat} (o : Ord T h r ro) {k : Nat} (hb : ro k < h) (t : Tak T h r k ro') : Tak T h r (k + 1) ro' := by
  refine ⟨fun p hp h1 h2 => t.near p hp h1 ?_, t.far⟩
  have h3 : r (p + h) ≠ k := fun e => by
    have := o.at_ _ h1
    rw [e] at this
    omega
  omega
theorem Tak.next {T : List Int} (ht : IsTxt T) {h : Nat} {r ro ro' : Nat → Nat} (o : Ord T h r ro) {k p : Nat} (hk : k < T.length) (hb : ro k = p + h) (t : Tak T h r k ro') : Tak T h r (k + 1) (fun j => if j = nxt T h r p then p else ro' j) := by
  obtain ⟨h1, h2⟩ := o.row hk
  rw [hb] at h1 h2
  refine ⟨fun q hq h3 h4 => ?_, fun q hq h3 => ?_⟩
  · show (if nxt T h r q = nxt T h r p then p else ro' (nxt T h r q)) = q
    by_cases e : q = p
    · rw [e, if_pos rfl]
    · rw [if_neg fun e2 => e (nxt_inj ht o q p hq (by omega) e2)]
      refine t.near q hq h3 ?_
      have h5 : r (q + h) ≠ k := fun e3 => by
        have := o.inj _ _ h3 h1 (e3.trans h2.symm)
        omega
      omega
  · show (if nxt T h r q = nxt T h r p then p else ro' (nxt T h r q)) = q
    by_cases e : q = p
    · omega
    · rw [if_neg fun e2 => e (nxt_inj ht o q p hq (by omega) e2)]
      exact t.far q hq h3
theorem Tak.done {T : List Int} (ht : IsTxt T) {h : Nat} {r ro ro' : Nat → Nat} (o : Ord T h r ro) (t : Tak T h r T.length ro') : Ord T (h + h) (nxt T h r) ro' := by
  refine nxt_ord ht o fun p hp => ?_
  by_cases h1 : p + h < T.length
  · exact t.near p hp h1 (o.lt _ h1)
  · exact t.far p hp (by omega)

/-- The first rows of groups, one behind the other; how many groups the first rows have. -/
def gh (E : Nat → Nat → Bool) (ro : Nat → Nat) : Nat → Nat
  | 0 => 0
  | i + 1 => if E (ro i) (ro (i + 1)) = true then gh E ro i else i + 1
def gc (E : Nat → Nat → Bool) (ro : Nat → Nat) : Nat → Nat
  | 0 => 1
  | i + 1 => if E (ro i) (ro (i + 1)) = true then gc E ro i else gc E ro i + 1
theorem gh_le (E : Nat → Nat → Bool) (ro : Nat → Nat) : ∀ i, gh E ro i ≤ i
  | 0 => Nat.le_refl _
  | i + 1 => by
    have := gh_le E ro i
    show (if E (ro i) (ro (i + 1)) = true then gh E ro i else i + 1) ≤ i + 1
    split <;> omega
theorem gc_le (E : Nat → Nat → Bool) (ro : Nat → Nat) : ∀ i, gc E ro i ≤ i + 1
  | 0 => Nat.le_refl _
  | i + 1 => by
    have := gc_le E ro i
    show (if E (ro i) (ro (i + 1)) = true then gc E ro i else gc E ro i + 1) ≤ i + 1 + 1
    split <;> omega
theorem gc_all {E : Nat → Nat → Bool} {ro : Nat → Nat} : ∀ {n}, gc E ro n = n + 1 → ∀ i, i < n → E (ro i) (ro (i + 1)) = false
  | 0, _, i, hi => absurd hi (Nat.not_lt_zero _)
  | n + 1, h, i, hi => by
    have h1 := gc_le E ro n
    have h2 : (if E (ro n) (ro (n + 1)) = true then gc E ro n else gc E ro n + 1) = n + 1 + 1 := h
    by_cases e : E (ro n) (ro (n + 1)) = true
    · rw [if_pos e] at h2; omega
    · rw [if_neg e] at h2
      by_cases e2 : i = n
      · subst e2; simpa using e
      · exact gc_all (n := n) (by omega) i (by omega)
theorem gc_of {E : Nat → Nat → Bool} {ro : Nat → Nat} : ∀ {n}, (∀ i, i < n → E (ro i) (ro (i + 1)) = false) → gc E ro n = n + 1
  | 0, _ => rfl
  | n + 1, h => by
    show (if _ then _ else _) = _
    rw [if_neg (by rw [h n (by omega)]; decide), gc_of (n := n) fun i hi => h i (by omega)]
theorem Ord.gh {T : List Int} {h : Nat} {r ro : Nat → Nat} (o : Ord T h r ro) : ∀ {i}, i < T.length → gh (eqn T h) ro i = hd T h (ro i)
  | 0, hi => by
    obtain ⟨h1, h2⟩ := o.row hi
    refine (cnt_none fun q hq => ?_).symm
    cases e : ltn T h q (ro 0) with
    | false => rfl
    | true => have := o.mono q _ hq h1 e; omega
  | i + 1, hi => by
    obtain ⟨h1, h2⟩ := o.row hi
    obtain ⟨h3, h4⟩ := o.row (i := i) (by omega)
    have ih := Ord.gh o (i := i) (by omega)
    show (if eqn T h (ro i) (ro (i + 1)) = true then Bw.gh (eqn T h) ro i else i + 1) = _
    by_cases e : eqn T h (ro i) (ro (i + 1)) = true
    · rw [if_pos e, ih, hd_eq e]
    · rw [if_neg e]
      have h5 : ltn T h (ro i) (ro (i + 1)) = true := by
        rcases ltn_tri T h (ro i) (ro (i + 1)) with h6 | h6 | h6
        · exact h6
        · exact absurd h6 e
        · have := o.mono _ _ h1 h3 h6; omega
      conv => lhs; rw [← o.cnt (k := i + 1) (by omega)]
      refine cnt_congr fun q hq => ?_
      cases e2 : ltn T h q (ro (i + 1)) with
      | true => exact decide_eq_true (by have := o.mono _ _ hq h1 e2; omega)
      | false =>
        refine decide_eq_false fun h6 => ?_
        rcases ltn_tri T h q (ro i) with h7 | h7 | h7
        · rw [ltn_trans h7 h5] at e2; cases e2
        · rw [ltn_left h7 h5] at e2; cases e2
        · have := o.mono _ _ h3 hq h7; omega
/-- Rows whose neighbours all differ are the rows. -/
theorem Ord.rows {T : List Int} (ht : IsTxt T) {h : Nat} {r ro : Nat → Nat} (o : Ord T h r ro) (hd : ∀ i, i + 1 < T.length → eqn T h (ro i) (ro (i + 1)) = false) : IsRows T ((List.range T.length).map ro) := by
  have h1 : ∀ d i, i + d + 1 < T.length → ltn T h (ro i) (ro (i + d + 1)) = true := fun d => by
    have step : ∀ i, i + 1 < T.length → ltn T h (ro i) (ro (i + 1)) = true := fun i hi => by
      obtain ⟨a1, a2⟩ := o.row hi
      obtain ⟨b1, b2⟩ := o.row (i := i) (by omega)
      rcases ltn_tri T h (ro i) (ro (i + 1)) with h6 | h6 | h6
      · exact h6
      · rw [hd i hi] at h6; cases h6
      · have := o.mono _ _ a1 b1 h6; omega
    induction d with
    | zero => exact step
    | succ d ih => intro i hi; exact ltn_trans (ih i (by omega)) (step (i + d + 1) hi)
  refine ⟨by rw [List.length_map, List.length_range], fun p hp => List.mem_map.2 ⟨r p, List.mem_range.2 (o.lt p hp), o.at_ p hp⟩, fun p hp => ?_, ?_⟩
  · obtain ⟨i, hi, rfl⟩ := List.mem_map.1 hp
    exact (o.row (List.mem_range.1 hi)).1
  · rw [List.pairwise_iff_getElem]
    intro i j hi hj hij
    rw [List.length_map, List.length_range] at hi hj
    rw [List.getElem_map, List.getElem_map, List.getElem_range, List.getElem_range]
    have h2 := h1 (j - i - 1) i (by omega)
    rw [show i + (j - i - 1) + 1 = j by omega] at h2
    exact ltn_bef ht (o.row hi).1 (o.row hj).1 h2
theorem far_all {T : List Int} (ht : IsTxt T) {h : Nat} {r ro : Nat → Nat} (o : Ord T h r ro) (hh : T.length ≤ h) (i : Nat) (hi : i + 1 < T.length) : eqn T h (ro i) (ro (i + 1)) = false := by
  cases e : eqn T h (ro i) (ro (i + 1)) with
  | false => rfl
  | true =>
    obtain ⟨a1, a2⟩ := o.row hi
    obtain ⟨b1, b2⟩ := o.row (i := i) (by omega)
    have := eqn_far ht b1 a1 (fun e2 => by rw [e2] at b2; omega) e
    omega
/-- The rows by the first symbol. -/
theorem Ord.first {T : List Int} {ro : Nat → Nat} (hat : ∀ p, p < T.length → ro (bk T p) = p) : Ord T 1 (bk T) ro :=
  ⟨fun _ hp => bk_lt hp, fun _ _ hp hq e => bk_mono hp hq (.inl (ltn_one.1 e)), hat⟩
end Bw
end Go.Proofs.Ytfncjkkdemeclaa
