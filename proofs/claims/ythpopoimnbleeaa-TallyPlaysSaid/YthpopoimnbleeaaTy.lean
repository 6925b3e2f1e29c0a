/- How many of each, as plain numbers: counts of symbols, sums below, which stands where. No function of the program stands in it. -/
namespace Go.Proofs.Ythpopoimnbleeaa
namespace Ty

/-- How many of each symbol (by its number). -/
abbrev Cnt := Nat → Nat
def of (l : List Int) : Cnt := fun s => l.count (s : Int)
def add (f : Cnt) (s v : Nat) : Cnt := fun i => if i = s then v else f i
/-- All below n; all together. -/
def bel (f : Cnt) : Nat → Nat
  | 0 => 0
  | n + 1 => bel f n + f n
def all (f : Cnt) : Nat := bel f 257
theorem add_at (f : Cnt) (s v : Nat) : add f s v s = v := if_pos rfl
theorem add_ne (f : Cnt) {s i : Nat} (v : Nat) (h : i ≠ s) : add f s v i = f i := if_neg h
theorem bel_mono (f : Cnt) {a b : Nat} (h : a ≤ b) : bel f a ≤ bel f b := by
  induction b with
  | zero => have : a = 0 := by omega
            subst this; exact Nat.le_refl _
  | succ b ih =>
    by_cases e : a = b + 1
    · subst e; exact Nat.le_refl _
    · have := ih (by omega)
      show bel f a ≤ bel f b + f b
      omega
theorem bel_at (f : Cnt) {s n : Nat} (h : s < n) : bel f s + f s ≤ bel f n := bel_mono f (a := s + 1) (b := n) h
theorem bel_add (f : Cnt) (s v : Nat) : ∀ n, bel (add f s v) n + (if s < n then f s else 0) = bel f n + if s < n then v else 0
  | 0 => rfl
  | n + 1 => by
    have ih := bel_add f s v n
    show bel (add f s v) n + add f s v n + _ = bel f n + f n + _
    by_cases h : s < n
    · rw [if_pos h, if_pos h] at ih
      rw [if_pos (by omega), if_pos (by omega), add_ne f v (by omega)]
      omega
    · rw [if_neg h, if_neg h] at ih
      by_cases h2 : s = n
      · subst h2
        rw [if_pos (by omega), if_pos (by omega), add_at]
        omega
      · rw [if_neg (by omega), if_neg (by omega), add_ne f v (by omega)]
        omega
theorem all_add (f : Cnt) {s : Nat} (v : Nat) (hs : s < 257) : all (add f s v) + f s = all f + v := by
  have := bel_add f s v 257
  rw [if_pos hs, if_pos hs] at this
  exact this
theorem of_le_all (f : Cnt) {s : Nat} (hs : s < 257) : f s ≤ all f := by
  have := bel_at f hs
  unfold all
  omega
/-- The symbol that stands at a place. -/
def fnd (f : Cnt) (k : Nat) : Nat → Option Nat
  | 0 => none
  | n + 1 => match fnd f k n with
    | some s => some s
    | none => if k < bel f (n + 1) then some n else none
theorem fnd_none (f : Cnt) (k : Nat) : ∀ n, fnd f k n = none ↔ bel f n ≤ k
  | 0 => ⟨fun _ => Nat.zero_le _, fun _ => rfl⟩
  | n + 1 => by
    have ih := fnd_none f k n
    have hm := bel_mono f (show n ≤ n + 1 by omega)
    unfold fnd
    cases e : fnd f k n with
    | some s =>
      rw [e] at ih
      have h1 : ¬ bel f n ≤ k := fun h => by have := ih.2 h; cases this
      constructor
      · intro h; cases h
      · intro h; omega
    | none =>
      by_cases h : k < bel f (n + 1)
      · simp only [if_pos h]
        constructor
        · intro h2; cases h2
        · intro h2; omega
      · simp only [if_neg h]
        constructor
        · intro _; omega
        · intro _; trivial
theorem fnd_some (f : Cnt) (k : Nat) : ∀ n s, fnd f k n = some s → s < n ∧ bel f s ≤ k ∧ k < bel f (s + 1)
  | 0, _, h => by cases h
  | n + 1, s, h => by
    unfold fnd at h
    cases e : fnd f k n with
    | some s' =>
      rw [e] at h
      injection h with h
      subst h
      obtain ⟨h1, h2, h3⟩ := fnd_some f k n s' e
      exact ⟨by omega, h2, h3⟩
    | none =>
      rw [e] at h
      by_cases h2 : k < bel f (n + 1)
      · simp only [if_pos h2] at h
        injection h with h
        subst h
        exact ⟨by omega, (fnd_none f k n).1 e, h2⟩
      · simp only [if_neg h2] at h
        cases h
/-- What Which answers: of a place as an int. -/
def wh (f : Cnt) (k : Int) : Int := if 0 ≤ k ∧ k < (all f : Int) then (match fnd f k.toNat 257 with
  | some s => (s : Int)
  | none => -1) else -1
theorem wh_none {f : Cnt} {k : Int} (h : k < 0 ∨ (all f : Int) ≤ k) : wh f k = -1 := by unfold wh; rw [if_neg (by omega)]
theorem wh_is {f : Cnt} {k : Nat} (h : k < all f) : ∃ s : Nat, wh f k = (s : Int) ∧ s < 257 ∧ bel f s ≤ k ∧ k < bel f (s + 1) := by
  unfold wh
  rw [if_pos (by omega), Int.toNat_natCast]
  cases e : fnd f k 257 with
  | none => have := (fnd_none f k 257).1 e; unfold all at h; omega
  | some s =>
    obtain ⟨h1, h2, h3⟩ := fnd_some f k 257 s e
    exact ⟨s, rfl, h1, h2, h3⟩
theorem wh_of {f : Cnt} {k s : Nat} (hs : s < 257) (h1 : bel f s ≤ k) (h2 : k < bel f (s + 1)) : wh f k = (s : Int) := by
  have hk : k < all f := by
    have := bel_mono f (show s + 1 ≤ 257 by omega)
    unfold all
    omega
  obtain ⟨t, e, _, h3, h4⟩ := wh_is hk
  rw [e]
  rcases Nat.lt_trichotomy t s with h | h | h
  · have := bel_mono f (show t + 1 ≤ s by omega); omega
  · rw [h]
  · have := bel_mono f (show s + 1 ≤ t by omega); omega
/-- The counts of a list. -/
theorem of_nil (s : Nat) : of [] s = 0 := rfl
theorem of_app (l : List Int) (x : Nat) (s : Nat) : of (l ++ [(x : Int)]) s = of l s + if x = s then 1 else 0 := by
  unfold of
  rw [List.count_append, List.count_singleton]
  congr 1
  by_cases h : x = s
  · subst h; simp
  · rw [if_neg h, if_neg]
    simp
    omega
theorem bel_of_nil : ∀ n, bel (of []) n = 0
  | 0 => rfl
  | n + 1 => by show bel (of []) n + of [] n = 0; rw [bel_of_nil n]; rfl
theorem bel_of_app (l : List Int) (x : Nat) : ∀ n, bel (of (l ++ [(x : Int)])) n = bel (of l) n + if x < n then 1 else 0
  | 0 => rfl
  | n + 1 => by
    show bel (of (l ++ [(x : Int)])) n + of (l ++ [(x : Int)]) n = bel (of l) n + of l n + _
    rw [bel_of_app l x n, of_app]
    by_cases h1 : x < n
    · rw [if_pos h1, if_neg (by omega), if_pos (by omega)]; omega
    · by_cases h2 : x = n
      · rw [if_neg h1, if_pos h2, if_pos (by omega)]; omega
      · rw [if_neg h1, if_neg h2, if_neg (by omega)]; omega
theorem all_of : ∀ (n : Nat) (l : List Nat), l.length = n → (∀ x ∈ l, x < 257) → all (of (l.map fun x : Nat => (x : Int))) = n
  | 0, l, hl, _ => by
    obtain rfl := List.eq_nil_of_length_eq_zero hl
    exact bel_of_nil 257
  | n + 1, l, hl, h => by
    obtain ⟨l', x, rfl⟩ : ∃ l' x, l = l' ++ [x] := ⟨l.dropLast, l.getLast (fun e => by subst e; cases hl), (List.dropLast_concat_getLast _).symm⟩
    have h1 := all_of n l' (by rw [List.length_append] at hl; simpa using hl) (fun y hy => h y (List.mem_append_left _ hy))
    have h2 := h x (List.mem_append_right _ (List.mem_singleton.2 rfl))
    rw [List.map_append]
    show bel (of (l'.map _ ++ [(x : Int)])) 257 = n + 1
    rw [bel_of_app, if_pos h2]
    unfold all at h1
    rw [h1]
/-- A place as it is asked: below 0 as 0, above 256 as 257. -/
def clamp (q : Int) : Nat := if q ≤ 0 then 0 else if 257 ≤ q then 257 else q.toNat
end Ty
end Go.Proofs.Ythpopoimnbleeaa
