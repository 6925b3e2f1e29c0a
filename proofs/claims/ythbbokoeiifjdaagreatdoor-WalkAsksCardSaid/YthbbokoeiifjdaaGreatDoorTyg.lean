/- How many of each, as plain numbers: counts of symbols, sums below, which stands where. No function of the program stands in it. Sums of counts and symbols that are less. No function of the program stands in it. Tallies in memory, and what package tally's functions do: contracts of the walk. Which of a tally: a search over the sums (sort.Search by the library's contract): contracts of the walk. -/
import Derived.Test.YthbbokoeiifjdaaGreatDoorBwg
import Derived.Test.YthbbokoeiifjdaaGreatDoorAre
import Derived.Shelf.SlSorted.Search
namespace Go.Proofs.YthbbokoeiifjdaaGreatDoor
namespace Ty

/-- How many of each symbol (by its number). -/
abbrev Cnt := Nat → Nat
def of (l : List Int) : Cnt := fun s => l.count (s : Int)
def add (f : Cnt) (s v : Nat) : Cnt := fun i => if i = s then v else f i
/-- All below n; all together. -/
def bel (f : Cnt) : Nat → Nat
  | 0 => 0
  | n + 1 => bel f n + f n
def all (f : Cnt) : Nat := bel f 257
theorem add_at (f : Cnt) (s v : Nat) : add f s v s = v := if_pos rfl
theorem add_ne (f : Cnt) {s i : Nat} (v : Nat) (h : i ≠ s) : add f s v i = f i := if_neg h
theorem bel_mono (f : Cnt) {a b : Nat} (h : a ≤ b) : bel f a ≤ bel f b := by
  induction b with
  | zero => have : a = 0 := by omega
            subst this; exact Nat.le_refl _
  | succ b ih =>
    by_cases e : a = b + 1
    · subst e; exact Nat.le_refl _
    · have := ih (by omega)
      show bel f a ≤ bel f b + f b
      omega
theorem bel_at (f : Cnt) {s n : Nat} (h : s < n) : bel f s + f s ≤ bel f n := bel_mono f (a := s + 1) (b := n) h
theorem bel_add (f : Cnt) (s v : Nat) : ∀ n, bel (add f s v) n + (if s < n then f s else 0) = bel f n + if s < n then v else 0
  | 0 => rfl
  | n + 1 => by
    have ih := bel_add f s v n
    show bel (add f s v) n + add f s v n + _ = bel f n + f n + _
    by_cases h : s < n
    · rw [if_pos h, if_pos h] at ih
      rw [if_pos (by omega), if_pos (by omega), add_ne f v (by omega)]
      omega
    · rw [if_neg h, if_neg h] at ih
      by_cases h2 : s = n
      · subst h2
        rw [if_pos (by omega), if_pos (by omega), add_at]
        omega
      · rw [if_neg (by omega), if_neg (by omega), add_ne f v (by omega)]
        omega
theorem all_add (f : Cnt) {s : Nat} (v : Nat) (hs : s < 257) : all (add f s v) + f s = all f + v := by
  have := bel_add f s v 257
  rw [if_pos hs, if_pos hs] at this
  exact this
theorem of_le_all (f : Cnt) {s : Nat} (hs : s < 257) : f s ≤ all f := by
  have := bel_at f hs
  unfold all
  omega
/-- The symbol that stands at a place. -/
def fnd (f : Cnt) (k : Nat) : Nat → Option Nat
  | 0 => none
  | n + 1 => match fnd f k n with
    | some s => some s
    | none => if k < bel f (n + 1) then some n else none
theorem fnd_none (f : Cnt) (k : Nat) : ∀ n, fnd f k n = none ↔ bel f n ≤ k
  | 0 => ⟨fun _ => Nat.zero_le _, fun _ => rfl⟩
  | n + 1 => by
    have ih := fnd_none f k n
    have hm := bel_mono f (show n ≤ n + 1 by omega)
    unfold fnd
    cases e : fnd f k n with
    | some s =>
      rw [e] at ih
      have h1 : ¬ bel f n ≤ k := fun h => by have := ih.2 h; cases this
      constructor
      · intro h; cases h
      · intro h; omega
    | none =>
      by_cases h : k < bel f (n + 1)
      · simp only [if_pos h]
        constructor
        · intro h2; cases h2
        · intro h2; omega
      · simp only [if_neg h]
        constructor
        · intro _; omega
        · intro _; trivial
theorem fnd_some (f : Cnt) (k : Nat) : ∀ n s, fnd f k n = some s → s < n ∧ bel f s ≤ k ∧ k < bel f (s + 1)
  | 0, _, h => by cases h
  | n + 1, s, h => by
    unfold fnd at h
    cases e : fnd f k n with
    | some s' =>
      rw [e] at h
      injection h with h
      subst h
      obtain ⟨h1, h2, h3⟩ := fnd_some f k n s' e
      exact ⟨by omega, h2, h3⟩
    | none =>
      rw [e] at h
      by_cases h2 : k < bel f (n + 1)
      · simp only [if_pos h2] at h
        injection h with h
        subst h
        exact ⟨by omega, (fnd_none f k n).1 e, h2⟩
      · simp only [if_neg h2] at h
        cases h
/-- What Which answers: of a place as an int. -/
def wh (f : Cnt) (k : Int) : Int := if 0 ≤ k ∧ k < (all f : Int) then (match fnd f k.toNat 257 with
  | some s => (s : Int)
  | none => -1) else -1
theorem wh_none {f : Cnt} {k : Int} (h : k < 0 ∨ (all f : Int) ≤ k) : wh f k = -1 := by unfold wh; rw [if_neg (by omega)]
theorem wh_is {f : Cnt} {k : Nat} (h : k < all f) : ∃ s : Nat, wh f k = (s : Int) ∧ s < 257 ∧ bel f s ≤ k ∧ k < bel f (s + 1) := by
  unfold wh
  rw [if_pos (by omega), Int.toNat_natCast]
  cases e : fnd f k 257 with
  | none => have := (fnd_none f k 257).1 e; unfold all at h; omega
  | some s =>
    obtain ⟨h1, h2, h3⟩ := fnd_some f k 257 s e
    exact ⟨s, rfl, h1, h2, h3⟩
theorem wh_of {f : Cnt} {k s : Nat} (hs : s < 257) (h1 : bel f s ≤ k) (h2 : k < bel f (s + 1)) : wh f k = (s : Int) := by
  have hk : k < all f := by
    have := bel_mono f (show s + 1 ≤ 257 by omega)
    unfold all
    omega
  obtain ⟨t, e, _, h3, h4⟩ := wh_is hk
  rw [e]
  rcases Nat.lt_trichotomy t s with h | h | h
  · have := bel_mono f (show t + 1 ≤ s by omega); omega
  · rw [h]
  · have := bel_mono f (show s + 1 ≤ t by omega); omega
/-- The counts of a list. -/
theorem of_nil (s : Nat) : of [] s = 0 := rfl
theorem of_app (l : List Int) (x : Nat) (s : Nat) : of (l ++ [(x : Int)]) s = of l s + if x = s then 1 else 0 := by
  unfold of
  rw [List.count_append, List.count_singleton]
  congr 1
  by_cases h : x = s
  · subst h; simp
  · rw [if_neg h, if_neg]
    simp
    omega
theorem bel_of_nil : ∀ n, bel (of []) n = 0
  | 0 => rfl
  | n + 1 => by show bel (of []) n + of [] n = 0; rw [bel_of_nil n]; rfl
theorem bel_of_app (l : List Int) (x : Nat) : ∀ n, bel (of (l ++ [(x : Int)])) n = bel (of l) n + if x < n then 1 else 0
  | 0 => rfl
  | n + 1 => by
    show bel (of (l ++ [(x : Int)])) n + of (l ++ [(x : Int)]) n = bel (of l) n + of l n + _
    rw [bel_of_app l x n, of_app]
    by_cases h1 : x < n
    · rw [if_pos h1, if_neg (by omega), if_pos (by omega)]; omega
    · by_cases h2 : x = n
      · rw [if_neg h1, if_pos h2, if_pos (by omega)]; omega
      · rw [if_neg h1, if_neg h2, if_neg (by omega)]; omega
theorem all_of : ∀ (n : Nat) (l : List Nat), l.length = n → (∀ x ∈ l, x < 257) → all (of (l.map fun x : Nat => (x : Int))) = n
  | 0, l, hl, _ => by
    obtain rfl := List.eq_nil_of_length_eq_zero hl
    exact bel_of_nil 257
  | n + 1, l, hl, h => by
    obtain ⟨l', x, rfl⟩ : ∃ l' x, l = l' ++ [x] := ⟨l.dropLast, l.getLast (fun e => by subst e; cases hl), (List.dropLast_concat_getLast _).symm⟩
    have h1 := all_of n l' (by rw [List.length_append] at hl; simpa using hl) (fun y hy => h y (List.mem_append_left _ hy))
    have h2 := h x (List.mem_append_right _ (List.mem_singleton.2 rfl))
    rw [List.map_append]
    show bel (of (l'.map _ ++ [(x : Int)])) 257 = n + 1
    rw [bel_of_app, if_pos h2]
    unfold all at h1
    rw [h1]
/-- A place as it is asked: below 0 as 0, above 256 as 257. -/
def clamp (q : Int) : Nat := if q ≤ 0 then 0 else if 257 ≤ q then 257 else q.toNat
end Ty
end Go.Proofs.YthbbokoeiifjdaaGreatDoor
namespace Go.Proofs.YthbbokoeiifjdaaGreatDoor
namespace Bw

theorem bel_low {l : List Int} (h : ∀ s ∈ l, 0 ≤ s) : ∀ n : Nat, Ty.bel (Ty.of l) n = low l (n : Int)
  | 0 => (low_bot h).symm
  | n + 1 => by
    show Ty.bel (Ty.of l) n + Ty.of l n = _
    rw [bel_low h n, show ((n + 1 : Nat) : Int) = (n : Int) + 1 by omega, low_next]
    rfl
theorem low_all {l : List Int} {s : Int} (h : ∀ x ∈ l, x < s) : low l s = l.length := by
  unfold low
  rw [List.countP_eq_length]
  intro a ha
  exact decide_eq_true (h a ha)
theorem all_low {l : List Int} (h : ∀ s ∈ l, 0 ≤ s ∧ s ≤ 256) : Ty.all (Ty.of l) = l.length := by
  unfold Ty.all
  rw [bel_low (fun s hs => (h s hs).1)]
  exact low_all fun x hx => by have := h x hx; omega
/-- The first symbol of a row, by the counts. -/
theorem wh_first {T : List Int} (h : ∀ s ∈ T, 0 ≤ s ∧ s ≤ 256) {p : Nat} (hp : p < T.length) : Ty.wh (Ty.of T) (row T p) = T.getD p 0 := by
  obtain ⟨h1, h2⟩ := row_block hp
  have hm : T.getD p 0 ∈ T := by rw [List.getD_eq_getElem?_getD, List.getElem?_eq_getElem hp]; exact List.getElem_mem hp
  obtain ⟨h3, h4⟩ := h _ hm
  obtain ⟨n, hn⟩ := Int.eq_ofNat_of_zero_le h3
  rw [hn] at h1 h2 ⊢
  have hb := bel_low (fun s hs => (h s hs).1) n
  have hb2 := bel_low (fun s hs => (h s hs).1) (n + 1)
  rw [show ((n + 1 : Nat) : Int) = (n : Int) + 1 by omega, low_next] at hb2
  exact Ty.wh_of (by omega) (by omega) (by omega)
end Bw
end Go.Proofs.YthbbokoeiifjdaaGreatDoor
namespace Go.Proofs.YthbbokoeiifjdaaGreatDoor
open Go Go.RowKit Go.ChangeAt

/-- Block t of the memory holds the 258 numbers b. -/
def Tab (w : World) (t : Nat) (b : Nat → Int) : Prop :=
  ∃ c, w.heap[t]? = some (.cells c 87 (0, 0)) ∧ c.size = 258 ∧ ∀ i, i ≤ 257 → c[i]? = some (.int .i64 (b i))
theorem Tab.cell {w : World} {t : Nat} {b : Nat → Int} (h : Tab w t b) {i : Nat} (hi : i ≤ 257) : w.cell? ⟨t, i, none⟩ = some (.int .i64 (b i)) := by
  obtain ⟨c, h1, _, h3⟩ := h
  exact (cell_of h1).trans (h3 i hi)
theorem Tab.free {w : World} {t : Nat} {b : Nat → Int} (h : Tab w t b) (i : Nat) : w.frozen? ⟨t, i, none⟩ = false := by
  obtain ⟨c, h1, _, _⟩ := h
  exact free_of h1
theorem Tab.lt {w : World} {t : Nat} {b : Nat → Int} (h : Tab w t b) : t < w.heap.size := by
  obtain ⟨c, h1, _, _⟩ := h
  exact (Array.getElem?_eq_some_iff.1 h1).1
theorem Tab.stay {w w' : World} {t : Nat} {b : Nat → Int} {S : Nat → Prop} (h : Tab w t b) (hs : Stay S w w') (hn : ¬ S t) : Tab w' t b := by
  obtain ⟨c, h1, h2, h3⟩ := h
  exact ⟨c, hs.kept h1 hn, h2, h3⟩
theorem Tab.below {w w' : World} {t : Nat} {b : Nat → Int} (h : Tab w t b) (hs : Below w.heap.size w w') : Tab w' t b := h.stay (Stay.of_below (S := fun _ => False) hs) (fun e => e)
theorem Tab.set {w : World} {t : Nat} {b : Nat → Int} (h : Tab w t b) (i : Nat) (v : Int) : Tab (w.setCell ⟨t, i, none⟩ (.int .i64 v)) t (fun j => if j = i then v else b j) := by
  obtain ⟨c, h1, h2, h3⟩ := h
  refine ⟨_, set_of h1 _, by rw [Array.size_setIfInBounds]; exact h2, fun j hj => ?_⟩
  show _ = some (Value.int .i64 (if j = i then v else b j))
  by_cases e : j = i
  · subst e
    rw [if_pos rfl, Array.getElem?_setIfInBounds_self_of_lt (by omega)]
  · rw [if_neg e, Array.getElem?_setIfInBounds_ne (Ne.symm e)]
    exact h3 j hj
theorem Tab.congr {w : World} {t : Nat} {b b' : Nat → Int} (h : Tab w t b) (e : ∀ i, i ≤ 257 → b i = b' i) : Tab w t b' := by
  obtain ⟨c, h1, h2, h3⟩ := h
  exact ⟨c, h1, h2, fun i hi => by rw [h3 i hi, e i hi]⟩
/-- Of a symbol. -/
theorem tis_yes (s : Int) (w : World) (h0 : 0 ≤ s) (h1 : s < 257) : Calls Tryz.prog 63 #[.int .i64 s] w fun e w' => e = .returned (.bool true) ∧ w = w' := by
  have d0 : decide (0 ≤ s) = true := decide_eq_true h0
  have d1 : decide (s < 257) = true := decide_eq_true h1
  go_enter Tryz.func63, Tryz.ntmps63
  go_wp2
  go_ret
  exact ⟨rfl, rfl⟩
theorem tis_no (s : Int) (w : World) (h : ¬ (0 ≤ s ∧ s < 257)) : Calls Tryz.prog 63 #[.int .i64 s] w fun e w' => e = .returned (.bool false) ∧ w = w' := by
  by_cases h0 : 0 ≤ s
  · have h1 : ¬ s < 257 := by omega
    clear h
    go_enter Tryz.func63, Tryz.ntmps63
    go_wp2
    go_ret
    exact ⟨rfl, rfl⟩
  · clear h
    go_enter Tryz.func63, Tryz.ntmps63
    go_wp2
    go_ret
    exact ⟨rfl, rfl⟩
theorem clamp_at (q : Int) : Ty.clamp q = (min (max q 0) 257).toNat := by
  unfold Ty.clamp
  split
  · omega
  · split <;> omega
theorem clamp_le (q : Int) : Ty.clamp q ≤ 257 := by rw [clamp_at]; omega
theorem clamp_nat {n : Nat} (h : n ≤ 257) : Ty.clamp (n : Int) = n := by rw [clamp_at]; omega
set_option maxRecDepth 100000 in
theorem tbelow_raw {b : Nat → Int} {t : Nat} (q : Int) (w : World) (h : Tab w t b) : Calls Tryz.prog 38 #[.pointer (some ⟨t, 0, none⟩), .int .i64 q] w fun e w' => e = .returned (.int .i64 (b (Ty.clamp q))) ∧ w = w' := by
  have c0 : w.cell? ⟨t, (min (max q 0) 257).toNat, none⟩ = some (.int .i64 (b (Ty.clamp q))) := by
    rw [← clamp_at]; exact h.cell (clamp_le q)
  clear h
  obtain ⟨v, hv⟩ : ∃ v, b (Ty.clamp q) = v := ⟨_, rfl⟩
  rw [hv] at c0 ⊢
  clear hv
  go_enter Tryz.func38, Tryz.ntmps38
  go_wp2
  go_ret
  exact ⟨rfl, rfl⟩
theorem tbelow_nil (q : Int) (w : World) : Calls Tryz.prog 38 #[.pointer none, .int .i64 q] w fun e w' => e = .returned (.int .i64 0) ∧ w = w' := by
  go_enter Tryz.func38, Tryz.ntmps38
  go_wp2
  go_ret
  exact ⟨rfl, rfl⟩
theorem ylen_raw {b : Nat → Int} {t : Nat} (w : World) (h : Tab w t b) : Calls Tryz.prog 54 #[.pointer (some ⟨t, 0, none⟩)] w fun e w' => e = .returned (.int .i64 (b 257)) ∧ w = w' := by
  have key := tbelow_raw 257 w h
  rw [show Ty.clamp 257 = 257 from rfl] at key
  go_enter Tryz.func54, Tryz.ntmps54
  go_wp2_with fail
  (with_reducible refine key.mono ?_); rintro e w' ⟨rfl, rfl⟩
  go_wp2_with fail
  go_ret
  exact ⟨rfl, rfl⟩
theorem ylen_nil (w : World) : Calls Tryz.prog 54 #[.pointer none] w fun e w' => e = .returned (.int .i64 0) ∧ w = w' := by
  have key := tbelow_nil 257 w
  go_enter Tryz.func54, Tryz.ntmps54
  go_wp2_with fail
  (with_reducible refine key.mono ?_); rintro e w' ⟨rfl, rfl⟩
  go_wp2_with fail
  go_ret
  exact ⟨rfl, rfl⟩
/-- Block t of the memory is a tally of the counts f. -/
structure Tal (w : World) (t : Nat) (f : Ty.Cnt) : Prop where
  tab : Tab w t (fun i => (Ty.bel f i : Int))
  few : Ty.all f ≤ 2147483648
theorem Tal.stay {w w' : World} {t : Nat} {f : Ty.Cnt} {S : Nat → Prop} (h : Tal w t f) (hs : Stay S w w') (hn : ¬ S t) : Tal w' t f := ⟨h.tab.stay hs hn, h.few⟩
theorem Tal.below {w w' : World} {t : Nat} {f : Ty.Cnt} (h : Tal w t f) (hs : Below w.heap.size w w') : Tal w' t f := ⟨h.tab.below hs, h.few⟩
theorem Tal.lt {w : World} {t : Nat} {f : Ty.Cnt} (h : Tal w t f) : t < w.heap.size := h.tab.lt
theorem Tal.bel_le {w : World} {t : Nat} {f : Ty.Cnt} (h : Tal w t f) {n : Nat} (hn : n ≤ 257) : Ty.bel f n ≤ 2147483648 := Nat.le_trans (Ty.bel_mono f hn) h.few
theorem tbelow {f : Ty.Cnt} {t : Nat} (q : Int) (w : World) (h : Tal w t f) : Calls Tryz.prog 38 #[.pointer (some ⟨t, 0, none⟩), .int .i64 q] w fun e w' => e = .returned (.int .i64 (Ty.bel f (Ty.clamp q))) ∧ w = w' := tbelow_raw q w h.tab
theorem ylen {f : Ty.Cnt} {t : Nat} (w : World) (h : Tal w t f) : Calls Tryz.prog 54 #[.pointer (some ⟨t, 0, none⟩)] w fun e w' => e = .returned (.int .i64 (Ty.all f)) ∧ w = w' := ylen_raw w h.tab
abbrev I64 (k : Int) : Prop := -9223372036854775808 ≤ k ∧ k ≤ 9223372036854775807
/-- What the cells are while a number is added. -/
def adg (f : Ty.Cnt) (n : Nat) (k : Int) (g : Nat) : Nat → Int := fun j => if n < j ∧ j < g then (Ty.bel f j : Int) + k else (Ty.bel f j : Int)
theorem infoT : (Tryz.prog.info? 87).map (fun i => i.zero) = some (some (.agg (Array.replicate 258 (.int .i64 0)))) := by kernel_rfl
theorem zeroT : ∃ zs : Array Value, (∀ w, (zeroValue 87).run Tryz.prog w = .ok (.agg zs) w) ∧ zs.size = 258 ∧ ∀ j, j ≤ 257 → zs[j]? = some (.int .i64 0) := by
  refine ⟨Array.replicate 258 (.int .i64 0), fun w => ?_, Array.size_replicate, fun j hj => by rw [Array.getElem?_replicate, if_pos (by omega)]⟩
  obtain ⟨i, hi, hz⟩ := Option.map_eq_some_iff.1 infoT
  simp [zeroValue, typeInfo, hi, hz]
theorem all_good {l : List Int} (h : ∀ s ∈ l, 0 ≤ s ∧ s ≤ 256) : Ty.all (Ty.of l) = l.length := by
  have e : (l.map Int.toNat).map (fun x : Nat => (x : Int)) = l := by
    rw [List.map_map]
    conv => rhs; rw [← List.map_id l]
    refine List.map_congr_left fun x hx => ?_
    have := h x hx
    show ((x.toNat : Nat) : Int) = x
    omega
  have h2 := Ty.all_of l.length (l.map Int.toNat) (List.length_map _) (fun x hx => by
    obtain ⟨y, hy, rfl⟩ := List.mem_map.1 hx
    have := h y hy
    omega)
  rw [e] at h2
  exact h2
/-- What the cells are while symbols are counted, while the counts are summed. -/
def shc (f : Ty.Cnt) : Nat → Int := fun j => if j = 0 then 0 else (f (j - 1) : Int)
def pfc (f : Ty.Cnt) (k : Nat) : Nat → Int := fun j => if j ≤ k then (Ty.bel f j : Int) else (f (j - 1) : Int)
theorem getD_take_succ {l : List Int} {k : Nat} (hk : k < l.length) : l.take (k + 1) = l.take k ++ [l.getD k 0] := by
  rw [List.take_succ_eq_append_getElem hk, List.getD_eq_getElem?_getD, List.getElem?_eq_getElem hk]
  rfl
theorem of_mono (l : List Int) (m s : Nat) : Ty.of (l.take m) s ≤ m := by
  have h1 : List.count (s : Int) (l.take m) ≤ (l.take m).length := List.count_le_length
  have h2 : (l.take m).length ≤ m := by rw [List.length_take]; omega
  exact Nat.le_trans h1 h2
set_option maxRecDepth 100000 in
set_option maxHeartbeats 1600000 in
theorem tnew_any {a : Option Addr} {cap n : Nat} {l : List Int} (w : World) (h : RdL w a cap l) (hl : l.length = n) (hn : n ≤ 1000000) :
    Calls Tryz.prog 43 #[.slice a n cap] w fun e w' =>
      (((∀ s ∈ l, 0 ≤ s ∧ s ≤ 256) ∧ e = .returned (.tuple #[.pointer (some ⟨w.heap.size, 0, none⟩), .int .i64 0]) ∧ Tal w' w.heap.size (Ty.of l)) ∨
        (¬ (∀ s ∈ l, 0 ≤ s ∧ s ≤ 256) ∧ e = .returned (.tuple #[.pointer none, .int .i64 1]))) ∧ Below w.heap.size w w' := by
  obtain ⟨zs, hz, hzn, hzc⟩ := zeroT
  have hB0 : Below w.heap.size w (w.alloc (Obj.cells zs 87)) := (Below.refl _ _).alloc (Nat.le_refl _) _
  have hT0 : Tab (w.alloc (Obj.cells zs 87)) w.heap.size (shc (Ty.of [])) := ⟨zs, alloc_of, hzn, fun i hi => by
    rw [hzc i hi]
    unfold shc
    by_cases e : i = 0
    · rw [if_pos e]
    · rw [if_neg e]; rfl⟩
  have hcell : 0 < n → ∃ b off, a = some ⟨b, off, none⟩ ∧ b < w.heap.size ∧ ∀ i, i < n → w.cell? ⟨b, off + i, none⟩ = some (.int .i64 (l.getD i 0)) := fun hp => by
    obtain ⟨b, off, h1, h2, h3⟩ := h.2.2.2 (by omega)
    exact ⟨b, off, h1, h2, fun i hi => h3 i (by omega)⟩
  have HC := Lib.hid hcell
  have HL := Lib.hid hl
  have HT0 := Lib.hid hT0
  have HB0 := Lib.hid hB0
  clear h hcell hl hT0 hB0 hzn hzc
  go_enter Tryz.func43, Tryz.ntmps43
  go_wp2_with fail
  clear hz
  obtain ⟨T, hT⟩ : ∃ T, w.heap.size = T := ⟨_, rfl⟩
  rw [hT] at HT0 HB0 ⊢
  have HTT := Lib.hid hT
  clear hT
  go_loopw [6, 12] (fun _ i wr => ∃ m : Nat, m ≤ n ∧ i = .int .i64 m ∧ (∀ s ∈ l.take m, 0 ≤ s ∧ s ≤ 256) ∧ Tab wr T (shc (Ty.of (l.take m))) ∧ Below T w wr) (fun _ i _ => n - (intOf i).toNat)
  case atStart => exact ⟨0, Nat.zero_le _, rfl, (fun s hs => by cases hs), HT0.out, HB0.out⟩
  case round =>
    clear HT0 HB0
    obtain ⟨m, hm, rfl, hg, hT, hB⟩ := hrel
    by_cases hlt : m < n
    · have hlt' : (m : Int) < n := by omega
      have hml : m < l.length := by rw [HL.out]; exact hlt
      obtain ⟨b, off, rfl, hbb, hc⟩ := HC.out (by omega)
      have hbT : b < T := by rw [← HTT.out]; exact hbb
      have c0 := (hB.cell (p := ⟨b, off + m, none⟩) hbT).trans (hc m hlt)
      have htk := getD_take_succ hml
      obtain ⟨x, hx⟩ : ∃ x, l.getD m 0 = x := ⟨_, rfl⟩
      rw [hx] at c0 htk
      have hmem : x ∈ l := by rw [← hx, List.getD_eq_getElem?_getD, List.getElem?_eq_getElem hml]; exact List.getElem_mem hml
      by_cases hs : 0 ≤ x ∧ x < 257
      · obtain ⟨s, rfl⟩ : ∃ s : Nat, x = s := ⟨x.toNat, by omega⟩
        have k1 := tis_yes (s : Int) wr hs.1 hs.2
        have hs257 : s + 1 ≤ 257 := by omega
        have c1 := hT.cell hs257
        have c2 := hT.free (s + 1)
        have hle := of_mono l m s
        have e0 : shc (Ty.of (l.take m)) (s + 1) = (Ty.of (l.take m) s : Int) := rfl
        rw [e0] at c1
        obtain ⟨y, hy⟩ : ∃ y, Ty.of (l.take m) s = y := ⟨_, rfl⟩
        rw [hy] at c1 hle
        have hT2 : Tab (wr.setCell ⟨T, s + 1, none⟩ (.int .i64 ((y : Int) + 1))) T (shc (Ty.of (l.take (m + 1)))) := (hT.set (s + 1) _).congr (fun i hi => by
          show (if i = s + 1 then (y : Int) + 1 else shc (Ty.of (l.take m)) i) = _
          unfold shc
          by_cases h8 : i = s + 1
          · subst h8
            rw [if_pos rfl, if_neg (by omega), htk, Nat.add_sub_cancel, Ty.of_app, if_pos rfl, hy]
            omega
          · rw [if_neg h8]
            by_cases h7 : i = 0
            · rw [if_pos h7, if_pos h7]
            · rw [if_neg h7, if_neg h7, htk, Ty.of_app, if_neg (by omega)]
              omega)
        have hB2 : Below T w (wr.setCell ⟨T, s + 1, none⟩ (.int .i64 ((y : Int) + 1))) := hB.setCell (Nat.le_refl _) _
        have hg2 : ∀ z ∈ l.take (m + 1), 0 ≤ z ∧ z ≤ 256 := fun z hz => by
          rw [htk] at hz
          rcases List.mem_append.1 hz with hz | hz
          · exact hg z hz
          · rw [List.mem_singleton.1 hz]; omega
        have HT2 := Lib.hid hT2
        have HB2 := Lib.hid hB2
        have HG2 := Lib.hid hg2
        obtain ⟨hs0, hs1⟩ := hs
        clear hT hB hT2 hB2 hg hg2 hc hx htk hmem e0 hy hml
        go_wp2_with fail
        (with_reducible refine k1.mono ?_); rintro e w' ⟨rfl, rfl⟩
        clear k1
        go_wp2_with fail
        go_region
        all_goals go_wp2
        all_goals go_roundw
        case rel => exact ⟨m + 1, by omega, by go_num, HG2.out, HT2.out.below ((Below.refl _ _).drew), HB2.out.drew⟩
        case measure => simp [intOf]; omega
      · have k1 := tis_no x wr hs
        have hbad : ¬ (∀ s ∈ l, 0 ≤ s ∧ s ≤ 256) := fun h9 => by have := h9 x hmem; omega
        have HBAD := Lib.hid hbad
        have HB := Lib.hid hB
        clear hT hB hg hc hx htk hmem hml hbad hs
        go_wp2_with fail
        (with_reducible refine k1.mono ?_); rintro e w' ⟨rfl, rfl⟩
        clear k1
        go_wp2_with fail
        go_ret2
        rw [HTT.out]
        exact ⟨.inr ⟨HBAD.out, rfl⟩, HB.out⟩
    · have hlt' : ¬ (m : Int) < n := by omega
      have hfin : l.take m = l := List.take_of_length_le (by rw [HL.out]; omega)
      rw [hfin] at hg hT
      have hall := all_good hg
      rw [HL.out] at hall
      have hbl : ∀ k, k ≤ 257 → Ty.bel (Ty.of l) k ≤ n := fun k hk => by rw [← hall]; exact Ty.bel_mono _ hk
      have HBL := Lib.hid hbl
      have HG := Lib.hid hg
      have HALL := Lib.hid hall
      have hT1 : Tab wr T (pfc (Ty.of l) 0) := hT.congr (fun i _ => by
        unfold shc pfc
        by_cases h7 : i = 0
        · subst h7; rfl
        · rw [if_neg h7, if_neg (by omega)])
      have HT1 := Lib.hid hT1
      have HB1 := Lib.hid hB
      clear hT hB hg hall hbl hT1 hfin
      go_wp2_with fail
      go_loopw [7, 31] (fun _ i wr => ∃ k : Nat, k ≤ 257 ∧ i = .int .i64 k ∧ Tab wr T (pfc (Ty.of l) k) ∧ Below T w wr) (fun _ i _ => 257 - (intOf i).toNat)
      case atStart => exact ⟨0, Nat.zero_le _, rfl, HT1.out, HB1.out⟩
      case round =>
        clear HT1 HB1
        obtain ⟨k, hk, rfl, hT, hB⟩ := hrel
        by_cases hlt2 : k < 257
        · have hlt3 : (k : Int) < 257 := by omega
          have c1 := hT.cell (i := k + 1) (by omega)
          have c2 := hT.cell (i := k) (by omega)
          have c3 := hT.free (k + 1)
          have e1 : pfc (Ty.of l) k (k + 1) = (Ty.of l k : Int) := by unfold pfc; rw [if_neg (by omega)]; rfl
          have e2 : pfc (Ty.of l) k k = (Ty.bel (Ty.of l) k : Int) := by unfold pfc; rw [if_pos (Nat.le_refl _)]
          have e3 : Ty.bel (Ty.of l) (k + 1) = Ty.bel (Ty.of l) k + Ty.of l k := rfl
          have hle := HBL.out (k + 1) (by omega)
          rw [e1] at c1
          rw [e2] at c2
          obtain ⟨y, hy⟩ : ∃ y, Ty.of l k = y := ⟨_, rfl⟩
          obtain ⟨u, hu⟩ : ∃ u, Ty.bel (Ty.of l) k = u := ⟨_, rfl⟩
          rw [hy] at c1 e3
          rw [hu] at c2 e3
          rw [e3] at hle
          have hle2 : y ≤ 1000000 := by omega
          have hle3 : u ≤ 1000000 := by omega
          have hT2 : Tab (wr.setCell ⟨T, k + 1, none⟩ (.int .i64 ((y : Int) + (u : Int)))) T (pfc (Ty.of l) (k + 1)) := (hT.set (k + 1) _).congr (fun i hi => by
            show (if i = k + 1 then (y : Int) + (u : Int) else pfc (Ty.of l) k i) = _
            unfold pfc
            by_cases h8 : i = k + 1
            · subst h8
              rw [if_pos rfl, if_pos (Nat.le_refl _), e3]
              omega
            · rw [if_neg h8]
              by_cases h7 : i ≤ k
              · rw [if_pos h7, if_pos (by omega)]
              · rw [if_neg h7, if_neg (by omega)])
          have hB2 : Below T w (wr.setCell ⟨T, k + 1, none⟩ (.int .i64 ((y : Int) + (u : Int)))) := hB.setCell (Nat.le_refl _) _
          have HT2 := Lib.hid hT2
          have HB2 := Lib.hid hB2
          clear hT hB hT2 hB2 hy hu e1 e2 e3 hle
          go_wp2_with fail
          go_region
          all_goals go_wp2
          all_goals go_roundw
          case rel => exact ⟨k + 1, by omega, by go_num, HT2.out.below ((Below.refl _ _).drew), HB2.out.drew⟩
          case measure => simp [intOf]; omega
        · have hlt3 : ¬ (k : Int) < 257 := by omega
          have hk7 : k = 257 := by omega
          subst hk7
          have hfin : Tal wr T (Ty.of l) := ⟨hT.congr (fun i hi => by unfold pfc; rw [if_pos hi]), by rw [HALL.out]; omega⟩
          have HF := Lib.hid hfin
          have HB := Lib.hid hB
          clear hT hB hfin
          go_wp2_with fail
          go_ret2
          rw [HTT.out]
          exact ⟨.inl ⟨HG.out, rfl, HF.out⟩, HB.out⟩
end Go.Proofs.YthbbokoeiifjdaaGreatDoor
namespace Go.Proofs.YthbbokoeiifjdaaGreatDoor
open Go Go.RowKit Go.ChangeAt Go.Sort

def tyRen : Go.Shelf.Ren := ⟨fun n => if n = 16 then 55 else n, fun n => if n = 3 then 3 else if n = 4 then 4 else if n = 35 then 55 else if n = 38 then 44 else n, fun n => n⟩
theorem tyLays : SlLaysO.n16 Tryz.prog tyRen where
  mixed := by kernel_rfl
  f16 := Tryz.func55.trans (by kernel_rfl)
  t3 := Tryz.underlying3
  a3 := Tryz.isAgg3
  z3 := Tryz.sizeOf3
  v3 := Tryz.zeroValue3
  t4 := Tryz.underlying4
  a4 := Tryz.isAgg4
  z4 := Tryz.sizeOf4
  v4 := Tryz.zeroValue4
  t35 := Tryz.underlying55
  a35 := Tryz.isAgg55
  z35 := Tryz.sizeOf55
  v35 := Tryz.zeroValue55
  t38 := Tryz.underlying44
  a38 := Tryz.isAgg44
  z38 := Tryz.sizeOf44
  v38 := Tryz.zeroValue44
theorem countP_upto {p : Nat → Bool} {s n : Nat} (hs : s ≤ n) (h0 : ∀ i, i < s → p i = true) (h1 : ∀ i, s ≤ i → i < n → p i = false) : (List.range n).countP p = s := by
  obtain ⟨d, rfl⟩ : ∃ d, n = s + d := ⟨n - s, by omega⟩
  rw [List.range_add, List.countP_append]
  have e1 : (List.range s).countP p = s := by
    have := (List.countP_eq_length (p := p) (l := List.range s)).2 (fun i hi => h0 i (List.mem_range.1 hi))
    rw [this, List.length_range]
  have e2 : ((List.range d).map (s + ·)).countP p = 0 := List.countP_eq_zero.2 (fun i hi => by
    obtain ⟨j, hj, rfl⟩ := List.mem_map.1 hi
    have := List.mem_range.1 hj
    rw [h1 (s + j) (by omega) (by omega)]
    decide)
  rw [e1, e2, Nat.add_zero]
/-- The closure: are there more than k up to i? -/
theorem tmore {f : Ty.Cnt} {t B C : Nat} (k : Int) (i : Nat) (w : World) (h : Tal w t f) (hi : i < 257) (hb : w.cell? ⟨B, 0, none⟩ = some (.pointer (some ⟨t, 0, none⟩))) (hc : w.cell? ⟨C, 0, none⟩ = some (.int .i64 k)) :
    Calls Tryz.prog 56 (#[.int .i64 i] ++ #[.pointer (some ⟨B, 0, none⟩), .pointer (some ⟨C, 0, none⟩)]) w fun e w' => e = .returned (.bool (decide (k < (Ty.bel f (i + 1) : Int)))) ∧ ∃ m, w' = w.drewN m := by
  have c0 := h.tab.cell (i := i + 1) (by omega)
  have hi2 : (i : Int) < 257 := by omega
  clear h
  obtain ⟨v, hv⟩ : ∃ v, Ty.bel f (i + 1) = v := ⟨_, rfl⟩
  simp only [hv] at c0
  rw [hv]
  clear hv
  go_enter Tryz.func56, Tryz.ntmps56
  go_wp2_with fail
  go_quiet (fail)
  go_wp2
  go_ret
  exact ⟨rfl, _, rfl⟩
set_option maxRecDepth 100000 in
theorem twhich_out {p : Option Addr} {u : Int} (k : Int) (w : World) (hl : ∀ w', Below w.heap.size w w' → Calls Tryz.prog 54 #[.pointer p] w' fun e w2 => e = .returned (.int .i64 u) ∧ w' = w2) (hk : k < 0 ∨ u ≤ k) :
    Calls Tryz.prog 36 #[.pointer p, .int .i64 k] w fun e w' => e = .returned (.int .i64 (-1)) ∧ Below w.heap.size w w' := by
  obtain ⟨W0, hW0⟩ : ∃ W0, (w.alloc (.cells #[.pointer p] 50)).alloc (.cells #[.int .i64 k] 3) = W0 := ⟨_, rfl⟩
  have hB : Below w.heap.size w W0 := by rw [← hW0]; exact ((Below.refl _ _).alloc (Nat.le_refl _) _).alloc (by simp) _
  have cb : W0.cell? ⟨w.heap.size, 0, none⟩ = some (.pointer p) := by rw [← hW0]; exact cell_alloc_sl _ (cell_new_sl w _ _)
  have cc : W0.cell? ⟨w.heap.size + 1, 0, none⟩ = some (.int .i64 k) := by rw [← hW0]; have := cell_new_sl (w.alloc (.cells #[.pointer p] 50)) (.int .i64 k) 3; rwa [World.size_alloc] at this
  have key : ∀ m, Calls Tryz.prog 54 #[.pointer p] (W0.drewN m) _ := fun m => hl _ (hB.drewN m)
  have KEY := Lib.hid key
  have HB := Lib.hid hB
  have HW := Lib.hid hW0
  clear hl key hB hW0
  by_cases hk0 : k < 0
  · have hd : decide (k < 0) = true := decide_eq_true hk0
    clear hk
    go_enter Tryz.func36, Tryz.ntmps36
    go_wp2_with fail
    rw [HW.out]
    go_quiet (fail)
    go_wp2
    go_ret
    exact ⟨rfl, HB.out.drewN _⟩
  · have hd : decide (k < 0) = false := decide_eq_false hk0
    have hk1 : u ≤ k := by omega
    clear hk
    go_enter Tryz.func36, Tryz.ntmps36
    go_wp2_with fail
    rw [HW.out]
    go_quiet ((go_at_call 54; exact Calls.quiet_of_same ((KEY.out _).mono fun _ _ ⟨he, hw⟩ => ⟨he, hw.symm⟩)))
    go_wp2
    go_ret
    exact ⟨rfl, HB.out.drewN _⟩
theorem twhich_nil (k : Int) (w : World) : Calls Tryz.prog 36 #[.pointer none, .int .i64 k] w fun e w' => e = .returned (.int .i64 (-1)) ∧ Below w.heap.size w w' :=
  twhich_out k w (fun w' _ => ylen_nil w') (by omega)
set_option maxRecDepth 100000 in
set_option maxHeartbeats 1600000 in
theorem twhich_in {f : Ty.Cnt} {t : Nat} (k s : Nat) (w : World) (h : Tal w t f) (hk : k < Ty.all f) (hs : s < 257) (h0 : Ty.bel f s ≤ k) (h1 : k < Ty.bel f (s + 1)) : Calls Tryz.prog 36 #[.pointer (some ⟨t, 0, none⟩), .int .i64 k] w fun e w' => e = .returned (.int .i64 s) ∧ Below w.heap.size w w' := by
  obtain ⟨W0, hW0⟩ : ∃ W0, (w.alloc (.cells #[.pointer (some ⟨t, 0, none⟩)] 50)).alloc (.cells #[.int .i64 k] 3) = W0 := ⟨_, rfl⟩
  have hB : Below w.heap.size w W0 := by rw [← hW0]; exact ((Below.refl _ _).alloc (Nat.le_refl _) _).alloc (by simp) _
  have hsz : W0.heap.size = w.heap.size + 1 + 1 := by rw [← hW0]; simp
  have cb : W0.cell? ⟨w.heap.size, 0, none⟩ = some (.pointer (some ⟨t, 0, none⟩)) := by rw [← hW0]; exact cell_alloc_sl _ (cell_new_sl w _ _)
  have cc : W0.cell? ⟨w.heap.size + 1, 0, none⟩ = some (.int .i64 k) := by rw [← hW0]; have := cell_new_sl (w.alloc (.cells #[.pointer (some ⟨t, 0, none⟩)] 50)) (.int .i64 k) 3; rwa [World.size_alloc] at this
  have hT := h.below hB
  have key : ∀ m, Calls Tryz.prog 54 #[.pointer (some ⟨t, 0, none⟩)] (W0.drewN m) _ := fun m => ylen _ (hT.below ((Below.refl _ _).drewN m))
  have eg : ∀ args w, (callFunc 56 args).run Tryz.prog w = .ok (.enter 56 args) w := enters_of Tryz.func56 (by kernel_rfl) rfl
  have hS : ∀ d, Calls Tryz.prog 55 #[.int .i64 257, .func (.func 56) #[] #[.pointer (some ⟨w.heap.size, 0, none⟩), .pointer (some ⟨w.heap.size + 1, 0, none⟩)]] (W0.drewN d) fun e w' => e = .returned (.int .i64 s) ∧ Below W0.heap.size (W0.drewN d) w' := fun d => by
    have hbg : ∀ m os, Below w.heap.size w (grow ((W0.drewN d).drewN m) os) := fun m os => (hB.drewN d).trans (below_grown_sl w.heap.size (W0.drewN d) m os (by show w.heap.size ≤ W0.heap.size; omega))
    have cb' : (W0.drewN d).cell? ⟨w.heap.size, 0, none⟩ = _ := cb
    have cc' : (W0.drewN d).cell? ⟨w.heap.size + 1, 0, none⟩ = _ := cc
    have hz1 : w.heap.size < (W0.drewN d).heap.size := by show _ < W0.heap.size; omega
    have hz2 : w.heap.size + 1 < (W0.drewN d).heap.size := by show _ < W0.heap.size; omega
    have h9 := Any.sort_Search tyLays 56 #[.pointer (some ⟨w.heap.size, 0, none⟩), .pointer (some ⟨w.heap.size + 1, 0, none⟩)] 257 (fun i => decide ((k : Int) < (Ty.bel f (i + 1) : Int))) (W0.drewN d) eg (by decide)
      (fun m os i hi => (tmore (B := w.heap.size) (C := w.heap.size + 1) (k : Int) i (grow ((W0.drewN d).drewN m) os) (h.below (hbg m os)) hi (cell_grown hz1 cb' m os) (cell_grown hz2 cc' m os)).mono fun _ _ ⟨he, q, hq⟩ => ⟨he, q, #[], by rw [hq, grow_empty]⟩)
      (fun a b hab hb h2 => by
        have h3 := of_decide_eq_true h2
        have h4 := Ty.bel_mono f (show a + 1 ≤ b + 1 by omega)
        exact decide_eq_true (by omega))
    rw [countP_upto (s := s) (by omega) (fun i hi => by
      have h4 := Ty.bel_mono f (show i + 1 ≤ s by omega)
      show (!decide ((k : Int) < (Ty.bel f (i + 1) : Int))) = true
      rw [decide_eq_false (by omega)]; rfl) (fun i hi _ => by
      have h4 := Ty.bel_mono f (show s + 1 ≤ i + 1 by omega)
      show (!decide ((k : Int) < (Ty.bel f (i + 1) : Int))) = false
      rw [decide_eq_true (by omega)]; rfl)] at h9
    exact h9.mono fun _ _ ⟨he, q, os, hq⟩ => ⟨he, by rw [hq]; exact below_grown_sl _ _ _ _ (Nat.le_refl _)⟩
  have hd : decide ((k : Int) < 0) = false := decide_eq_false (by omega)
  have hd1 : ¬ (Ty.all f : Int) ≤ k := by omega
  have KEY := Lib.hid key
  have HB := Lib.hid hB
  have HW := Lib.hid hW0
  have HS := Lib.hid hS
  clear key hB hW0 hS h hT hsz h0 h1 hs
  obtain ⟨u, hu⟩ : ∃ u, Ty.all f = u := ⟨_, rfl⟩
  rw [hu] at KEY hd1
  rw [hu] at hk
  clear hu
  go_enter Tryz.func36, Tryz.ntmps36
  go_wp2_with fail
  rw [HW.out]
  go_quiet ((go_at_call 54; exact Calls.quiet_of_same ((KEY.out _).mono fun _ _ ⟨he, hw⟩ => ⟨he, hw.symm⟩)))
  go_wp2_with fail
  (with_reducible refine (HS.out _).mono ?_); rintro e w' ⟨rfl, hb⟩
  go_wp2_with fail
  go_ret
  exact ⟨rfl, (HB.out.drewN _).trans (hb.mono HB.out.size)⟩
theorem twhich {f : Ty.Cnt} {t : Nat} (k : Int) (w : World) (h : Tal w t f) : Calls Tryz.prog 36 #[.pointer (some ⟨t, 0, none⟩), .int .i64 k] w fun e w' => e = .returned (.int .i64 (Ty.wh f k)) ∧ Below w.heap.size w w' := by
  by_cases hk : k < 0 ∨ (Ty.all f : Int) ≤ k
  · rw [Ty.wh_none hk]
    exact twhich_out k w (fun w' hb => ylen w' (h.below hb)) hk
  · obtain ⟨n, rfl⟩ : ∃ n : Nat, k = n := ⟨k.toNat, by omega⟩
    have hn : n < Ty.all f := by omega
    obtain ⟨s, e, h1, h2, h3⟩ := Ty.wh_is hn
    rw [e]
    exact twhich_in n s w h hn h1 h2 h3
end Go.Proofs.YthbbokoeiifjdaaGreatDoor
