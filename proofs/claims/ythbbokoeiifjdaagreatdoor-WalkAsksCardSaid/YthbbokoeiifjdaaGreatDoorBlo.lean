/- Plain facts on a list of at most 128 bits that is kept in two words. No program stands in it. What the functions of package block that only read do: contracts of the walk. Lists of bits in memory: what is read, what is the call's own; the document's own answer for lists (scrimshawref1). The document's own answer for lists of bits (scrimshawref1): In, Out, Ranks, Selects, Gets, Same: contracts of the walk. What the functions of package block that make or turn a block do: contracts of the walk. What Delete and All of package block do: contracts of the walk. What Split and Join of package block do: contracts of the walk. What Join of package block does: contracts of the walk. -/
import Derived.Test.YthbbokoeiifjdaaGreatDoorBas
import Derived.Test.YthbbokoeiifjdaaGreatDoorBitsA
import Derived.Outline
import Derived.WalkSpells
import Derived.Laws.Rows
import Derived.Deep.RegionHeld3
import Derived.Deep.AppendLies
import Derived.Laws.OwnMore
import Derived.WalkLawsBesides
import Derived.Lib.Hide
import Derived.BigQuiet
import Derived.Laws.AppendOwnNone
import Derived.LoopTactic
import Derived.RegionTactic
import Derived.ChangeAlike
import Derived.BigRegion
import Derived.Deep.RegionLaw
import Derived.Deep.QuietTactic
import Derived.LaidEqlPtr
namespace Go.Proofs.YthbbokoeiifjdaaGreatDoor
namespace Blk

/-- A word's 64 bits. -/
def Has (x : Nat) (f : Nat → Bool) : Prop := x < 18446744073709551616 ∧ ∀ i, i < 64 → x.testBit i = f i
/-- The bits that a list has from s on (none: 0). -/
def at_ (l : List Bool) (s i : Nat) : Bool := l.getD (s + i) false
theorem Has.congr {x : Nat} {f g : Nat → Bool} (h : Has x f) (hg : ∀ i, i < 64 → f i = g i) : Has x g := ⟨h.1, fun i hi => (h.2 i hi).trans (hg i hi)⟩
theorem Has.zero : Has 0 (fun _ => false) := ⟨by decide, fun i _ => Nat.zero_testBit i⟩

theorem in_getD (l : List Bool) (k : Nat) (b : Bool) (hk : k ≤ l.length) (i : Nat) : (l.take k ++ b :: l.drop k).getD i false = if i < k then l.getD i false else if i = k then b else l.getD (i - 1) false := by
  have ht : (l.take k).length = k := by rw [List.length_take]; omega
  rw [List.getD_eq_getElem?_getD, List.getElem?_append, ht]
  by_cases h1 : i < k
  · rw [if_pos h1, if_pos h1, List.getElem?_take_of_lt h1]; rfl
  · rw [if_neg h1, if_neg h1]
    by_cases h2 : i = k
    · subst h2; simp
    · rw [if_neg h2]
      obtain ⟨d, rfl⟩ : ∃ d, i = k + (d + 1) := ⟨i - k - 1, by omega⟩
      rw [show k + (d + 1) - k = d + 1 from by omega, List.getElem?_cons_succ, List.getElem?_drop, show k + (d + 1) - 1 = k + d from by omega]
      rfl
theorem out_getD (l : List Bool) (k : Nat) (hk : k < l.length) (i : Nat) : (l.take k ++ l.drop (k + 1)).getD i false = if i < k then l.getD i false else l.getD (i + 1) false := by
  have ht : (l.take k).length = k := by rw [List.length_take]; omega
  rw [List.getD_eq_getElem?_getD, List.getElem?_append, ht]
  by_cases h1 : i < k
  · rw [if_pos h1, if_pos h1, List.getElem?_take_of_lt h1]; rfl
  · rw [if_neg h1, if_neg h1, List.getElem?_drop, show k + 1 + (i - k) = i + 1 from by omega]
    rfl
/-- A bit in, a bit out. -/
def ins (l : List Bool) (k : Nat) (b : Bool) : List Bool := l.take k ++ b :: l.drop k
def del (l : List Bool) (k : Nat) : List Bool := l.take k ++ l.drop (k + 1)
theorem ins_len {l : List Bool} {k : Nat} {b : Bool} (hk : k ≤ l.length) : (ins l k b).length = l.length + 1 := by unfold ins; simp; omega
theorem del_len {l : List Bool} {k : Nat} (hk : k < l.length) : (del l k).length = l.length - 1 := by unfold del; simp; omega
theorem getD_ge {l : List Bool} {i : Nat} (h : l.length ≤ i) : l.getD i false = false := by rw [List.getD_eq_getElem?_getD, List.getElem?_eq_none h]; rfl

theorem put_lo {l : List Bool} {k x : Nat} {b : Bool} (hx : Has x (at_ l 0)) (hk : k < 64) (hl : k ≤ l.length) : Has (Wd.put x k b) (at_ (ins l k b) 0) := by
  refine ⟨Wd.put_lt _ _ _, fun i hi => ?_⟩
  unfold at_ ins
  rw [Wd.testBit_put hk b i hi, in_getD l k b hl, Nat.zero_add]
  by_cases h1 : i < k
  · rw [if_pos h1, if_pos h1, hx.2 i hi]; unfold at_; rw [Nat.zero_add]
  · by_cases h2 : i = k
    · rw [if_neg h1, if_neg h1, if_pos h2, if_pos h2]
    · rw [if_neg h1, if_neg h1, if_neg h2, if_neg h2, hx.2 (i - 1) (by omega)]; unfold at_; rw [Nat.zero_add]
theorem put_carry {l : List Bool} {k x y : Nat} {b : Bool} (hx : Has x (at_ l 0)) (hy : Has y (at_ l 64)) (hk : k < 64) (hl : k ≤ l.length) : Has (Wd.put y 0 (x.testBit 63)) (at_ (ins l k b) 64) := by
  refine ⟨Wd.put_lt _ _ _, fun i hi => ?_⟩
  unfold at_ ins
  rw [Wd.testBit_put (by decide) _ i hi, in_getD l k b hl, if_neg (show ¬ 64 + i < k by omega), if_neg (show ¬ 64 + i = k by omega), if_neg (show ¬ i < 0 by omega)]
  by_cases h2 : i = 0
  · subst h2; rw [if_pos rfl, hx.2 63 (by decide)]; rfl
  · rw [if_neg h2, hy.2 (i - 1) (by omega)]; unfold at_; rw [show 64 + (i - 1) = 64 + i - 1 from by omega]
theorem put_hi {l : List Bool} {k y : Nat} {b : Bool} (hy : Has y (at_ l 64)) (hk : k < 64) (hl : 64 + k ≤ l.length) : Has (Wd.put y k b) (at_ (ins l (64 + k) b) 64) := by
  refine ⟨Wd.put_lt _ _ _, fun i hi => ?_⟩
  unfold at_ ins
  rw [Wd.testBit_put hk b i hi, in_getD l _ b hl]
  by_cases h1 : i < k
  · rw [if_pos h1, if_pos (show 64 + i < 64 + k by omega), hy.2 i hi]; rfl
  · rw [if_neg h1, if_neg (show ¬ 64 + i < 64 + k by omega)]
    by_cases h2 : i = k
    · rw [if_pos h2, if_pos (show 64 + i = 64 + k by omega)]
    · rw [if_neg h2, if_neg (show ¬ 64 + i = 64 + k by omega), hy.2 (i - 1) (by omega)]; unfold at_; rw [show 64 + (i - 1) = 64 + i - 1 from by omega]
theorem ins_lo {l : List Bool} {k x : Nat} {b : Bool} (hx : Has x (at_ l 0)) (hk : 64 ≤ k) (hl : k ≤ l.length) : Has x (at_ (ins l k b) 0) := hx.congr fun i hi => by
  unfold at_ ins; rw [in_getD l k b hl, if_pos (by omega)]
theorem cut_lo {l : List Bool} {k x y : Nat} (hx : Has x (at_ l 0)) (hy : Has y (at_ l 64)) (hk : k < 64) (hl : k < l.length) : Has (Wd.cut x k (y.testBit 0)) (at_ (del l k) 0) := by
  refine ⟨Wd.cut_lt _ _ _, fun i hi => ?_⟩
  unfold at_ del
  rw [Wd.testBit_cut hx.1 hk _ i hi, out_getD l k hl, Nat.zero_add]
  by_cases h1 : i < k
  · rw [if_pos h1, if_pos h1, hx.2 i hi]; unfold at_; rw [Nat.zero_add]
  · by_cases h2 : i = 63
    · subst h2; rw [if_neg h1, if_neg h1, if_pos rfl, hy.2 0 (by decide)]; rfl
    · rw [if_neg h1, if_neg h1, if_neg h2, hx.2 (i + 1) (by omega)]; unfold at_; rw [Nat.zero_add]
theorem cut_carry {l : List Bool} {k y : Nat} (hy : Has y (at_ l 64)) (hk : k < 64) (hl : k < l.length) (hn : l.length ≤ 128) : Has (Wd.cut y 0 false) (at_ (del l k) 64) := by
  refine ⟨Wd.cut_lt _ _ _, fun i hi => ?_⟩
  unfold at_ del
  rw [Wd.testBit_cut hy.1 (by decide) _ i hi, out_getD l k hl, if_neg (show ¬ 64 + i < k by omega), if_neg (show ¬ i < 0 by omega)]
  by_cases h2 : i = 63
  · subst h2; rw [if_pos rfl, getD_ge (by omega)]
  · rw [if_neg h2, hy.2 (i + 1) (by omega)]; rfl
theorem cut_hi {l : List Bool} {k y : Nat} (hy : Has y (at_ l 64)) (hk : k < 64) (hl : 64 + k < l.length) (hn : l.length ≤ 128) : Has (Wd.cut y k false) (at_ (del l (64 + k)) 64) := by
  refine ⟨Wd.cut_lt _ _ _, fun i hi => ?_⟩
  unfold at_ del
  rw [Wd.testBit_cut hy.1 hk _ i hi, out_getD l _ hl]
  by_cases h1 : i < k
  · rw [if_pos h1, if_pos (show 64 + i < 64 + k by omega), hy.2 i hi]; rfl
  · rw [if_neg h1, if_neg (show ¬ 64 + i < 64 + k by omega)]
    by_cases h2 : i = 63
    · subst h2; rw [if_pos rfl, getD_ge (by omega)]
    · rw [if_neg h2, hy.2 (i + 1) (by omega)]; rfl
theorem del_lo {l : List Bool} {k x : Nat} (hx : Has x (at_ l 0)) (hk : 64 ≤ k) (hl : k < l.length) : Has x (at_ (del l k) 0) := hx.congr fun i hi => by
  unfold at_ del; rw [out_getD l k hl, if_pos (by omega)]
/-- A bit is set, where nothing stood. -/
theorem take_getD (l : List Bool) (k i : Nat) : (l.take k).getD i false = (decide (i < k) && l.getD i false) := by
  rw [List.getD_eq_getElem?_getD, List.getElem?_take, List.getD_eq_getElem?_getD]
  by_cases h : i < k <;> simp [h]
theorem Has.set {x m s : Nat} {l : List Bool} (h : Has x (at_ (l.take (s + m)) s)) (hm : m < 64) (hb : l.getD (s + m) false = true) : Has (x ||| 2 ^ m) (at_ (l.take (s + m + 1)) s) := by
  have h64 : 2 ^ m < 2 ^ 64 := Nat.pow_lt_pow_right (by decide) hm
  refine ⟨Wd.or_lt h.1 h64, fun i hi => ?_⟩
  rw [Nat.testBit_or, h.2 i hi, Nat.testBit_two_pow]
  unfold at_
  rw [take_getD, take_getD]
  by_cases e : m = i
  · subst e; rw [hb]; simp
  · by_cases e2 : i < m
    · have h1 : s + i < s + m := by omega
      have h2 : s + i < s + m + 1 := by omega
      simp [e, h1, h2]
    · have h1 : ¬ s + i < s + m := by omega
      have h2 : ¬ s + i < s + m + 1 := by omega
      simp [e, h1, h2]
theorem Has.skip {x k s : Nat} {l : List Bool} (h : Has x (at_ (l.take k) s)) (hb : l.getD k false = false ∨ k < s ∨ s + 64 ≤ k) : Has x (at_ (l.take (k + 1)) s) := h.congr fun i hi => by
  unfold at_
  rw [take_getD, take_getD]
  by_cases e : s + i = k
  · rcases hb with hb | hb | hb
    · rw [e, hb]; simp
    · omega
    · omega
  · by_cases e2 : s + i < k
    · have : s + i < k + 1 := by omega
      simp [e2, this]
    · have : ¬ s + i < k + 1 := by omega
      simp [e2, this]

/-- How many bits like b are among the first k. -/
def rk (b : Bool) (l : List Bool) (k : Nat) : Nat := (l.take k).count b
theorem rk_succ {b : Bool} {l : List Bool} {k : Nat} (h : k < l.length) : rk b l (k + 1) = rk b l k + if l.getD k false = b then 1 else 0 := by
  unfold rk
  rw [List.take_succ_eq_append_getElem h, List.count_append, List.getD_eq_getElem?_getD, List.getElem?_eq_getElem h]
  simp [List.count_cons]
theorem rk_all {b : Bool} {l : List Bool} {k : Nat} (h : l.length ≤ k) : rk b l k = l.count b := by unfold rk; rw [List.take_of_length_le h]
theorem rk_mono {b : Bool} {l : List Bool} {i k : Nat} (h : i ≤ k) : rk b l i ≤ rk b l k := by
  unfold rk
  exact List.Sublist.count_le b (List.take_sublist_take_left h)
theorem rk_le (b : Bool) (l : List Bool) (k : Nat) : rk b l k ≤ k := by
  unfold rk; exact Nat.le_trans List.count_le_length (List.length_take_le _ _)
theorem rk_cnt {b : Bool} {l : List Bool} : ∀ {k : Nat}, k ≤ l.length → Wd.cnt (fun i => l.getD i false == b) k = rk b l k
  | 0, _ => by simp [Wd.cnt, rk]
  | k + 1, h => by
    rw [Wd.cnt_succ, rk_succ (by omega), rk_cnt (by omega)]
    generalize l.getD k false = c
    cases c <;> cases b <;> rfl
/-- Ones alone: beyond the end there are none. -/
theorem ones_cnt (l : List Bool) : ∀ k : Nat, Wd.cnt (fun i => l.getD i false) k = rk true l k
  | 0 => by simp [Wd.cnt, rk]
  | k + 1 => by
    rw [Wd.cnt_succ, ones_cnt l k]
    by_cases h : k < l.length
    · rw [rk_succ h]
      cases l.getD k false <;> simp
    · rw [rk_all (k := k + 1) (by omega), rk_all (k := k) (by omega), getD_ge (by omega)]; rfl
theorem Has.cnt {x s : Nat} {l : List Bool} (h : Has x (at_ l s)) {k : Nat} (hk : k ≤ 64) : Wd.cnt x.testBit k = Wd.cnt (fun i => l.getD (s + i) false) k := Wd.cnt_congr fun i hi => h.2 i (by omega)
theorem rank_two {x y : Nat} {l : List Bool} (hx : Has x (at_ l 0)) (hy : Has y (at_ l 64)) {k : Nat} (hk : k ≤ 128) : Wd.cnt x.testBit (min k 64) + Wd.cnt y.testBit (min (k - 64) 64) = rk true l k := by
  rw [hx.cnt (by omega), hy.cnt (by omega)]
  have h0 : (fun i => l.getD (0 + i) false) = fun i => l.getD i false := by funext i; rw [Nat.zero_add]
  rw [h0]
  by_cases h : k ≤ 64
  · rw [show min k 64 = k from by omega, show min (k - 64) 64 = 0 from by omega, ones_cnt]; rfl
  · rw [show min k 64 = 64 from by omega, show min (k - 64) 64 = k - 64 from by omega, ← Wd.cnt_add, ones_cnt, show 64 + (k - 64) = k from by omega]
theorem pop_two {x y : Nat} {l : List Bool} (hx : Has x (at_ l 0)) (hy : Has y (at_ l 64)) (hl : l.length ≤ 128) : Wd.pop x + Wd.pop y = l.count true := by
  have := rank_two hx hy (k := 128) (by omega)
  rw [rk_all hl] at this
  exact this

/-- The place of the bit like b with j such ones ahead: -1: of none. -/
def pl (b : Bool) : List Bool → Nat → Nat
  | [], _ => 0
  | x :: r, j => if x = b then (match j with | 0 => 0 | j + 1 => pl b r j + 1) else pl b r j + 1
theorem pl_spec (b : Bool) : ∀ (l : List Bool) (j : Nat), j < l.count b → pl b l j < l.length ∧ l.getD (pl b l j) false = b ∧ rk b l (pl b l j) = j
  | [], j, h => by simp at h
  | x :: r, j, h => by
    by_cases e : x = b
    · subst e
      rw [List.count_cons_self] at h
      match j with
      | 0 => simp [pl, rk]
      | j + 1 =>
        obtain ⟨h1, h2, h3⟩ := pl_spec x r j (by omega)
        refine ⟨by simp [pl]; omega, by simp only [pl, if_true]; exact h2, ?_⟩
        simp only [pl, if_true]
        unfold rk at h3 ⊢
        rw [List.take_succ_cons, List.count_cons_self, h3]
    · rw [List.count_cons_of_ne e] at h
      obtain ⟨h1, h2, h3⟩ := pl_spec b r j h
      refine ⟨by simp [pl, e]; omega, by simp only [pl, if_neg e]; exact h2, ?_⟩
      simp only [pl, if_neg e]
      unfold rk at h3 ⊢
      rw [List.take_succ_cons, List.count_cons_of_ne e, h3]
noncomputable def sl (b : Bool) (l : List Bool) (j : Int) : Int := if 0 ≤ j ∧ j < l.count b then (pl b l j.toNat : Int) else -1
theorem sl_none {b : Bool} {l : List Bool} {j : Int} (h : j < 0 ∨ (l.count b : Int) ≤ j) : sl b l j = -1 := by unfold sl; rw [if_neg (by omega)]
theorem rk_lt_count {b : Bool} {l : List Bool} {k : Nat} (hk : k < l.length) (hb : l.getD k false = b) : rk b l k < l.count b := by
  have h1 := rk_succ (b := b) hk
  rw [if_pos hb] at h1
  have h2 := rk_mono (b := b) (l := l) (show k + 1 ≤ l.length by omega)
  rw [rk_all (k := l.length) (Nat.le_refl _)] at h2
  omega
theorem sl_of {b : Bool} {l : List Bool} {k j : Nat} (hk : k < l.length) (hb : l.getD k false = b) (hj : rk b l k = j) : sl b l (j : Int) = (k : Int) := by
  have hc := rk_lt_count hk hb
  unfold sl
  rw [if_pos (by omega), Int.toNat_natCast]
  obtain ⟨h1, h2, h3⟩ := pl_spec b l j (by omega)
  have key : ∀ i m, i < m → m < l.length → l.getD i false = b → rk b l i < rk b l m := fun i m him hm hi => by
    have e1 := rk_succ (b := b) (show i < l.length by omega)
    rw [if_pos hi] at e1
    have e2 := rk_mono (b := b) (l := l) (show i + 1 ≤ m by omega)
    omega
  rcases Nat.lt_trichotomy (pl b l j) k with h | h | h
  · have := key _ _ h hk h2; omega
  · rw [h]
  · have := key _ _ h h1 hb; omega
/-- What is found in two words, turned round for 0s: it is within the list, or there is none. -/
theorem sl_place {b : Bool} {l : List Bool} {p j : Nat} (hb : (l.getD p false == b) = true) (hj : Wd.cnt (fun i => l.getD i false == b) p = j) : (if p < l.length then (p : Int) else -1) = sl b l (j : Int) := by
  by_cases h : p < l.length
  · rw [if_pos h]
    exact (sl_of h (by simpa using hb) (by rw [← hj, rk_cnt (by omega)])).symm
  · rw [if_neg h, sl_none (.inr ?_)]
    have h1 := rk_cnt (b := b) (l := l) (Nat.le_refl _)
    rw [rk_all (Nat.le_refl _)] at h1
    have h2 := Wd.cnt_mono (fun i => l.getD i false == b) (show l.length ≤ p by omega)
    omega
theorem sl_beyond {b : Bool} {l : List Bool} {j : Nat} (hl : l.length ≤ 128) (hj : Wd.cnt (fun i => l.getD i false == b) 128 ≤ j) : sl b l (j : Int) = -1 := by
  refine sl_none (.inr ?_)
  have h1 := rk_cnt (b := b) (l := l) (Nat.le_refl _)
  rw [rk_all (Nat.le_refl _)] at h1
  have h2 := Wd.cnt_mono (fun i => l.getD i false == b) hl
  omega
/-- A word, or the word turned. -/
def tw (b : Bool) (x : Nat) : Nat := if b then x else Wd.neg x
theorem tw_lt {b : Bool} {x : Nat} (hx : x < 18446744073709551616) : tw b x < 18446744073709551616 := by
  unfold tw; cases b
  · exact Wd.neg_lt _
  · exact hx
theorem tw_has {b : Bool} {x s : Nat} {l : List Bool} (h : Has x (at_ l s)) : Has (tw b x) (fun i => l.getD (s + i) false == b) := by
  refine ⟨tw_lt h.1, fun i hi => ?_⟩
  unfold tw
  cases b
  · rw [if_neg (by decide), Wd.testBit_neg_lt h.1 hi, h.2 i hi]; unfold at_; show (!l.getD (s + i) false) = (l.getD (s + i) false == false); generalize l.getD (s + i) false = c; cases c <;> rfl
  · rw [if_pos rfl, h.2 i hi]; unfold at_; show l.getD (s + i) false = (l.getD (s + i) false == true); generalize l.getD (s + i) false = c; cases c <;> rfl
theorem sel_lo {b : Bool} {x j : Nat} {l : List Bool} (h : Has x (at_ l 0)) (hj : j < Wd.pop (tw b x)) :
    (if Wd.sel j (tw b x) < l.length then (Wd.sel j (tw b x) : Int) else -1) = sl b l (j : Int) := by
  have ht := tw_has (b := b) h
  obtain ⟨h1, h2, h3⟩ := Wd.sel_spec j _ ht.1 hj
  generalize Wd.sel j (tw b x) = p at *
  have e : ∀ i, i < 64 → (tw b x).testBit i = (l.getD i false == b) := fun i hi => by rw [ht.2 i hi]; show (l.getD (0 + i) false == b) = _; rw [Nat.zero_add]
  refine sl_place ?_ ?_
  · rw [← e _ h1, h2]
  · rw [← h3]; exact Wd.cnt_congr fun i hi => (e i (by omega)).symm
theorem pop_tw {b : Bool} {x s : Nat} {l : List Bool} (h : Has x (at_ l s)) : Wd.pop (tw b x) = Wd.cnt (fun i => l.getD (s + i) false == b) 64 := Wd.cnt_congr fun i hi => (tw_has (b := b) h).2 i hi
theorem pop_tw0 {b : Bool} {x : Nat} {l : List Bool} (h : Has x (at_ l 0)) : Wd.pop (tw b x) = Wd.cnt (fun i => l.getD i false == b) 64 := by
  rw [pop_tw h]; exact Wd.cnt_congr fun i _ => by rw [Nat.zero_add]
theorem sel_hi {b : Bool} {x y j : Nat} {l : List Bool} (hx : Has x (at_ l 0)) (hy : Has y (at_ l 64)) (h0 : Wd.pop (tw b x) ≤ j) (hj : j - Wd.pop (tw b x) < Wd.pop (tw b y)) :
    (if 64 + Wd.sel (j - Wd.pop (tw b x)) (tw b y) < l.length then ((64 + Wd.sel (j - Wd.pop (tw b x)) (tw b y) : Nat) : Int) else -1) = sl b l (j : Int) := by
  have ht := tw_has (b := b) hy
  obtain ⟨h1, h2, h3⟩ := Wd.sel_spec _ _ ht.1 hj
  generalize Wd.sel (j - Wd.pop (tw b x)) (tw b y) = p at *
  refine sl_place ?_ ?_
  · rw [← h2, ht.2 _ h1]
  · have e : Wd.cnt (fun i => l.getD (64 + i) false == b) p = j - Wd.pop (tw b x) := by
      rw [← h3]; exact Wd.cnt_congr fun i hi => (ht.2 i (by omega)).symm
    rw [Wd.cnt_add, ← pop_tw0 hx, e]
    omega
theorem sel_no {b : Bool} {x y j : Nat} {l : List Bool} (hx : Has x (at_ l 0)) (hy : Has y (at_ l 64)) (hl : l.length ≤ 128) (h0 : Wd.pop (tw b x) + Wd.pop (tw b y) ≤ j) : sl b l (j : Int) = -1 := by
  refine sl_beyond hl ?_
  rw [show 128 = 64 + 64 from rfl, Wd.cnt_add, ← pop_tw0 hx, ← pop_tw hy]
  exact h0
/-- What is told of one place: the bit and the code. -/
def getB (l : List Bool) (k : Int) : Bool := if 0 ≤ k ∧ k < l.length then l.getD k.toNat false else false
def getE (l : List Bool) (k : Int) : Int := if 0 ≤ k ∧ k < l.length then 0 else 2
end Blk
end Go.Proofs.YthbbokoeiifjdaaGreatDoor
namespace Go.Proofs.YthbbokoeiifjdaaGreatDoor
open Go Go.RowKit

/-- Block g of the memory is a block of the list l. -/
def IsBlk (w : World) (g : Nat) (l : List Bool) : Prop :=
  l.length ≤ 128 ∧ ∃ x y : Nat, w.heap[g]? = some (.cells #[.int .u64 x, .int .u64 y, .int .i64 l.length] 130 (0, 0)) ∧ Blk.Has x (Blk.at_ l 0) ∧ Blk.Has y (Blk.at_ l 64)
theorem IsBlk.stay {S : Nat → Prop} {w w' : World} {g : Nat} {l : List Bool} (h : IsBlk w g l) (hb : Stay S w w') (hs : ¬ S g) : IsBlk w' g l := by
  obtain ⟨h1, x, y, h2, h3, h4⟩ := h
  exact ⟨h1, x, y, hb.kept h2 hs, h3, h4⟩
theorem IsBlk.below {w w' : World} {g B : Nat} {l : List Bool} (h : IsBlk w g l) (hb : Below B w w') (hs : g < B) : IsBlk w' g l := by
  obtain ⟨h1, x, y, h2, h3, h4⟩ := h
  exact ⟨h1, x, y, Below.keptB hb h2 hs, h3, h4⟩
theorem IsBlk.lt {w : World} {g : Nat} {l : List Bool} (h : IsBlk w g l) : g < w.heap.size := by
  obtain ⟨h1, x, y, h2, h3, h4⟩ := h
  exact lt_of_block h2
/-- The three cells. -/
structure Cells3 (w : World) (g x y n : Nat) : Prop where
  c0 : w.cell? ⟨g, 0, none⟩ = some (.int .u64 x)
  c1 : w.cell? ⟨g, 1, none⟩ = some (.int .u64 y)
  c2 : w.cell? ⟨g, 2, none⟩ = some (.int .i64 n)
  f0 : w.frozen? ⟨g, 0, none⟩ = false
  f1 : w.frozen? ⟨g, 1, none⟩ = false
  f2 : w.frozen? ⟨g, 2, none⟩ = false
theorem cells3 {w : World} {g x y n : Nat} {t : TypeId} (h : w.heap[g]? = some (.cells #[.int .u64 x, .int .u64 y, .int .i64 n] t (0, 0))) : Cells3 w g x y n :=
  ⟨(cell_of h).trans rfl, (cell_of h).trans rfl, (cell_of h).trans rfl, free_of h, free_of h, free_of h⟩

theorem blen_nil (w : World) : Calls Tryz.prog 100 #[.pointer none] w fun e w' => e = .returned (.int .i64 0) ∧ w = w' := by
  go_enter Tryz.func100, Tryz.ntmps100
  go_wp2
  go_ret
  exact ⟨rfl, rfl⟩
theorem blen_any {l : List Bool} {g : Nat} (w : World) (h : IsBlk w g l) :
    Calls Tryz.prog 100 #[.pointer (some ⟨g, 0, none⟩)] w fun e w' => e = .returned (.int .i64 l.length) ∧ w = w' := by
  obtain ⟨hl, x, y, hg, hx, hy⟩ := h
  obtain ⟨c0, c1, c2, f0, f1, f2⟩ := cells3 hg
  clear hg c0 c1 f0 f1 f2 hx hy
  go_enter Tryz.func100, Tryz.ntmps100
  go_wp2
  go_ret
  exact ⟨rfl, rfl⟩
theorem bhas_yes {l : List Bool} {g : Nat} (k : Int) (w : World) (h : IsBlk w g l) (h0 : 0 ≤ k) (h1 : k < l.length) :
    Calls Tryz.prog 83 #[.pointer (some ⟨g, 0, none⟩), .int .i64 k] w fun e w' => e = .returned (.bool true) ∧ w = w' := by
  obtain ⟨hl, x, y, hg, hx, hy⟩ := h
  obtain ⟨c0, c1, c2, f0, f1, f2⟩ := cells3 hg
  clear hg c0 c1 f0 f1 f2 hx hy
  go_enter Tryz.func83, Tryz.ntmps83
  go_wp2
  go_ret
  exact ⟨rfl, rfl⟩
theorem bhas_no {l : List Bool} {g : Nat} (k : Int) (w : World) (h : IsBlk w g l) (h0 : k < 0 ∨ (l.length : Int) ≤ k) :
    Calls Tryz.prog 83 #[.pointer (some ⟨g, 0, none⟩), .int .i64 k] w fun e w' => e = .returned (.bool false) ∧ w = w' := by
  obtain ⟨hl, x, y, hg, hx, hy⟩ := h
  obtain ⟨c0, c1, c2, f0, f1, f2⟩ := cells3 hg
  clear hg c0 c1 f0 f1 f2 hx hy
  by_cases hk : k < 0
  · clear h0
    go_enter Tryz.func83, Tryz.ntmps83
    go_wp2
    go_ret
    exact ⟨rfl, rfl⟩
  · have h1 : 0 ≤ k := by omega
    have h2 : (l.length : Int) ≤ k := by omega
    clear h0 hk
    go_enter Tryz.func83, Tryz.ntmps83
    go_wp2
    go_ret
    exact ⟨ret_bool (by first | rfl | exact decide_eq_false (by omega)), rfl⟩

theorem bat_any {l : List Bool} {g : Nat} (k : Nat) (w : World) (h : IsBlk w g l) (h1 : k < l.length) :
    Calls Tryz.prog 84 #[.pointer (some ⟨g, 0, none⟩), .int .i64 k] w fun e w' => e = .returned (.bool (l.getD k false)) ∧ w = w' := by
  obtain ⟨hl, x, y, hg, hx, hy⟩ := h
  obtain ⟨c0, c1, c2, f0, f1, f2⟩ := cells3 hg
  by_cases hk : k < 64
  · have e := Wd.bit_at x k hx.1
    rw [hx.2 k hk] at e
    unfold Blk.at_ at e
    rw [Nat.zero_add] at e
    have EE := Lib.hid e
    have q1 : (k : Int) / 64 = 0 := by omega
    have q2 : (k : Int) % 64 = k := by omega
    clear hg c1 c2 f0 f1 f2 hx hy e
    go_enter Tryz.func84, Tryz.ntmps84
    go_wp2
    go_ret
    exact ⟨ret_bool EE.out, rfl⟩
  · obtain ⟨m, hm⟩ : ∃ m, k = 64 + m := ⟨k - 64, by omega⟩
    have e := Wd.bit_at y m hy.1
    rw [hy.2 m (by omega)] at e
    unfold Blk.at_ at e
    rw [← hm] at e
    have EE := Lib.hid e
    have q1 : (k : Int) / 64 = 1 := by omega
    have q2 : (k : Int) % 64 = m := by omega
    have q3 : (m : Int) < 64 := by omega
    clear hg c0 c2 f0 f1 f2 hx hy e hm
    go_enter Tryz.func84, Tryz.ntmps84
    go_wp2
    go_ret
    exact ⟨ret_bool EE.out, rfl⟩
theorem brange {l : List Bool} {g : Nat} (k : Int) (w : World) (h : IsBlk w g l) (h0 : k < 0 ∨ (l.length : Int) ≤ k) :
    Calls Tryz.prog 73 #[.pointer (some ⟨g, 0, none⟩), .int .i64 k] w fun e w' => e = .returned (.tuple #[.bool false, .int .i64 2]) ∧ w = w' := by
  go_enter Tryz.func73, Tryz.ntmps73
  go_wp2_with (go_at_call 83; refine (bhas_no _ _ h h0).mono ?_; rintro e w' ⟨rfl, rfl⟩)
  go_ret2
  exact ⟨rfl, rfl⟩
theorem bget_yes {l : List Bool} {g : Nat} (k : Nat) (w : World) (h : IsBlk w g l) (h1 : k < l.length) :
    Calls Tryz.prog 73 #[.pointer (some ⟨g, 0, none⟩), .int .i64 k] w fun e w' => e = .returned (.tuple #[.bool (l.getD k false), .int .i64 0]) ∧ w = w' := by
  have HL := Lib.hid h1
  clear h1
  go_enter Tryz.func73, Tryz.ntmps73
  go_wp2_with (first
    | (go_at_call 83; refine (bhas_yes _ _ h (by omega) (by have := HL.out; omega)).mono ?_; rintro e w' ⟨rfl, rfl⟩)
    | (go_at_call 84; refine (bat_any _ _ h HL.out).mono ?_; rintro e w' ⟨rfl, rfl⟩))
  go_ret2
  exact ⟨rfl, rfl⟩
theorem bget_nil (k : Int) (w : World) :
    Calls Tryz.prog 73 #[.pointer none, .int .i64 k] w fun e w' => e = .returned (.tuple #[.bool false, .int .i64 6]) ∧ w = w' := by
  go_enter Tryz.func73, Tryz.ntmps73
  go_wp2
  go_ret2
  exact ⟨rfl, rfl⟩
theorem bget_any {l : List Bool} {g : Nat} (k : Int) (w : World) (h : IsBlk w g l) :
    Calls Tryz.prog 73 #[.pointer (some ⟨g, 0, none⟩), .int .i64 k] w fun e w' => e = .returned (.tuple #[.bool (Blk.getB l k), .int .i64 (Blk.getE l k)]) ∧ w = w' := by
  unfold Blk.getB Blk.getE
  by_cases hk : 0 ≤ k ∧ k < l.length
  · rw [if_pos hk, if_pos hk]
    obtain ⟨n, rfl⟩ := Int.eq_ofNat_of_zero_le hk.1
    exact bget_yes n w h (by omega)
  · rw [if_neg hk, if_neg hk]
    exact brange k w h (by omega)
theorem bones_nil (w : World) : Calls Tryz.prog 105 #[.pointer none] w fun e w' => e = .returned (.int .i64 0) ∧ w = w' := by
  go_enter Tryz.func105, Tryz.ntmps105
  go_wp2
  go_ret
  exact ⟨rfl, rfl⟩
theorem bones_any {l : List Bool} {g : Nat} (w : World) (h : IsBlk w g l) :
    Calls Tryz.prog 105 #[.pointer (some ⟨g, 0, none⟩)] w fun e w' => e = .returned (.int .i64 (l.count true)) ∧ w = w' := by
  obtain ⟨hl, x, y, hg, hx, hy⟩ := h
  obtain ⟨c0, c1, c2, f0, f1, f2⟩ := cells3 hg
  have e := Blk.pop_two hx hy hl
  have EE := Lib.hid e
  have key := count_any [x, y] g 0 2 w (by simp; exact ⟨hx.1, hy.1⟩) (by simp) (fun i hi => by match i, hi with | 0, _ => exact c0 | 1, _ => exact c1)
  clear hg c0 c1 c2 f0 f1 f2 hx hy e
  go_enter Tryz.func105, Tryz.ntmps105
  go_wp2_with fail
  refine key.mono ?_
  rintro e w' ⟨rfl, rfl⟩
  go_wp2_with fail
  go_ret
  exact ⟨ret_int (by rw [← EE.out]; simp [pops]), rfl⟩
theorem brank_nil (k : Int) (w : World) : Calls Tryz.prog 91 #[.pointer none, .int .i64 k] w fun e w' => e = .returned (.int .i64 0) ∧ w = w' := by
  go_enter Tryz.func91, Tryz.ntmps91
  go_wp2
  go_ret
  exact ⟨rfl, rfl⟩
theorem rank_at (x : Nat) (k : Int) (p : Nat) (w : World) (hx : x < 18446744073709551616) (h : Wd.cnt x.testBit (min k.toNat 64) = p) :
    Calls Tryz.prog 97 #[.int .u64 x, .int .i64 k] w fun e w' => e = .returned (.int .i64 p) ∧ w = w' := by
  subst h
  exact rank_any x k w hx
theorem cnt_small (f : Nat → Bool) (n : Nat) (h : n ≤ 0) : Wd.cnt f n = 0 := by rw [show n = 0 from by omega]; rfl
set_option maxHeartbeats 400000 in
theorem brank_any {l : List Bool} {g : Nat} (k : Int) (w : World) (h : IsBlk w g l) :
    Calls Tryz.prog 91 #[.pointer (some ⟨g, 0, none⟩), .int .i64 k] w fun e w' => e = .returned (.int .i64 (Blk.rk true l k.toNat)) ∧ w = w' := by
  obtain ⟨hl, x, y, hg, hx, hy⟩ := h
  obtain ⟨c0, c1, c2, f0, f1, f2⟩ := cells3 hg
  have hr : ∀ m : Nat, m ≤ l.length → Wd.cnt x.testBit (min m 64) + Wd.cnt y.testBit (min (m - 64) 64) = Blk.rk true l m := fun m hm => Blk.rank_two hx hy (k := m) (by omega)
  have HR := Lib.hid hr
  have hx1 := hx.1
  have hy1 := hy.1
  have hall := Blk.rk_all (b := true) (l := l) (Nat.le_refl _)
  have HALL := Lib.hid hall
  have i0 : ∀ w, (Instr.index 128 (.agg #[.int .u64 x, .int .u64 y]) (.int .i64 0)).run Tryz.prog w = .ok (.int .u64 x) w := fun _ => by kernel_rfl
  have i1 : ∀ w, (Instr.index 128 (.agg #[.int .u64 x, .int .u64 y]) (.int .i64 1)).run Tryz.prog w = .ok (.int .u64 y) w := fun _ => by kernel_rfl
  clear hg f0 f1 f2 hx hy hr hall
  by_cases hk : k < 0
  · have h0 : ¬ (l.length : Int) < 0 := by omega
    have e0 : (0 : Int) ≤ l.length := by omega
    have ek : k.toNat = 0 := by omega
    rw [ek]
    clear ek
    go_enter Tryz.func91, Tryz.ntmps91
    go_wp2
    go_loop [5, 21] (fun n i => (i = .int .i64 0 ∧ n = .int .i64 0) ∨ (i = .int .i64 1 ∧ n = .int .i64 0) ∨ (i = .int .i64 2 ∧ n = .int .i64 0)) (fun _ i => 2 - (intOf i).toNat)
    case atStart => exact .inl ⟨rfl, rfl⟩
    case round =>
      rcases hrel with ⟨rfl, rfl⟩ | ⟨rfl, rfl⟩ | ⟨rfl, rfl⟩
      · go_wp2_with fail
        refine (rank_any x _ _ hx1).mono ?_
        rintro e w' ⟨rfl, rfl⟩
        rw [cnt_small _ _ (by omega)]
        go_wp2
        go_round
        case rel => exact .inr (.inl ⟨rfl, rfl⟩)
        case measure => simp [intOf]
      · go_wp2_with fail
        refine (rank_any y _ _ hy1).mono ?_
        rintro e w' ⟨rfl, rfl⟩
        rw [cnt_small _ _ (by omega)]
        go_wp2
        go_round
        case rel => exact .inr (.inr ⟨rfl, rfl⟩)
        case measure => simp [intOf]
      · go_wp2
        go_ret
        exact ⟨ret_int (by simp [Blk.rk]), rfl⟩
  · obtain ⟨kn, rfl⟩ := Int.eq_ofNat_of_zero_le (show 0 ≤ k by omega)
    have e0 : ¬ (kn : Int) < 0 := by omega
    rw [Int.toNat_natCast]
    obtain ⟨m, hm, hml, hmr⟩ : ∃ m : Nat, ((kn ≤ l.length ∧ m = kn) ∨ (¬ kn ≤ l.length ∧ m = l.length)) ∧ m ≤ l.length ∧ Blk.rk true l m = Blk.rk true l kn := by
      by_cases h : kn ≤ l.length
      · exact ⟨kn, .inl ⟨h, rfl⟩, h, rfl⟩
      · exact ⟨l.length, .inr ⟨h, rfl⟩, Nat.le_refl _, by rw [HALL.out, Blk.rk_all (by omega)]⟩
    obtain ⟨p, q, r, HP, HQ, HE, hp64, hq64⟩ : ∃ p q r : Nat, Hid (Wd.cnt x.testBit (min m 64) = p) ∧ Hid (Wd.cnt y.testBit (min (m - 64) 64) = q) ∧ Hid (p + q = r ∧ r = Blk.rk true l kn) ∧ p ≤ 64 ∧ q ≤ 64 :=
      ⟨_, _, _, Lib.hid rfl, Lib.hid rfl, Lib.hid ⟨rfl, (HR.out m hml).trans hmr⟩, Nat.le_trans (Wd.cnt_le _ _) (by omega), Nat.le_trans (Wd.cnt_le _ _) (by omega)⟩
    rw [← HE.out.2]
    clear hmr
    rcases hm with ⟨hkl, rfl⟩ | ⟨hkl, rfl⟩
    all_goals
      go_enter Tryz.func91, Tryz.ntmps91
      go_wp2
      go_loop [5, 21] (fun n i => (i = .int .i64 0 ∧ n = .int .i64 0) ∨ (i = .int .i64 1 ∧ n = .int .i64 p) ∨ (i = .int .i64 2 ∧ n = .int .i64 r)) (fun _ i => 2 - (intOf i).toNat)
      case atStart => exact .inl ⟨rfl, rfl⟩
      case round =>
        rcases hrel with ⟨rfl, rfl⟩ | ⟨rfl, rfl⟩ | ⟨rfl, rfl⟩
        · go_wp2_with fail
          refine (rank_at x _ p _ hx1 (by rw [← HP.out]; congr 1)).mono ?_
          rintro e w' ⟨rfl, rfl⟩
          go_wp2
          go_round
          case rel => exact .inr (.inl ⟨rfl, by go_num⟩)
          case measure => simp [intOf]
        · go_wp2_with fail
          refine (rank_at y _ q _ hy1 (by rw [← HQ.out]; congr 1; omega)).mono ?_
          rintro e w' ⟨rfl, rfl⟩
          have hr := HE.out.1
          go_wp2
          go_round
          case rel => exact .inr (.inr ⟨rfl, by rw [← HE.out.1]; go_num⟩)
          case measure => simp [intOf]
        · go_wp2
          go_ret
          exact ⟨rfl, rfl⟩
theorem TabAt.below {w w' : World} {B : Nat} (h : TabAt w) (hb : Below B w w') (hB : 0 < B) : TabAt w' := fun j hj => (hb.cell (p := ⟨0, j, none⟩) hB).trans (h j hj)
theorem count_one (x b : Nat) (w : World) (hx : x < 18446744073709551616) (h0 : w.cell? ⟨b, 0, none⟩ = some (.int .u64 x)) :
    Calls Tryz.prog 92 #[.slice (some ⟨b, 0, none⟩) 1 1] w fun e w' => e = .returned (.int .i64 (Wd.pop x)) ∧ w = w' :=
  (count_any [x] b 0 1 w (by simpa using hx) (by simp) (fun i hi => by match i, hi with | 0, _ => exact h0)).mono fun _ _ ⟨he, hw⟩ => ⟨he.trans (ret_int (by simp [pops])), hw⟩
theorem bplace_any {l : List Bool} {g : Nat} (k : Nat) (w : World) (h : IsBlk w g l) :
    Calls Tryz.prog 93 #[.pointer (some ⟨g, 0, none⟩), .int .i64 k] w fun e w' => e = .returned (.int .i64 (if k < l.length then (k : Int) else -1)) ∧ w = w' := by
  by_cases hk : k < l.length
  · rw [if_pos hk]
    have HK := Lib.hid hk
    clear hk
    go_enter Tryz.func93, Tryz.ntmps93
    go_wp2_with (go_at_call 83; refine (bhas_yes _ _ h (by omega) (by have := HK.out; omega)).mono ?_; rintro e w' ⟨rfl, rfl⟩)
    go_ret
    exact ⟨rfl, rfl⟩
  · rw [if_neg hk]
    have HK := Lib.hid hk
    clear hk
    go_enter Tryz.func93, Tryz.ntmps93
    go_wp2_with (go_at_call 83; refine (bhas_no _ _ h (by have := HK.out; omega)).mono ?_; rintro e w' ⟨rfl, rfl⟩)
    go_ret
    exact ⟨rfl, rfl⟩
theorem bsel_neg {l : List Bool} {g : Nat} (j : Int) (b : Bool) (w : World) (h : j < 0) :
    Calls Tryz.prog 87 #[.pointer (some ⟨g, 0, none⟩), .int .i64 j, .bool b] w fun e w' => e = .returned (.int .i64 (Blk.sl b l j)) ∧ Below w.heap.size w w' := by
  rw [Blk.sl_none (.inl h)]
  go_enter Tryz.func87, Tryz.ntmps87
  go_wp2
  go_ret
  exact ⟨rfl, Below.refl _ _⟩
theorem bsel_nil (j : Int) (b : Bool) (w : World) :
    Calls Tryz.prog 87 #[.pointer none, .int .i64 j, .bool b] w fun e w' => e = .returned (.int .i64 (-1)) ∧ w = w' := by
  go_enter Tryz.func87, Tryz.ntmps87
  go_wp2
  go_ret
  exact ⟨rfl, rfl⟩
theorem count_at (x b p : Nat) (w : World) (hx : x < 18446744073709551616) (hp : Wd.pop x = p) (h0 : w.cell? ⟨b, 0, none⟩ = some (.int .u64 x)) :
    Calls Tryz.prog 92 #[.slice (some ⟨b, 0, none⟩) 1 1] w fun e w' => e = .returned (.int .i64 p) ∧ w = w' := by
  subst hp; exact count_one x b w hx h0
theorem sel_at (x j s : Nat) (w : World) (hx : x < 18446744073709551616) (hj : j < Wd.pop x) (hT : TabAt w) (hs : Wd.sel j x = s) :
    Calls Tryz.prog 94 #[.int .u64 x, .int .i64 j] w fun e w' => e = .returned (.int .i64 s) ∧ w = w' := by
  subst hs; exact select_yes x j w hx (by omega) (by omega) hT
theorem bplace_at {l : List Bool} {g : Nat} (k : Nat) (r : Int) (w : World) (h : IsBlk w g l) (hr : (if k < l.length then (k : Int) else -1) = r) :
    Calls Tryz.prog 93 #[.pointer (some ⟨g, 0, none⟩), .int .i64 k] w fun e w' => e = .returned (.int .i64 r) ∧ w = w' := by
  subst hr; exact bplace_any k w h
set_option maxHeartbeats 800000 in
theorem bsel_pos {l : List Bool} {g : Nat} (j : Nat) (b : Bool) (w : World) (h : IsBlk w g l) (hT : TabAt w) (hw0 : 0 < w.heap.size) (hj63 : (j : Int) ≤ 9223372036854775807) :
    Calls Tryz.prog 87 #[.pointer (some ⟨g, 0, none⟩), .int .i64 j, .bool b] w fun e w' => e = .returned (.int .i64 (Blk.sl b l (j : Int))) ∧ Below w.heap.size w w' := by
  have hg0 := h.lt
  have hlow : IsBlk w g l := h
  obtain ⟨hl, x, y, hg, hx, hy⟩ := h
  obtain ⟨c0, c1, c2, f0, f1, f2⟩ := cells3 hg
  have i0 : ∀ w, (Instr.index 128 (.agg #[.int .u64 x, .int .u64 y]) (.int .i64 0)).run Tryz.prog w = .ok (.int .u64 x) w := fun _ => by kernel_rfl
  have i1 : ∀ w, (Instr.index 128 (.agg #[.int .u64 x, .int .u64 y]) (.int .i64 1)).run Tryz.prog w = .ok (.int .u64 y) w := fun _ => by kernel_rfl
  obtain ⟨p, q, hp, hq, HP, HQ⟩ : ∃ p q : Nat, p ≤ 64 ∧ q ≤ 64 ∧ Hid (Wd.pop (Blk.tw b x) = p) ∧ Hid (Wd.pop (Blk.tw b y) = q) := ⟨_, _, Wd.pop_le _, Wd.pop_le _, Lib.hid rfl, Lib.hid rfl⟩
  have hx1 : Blk.tw b x < 18446744073709551616 := Blk.tw_lt hx.1
  have hy1 : Blk.tw b y < 18446744073709551616 := Blk.tw_lt hy.1
  have R0 := Lib.hid (fun hj : j < Wd.pop (Blk.tw b x) => Blk.sel_lo (b := b) hx hj)
  have R1 := Lib.hid (fun (h0 : Wd.pop (Blk.tw b x) ≤ j) (hj : j - Wd.pop (Blk.tw b x) < Wd.pop (Blk.tw b y)) => Blk.sel_hi (b := b) hx hy h0 hj)
  have R2 := Lib.hid (fun h0 : Wd.pop (Blk.tw b x) + Wd.pop (Blk.tw b y) ≤ j => Blk.sel_no (b := b) hx hy hl h0)
  have X := Wd.xor_neg x hx.1
  have Y := Wd.xor_neg y hy.1
  have HT := Lib.hid hT
  clear hg f0 f1 f2 hx hy hT
  cases b
  case true =>
    have ex : Blk.tw true x = x := rfl
    have ey : Blk.tw true y = y := rfl
    rw [ex] at HP hx1 R0 R1 R2
    rw [ey] at HQ hy1 R1 R2
    clear X Y ex ey
    go_enter Tryz.func87, Tryz.ntmps87
    go_wp2
    go_loopw [1, 20] (fun t i wr => (i = .int .i64 0 ∧ t = .int .i64 j ∧ Below w.heap.size w wr) ∨ (i = .int .i64 1 ∧ ∃ m : Nat, t = .int .i64 m ∧ p + m = j ∧ Below w.heap.size w wr) ∨ (i = .int .i64 2 ∧ p + q ≤ j ∧ Below w.heap.size w wr)) (fun _ i _ => 2 - (intOf i).toNat)
    case atStart => exact .inl ⟨rfl, rfl, Below.refl _ _⟩
    case round =>
      rcases hrel with ⟨rfl, rfl, hb⟩ | ⟨rfl, m, rfl, hm0, hb⟩ | ⟨rfl, hj, hb⟩
      · have hsz := hb.size
        have B1 : Below w.heap.size w (wr.alloc (Obj.cells #[Value.int .u64 x] 127)) := hb.alloc hsz _
        by_cases hj : j < p
        · have ht : ∃ s : Nat, s < 64 ∧ Hid (Wd.sel j x = s) := ⟨_, (Wd.sel_spec j x hx1 (by rw [HP.out]; exact hj)).1, Lib.hid rfl⟩
          obtain ⟨s, hs, HS⟩ := ht
          go_wp2_with fail
          refine (count_at x _ p _ hx1 HP.out (new_cell rfl rfl)).mono ?_
          rintro e w' ⟨rfl, rfl⟩
          go_wp2_with fail
          refine (sel_at x j s _ hx1 (by rw [HP.out]; exact hj) (HT.out.below B1 hw0) HS.out).mono ?_
          rintro e w' ⟨rfl, rfl⟩
          go_wp2_with fail
          refine (bplace_at s (Blk.sl true l (j : Int)) _ (hlow.below B1 hg0) (by rw [← HS.out]; exact R0.out (by rw [HP.out]; exact hj))).mono ?_
          rintro e w' ⟨rfl, rfl⟩
          go_wp2
          go_ret
          exact ⟨rfl, B1⟩
        · obtain ⟨m, HM⟩ : ∃ m : Nat, Hid ((j : Int) - p = m ∧ p + m = j) := ⟨j - p, Lib.hid ⟨by omega, by omega⟩⟩
          go_wp2_with fail
          refine (count_at x _ p _ hx1 HP.out (new_cell rfl rfl)).mono ?_
          rintro e w' ⟨rfl, rfl⟩
          go_wp2
          go_roundw
          case rel => exact .inr (.inl ⟨rfl, m, by rw [HM.out.1], HM.out.2, B1⟩)
          case measure => simp [intOf]
      · have HM := Lib.hid hm0
        have HMJ := Lib.hid (show ¬ m < q → p + q ≤ j by omega)
        have hsz := hb.size
        clear hm0
        have B1 : Below w.heap.size w (wr.alloc (Obj.cells #[Value.int .u64 y] 127)) := hb.alloc hsz _
        by_cases hj : m < q
        · have ht : ∃ s : Nat, s < 64 ∧ Hid (Wd.sel m y = s) := ⟨_, (Wd.sel_spec m y hy1 (by rw [HQ.out]; exact hj)).1, Lib.hid rfl⟩
          obtain ⟨s, hs, HS⟩ := ht
          go_wp2_with fail
          refine (count_at y _ q _ hy1 HQ.out (new_cell rfl rfl)).mono ?_
          rintro e w' ⟨rfl, rfl⟩
          go_wp2_with fail
          refine (sel_at y m s _ hy1 (by rw [HQ.out]; exact hj) (HT.out.below B1 hw0) HS.out).mono ?_
          rintro e w' ⟨rfl, rfl⟩
          have e1 : j - Wd.pop x = m := by rw [HP.out]; have := HM.out; omega
          have R3 := Lib.hid (R1.out (by rw [HP.out]; have := HM.out; omega) (by rw [e1, HQ.out]; exact hj))
          clear e1
          go_wp2_with fail
          refine (bplace_at (64 + s) (Blk.sl true l (j : Int)) _ (hlow.below B1 hg0) (by have := R3.out; rw [show j - Wd.pop x = m from by rw [HP.out]; have := HM.out; omega, HS.out] at this; exact this)).mono ?_
          rintro e w' ⟨rfl, rfl⟩
          go_wp2
          go_ret
          exact ⟨rfl, B1⟩
        · have HJ := Lib.hid (HMJ.out hj)
          go_wp2_with fail
          refine (count_at y _ q _ hy1 HQ.out (new_cell rfl rfl)).mono ?_
          rintro e w' ⟨rfl, rfl⟩
          go_wp2
          go_roundw
          case rel => exact .inr (.inr ⟨rfl, HJ.out, B1⟩)
          case measure => simp [intOf]
      · go_wp2
        go_ret
        exact ⟨ret_int (R2.out (by rw [HP.out, HQ.out]; exact hj)).symm, hb⟩
  case false =>
    have ex : Blk.tw false x = Wd.neg x := rfl
    have ey : Blk.tw false y = Wd.neg y := rfl
    rw [ex] at HP hx1 R0 R1 R2
    rw [ey] at HQ hy1 R1 R2
    clear ex ey
    go_enter Tryz.func87, Tryz.ntmps87
    go_wp2
    go_loopw [1, 20] (fun t i wr => (i = .int .i64 0 ∧ t = .int .i64 j ∧ Below w.heap.size w wr) ∨ (i = .int .i64 1 ∧ ∃ m : Nat, t = .int .i64 m ∧ p + m = j ∧ Below w.heap.size w wr) ∨ (i = .int .i64 2 ∧ p + q ≤ j ∧ Below w.heap.size w wr)) (fun _ i _ => 2 - (intOf i).toNat)
    case atStart => exact .inl ⟨rfl, rfl, Below.refl _ _⟩
    case round =>
      rcases hrel with ⟨rfl, rfl, hb⟩ | ⟨rfl, m, rfl, hm0, hb⟩ | ⟨rfl, hj, hb⟩
      · have hsz := hb.size
        have B1 : Below w.heap.size w (wr.alloc (Obj.cells #[Value.int .u64 (Wd.neg x)] 127)) := hb.alloc hsz _
        by_cases hj : j < p
        · have ht : ∃ s : Nat, s < 64 ∧ Hid (Wd.sel j (Wd.neg x) = s) := ⟨_, (Wd.sel_spec j _ hx1 (by rw [HP.out]; exact hj)).1, Lib.hid rfl⟩
          obtain ⟨s, hs, HS⟩ := ht
          go_wp2_with fail
          refine (count_at (Wd.neg x) _ p _ hx1 HP.out (new_cell rfl rfl)).mono ?_
          rintro e w' ⟨rfl, rfl⟩
          go_wp2_with fail
          refine (sel_at (Wd.neg x) j s _ hx1 (by rw [HP.out]; exact hj) (HT.out.below B1 hw0) HS.out).mono ?_
          rintro e w' ⟨rfl, rfl⟩
          go_wp2_with fail
          refine (bplace_at s (Blk.sl false l (j : Int)) _ (hlow.below B1 hg0) (by rw [← HS.out]; exact R0.out (by rw [HP.out]; exact hj))).mono ?_
          rintro e w' ⟨rfl, rfl⟩
          go_wp2
          go_ret
          exact ⟨rfl, B1⟩
        · obtain ⟨m, HM⟩ : ∃ m : Nat, Hid ((j : Int) - p = m ∧ p + m = j) := ⟨j - p, Lib.hid ⟨by omega, by omega⟩⟩
          go_wp2_with fail
          refine (count_at (Wd.neg x) _ p _ hx1 HP.out (new_cell rfl rfl)).mono ?_
          rintro e w' ⟨rfl, rfl⟩
          go_wp2
          go_roundw
          case rel => exact .inr (.inl ⟨rfl, m, by rw [HM.out.1], HM.out.2, B1⟩)
          case measure => simp [intOf]
      · have HM := Lib.hid hm0
        have HMJ := Lib.hid (show ¬ m < q → p + q ≤ j by omega)
        have hsz := hb.size
        clear hm0
        have B1 : Below w.heap.size w (wr.alloc (Obj.cells #[Value.int .u64 (Wd.neg y)] 127)) := hb.alloc hsz _
        by_cases hj : m < q
        · have ht : ∃ s : Nat, s < 64 ∧ Hid (Wd.sel m (Wd.neg y) = s) := ⟨_, (Wd.sel_spec m _ hy1 (by rw [HQ.out]; exact hj)).1, Lib.hid rfl⟩
          obtain ⟨s, hs, HS⟩ := ht
          go_wp2_with fail
          refine (count_at (Wd.neg y) _ q _ hy1 HQ.out (new_cell rfl rfl)).mono ?_
          rintro e w' ⟨rfl, rfl⟩
          go_wp2_with fail
          refine (sel_at (Wd.neg y) m s _ hy1 (by rw [HQ.out]; exact hj) (HT.out.below B1 hw0) HS.out).mono ?_
          rintro e w' ⟨rfl, rfl⟩
          have e1 : j - Wd.pop (Wd.neg x) = m := by rw [HP.out]; have := HM.out; omega
          have R3 := Lib.hid (R1.out (by rw [HP.out]; have := HM.out; omega) (by rw [e1, HQ.out]; exact hj))
          clear e1
          go_wp2_with fail
          refine (bplace_at (64 + s) (Blk.sl false l (j : Int)) _ (hlow.below B1 hg0) (by have := R3.out; rw [show j - Wd.pop (Wd.neg x) = m from by rw [HP.out]; have := HM.out; omega, HS.out] at this; exact this)).mono ?_
          rintro e w' ⟨rfl, rfl⟩
          go_wp2
          go_ret
          exact ⟨rfl, B1⟩
        · have HJ := Lib.hid (HMJ.out hj)
          go_wp2_with fail
          refine (count_at (Wd.neg y) _ q _ hy1 HQ.out (new_cell rfl rfl)).mono ?_
          rintro e w' ⟨rfl, rfl⟩
          go_wp2
          go_roundw
          case rel => exact .inr (.inr ⟨rfl, HJ.out, B1⟩)
          case measure => simp [intOf]
      · go_wp2
        go_ret
        exact ⟨ret_int (R2.out (by rw [HP.out, HQ.out]; exact hj)).symm, hb⟩
theorem bsel_any {l : List Bool} {g : Nat} (j : Int) (b : Bool) (w : World) (h : IsBlk w g l) (hT : TabAt w) (hw0 : 0 < w.heap.size) (hj63 : j ≤ 9223372036854775807) :
    Calls Tryz.prog 87 #[.pointer (some ⟨g, 0, none⟩), .int .i64 j, .bool b] w fun e w' => e = .returned (.int .i64 (Blk.sl b l j)) ∧ Below w.heap.size w w' := by
  by_cases h0 : j < 0
  · exact bsel_neg j b w h0
  · obtain ⟨n, rfl⟩ := Int.eq_ofNat_of_zero_le (show 0 ≤ j by omega)
    exact bsel_pos n b w h hT hw0 hj63
end Go.Proofs.YthbbokoeiifjdaaGreatDoor
namespace Go.Proofs.YthbbokoeiifjdaaGreatDoor
open Go Go.RowKit

/-- A slice of bools, as it is read. -/
def RdB (w : World) (v : Value) (l : List Bool) : Prop :=
  (v = .slice none 0 0 ∧ l = []) ∨
  ∃ b off cap, v = .slice (some ⟨b, off, none⟩) l.length cap ∧ b < w.heap.size ∧ l.length ≤ cap ∧ cap ≤ maxLen ∧ ∀ i, i < l.length → w.cell? ⟨b, off + i, none⟩ = some (.bool (l.getD i false))
theorem OwnB.rd {base : Nat} {w : World} {v : Value} {l : List Bool} (h : OwnB base w v l) : RdB w v l := by
  have h2 := h.2
  rcases h2 with ⟨hv, h0⟩ | ⟨g, cap, cur, hv, hb, hg, hn, hm, hs, ht⟩
  · exact .inl ⟨hv, List.eq_nil_of_length_eq_zero h0⟩
  · refine .inr ⟨g, 0, cap, hv, lt_of_block hg, hn, hm, fun i hi => ?_⟩
    subst hv
    have := World.ownsRow.cellAt (w := w) h i (by omega)
    rw [Nat.zero_add, this]
    simp [hi]
theorem RdB.below {w w' : World} {v : Value} {l : List Bool} (h : RdB w v l) (hb : Below w.heap.size w w') : RdB w' v l := by
  rcases h with h | ⟨b, off, cap, hv, h0, h1, h2, h3⟩
  · exact .inl h
  · exact .inr ⟨b, off, cap, hv, Nat.lt_of_lt_of_le h0 hb.size, h1, h2, fun i hi => (hb.cell (p := ⟨b, off + i, none⟩) h0).trans (h3 i hi)⟩
theorem OwnB.app {base : Nat} {w : World} {v : Value} {l m : List Bool} (h : w.ownsRow base 4 1 v (l.length + m.length) (l.map Value.bool ++ m.map Value.bool)) : OwnB base w v (l ++ m) := by
  unfold OwnB
  rw [List.length_append, List.map_append]
  exact h
/-- A slice's value, and a piece of it: what 'x[:k]' is read as. -/
theorem take_cells {w : World} {l : List Bool} {b off : Nat} (h : ∀ i, i < l.length → w.cell? ⟨b, off + i, none⟩ = some (.bool (l.getD i false))) (k : Nat) (hk : k ≤ l.length) :
    ∀ j u, ((l.take k).map Value.bool)[j]? = some u → w.cell? ((⟨b, off, none⟩ : Addr).add j) = some u := by
  intro j u hu
  have hj : j < k := by
    have := (List.getElem?_eq_some_iff.1 hu).1
    simp at this
    omega
  have h1 := h j (by omega)
  rw [List.getElem?_map, List.getElem?_take_of_lt hj] at hu
  rw [show (⟨b, off, none⟩ : Addr).add j = ⟨b, off + j, none⟩ by simp [Addr.add], h1]
  have hjl : j < l.length := by omega
  rw [List.getElem?_eq_getElem hjl] at hu
  simp at hu
  rw [← hu, List.getD_eq_getElem?_getD, List.getElem?_eq_getElem hjl]
  rfl
theorem drop_cells {w : World} {l : List Bool} {b off : Nat} (h : ∀ i, i < l.length → w.cell? ⟨b, off + i, none⟩ = some (.bool (l.getD i false))) (k : Nat) :
    ∀ j u, ((l.drop k).map Value.bool)[j]? = some u → w.cell? ((⟨b, off + k, none⟩ : Addr).add j) = some u := by
  intro j u hu
  rw [List.getElem?_map, List.getElem?_drop] at hu
  have hj : k + j < l.length := by
    apply Nat.lt_of_not_le
    intro h2
    rw [List.getElem?_eq_none h2] at hu
    cases hu
  have h1 := h (k + j) hj
  rw [show (⟨b, off + k, none⟩ : Addr).add j = ⟨b, off + k + j, none⟩ by simp [Addr.add], Nat.add_assoc, h1]
  rw [List.getElem?_eq_getElem hj] at hu
  simp at hu
  rw [← hu, List.getD_eq_getElem?_getD, List.getElem?_eq_getElem hj]
  rfl
theorem bools_one (l : List Bool) : ∀ u ∈ l.map Value.bool, u.oneCell' = true := by
  intro u hu
  obtain ⟨b, _, rfl⟩ := List.mem_map.1 hu
  rfl

theorem tail_addr (b off cap k : Nat) (l : List Bool) (w : World) (hcap : l.length ≤ cap) (hc : ∀ i, i < l.length → w.cell? ⟨b, off + i, none⟩ = some (.bool (l.getD i false))) :
    ∃ ad : Addr, (if cap = k then some (⟨b, off, none⟩ : Addr) else some ⟨b, off + k, none⟩) = some ad ∧ ∀ j u, ((l.drop k).map Value.bool)[j]? = some u → w.cell? (ad.add j) = some u := by
  by_cases h : cap = k
  · refine ⟨_, if_pos h, fun j u hu => ?_⟩
    rw [List.drop_of_length_le (by omega)] at hu
    cases hu
  · exact ⟨_, if_neg h, drop_cells hc k⟩

theorem step_append_own {P : Program} {w : World} {ops : Array Oper} {o : Oper} {a : Act} {K : Act → World → Prop} {Q : Exit → Act → World → Prop} {E : Prop} (hgd : o.guard = none) (s x : Operand) (t : TypeId)
    (ho : o.op = .call { callee := .builtin .append, args := #[s, x], argTypes := #[t, t] })
    (base : Nat) (e : TypeId) (i : TypeInfo) (z : Value) (size bytes : Nat) (ht : P.underlying t = some (.slice e)) (hi : P.info? e = some i) (hz : i.zero = some z)
    (hsize : i.size = size) (hby : i.bytes = bytes) (hzs : z.cells.size = size) (hsz : 0 < size)
    (v : Value) (n : Nat) (xs : List Value) (hs : a.eval s = v) (hown : w.ownsRow base e size v n xs)
    (ad : Addr) (m c : Nat) (news : List Value) (hx : a.eval x = .slice (some ad) m c) (hl : news.length = m * size) (hnews : ∀ j u, news[j]? = some u → w.cell? (ad.add j) = some u) (h1 : ∀ u ∈ news, u.oneCell' = true)
    (h63 : n + m ≤ maxLen) (hbytes : (n + m) * bytes ≤ 140737488355328) (hbase : base ≤ w.heap.size)
    (h : ∀ v' w', w'.ownsRow base e size v' (n + m) (xs ++ news) → w.grownBy w' v.ownBlock → K (a.put o.dst v') w') :
    if Region.wanted o (yielded ops a.tmps) = true then Oper.wp P o a w K Q else E := by
  have hw : Region.wanted o (yielded ops a.tmps) = true := by simp [Region.wanted, hgd]
  rw [if_pos hw]
  exact wp_append_own w s x t ho base e i z size bytes ht hi hz hsize hby hzs hsz v n xs hs hown ad m c news hx hl hnews h1 h63 hbytes hbase fun v' w' h2 h3 _ => h v' w' h2 h3

theorem step_append_none {P : Program} {w : World} {ops : Array Oper} {o : Oper} {a : Act} {K : Act → World → Prop} {Q : Exit → Act → World → Prop} {E : Prop} (hgd : o.guard = none) (s x : Operand) (t : TypeId)
    (ho : o.op = .call { callee := .builtin .append, args := #[s, x], argTypes := #[t, t] })
    (base : Nat) (e : TypeId) (i : TypeInfo) (size : Nat) (ht : P.underlying t = some (.slice e)) (hi : P.info? e = some i)
    (v : Value) (n : Nat) (xs : List Value) (hs : a.eval s = v) (hown : w.ownsRow base e size v n xs) (hx : a.eval x = .slice none 0 0)
    (h : K (a.put o.dst v) w) : if Region.wanted o (yielded ops a.tmps) = true then Oper.wp P o a w K Q else E := by
  have hw : Region.wanted o (yielded ops a.tmps) = true := by simp [Region.wanted, hgd]
  rw [if_pos hw]
  have hrun := run_append_owned_none (P := P) (w := w) base t o.type e i size ht hi v n xs hown
  unfold Oper.wp
  simp [execOp, ho, resolve, invoke, builtin, hs, hx, hrun, Result.andThen]
  exact h

/-- A list of the call's own that is not empty: its cells, which may be written. -/
theorem OwnB.opens {base : Nat} {w : World} {v : Value} {l : List Bool} (h : OwnB base w v l) (hne : 0 < l.length) :
    ∃ b cap, v = .slice (some ⟨b, 0, none⟩) l.length cap ∧ base ≤ b ∧ b < w.heap.size ∧ l.length ≤ cap ∧ cap ≤ maxLen ∧ (∀ i, i < l.length → w.cell? ⟨b, i, none⟩ = some (.bool (l.getD i false))) ∧ ∀ i, w.frozen? ⟨b, i, none⟩ = false := by
  have h2 := h.2
  rcases h2 with ⟨hv, h0⟩ | ⟨g, cap, cur, hv, hb, hg, hn, hm, hs, ht⟩
  · omega
  · refine ⟨g, cap, hv, hb, lt_of_block hg, hn, hm, fun i hi => ?_, fun i => ?_⟩
    · subst hv
      have := World.ownsRow.cellAt (w := w) h i (by omega)
      rw [this]
      simp [hi]
    · subst hv
      exact World.ownsRow.frozenAt (w := w) h i

/- The laws of append at an operation that is guarded ('a || f(append(..))'), where the guard says yes. -/
theorem wpList_wanted {P : Program} {ops : Array Oper} {rest : List Oper} {o : Oper} {a : Act} {w : World} {Q : Exit → Act → World → Prop} (hw : Region.wanted o (yielded ops a.tmps) = true)
    (h : ∀ K : Act → World → Prop, (∀ a w, wpList P ops Q rest a w → K a w) → o.wp P a w K Q) : wpList P ops Q (o :: rest) a w :=
  wpList_step fun K hK => by rw [if_pos hw]; exact h K hK
theorem append_own_g {P : Program} (w : World) {ops : Array Oper} {rest : List Oper} {o : Oper} {a : Act} {Q : Exit → Act → World → Prop} (hw : Region.wanted o (yielded ops a.tmps) = true) (s x : Operand) (t : TypeId)
    (ho : o.op = .call { callee := .builtin .append, args := #[s, x], argTypes := #[t, t] })
    (base : Nat) (e : TypeId) (i : TypeInfo) (z : Value) (size bytes : Nat) (ht : P.underlying t = some (.slice e)) (hi : P.info? e = some i) (hz : i.zero = some z)
    (hsize : i.size = size) (hby : i.bytes = bytes) (hzs : z.cells.size = size) (hsz : 0 < size)
    (v : Value) (n : Nat) (xs : List Value) (hs : a.eval s = v) (hown : w.ownsRow base e size v n xs)
    (ad : Addr) (m c : Nat) (news : List Value) (hx : a.eval x = .slice (some ad) m c) (hl : news.length = m * size) (hnews : ∀ j u, news[j]? = some u → w.cell? (ad.add j) = some u) (h1 : ∀ u ∈ news, u.oneCell' = true)
    (h63 : n + m ≤ maxLen) (hbytes : (n + m) * bytes ≤ 140737488355328) (hbase : base ≤ w.heap.size)
    (h : ∀ v' w', w'.ownsRow base e size v' (n + m) (xs ++ news) → w.grownBy w' v.ownBlock → wpList P ops Q rest (a.put o.dst v') w') : wpList P ops Q (o :: rest) a w :=
  wpList_wanted hw fun _ hK => wp_append_own w s x t ho base e i z size bytes ht hi hz hsize hby hzs hsz v n xs hs hown ad m c news hx hl hnews h1 h63 hbytes hbase fun v' w' h2 h3 _ => hK _ _ (h v' w' h2 h3)
theorem append_none_g {P : Program} {w : World} {ops : Array Oper} {rest : List Oper} {o : Oper} {a : Act} {Q : Exit → Act → World → Prop} (hw : Region.wanted o (yielded ops a.tmps) = true) (s x : Operand) (t : TypeId)
    (ho : o.op = .call { callee := .builtin .append, args := #[s, x], argTypes := #[t, t] })
    (base : Nat) (e : TypeId) (i : TypeInfo) (size : Nat) (ht : P.underlying t = some (.slice e)) (hi : P.info? e = some i)
    (v : Value) (n : Nat) (xs : List Value) (hs : a.eval s = v) (hown : w.ownsRow base e size v n xs) (hx : a.eval x = .slice none 0 0)
    (h : wpList P ops Q rest (a.put o.dst v) w) : wpList P ops Q (o :: rest) a w :=
  wpList_wanted hw fun _ hK => by
    have hrun := run_append_owned_none (P := P) (w := w) base t o.type e i size ht hi v n xs hown
    unfold Oper.wp
    simp [execOp, ho, resolve, invoke, builtin, hs, hx, hrun, Result.andThen]
    exact hK _ _ h
end Go.Proofs.YthbbokoeiifjdaaGreatDoor
namespace Go.Proofs.YthbbokoeiifjdaaGreatDoor
open Go Go.RowKit
theorem retI {k : IntKind} {a b : Int} (h : a = b) : Ending.returned (.int k a) = .returned (.int k b) := by rw [h]

/-- A slice of bools, both forms in one: its address is known where it has elements. -/
theorem RdB.open {w : World} {v : Value} {l : List Bool} (h : RdB w v l) : ∃ a cap, v = .slice a l.length cap ∧ l.length ≤ maxLen ∧ (0 < l.length → ∃ b off, a = some ⟨b, off, none⟩ ∧ b < w.heap.size ∧ ∀ i, i < l.length → w.cell? ⟨b, off + i, none⟩ = some (.bool (l.getD i false))) := by
  rcases h with ⟨rfl, rfl⟩ | ⟨b, off, cap, rfl, h0, h1, h2, h3⟩
  · exact ⟨none, 0, rfl, by decide, fun h => by simp at h⟩
  · exact ⟨_, _, rfl, by omega, fun _ => ⟨b, off, rfl, h0, h3⟩⟩

end Go.Proofs.YthbbokoeiifjdaaGreatDoor
namespace Go.Proofs.YthbbokoeiifjdaaGreatDoor
open Go Go.RowKit
theorem setbit (y m : Nat) (hy : y < 18446744073709551616) (hm : m < 64) : bits .or .u64 (y : Int) (IntKind.u64.wrap (2 ^ m)) = ((y ||| 2 ^ m : Nat) : Int) := by
  have h1 : 2 ^ m < 2 ^ 64 := Nat.pow_lt_pow_right (by decide) hm
  have e1 : ((2 : Int) ^ m) = ((2 ^ m : Nat) : Int) := by simp
  rw [e1, Wd.wrap64u _ h1, Wd.or64 y hy _ h1]
/-- A list's first k bits lie in a block of n. -/
def Filled (w : World) (g : Nat) (l : List Bool) (n : Nat) : Prop :=
  ∃ x y : Nat, w.heap[g]? = some (.cells #[.int .u64 x, .int .u64 y, .int .i64 n] 130 (0, 0)) ∧ Blk.Has x (Blk.at_ l 0) ∧ Blk.Has y (Blk.at_ l 64)
theorem bnew_full (a : Option Addr) (len cap : Nat) (w : World) (h : 128 < len) :
    Calls Tryz.prog 101 #[.slice a len cap] w fun e w' => e = .returned (.tuple #[.pointer none, .int .i64 3]) ∧ w = w' := by
  have h1 : (128 : Int) < len := by omega
  go_enter Tryz.func101, Tryz.ntmps101
  go_wp2
  go_ret2
  exact ⟨rfl, rfl⟩
set_option maxHeartbeats 800000 in
theorem bnew_any (l : List Bool) (b off cap : Nat) (w : World) (hl : l.length ≤ 128) (hb : b < w.heap.size)
    (hc : ∀ i, i < l.length → w.cell? ⟨b, off + i, none⟩ = some (.bool (l.getD i false))) :
    Calls Tryz.prog 101 #[.slice (some ⟨b, off, none⟩) l.length cap] w fun e w' => ∃ g, e = .returned (.tuple #[.pointer (some ⟨g, 0, none⟩), .int .i64 0]) ∧ w.heap.size ≤ g ∧ IsBlk w' g l ∧ Below w.heap.size w w' := by
  have HC := Lib.hid hc
  have h1 : ¬ (128 : Int) < l.length := by omega
  clear hc
  go_enter Tryz.func101, Tryz.ntmps101
  go_wp2
  go_loopw [5, 6, 16] (fun _ _ i wr => ∃ k : Nat, k ≤ l.length ∧ i = .int .i64 k ∧ Filled wr w.heap.size (l.take k) l.length ∧ Below w.heap.size w wr) (fun _ _ i _ => l.length - (intOf i).toNat)
  case atStart => exact ⟨0, Nat.zero_le _, rfl, ⟨0, 0, alloc_of, Blk.Has.zero.congr fun i _ => by simp [Blk.at_], Blk.Has.zero.congr fun i _ => by simp [Blk.at_]⟩, (Below.refl _ _).alloc (Nat.le_refl _) _⟩
  case round =>
    obtain ⟨k, hk, rfl, ⟨x, y, hg, hx, hy⟩, hb1⟩ := hrel
    obtain ⟨c0, c1, c2, f0, f1, f2⟩ := cells3 hg
    have HG := Lib.hid hg
    have HX := Lib.hid hx
    have HY := Lib.hid hy
    have hx1 := hx.1
    have hy1 := hy.1
    clear hg hx hy
    by_cases hlt : k < l.length
    · have hcell := (hb1.cell (p := ⟨b, off + k, none⟩) hb).trans (HC.out k hlt)
      have hlt' : (k : Int) < l.length := by omega
      cases hbit : l.getD k false with
      | false =>
        rw [hbit] at hcell
        have HBIT := Lib.hid hbit
        clear hbit
        go_wp2
        go_roundw
        case rel => exact ⟨k + 1, by omega, by go_num, ⟨x, y, HG.out, HX.out.skip (.inl HBIT.out), HY.out.skip (.inl HBIT.out)⟩, hb1⟩
        case measure => simp [intOf]; omega
      | true =>
        rw [hbit] at hcell
        have HBIT := Lib.hid hbit
        clear hbit
        by_cases hk64 : k < 64
        · have q1 : (k : Int) / 64 = 0 := by omega
          have q2 : (k : Int) % 64 = k := by omega
          have hset := setbit x k hx1 hk64
          have hw1 : w.heap.size ≤ w.heap.size := Nat.le_refl _
          have HX1 : Hid (Blk.Has (x ||| 2 ^ k) (Blk.at_ (l.take (k + 1)) 0)) := by
            have h := Blk.Has.set (l := l) (s := 0) (m := k) (x := x) (by rw [Nat.zero_add]; exact HX.out) hk64 (by rw [Nat.zero_add]; exact HBIT.out)
            rw [Nat.zero_add] at h
            exact Lib.hid h
          clear c2 f2 f1 c1
          go_wp2
          go_region
          all_goals
            go_wp2
            go_roundw
            case rel => exact ⟨k + 1, by omega, by go_num, ⟨_, y, set_of HG.out _, HX1.out, HY.out.skip (.inr (.inl hk64))⟩, (hb1.setCell (p := ⟨w.heap.size, 0, none⟩) hw1 _).drew⟩
            case measure => simp [intOf]; omega
        · obtain ⟨m, hm⟩ : ∃ m, k = 64 + m := ⟨k - 64, by omega⟩
          have HM := Lib.hid hm
          have q1 : (k : Int) / 64 = 1 := by omega
          have q2 : (k : Int) % 64 = m := by omega
          have hm64 : m < 64 := by omega
          have hset := setbit y m hy1 hm64
          have hw1 : w.heap.size ≤ w.heap.size := Nat.le_refl _
          have HY1 : Hid (Blk.Has (y ||| 2 ^ m) (Blk.at_ (l.take (k + 1)) 64)) := by
            have h := Blk.Has.set (l := l) (s := 64) (m := m) (x := y) (by rw [← hm]; exact HY.out) hm64 (by rw [← hm]; exact HBIT.out)
            rw [← hm] at h
            exact Lib.hid h
          clear c2 f2 f0 c0 hm
          go_wp2
          go_region
          all_goals
            go_wp2
            go_roundw
            case rel => exact ⟨k + 1, by omega, by go_num, ⟨x, _, set_of HG.out _, HX.out.skip (.inr (.inr (by omega))), HY1.out⟩, (hb1.setCell (p := ⟨w.heap.size, 1, none⟩) hw1 _).drew⟩
            case measure => simp [intOf]; omega
    · have hkl : k = l.length := by omega
      subst hkl
      have HX2 := HX.out
      have HY2 := HY.out
      rw [List.take_length] at HX2 HY2
      have HX3 := Lib.hid HX2
      have HY3 := Lib.hid HY2
      clear HX2 HY2 hlt
      go_wp2
      go_ret2
      exact ⟨w.heap.size, rfl, Nat.le_refl _, ⟨hl, x, y, HG.out, HX3.out, HY3.out⟩, hb1⟩

theorem bnew_rd {l : List Bool} {v : Value} (w : World) (h : RdB w v l) (hl : l.length ≤ 128) :
    Calls Tryz.prog 101 #[v] w fun e w' => ∃ g, e = .returned (.tuple #[.pointer (some ⟨g, 0, none⟩), .int .i64 0]) ∧ w.heap.size ≤ g ∧ IsBlk w' g l ∧ Below w.heap.size w w' := by
  rcases h with ⟨rfl, rfl⟩ | ⟨b, off, cap, rfl, h0, h1, h2, h3⟩
  · go_enter Tryz.func101, Tryz.ntmps101
    go_wp2
    go_loopw [5, 6, 16] (fun _ _ i wr => i = .int .i64 0 ∧ Filled wr w.heap.size [] 0 ∧ Below w.heap.size w wr) (fun _ _ i _ => 0)
    case atStart => exact ⟨rfl, ⟨0, 0, alloc_of, Blk.Has.zero.congr fun i _ => by simp [Blk.at_], Blk.Has.zero.congr fun i _ => by simp [Blk.at_]⟩, (Below.refl _ _).alloc (Nat.le_refl _) _⟩
    case round =>
      obtain ⟨rfl, ⟨x, y, hg, hx, hy⟩, hb1⟩ := hrel
      go_wp2
      go_ret2
      exact ⟨w.heap.size, rfl, Nat.le_refl _, ⟨hl, x, y, hg, hx, hy⟩, hb1⟩
  · exact bnew_any l b off cap w hl h0 h3
theorem bnew_rd_full {l : List Bool} {v : Value} (w : World) (h : RdB w v l) (hl : 128 < l.length) :
    Calls Tryz.prog 101 #[v] w fun e w' => e = .returned (.tuple #[.pointer none, .int .i64 3]) ∧ w = w' := by
  rcases h with ⟨rfl, rfl⟩ | ⟨b, off, cap, rfl, h0, h1, h2, h3⟩
  · simp at hl
  · exact bnew_full _ _ _ _ hl

theorem set3_0 {w : World} {g x y n : Nat} {t : TypeId} (h : w.heap[g]? = some (.cells #[.int .u64 x, .int .u64 y, .int .i64 n] t (0, 0))) (z : Nat) : (w.setCell ⟨g, 0, none⟩ (.int .u64 z)).heap[g]? = some (.cells #[.int .u64 z, .int .u64 y, .int .i64 n] t (0, 0)) := set_of h _
theorem set3_1 {w : World} {g x y n : Nat} {t : TypeId} (h : w.heap[g]? = some (.cells #[.int .u64 x, .int .u64 y, .int .i64 n] t (0, 0))) (z : Nat) : (w.setCell ⟨g, 1, none⟩ (.int .u64 z)).heap[g]? = some (.cells #[.int .u64 x, .int .u64 z, .int .i64 n] t (0, 0)) := set_of h _
theorem set3_2 {w : World} {g x y n : Nat} {t : TypeId} (h : w.heap[g]? = some (.cells #[.int .u64 x, .int .u64 y, .int .i64 n] t (0, 0))) (z : Nat) : (w.setCell ⟨g, 2, none⟩ (.int .i64 z)).heap[g]? = some (.cells #[.int .u64 x, .int .u64 y, .int .i64 z] t (0, 0)) := set_of h _
theorem set3_n {w : World} {g x y n : Nat} {t : TypeId} (h : w.heap[g]? = some (.cells #[.int .u64 x, .int .u64 y, .int .i64 n] t (0, 0))) {z : Int} (m : Nat) (hz : z = m) : (w.setCell ⟨g, 2, none⟩ (.int .i64 z)).heap[g]? = some (.cells #[.int .u64 x, .int .u64 y, .int .i64 m] t (0, 0)) := by
  subst hz; exact set_of h _
end Go.Proofs.YthbbokoeiifjdaaGreatDoor
namespace Go.Proofs.YthbbokoeiifjdaaGreatDoor
open Go Go.RowKit

theorem ball_nil (w : World) : Calls Tryz.prog 95 #[.pointer none] w fun e w' => e = .returned (.slice none 0 0) ∧ w = w' := by
  go_enter Tryz.func95, Tryz.ntmps95
  go_wp2_with (go_at_call 100; refine (blen_nil _).mono ?_; rintro e w' ⟨rfl, rfl⟩)
  go_loop [3, 7] (fun v i => v = .slice none 0 0 ∧ i = .int .i64 0) (fun _ _ => 0)
  case atStart => exact ⟨rfl, rfl⟩
  case round =>
    obtain ⟨rfl, rfl⟩ := hrel
    go_wp2
    go_ret
    exact ⟨rfl, rfl⟩
set_option maxHeartbeats 400000 in
theorem ball_any {l : List Bool} {g : Nat} (w : World) (h : IsBlk w g l) :
    Calls Tryz.prog 95 #[.pointer (some ⟨g, 0, none⟩)] w fun e w' => ∃ v, e = .returned v ∧ OwnB w.heap.size w' v l ∧ (l = [] → v = .slice none 0 0) ∧ Below w.heap.size w w' := by
  obtain ⟨i0, hi, hz0, hz1, hz2⟩ := info_parts infoB
  have hl := h.1
  have hlt0 := h.lt
  go_enter Tryz.func95, Tryz.ntmps95
  go_wp2_with (go_at_call 100; refine (blen_any _ h).mono ?_; rintro e w' ⟨rfl, rfl⟩)
  go_loopw [3, 4, 7] (fun v _ i wr => ∃ m : Nat, m ≤ l.length ∧ i = .int .i64 m ∧ OwnB w.heap.size wr v (l.take m) ∧ (m = 0 → v = .slice none 0 0) ∧ Below w.heap.size w wr) (fun _ _ i _ => l.length - (intOf i).toNat)
  case atStart => exact ⟨0, Nat.zero_le _, rfl, World.ownsRow_nil _ _ _ _, fun _ => rfl, Below.refl _ _⟩
  case round =>
    obtain ⟨m, hm, rfl, hown, hnil, hb⟩ := hrel
    have HNIL := Lib.hid hnil
    clear hnil
    by_cases hlt : m < l.length
    · have h2 : (m : Int) < l.length := by omega
      have hsz := hb.size
      have hblk := h.below hb hlt0
      have htl : (l.take m).length = m := by rw [List.length_take]; omega
      have hown' := hown
      unfold OwnB at hown'
      rw [htl] at hown'
      have HTL := Lib.hid htl
      have HTK := Lib.hid (show l.take (m + 1) = l.take m ++ [l.getD m false] by rw [List.take_succ_eq_append_getElem hlt, List.getD_eq_getElem?_getD, List.getElem?_eq_getElem hlt]; rfl)
      clear htl
      obtain ⟨d, HD⟩ : ∃ d, Hid (l.getD m false = d) := ⟨_, Lib.hid rfl⟩
      have key := bat_any m wr hblk hlt
      rw [HD.out] at key
      go_wp2_with fail
      refine key.mono ?_
      clear key
      rintro e w' ⟨rfl, rfl⟩
      go_wp2_with (first
        | (at_builtin; (refine wpList_append_own _ rfl (.tmp 10) (.tmp 14) 116 rfl w.heap.size 4 i0 (.bool false) 1 1 Tryz.underlying116 hi hz0 hz1 hz2 rfl (by decide) _ _ _ rfl (World.ownsRow.alloc hown' _) ⟨wr.heap.size, 0, none⟩ 1 1 [.bool d] rfl rfl (cell_one_new _ _ _) (fun u hu => by simp at hu; subst hu; rfl) (by unfold maxLen; omega) (by omega) (by simp; omega) ?_); intro v' w3 hown3 hgrow3 hnil3))
      have hb3 : Below w.heap.size w w3 := (hb.alloc hsz _).grown hgrow3 (by simp; omega) (fun q hq => (hown.lt q hq).1)
      have hr : OwnB w.heap.size w3 v' (l.take (m + 1)) := by rw [HTK.out, HD.out]; exact OwnB.push (by rw [HTL.out]; exact hown3)
      clear hown3 hgrow3 hnil3
      go_roundw
      case rel => exact ⟨m + 1, by omega, by go_num, hr, fun h => by omega, hb3⟩
      case measure => simp [intOf]; omega
    · have he : m = l.length := by omega
      subst he
      rw [List.take_length] at hown
      go_wp2
      go_ret
      exact ⟨_, rfl, hown, fun h => HNIL.out (by rw [h]; rfl), hb⟩

theorem RdB.take {w : World} {l : List Bool} {b off cap : Nat} {k : Nat} (hb : b < w.heap.size) (h1 : l.length ≤ cap) (h2 : cap ≤ maxLen) (h3 : ∀ i, i < l.length → w.cell? ⟨b, off + i, none⟩ = some (.bool (l.getD i false))) (hk : k ≤ l.length) : RdB w (.slice (some ⟨b, off, none⟩) k cap) (l.take k) := by
  have ht : (l.take k).length = k := by rw [List.length_take]; omega
  refine .inr ⟨b, off, cap, by rw [ht], hb, by omega, h2, fun i hi => ?_⟩
  rw [ht] at hi
  rw [h3 i (by omega), Blk.take_getD]
  simp [hi]
theorem RdB.drop {w : World} {l : List Bool} {b off cap : Nat} {k : Nat} (hb : b < w.heap.size) (h1 : l.length ≤ cap) (h2 : cap ≤ maxLen) (h3 : ∀ i, i < l.length → w.cell? ⟨b, off + i, none⟩ = some (.bool (l.getD i false))) (hk : k ≤ l.length) : RdB w (.slice (if cap = k then some ⟨b, off, none⟩ else some ⟨b, off + k, none⟩) (l.length - k) (cap - k)) (l.drop k) := by
  have ht : (l.drop k).length = l.length - k := List.length_drop
  by_cases hc : cap = k
  · rw [if_pos hc]
    exact .inr ⟨b, off, cap - k, by rw [ht], hb, by omega, by omega, fun i hi => by rw [ht] at hi; omega⟩
  · rw [if_neg hc]
    refine .inr ⟨b, off + k, cap - k, by rw [ht], hb, by omega, by omega, fun i hi => ?_⟩
    rw [ht] at hi
    rw [Nat.add_assoc, h3 (k + i) (by omega), List.getD_eq_getElem?_getD, List.getD_eq_getElem?_getD, List.getElem?_drop]
end Go.Proofs.YthbbokoeiifjdaaGreatDoor
namespace Go.Proofs.YthbbokoeiifjdaaGreatDoor
open Go Go.RowKit

theorem Blk_nil {x y : Nat} {w : World} {g n : Nat} (hn : n = 0) (hg : w.heap[g]? = some (.cells #[.int .u64 x, .int .u64 y, .int .i64 n] 130 (0, 0))) (hx : Blk.Has x (Blk.at_ [] 0)) (hy : Blk.Has y (Blk.at_ [] 64)) : IsBlk w g [] := by
  subst hn; exact ⟨by decide, x, y, hg, hx, hy⟩
theorem set3_copy {w : World} {g x y n x' y' m : Nat} {z : Int} {t : TypeId} (hz : z = m) (h : w.heap[g]? = some (.cells #[.int .u64 x, .int .u64 y, .int .i64 n] t (0, 0))) :
    (((w.setCell ⟨g, 0, none⟩ (.int .u64 x')).setCell ⟨g, 1, none⟩ (.int .u64 y')).setCell ⟨g, 2, none⟩ (.int .i64 z)).heap[g]? = some (.cells #[.int .u64 x', .int .u64 y', .int .i64 m] t (0, 0)) := by
  subst hz; exact set_of (set_of (set_of h _) _) _
theorem Stay.copy {S : Nat → Prop} {a w : World} {g : Nat} (h : Stay S a w) (hg : S g) (u v z : Value) : Stay S a (((w.setCell ⟨g, 0, none⟩ u).setCell ⟨g, 1, none⟩ v).setCell ⟨g, 2, none⟩ z) :=
  ((h.setCell (p := ⟨g, 0, none⟩) (.inr hg) _).setCell (p := ⟨g, 1, none⟩) (.inr hg) _).setCell (p := ⟨g, 2, none⟩) (.inr hg) _
end Go.Proofs.YthbbokoeiifjdaaGreatDoor
namespace Go.Proofs.YthbbokoeiifjdaaGreatDoor
open Go Go.RowKit

theorem IsBlk.drewN {w : World} {g : Nat} {l : List Bool} (h : IsBlk w g l) (n : Nat) : IsBlk (w.drewN n) g l := h
theorem infoK : (Tryz.prog.info? 130).map (fun i => i.size) = some 3 := by kernel_rfl
theorem ptrK_same (a : Addr) (w : World) : (binOp .eql 111 (.pointer (some a)) (.pointer (some a))).run Tryz.prog w = .ok (.bool true) w := by
  obtain ⟨j, hj, _⟩ := Option.map_eq_some_iff.1 infoK
  exact run_eql_ptr_same w a Tryz.underlying111 hj
theorem ptrK_other {g g2 : Nat} {l m : List Bool} (w : World) (hne : g2 ≠ g) (h : IsBlk w g l) (h2 : IsBlk w g2 m) : (binOp .eql 111 (.pointer (some ⟨g2, 0, none⟩)) (.pointer (some ⟨g, 0, none⟩))).run Tryz.prog w = .ok (.bool false) w := by
  obtain ⟨j, hj, hs⟩ := Option.map_eq_some_iff.1 infoK
  obtain ⟨_, x, y, hg, _⟩ := h
  obtain ⟨_, x', y', hg', _⟩ := h2
  exact run_eql_ptr_other w Tryz.underlying111 hj (by rw [hs]; decide) (fun e => hne (by injection e)) hg' hg
end Go.Proofs.YthbbokoeiifjdaaGreatDoor
