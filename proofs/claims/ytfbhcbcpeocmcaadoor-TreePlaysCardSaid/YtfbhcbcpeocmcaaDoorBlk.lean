/- Plain facts on a list of at most 128 bits that is kept in two words. No program stands in it. -/
import Derived.Test.YtfbhcbcpeocmcaaDoorWord
namespace Go.Proofs.YtfbhcbcpeocmcaaDoor
namespace Blk

/-- A word's 64 bits. -/
def Has (x : Nat) (f : Nat → Bool) : Prop := x < 18446744073709551616 ∧ ∀ i, i < 64 → x.testBit i = f i
/-- The bits that a list has from s on (none: 0). -/
def at_ (l : List Bool) (s i : Nat) : Bool := l.getD (s + i) false
theorem Has.congr {x : Nat} {f g : Nat → Bool} (h : Has x f) (hg : ∀ i, i < 64 → f i = g i) : Has x g := ⟨h.1, fun i hi => (h.2 i hi).trans (hg i hi)⟩
theorem Has.zero : Has 0 (fun _ => false) := ⟨by decide, fun i _ => Nat.zero_testBit i⟩

theorem in_getD (l : List Bool) (k : Nat) (b : Bool) (hk : k ≤ l.length) (i : Nat) : (l.take k ++ b :: l.drop k).getD i false = if i < k then l.getD i false else if i = k then b else l.getD (i - 1) false := by
  have ht : (l.take k).length = k := by rw [List.length_take]; omega
  rw [List.getD_eq_getElem?_getD, List.getElem?_append, ht]
  by_cases h1 : i < k
  · rw [if_pos h1, if_pos h1, List.getElem?_take_of_lt h1]; rfl
  · rw [if_neg h1, if_neg h1]
    by_cases h2 : i = k
    · subst h2; simp
    · rw [if_neg h2]
      obtain ⟨d, rfl⟩ : ∃ d, i = k + (d + 1) := ⟨i - k - 1, by omega⟩
      rw [show k + (d + 1) - k = d + 1 from by omega, List.getElem?_cons_succ, List.getElem?_drop, show k + (d + 1) - 1 = k + d from by omega]
      rfl
theorem out_getD (l : List Bool) (k : Nat) (hk : k < l.length) (i : Nat) : (l.take k ++ l.drop (k + 1)).getD i false = if i < k then l.getD i false else l.getD (i + 1) false := by
  have ht : (l.take k).length = k := by rw [List.length_take]; omega
  rw [List.getD_eq_getElem?_getD, List.getElem?_append, ht]
  by_cases h1 : i < k
  · rw [if_pos h1, if_pos h1, List.getElem?_take_of_lt h1]; rfl
  · rw [if_neg h1, if_neg h1, List.getElem?_drop, show k + 1 + (i - k) = i + 1 from by omega]
    rfl
/-- A bit in, a bit out. -/
def ins (l : List Bool) (k : Nat) (b : Bool) : List Bool := l.take k ++ b :: l.drop k
def del (l : List Bool) (k : Nat) : List Bool := l.take k ++ l.drop (k + 1)
theorem ins_len {l : List Bool} {k : Nat} {b : Bool} (hk : k ≤ l.length) : (ins l k b).length = l.length + 1 := by unfold ins; simp; omega
theorem del_len {l : List Bool} {k : Nat} (hk : k < l.length) : (del l k).length = l.length - 1 := by unfold del; simp; omega
theorem getD_ge {l : List Bool} {i : Nat} (h : l.length ≤ i) : l.getD i false = false := by rw [List.getD_eq_getElem?_getD, List.getElem?_eq_none h]; rfl

theorem put_lo {l : List Bool} {k x : Nat} {b : Bool} (hx : Has x (at_ l 0)) (hk : k < 64) (hl : k ≤ l.length) : Has (Wd.put x k b) (at_ (ins l k b) 0) := by
  refine ⟨Wd.put_lt _ _ _, fun i hi => ?_⟩
  unfold at_ ins
  rw [Wd.testBit_put hk b i hi, in_getD l k b hl, Nat.zero_add]
  by_cases h1 : i < k
  · rw [if_pos h1, if_pos h1, hx.2 i hi]; unfold at_; rw [Nat.zero_add]
  · by_cases h2 : i = k
    · rw [if_neg h1, if_neg h1, if_pos h2, if_pos h2]
    · rw [if_neg h1, if_neg h1, if_neg h2, if_neg h2, hx.2 (i - 1) (by omega)]; unfold at_; rw [Nat.zero_add]
theorem put_carry {l : List Bool} {k x y : Nat} {b : Bool} (hx : Has x (at_ l 0)) (hy : Has y (at_ l 64)) (hk : k < 64) (hl : k ≤ l.length) : Has (Wd.put y 0 (x.testBit 63)) (at_ (ins l k b) 64) := by
  refine ⟨Wd.put_lt _ _ _, fun i hi => ?_⟩
  unfold at_ ins
  rw [Wd.testBit_put (by decide) _ i hi, in_getD l k b hl, if_neg (show ¬ 64 + i < k by omega), if_neg (show ¬ 64 + i = k by omega), if_neg (show ¬ i < 0 by omega)]
  by_cases h2 : i = 0
  · subst h2; rw [if_pos rfl, hx.2 63 (by decide)]; rfl
  · rw [if_neg h2, hy.2 (i - 1) (by omega)]; unfold at_; rw [show 64 + (i - 1) = 64 + i - 1 from by omega]
theorem put_hi {l : List Bool} {k y : Nat} {b : Bool} (hy : Has y (at_ l 64)) (hk : k < 64) (hl : 64 + k ≤ l.length) : Has (Wd.put y k b) (at_ (ins l (64 + k) b) 64) := by
  refine ⟨Wd.put_lt _ _ _, fun i hi => ?_⟩
  unfold at_ ins
  rw [Wd.testBit_put hk b i hi, in_getD l _ b hl]
  by_cases h1 : i < k
  · rw [if_pos h1, if_pos (show 64 + i < 64 + k by omega), hy.2 i hi]; rfl
  · rw [if_neg h1, if_neg (show ¬ 64 + i < 64 + k by omega)]
    by_cases h2 : i = k
    · rw [if_pos h2, if_pos (show 64 + i = 64 + k by omega)]
    · rw [if_neg h2, if_neg (show ¬ 64 + i = 64 + k by omega), hy.2 (i - 1) (by omega)]; unfold at_; rw [show 64 + (i - 1) = 64 + i - 1 from by omega]
theorem ins_lo {l : List Bool} {k x : Nat} {b : Bool} (hx : Has x (at_ l 0)) (hk : 64 ≤ k) (hl : k ≤ l.length) : Has x (at_ (ins l k b) 0) := hx.congr fun i hi => by
  unfold at_ ins; rw [in_getD l k b hl, if_pos (by omega)]
theorem cut_lo {l : List Bool} {k x y : Nat} (hx : Has x (at_ l 0)) (hy : Has y (at_ l 64)) (hk : k < 64) (hl : k < l.length) : Has (Wd.cut x k (y.testBit 0)) (at_ (del l k) 0) := by
  refine ⟨Wd.cut_lt _ _ _, fun i hi => ?_⟩
  unfold at_ del
  rw [Wd.testBit_cut hx.1 hk _ i hi, out_getD l k hl, Nat.zero_add]
  by_cases h1 : i < k
  · rw [if_pos h1, if_pos h1, hx.2 i hi]; unfold at_; rw [Nat.zero_add]
  · by_cases h2 : i = 63
    · subst h2; rw [if_neg h1, if_neg h1, if_pos rfl, hy.2 0 (by decide)]; rfl
    · rw [if_neg h1, if_neg h1, if_neg h2, hx.2 (i + 1) (by omega)]; unfold at_; rw [Nat.zero_add]
theorem cut_carry {l : List Bool} {k y : Nat} (hy : Has y (at_ l 64)) (hk : k < 64) (hl : k < l.length) (hn : l.length ≤ 128) : Has (Wd.cut y 0 false) (at_ (del l k) 64) := by
  refine ⟨Wd.cut_lt _ _ _, fun i hi => ?_⟩
  unfold at_ del
  rw [Wd.testBit_cut hy.1 (by decide) _ i hi, out_getD l k hl, if_neg (show ¬ 64 + i < k by omega), if_neg (show ¬ i < 0 by omega)]
  by_cases h2 : i = 63
  · subst h2; rw [if_pos rfl, getD_ge (by omega)]
  · rw [if_neg h2, hy.2 (i + 1) (by omega)]; rfl
theorem cut_hi {l : List Bool} {k y : Nat} (hy : Has y (at_ l 64)) (hk : k < 64) (hl : 64 + k < l.length) (hn : l.length ≤ 128) : Has (Wd.cut y k false) (at_ (del l (64 + k)) 64) := by
  refine ⟨Wd.cut_lt _ _ _, fun i hi => ?_⟩
  unfold at_ del
  rw [Wd.testBit_cut hy.1 hk _ i hi, out_getD l _ hl]
  by_cases h1 : i < k
  · rw [if_pos h1, if_pos (show 64 + i < 64 + k by omega), hy.2 i hi]; rfl
  · rw [if_neg h1, if_neg (show ¬ 64 + i < 64 + k by omega)]
    by_cases h2 : i = 63
    · subst h2; rw [if_pos rfl, getD_ge (by omega)]
    · rw [if_neg h2, hy.2 (i + 1) (by omega)]; rfl
theorem del_lo {l : List Bool} {k x : Nat} (hx : Has x (at_ l 0)) (hk : 64 ≤ k) (hl : k < l.length) : Has x (at_ (del l k) 0) := hx.congr fun i hi => by
  unfold at_ del; rw [out_getD l k hl, if_pos (by omega)]
/-- A bit is set, where nothing stood. -/
theorem take_getD (l : List Bool) (k i : Nat) : (l.take k).getD i false = (decide (i < k) && l.getD i false) := by
  rw [List.getD_eq_getElem?_getD, List.getElem?_take, List.getD_eq_getElem?_getD]
  by_cases h : i < k <;> simp [h]
theorem Has.set {x m s : Nat} {l : List Bool} (h : Has x (at_ (l.take (s + m)) s)) (hm : m < 64) (hb : l.getD (s + m) false = true) : Has (x ||| 2 ^ m) (at_ (l.take (s + m + 1)) s) := by
  have h64 : 2 ^ m < 2 ^ 64 := Nat.pow_lt_pow_right (by decide) hm
  refine ⟨Wd.or_lt h.1 h64, fun i hi => ?_⟩
  rw [Nat.testBit_or, h.2 i hi, Nat.testBit_two_pow]
  unfold at_
  rw [take_getD, take_getD]
  by_cases e : m = i
  · subst e; rw [hb]; simp
  · by_cases e2 : i < m
    · have h1 : s + i < s + m := by omega
      have h2 : s + i < s + m + 1 := by omega
      simp [e, h1, h2]
    · have h1 : ¬ s + i < s + m := by omega
      have h2 : ¬ s + i < s + m + 1 := by omega
      simp [e, h1, h2]
theorem Has.skip {x k s : Nat} {l : List Bool} (h : Has x (at_ (l.take k) s)) (hb : l.getD k false = false ∨ k < s ∨ s + 64 ≤ k) : Has x (at_ (l.take (k + 1)) s) := h.congr fun i hi => by
  unfold at_
  rw [take_getD, take_getD]
  by_cases e : s + i = k
  · rcases hb with hb | hb | hb
    · rw [e, hb]; simp
    · omega
    · omega
  · by_cases e2 : s + i < k
    · have : s + i < k + 1 := by omega
      simp [e2, this]
    · have : ¬ s + i < k + 1 := by omega
      simp [e2, this]

/-- How many bits like b are among the first k. -/
def rk (b : Bool) (l : List Bool) (k : Nat) : Nat := (l.take k).count b
theorem rk_succ {b : Bool} {l : List Bool} {k : Nat} (h : k < l.length) : rk b l (k + 1) = rk b l k + if l.getD k false = b then 1 else 0 := by
  unfold rk
  rw [List.take_succ_eq_append_getElem h, List.count_append, List.getD_eq_getElem?_getD, List.getElem?_eq_getElem h]
  simp [List.count_cons]
theorem rk_all {b : Bool} {l : List Bool} {k : Nat} (h : l.length ≤ k) : rk b l k = l.count b := by unfold rk; rw [List.take_of_length_le h]
theorem rk_mono {b : Bool} {l : List Bool} {i k : Nat} (h : i ≤ k) : rk b l i ≤ rk b l k := by
  unfold rk
  exact List.Sublist.count_le b (List.take_sublist_take_left h)
theorem rk_le (b : Bool) (l : List Bool) (k : Nat) : rk b l k ≤ k := by
  unfold rk; exact Nat.le_trans List.count_le_length (List.length_take_le _ _)
theorem rk_cnt {b : Bool} {l : List Bool} : ∀ {k : Nat}, k ≤ l.length → Wd.cnt (fun i => l.getD i false == b) k = rk b l k
  | 0, _ => by simp [Wd.cnt, rk]
  | k + 1, h => by
    rw [Wd.cnt_succ, rk_succ (by omega), rk_cnt (by omega)]
    generalize l.getD k false = c
    cases c <;> cases b <;> rfl
/-- Ones alone: beyond the end there are none. -/
theorem ones_cnt (l : List Bool) : ∀ k : Nat, Wd.cnt (fun i => l.getD i false) k = rk true l k
  | 0 => by simp [Wd.cnt, rk]
  | k + 1 => by
    rw [Wd.cnt_succ, ones_cnt l k]
    by_cases h : k < l.length
    · rw [rk_succ h]
      cases l.getD k false <;> simp
    · rw [rk_all (k := k + 1) (by omega), rk_all (k := k) (by omega), getD_ge (by omega)]; rfl
theorem Has.cnt {x s : Nat} {l : List Bool} (h : Has x (at_ l s)) {k : Nat} (hk : k ≤ 64) : Wd.cnt x.testBit k = Wd.cnt (fun i => l.getD (s + i) false) k := Wd.cnt_congr fun i hi => h.2 i (by omega)
theorem rank_two {x y : Nat} {l : List Bool} (hx : Has x (at_ l 0)) (hy : Has y (at_ l 64)) {k : Nat} (hk : k ≤ 128) : Wd.cnt x.testBit (min k 64) + Wd.cnt y.testBit (min (k - 64) 64) = rk true l k := by
  rw [hx.cnt (by omega), hy.cnt (by omega)]
  have h0 : (fun i => l.getD (0 + i) false) = fun i => l.getD i false := by funext i; rw [Nat.zero_add]
  rw [h0]
  by_cases h : k ≤ 64
  · rw [show min k 64 = k from by omega, show min (k - 64) 64 = 0 from by omega, ones_cnt]; rfl
  · rw [show min k 64 = 64 from by omega, show min (k - 64) 64 = k - 64 from by omega, ← Wd.cnt_add, ones_cnt, show 64 + (k - 64) = k from by omega]
theorem pop_two {x y : Nat} {l : List Bool} (hx : Has x (at_ l 0)) (hy : Has y (at_ l 64)) (hl : l.length ≤ 128) : Wd.pop x + Wd.pop y = l.count true := by
  have := rank_two hx hy (k := 128) (by omega)
  rw [rk_all hl] at this
  exact this

/-- The place of the bit like b with j such ones ahead: -1: of none. -/
def pl (b : Bool) : List Bool → Nat → Nat
  | [], _ => 0
  | x :: r, j => if x = b then (match j with | 0 => 0 | j + 1 => pl b r j + 1) else pl b r j + 1
theorem pl_spec (b : Bool) : ∀ (l : List Bool) (j : Nat), j < l.count b → pl b l j < l.length ∧ l.getD (pl b l j) false = b ∧ rk b l (pl b l j) = j
  | [], j, h => by simp at h
  | x :: r, j, h => by
    by_cases e : x = b
    · subst e
      rw [List.count_cons_self] at h
      match j with
      | 0 => simp [pl, rk]
      | j + 1 =>
        obtain ⟨h1, h2, h3⟩ := pl_spec x r j (by omega)
        refine ⟨by simp [pl]; omega, by simp only [pl, if_true]; exact h2, ?_⟩
        simp only [pl, if_true]
        unfold rk at h3 ⊢
        rw [List.take_succ_cons, List.count_cons_self, h3]
    · rw [List.count_cons_of_ne e] at h
      obtain ⟨h1, h2, h3⟩ := pl_spec b r j h
      refine ⟨by simp [pl, e]; omega, by simp only [pl, if_neg e]; exact h2, ?_⟩
      simp only [pl, if_neg e]
      unfold rk at h3 ⊢
      rw [List.take_succ_cons, List.count_cons_of_ne e, h3]
noncomputable def sl (b : Bool) (l : List Bool) (j : Int) : Int := if 0 ≤ j ∧ j < l.count b then (pl b l j.toNat : Int) else -1
theorem sl_none {b : Bool} {l : List Bool} {j : Int} (h : j < 0 ∨ (l.count b : Int) ≤ j) : sl b l j = -1 := by unfold sl; rw [if_neg (by omega)]
theorem rk_lt_count {b : Bool} {l : List Bool} {k : Nat} (hk : k < l.length) (hb : l.getD k false = b) : rk b l k < l.count b := by
  have h1 := rk_succ (b := b) hk
  rw [if_pos hb] at h1
  have h2 := rk_mono (b := b) (l := l) (show k + 1 ≤ l.length by omega)
  rw [rk_all (k := l.length) (Nat.le_refl _)] at h2
  omega
theorem sl_of {b : Bool} {l : List Bool} {k j : Nat} (hk : k < l.length) (hb : l.getD k false = b) (hj : rk b l k = j) : sl b l (j : Int) = (k : Int) := by
  have hc := rk_lt_count hk hb
  unfold sl
  rw [if_pos (by omega), Int.toNat_natCast]
  obtain ⟨h1, h2, h3⟩ := pl_spec b l j (by omega)
  have key : ∀ i m, i < m → m < l.length → l.getD i false = b → rk b l i < rk b l m := fun i m him hm hi => by
    have e1 := rk_succ (b := b) (show i < l.length by omega)
    rw [if_pos hi] at e1
    have e2 := rk_mono (b := b) (l := l) (show i + 1 ≤ m by omega)
    omega
  rcases Nat.lt_trichotomy (pl b l j) k with h | h | h
  · have := key _ _ h hk h2; omega
  · rw [h]
  · have := key _ _ h h1 hb; omega
/-- What is found in two words, turned round for 0s: it is within the list, or there is none. -/
theorem sl_place {b : Bool} {l : List Bool} {p j : Nat} (hb : (l.getD p false == b) = true) (hj : Wd.cnt (fun i => l.getD i false == b) p = j) : (if p < l.length then (p : Int) else -1) = sl b l (j : Int) := by
  by_cases h : p < l.length
  · rw [if_pos h]
    exact (sl_of h (by simpa using hb) (by rw [← hj, rk_cnt (by omega)])).symm
  · rw [if_neg h, sl_none (.inr ?_)]
    have h1 := rk_cnt (b := b) (l := l) (Nat.le_refl _)
    rw [rk_all (Nat.le_refl _)] at h1
    have h2 := Wd.cnt_mono (fun i => l.getD i false == b) (show l.length ≤ p by omega)
    omega
theorem sl_beyond {b : Bool} {l : List Bool} {j : Nat} (hl : l.length ≤ 128) (hj : Wd.cnt (fun i => l.getD i false == b) 128 ≤ j) : sl b l (j : Int) = -1 := by
  refine sl_none (.inr ?_)
  have h1 := rk_cnt (b := b) (l := l) (Nat.le_refl _)
  rw [rk_all (Nat.le_refl _)] at h1
  have h2 := Wd.cnt_mono (fun i => l.getD i false == b) hl
  omega
/-- A word, or the word turned. -/
def tw (b : Bool) (x : Nat) : Nat := if b then x else Wd.neg x
theorem tw_lt {b : Bool} {x : Nat} (hx : x < 18446744073709551616) : tw b x < 18446744073709551616 := by
  unfold tw; cases b
  · exact Wd.neg_lt _
  · exact hx
theorem tw_has {b : Bool} {x s : Nat} {l : List Bool} (h : Has x (at_ l s)) : Has (tw b x) (fun i => l.getD (s + i) false == b) := by
  refine ⟨tw_lt h.1, fun i hi => ?_⟩
  unfold tw
  cases b
  · rw [if_neg (by decide), Wd.testBit_neg_lt h.1 hi, h.2 i hi]; unfold at_; show (!l.getD (s + i) false) = (l.getD (s + i) false == false); generalize l.getD (s + i) false = c; cases c <;> rfl
  · rw [if_pos rfl, h.2 i hi]; unfold at_; show l.getD (s + i) false = (l.getD (s + i) false == true); generalize l.getD (s + i) false = c; cases c <;> rfl
theorem sel_lo {b : Bool} {x j : Nat} {l : List Bool} (h : Has x (at_ l 0)) (hj : j < Wd.pop (tw b x)) :
    (if Wd.sel j (tw b x) < l.length then (Wd.sel j (tw b x) : Int) else -1) = sl b l (j : Int) := by
  have ht := tw_has (b := b) h
  obtain ⟨h1, h2, h3⟩ := Wd.sel_spec j _ ht.1 hj
  generalize Wd.sel j (tw b x) = p at *
  have e : ∀ i, i < 64 → (tw b x).testBit i = (l.getD i false == b) := fun i hi => by rw [ht.2 i hi]; show (l.getD (0 + i) false == b) = _; rw [Nat.zero_add]
  refine sl_place ?_ ?_
  · rw [← e _ h1, h2]
  · rw [← h3]; exact Wd.cnt_congr fun i hi => (e i (by omega)).symm
theorem pop_tw {b : Bool} {x s : Nat} {l : List Bool} (h : Has x (at_ l s)) : Wd.pop (tw b x) = Wd.cnt (fun i => l.getD (s + i) false == b) 64 := Wd.cnt_congr fun i hi => (tw_has (b := b) h).2 i hi
theorem pop_tw0 {b : Bool} {x : Nat} {l : List Bool} (h : Has x (at_ l 0)) : Wd.pop (tw b x) = Wd.cnt (fun i => l.getD i false == b) 64 := by
  rw [pop_tw h]; exact Wd.cnt_congr fun i _ => by rw [Nat.zero_add]
theorem sel_hi {b : Bool} {x y j : Nat} {l : List Bool} (hx : Has x (at_ l 0)) (hy : Has y (at_ l 64)) (h0 : Wd.pop (tw b x) ≤ j) (hj : j - Wd.pop (tw b x) < Wd.pop (tw b y)) :
    (if 64 + Wd.sel (j - Wd.pop (tw b x)) (tw b y) < l.length then ((64 + Wd.sel (j - Wd.pop (tw b x)) (tw b y) : Nat) : Int) else -1) = sl b l (j : Int) := by
  have ht := tw_has (b := b) hy
  obtain ⟨h1, h2, h3⟩ := Wd.sel_spec _ _ ht.1 hj
  generalize Wd.sel (j - Wd.pop (tw b x)) (tw b y) = p at *
  refine sl_place ?_ ?_
  · rw [← h2, ht.2 _ h1]
  · have e : Wd.cnt (fun i => l.getD (64 + i) false == b) p = j - Wd.pop (tw b x) := by
      rw [← h3]; exact Wd.cnt_congr fun i hi => (ht.2 i (by omega)).symm
    rw [Wd.cnt_add, ← pop_tw0 hx, e]
    omega
theorem sel_no {b : Bool} {x y j : Nat} {l : List Bool} (hx : Has x (at_ l 0)) (hy : Has y (at_ l 64)) (hl : l.length ≤ 128) (h0 : Wd.pop (tw b x) + Wd.pop (tw b y) ≤ j) : sl b l (j : Int) = -1 := by
  refine sl_beyond hl ?_
  rw [show 128 = 64 + 64 from rfl, Wd.cnt_add, ← pop_tw0 hx, ← pop_tw hy]
  exact h0
/-- What is told of one place: the bit and the code. -/
def getB (l : List Bool) (k : Int) : Bool := if 0 ≤ k ∧ k < l.length then l.getD k.toNat false else false
def getE (l : List Bool) (k : Int) : Int := if 0 ≤ k ∧ k < l.length then 0 else 2
end Blk
end Go.Proofs.YtfbhcbcpeocmcaaDoor
