/- Keys of a wave's nodes: a level and a path as one number, and which bits lie there. No function of the program stands in it. A wave in memory: nodes by keys, each with its tree and the two pointers to those below. No law of a statement stands in it. Small contracts of a wave: symbols, sides, new nodes; what a node's tree is asked and what is counted then. A wave of a list: which bits each node has; what reading leaves as it was; its shapes. No law of a statement stands in it. -/
import Derived.Test.YthbbokoeiifjdaaGreatDoorWvg
import Derived.Test.YthbbokoeiifjdaaGreatDoorFor
import Derived.Test.YthbbokoeiifjdaaGreatDoorSy
import Derived.Test.YthbbokoeiifjdaaGreatDoorWo
import Derived.Deep.RegionHeld3
import Derived.Test.YthbbokoeiifjdaaGreatDoorTlC
namespace Go.Proofs.YthbbokoeiifjdaaGreatDoor
namespace Wk

/-- The level and the path of a key; a symbol's key on a level. -/
def lev (k : Nat) : Nat := Nat.log2 k
def pth (k : Nat) : Nat := k - 2 ^ Nat.log2 k
theorem lev_of {v p : Nat} (hp : p < 2 ^ v) : lev (2 ^ v + p) = v := by
  unfold lev
  have h2 := Nat.two_pow_pos v
  exact (Nat.log2_eq_iff (by omega)).2 ⟨by omega, by rw [Nat.pow_succ]; omega⟩
theorem pth_of {v p : Nat} (hp : p < 2 ^ v) : pth (2 ^ v + p) = p := by
  have := lev_of hp
  unfold lev at this
  unfold pth
  rw [this]; omega
theorem of_lev {k : Nat} (hk : 1 ≤ k) : k = 2 ^ lev k + pth k ∧ pth k < 2 ^ lev k := by
  unfold lev pth
  obtain ⟨h1, h2⟩ := (Nat.log2_eq_iff (n := k) (k := Nat.log2 k) (by omega)).1 rfl
  rw [Nat.pow_succ] at h2
  omega
theorem lev_le {k : Nat} (hk : 1 ≤ k) (h : k < 512) : lev k ≤ 8 := by
  obtain ⟨h1, h2⟩ := of_lev hk
  apply Nat.le_of_not_lt
  intro h3
  have := Nat.pow_le_pow_right (show 0 < 2 by decide) (show 9 ≤ lev k by omega)
  omega
theorem lev_child {k i : Nat} (hk : 1 ≤ k) (hi : i ≤ 1) : lev (2 * k + i) = lev k + 1 ∧ pth (2 * k + i) = 2 * pth k + i := by
  obtain ⟨h1, h2⟩ := of_lev hk
  have e : 2 * k + i = 2 ^ (lev k + 1) + (2 * pth k + i) := by rw [Nat.pow_succ]; omega
  have h3 : 2 * pth k + i < 2 ^ (lev k + 1) := by rw [Nat.pow_succ]; omega
  constructor
  · rw [e]; exact lev_of h3
  · conv => lhs; rw [e]
    exact pth_of h3
theorem path_nn {s : Int} (hs : 0 ≤ s ∧ s ≤ 256) {v : Nat} (hv : v ≤ 9) : 0 ≤ Sy.path s v := by
  rw [Sy.path_of hs (by omega)]
  exact (Sy.div_rng hs _).1
theorem path_lt {s : Int} (hs : 0 ≤ s ∧ s ≤ 256) : ∀ {v : Nat}, v ≤ 9 → (Sy.path s v).toNat < 2 ^ v
  | 0, _ => by rw [show ((0 : Nat) : Int) = 0 from rfl, Sy.path_zero hs]; decide
  | v + 1, hv => by
    have h1 := path_lt hs (v := v) (by omega)
    have h2 := path_nn hs (v := v) (by omega)
    have h3 := Wv.path_nxt hs (v := v) (by omega)
    unfold Wv.nxt at h3
    rw [h3, Nat.pow_succ]
    split <;> omega
/-- A bit as a number. -/
def bi (b : Bool) : Nat := if b = true then 1 else 0
theorem bi_le (b : Bool) : bi b ≤ 1 := by cases b <;> decide
def key (s : Int) (v : Nat) : Nat := 2 ^ v + (Sy.path s v).toNat
theorem key_zero {s : Int} (hs : 0 ≤ s ∧ s ≤ 256) : key s 0 = 1 := by
  have := path_lt hs (v := 0) (by omega)
  unfold key
  omega
theorem key_succ {s : Int} (hs : 0 ≤ s ∧ s ≤ 256) {v : Nat} (hv : v ≤ 8) : key s (v + 1) = 2 * key s v + bi (Sy.bit s v) := by
  have h2 := path_nn hs (v := v) (by omega)
  have h3 := Wv.path_nxt hs (v := v) (by omega)
  unfold Wv.nxt at h3
  unfold key bi
  rw [h3, Nat.pow_succ]
  split <;> omega
theorem key_lev {s : Int} (hs : 0 ≤ s ∧ s ≤ 256) {v : Nat} (hv : v ≤ 9) : lev (key s v) = v := lev_of (path_lt hs hv)
theorem key_rng {s : Int} (hs : 0 ≤ s ∧ s ≤ 256) {v : Nat} (hv : v ≤ 8) : 1 ≤ key s v ∧ key s v < 512 := by
  have h1 := path_lt hs (v := v) (by omega)
  have h2 := Nat.two_pow_pos v
  have h3 := Nat.pow_le_pow_right (show 0 < 2 by decide) hv
  unfold key
  have : (2 : Nat) ^ 8 = 256 := by decide
  omega
theorem key_inj {s : Int} (hs : 0 ≤ s ∧ s ≤ 256) {u v : Nat} (hu : u ≤ 9) (hv : v ≤ 9) (h : key s u = key s v) : u = v := by
  rw [← key_lev hs hu, ← key_lev hs hv, h]

/-- The bits of a node. -/
def wb (m : List Int) (k : Nat) : List Bool := Wv.bits m (lev k) (pth k : Int)
theorem wb_of (m : List Int) {v p : Nat} (hp : p < 2 ^ v) : wb m (2 ^ v + p) = Wv.bits m v p := by unfold wb; rw [lev_of hp, pth_of hp]
theorem wb_key (m : List Int) {s : Int} (hs : 0 ≤ s ∧ s ≤ 256) {v : Nat} (hv : v ≤ 9) : wb m (key s v) = Wv.bits m v (Sy.path s v) := by
  unfold key
  rw [wb_of m (path_lt hs hv), Int.toNat_of_nonneg (path_nn hs hv)]
theorem pth_key {s : Int} (hs : 0 ≤ s ∧ s ≤ 256) {v : Nat} (hv : v ≤ 9) : (pth (key s v) : Int) = Sy.path s v := by
  unfold key
  rw [pth_of (path_lt hs hv), Int.toNat_of_nonneg (path_nn hs hv)]
theorem wb_len (m : List Int) (k : Nat) : (wb m k).length ≤ m.length := by
  unfold wb
  rw [Wv.bits_len]
  exact List.length_filter_le _ _
theorem wb_top {m : List Int} (h : Wv.Good m) : (wb m 1).length = m.length := by
  have : wb m 1 = Wv.bits m 0 ((0 : Nat) : Int) := wb_of m (v := 0) (p := 0) (by decide)
  rw [this, Wv.bits_len, show ((0 : Nat) : Int) = 0 from rfl, Wv.sub_zero h]
theorem nxt_nat (p : Nat) (b : Bool) : Wv.nxt (p : Int) b = ((2 * p + bi b : Nat) : Int) := by unfold Wv.nxt bi; cases b <;> simp
/-- The symbols of a node; those that go on by a bit. -/
def ws (m : List Int) (k : Nat) : List Int := Wv.sub m (lev k) (pth k : Int)
theorem wb_ws (m : List Int) (k : Nat) : wb m k = (ws m k).map fun s => Sy.bit s (lev k) := rfl
theorem ws_one {m : List Int} (h : Wv.Good m) : ws m 1 = m := by
  have e1 : lev 1 = 0 := lev_of (v := 0) (p := 0) (by decide)
  have e2 : pth 1 = 0 := pth_of (v := 0) (p := 0) (by decide)
  unfold ws
  rw [e1, e2]
  exact Wv.sub_zero h
theorem ws_child {m : List Int} (h : Wv.Good m) {k : Nat} (hk : 1 ≤ k) (hl : lev k ≤ 8) (b : Bool) : ws m (2 * k + bi b) = (ws m k).filter fun s => Sy.bit s (lev k) == b := by
  obtain ⟨h1, h2⟩ := lev_child hk (bi_le b)
  unfold ws
  rw [h1, h2, ← nxt_nat, Wv.sub_nxt h hl]
theorem ws_good {m : List Int} (h : Wv.Good m) (k : Nat) : Wv.Good (ws m k) := fun s hs => h s (List.mem_filter.1 hs).1
theorem ws_len (m : List Int) (k : Nat) : (ws m k).length ≤ m.length := List.length_filter_le _ _
/-- What a node has: its bits, if it stands. -/
def ob (l : List Bool) : Option (List Bool) := if l = [] then none else some l
theorem ob_nil : ob [] = none := rfl
theorem ob_some {l : List Bool} (h : l ≠ []) : ob l = some l := if_neg h
theorem ob_none {l : List Bool} (h : ob l = none) : l = [] := by
  unfold ob at h
  split at h
  · assumption
  · cases h
theorem ob_is {l m : List Bool} (h : ob l = some m) : m = l ∧ l ≠ [] := by
  unfold ob at h
  split at h
  · cases h
  · injection h with h; exact ⟨h.symm, by assumption⟩
def wq (m : List Int) (k : Nat) : Option (List Bool) := if 1 ≤ k ∧ k < 512 then ob (wb m k) else none
theorem wq_in (m : List Int) {k : Nat} (h : 1 ≤ k ∧ k < 512) : wq m k = ob (wb m k) := if_pos h
theorem wq_out (m : List Int) {k : Nat} (h : ¬ (1 ≤ k ∧ k < 512)) : wq m k = none := if_neg h
theorem wq_is {m : List Int} {k : Nat} {l : List Bool} (h : wq m k = some l) : (1 ≤ k ∧ k < 512) ∧ l = wb m k ∧ l ≠ [] := by
  by_cases h1 : 1 ≤ k ∧ k < 512
  · rw [wq_in m h1] at h
    have := ob_is h
    exact ⟨h1, this.1, this.1 ▸ this.2⟩
  · rw [wq_out m h1] at h; cases h
/-- Below what doesn't stand nothing stands. -/
theorem wb_below {m : List Int} (h : Wv.Good m) {k : Nat} (hk : 1 ≤ k) (hl : lev k ≤ 8) (he : wb m k = []) (b : Bool) : wb m (2 * k + bi b) = [] := by
  have h1 : ws m k = [] := by rw [wb_ws] at he; exact List.map_eq_nil_iff.1 he
  rw [wb_ws, ws_child h hk hl, h1]
  rfl
theorem wq_below {m : List Int} (h : Wv.Good m) {k : Nat} (hk : 1 ≤ k) (he : wq m k = none) (b : Bool) : wq m (2 * k + bi b) = none := by
  by_cases h1 : 1 ≤ 2 * k + bi b ∧ 2 * k + bi b < 512
  · rw [wq_in m h1]
    rw [wq_in m (by omega)] at he
    rw [wb_below h hk (lev_le hk (by omega)) (ob_none he)]
    rfl
  · exact wq_out m h1
/-- What goes in or out turns the bits of its own nodes alone. -/
theorem wb_ins_other {m : List Int} {n : Nat} {s : Int} {k : Nat} (hk : 1 ≤ k) (h : k ≠ key s (lev k)) : wb (Wv.ins m n s) k = wb m k := by
  unfold wb
  refine Wv.bits_ins_other fun e => h ?_
  obtain ⟨h1, _⟩ := of_lev hk
  unfold key
  rw [e]
  omega
theorem wb_del_other {m : List Int} {n : Nat} (hn : n < m.length) {k : Nat} (hk : 1 ≤ k) (h : k ≠ key (m.getD n 0) (lev k)) : wb (Wv.del m n) k = wb m k := by
  unfold wb
  rw [Wv.bits_del hn, if_neg (fun e => h ?_)]
  obtain ⟨h1, _⟩ := of_lev hk
  unfold key
  rw [e]
  omega
theorem wb_ins_own (m : List Int) (n : Nat) {s : Int} (hs : 0 ≤ s ∧ s ≤ 256) {v : Nat} (hv : v ≤ 8) : wb (Wv.ins m n s) (key s v) = Blk.ins (wb m (key s v)) (Wv.pos m v (Sy.path s v) n) (Sy.bit s v) := by
  rw [wb_key _ hs (by omega), wb_key _ hs (by omega), Wv.bits_ins_own]
theorem wb_del_own {m : List Int} {n : Nat} (hn : n < m.length) (hs : 0 ≤ m.getD n 0 ∧ m.getD n 0 ≤ 256) {v : Nat} (hv : v ≤ 8) : wb (Wv.del m n) (key (m.getD n 0) v) = Blk.del (wb m (key (m.getD n 0) v)) (Wv.pos m v (Sy.path (m.getD n 0) v) n) := by
  rw [wb_key _ hs (by omega), wb_key _ hs (by omega), Wv.bits_del hn, if_pos rfl]
end Wk
end Go.Proofs.YthbbokoeiifjdaaGreatDoor
namespace Go.Proofs.YthbbokoeiifjdaaGreatDoor
open Go Go.RowKit Go.ChangeAt Tr

def pp (x : Option Nat) : Option Addr := x.map fun b => ⟨b, 0, none⟩
def pn (x : Option Nat) : Value := .pointer (pp x)
theorem pn_some (b : Nat) : pn (some b) = .pointer (some ⟨b, 0, none⟩) := rfl
theorem pn_none : pn none = .pointer none := rfl
abbrev nodc (t : Nat) (x y : Option Nat) : Obj := .cells #[.pointer (some ⟨t, 0, none⟩), pn x, pn y] 80 (0, 0)
abbrev topc (x : Option Nat) (v : Nat) : Obj := .cells #[pn x, .int .i64 v] 74 (0, 0)
/-- Where the nodes are, or where pointers lead, by keys. -/
abbrev Lks := Nat → Option Nat
def Lks.put (L : Lks) (k : Nat) (x : Option Nat) : Lks := fun j => if j = k then x else L j
theorem Lks.put_at (L : Lks) (k : Nat) (x : Option Nat) : L.put k x k = x := if_pos rfl
theorem Lks.put_ne (L : Lks) {k j : Nat} (x : Option Nat) (h : j ≠ k) : L.put k x j = L j := if_neg h
/-- The blocks of nodes and of their trees. -/
def Nown (N : Lks) (F : For) (b : Nat) : Prop := (∃ k, N k = some b) ∨ F.own b
structure Nods (B : Nat) (w : World) (N L : Lks) (F : For) : Prop where
  pos : 0 < B
  node : ∀ k b, N k = some b → ∃ e, F k = some e ∧ w.heap[b]? = some (nodc e.t (L (2 * k)) (L (2 * k + 1)))
  dom : ∀ k, N k = none → F k = none
  one : N 0 = none
  inj : ∀ k j b, N k = some b → N j = some b → k = j
  lo : ∀ k b, N k = some b → B ≤ b
  fr : Forest B w F
  nf : ∀ k b, N k = some b → ¬ F.own b
theorem Nods.nil {B : Nat} (h : 0 < B) (w : World) (L : Lks) : Nods B w (fun _ => none) L (fun _ => none) :=
  ⟨h, fun _ _ e => (by cases e), fun _ _ => rfl, rfl, fun _ _ _ e => (by cases e), fun _ _ e => (by cases e), Forest.nil B w, fun _ _ e => (by cases e)⟩
theorem Nods.lt {B : Nat} {w : World} {N L : Lks} {F : For} (h : Nods B w N L F) {k b : Nat} (hk : N k = some b) : b < w.heap.size := by
  obtain ⟨e, _, hb⟩ := h.node k b hk
  exact lt_of_block hb
theorem Nods.one_le {B : Nat} {w : World} {N L : Lks} {F : For} (h : Nods B w N L F) {k b : Nat} (hk : N k = some b) : 1 ≤ k := Nat.pos_of_ne_zero fun e => by subst e; rw [h.one] at hk; cases hk
theorem Nods.blocks {B : Nat} {w : World} {N L : Lks} {F : For} (h : Nods B w N L F) {b : Nat} (hb : Nown N F b) : B ≤ b ∧ b < w.heap.size := by
  rcases hb with ⟨k, hk⟩ | hb
  · exact ⟨h.lo k b hk, h.lt hk⟩
  · exact h.fr.blocks hb
theorem Nods.stay {B : Nat} {w w' : World} {N L : Lks} {F : For} {Z : Nat → Prop} (h : Nods B w N L F) (hb : Stay Z w w') (hz : ∀ b, Nown N F b → ¬ Z b) : Nods B w' N L F :=
  ⟨h.pos, fun k b hk => by
    obtain ⟨e, he, hc⟩ := h.node k b hk
    exact ⟨e, he, hb.kept hc (hz b (.inl ⟨k, hk⟩))⟩, h.dom, h.one, h.inj, h.lo, h.fr.stay hb (fun b ho => hz b (.inr ho)), h.nf⟩
theorem Nods.below {B : Nat} {w w' : World} {N L : Lks} {F : For} (h : Nods B w N L F) (hb : Below w.heap.size w w') : Nods B w' N L F := h.stay (Stay.of_below (S := fun _ => False) hb) (fun _ _ e => e)
theorem Nods.drewN {B : Nat} {w : World} {N L : Lks} {F : For} (h : Nods B w N L F) (n : Nat) : Nods B (w.drewN n) N L F := h.below ((Below.refl _ _).drewN n)
/-- A node's tree was turned. -/
theorem Nods.turn {B : Nat} {w w' : World} {N L : Lks} {F : For} {k : Nat} {e : Ent} {S' : St} {m' : List Bool} (h : Nods B w N L F) (hk : F k = some e) (ht : Tre e.base w' e.t S' m') (hm : Mv w w' e.S S') :
    Nods B w' N L (F.put k ⟨e.base, e.t, S', m'⟩) := by
  refine ⟨h.pos, fun j b hj => ?_, fun j hj => ?_, h.one, h.inj, h.lo, h.fr.turn hk ht hm, fun j b hj ho => ?_⟩
  · obtain ⟨f, hf, hc⟩ := h.node j b hj
    have hs : ¬ (e.S.own b ≠ none) := fun ho => h.nf j b hj ⟨k, e, hk, ho⟩
    by_cases e1 : j = k
    · subst e1
      rw [hk] at hf
      injection hf with hf
      subst hf
      exact ⟨_, For.put_at _ _ _, hm.st.kept hc hs⟩
    · exact ⟨f, by rw [For.put_ne _ _ e1]; exact hf, hm.st.kept hc hs⟩
  · have h1 := h.dom j hj
    by_cases e1 : j = k
    · subst e1; rw [hk] at h1; cases h1
    · rw [For.put_ne _ _ e1]; exact h1
  · rcases (For.turned (m' := m') hk hm).2 b ho with h1 | h1
    · exact h.nf j b hj h1
    · have := h.lt hj; omega
theorem Nown.turned {w w' : World} {N : Lks} {F : For} {k : Nat} {e : Ent} {S' : St} {m' : List Bool} (hk : F k = some e) (hm : Mv w w' e.S S') :
    Stay (Nown N F) w w' ∧ ∀ b, Nown N (F.put k ⟨e.base, e.t, S', m'⟩) b → Nown N F b ∨ w.heap.size ≤ b := by
  obtain ⟨h1, h2⟩ := For.turned (m' := m') hk hm
  refine ⟨h1.mono (fun _ _ h => .inr h), fun b hb => ?_⟩
  rcases hb with hb | hb
  · exact .inl (.inl hb)
  · exact (h2 b hb).imp .inr id
/-- A node's pointer was laid anew. -/
theorem set_ptr {w : World} {b t i : Nat} {x y z : Option Nat} (h : w.heap[b]? = some (nodc t x y)) (hi : i ≤ 1) :
    (w.setCell ⟨b, i + 1, none⟩ (pn z)).heap[b]? = some (nodc t (if i = 0 then z else x) (if i = 1 then z else y)) := by
  rw [set_of h]
  rcases Nat.le_one_iff_eq_zero_or_eq_one.1 hi with rfl | rfl <;> rfl
theorem Nods.link {B : Nat} {w : World} {N L : Lks} {F : For} {k b i : Nat} (h : Nods B w N L F) (hk : N k = some b) (hi : i ≤ 1) (x : Option Nat) :
    Nods B (w.setCell ⟨b, i + 1, none⟩ (pn x)) N (L.put (2 * k + i) x) F := by
  have hst : Stay (· = b) w (w.setCell ⟨b, i + 1, none⟩ (pn x)) := Stay.setCell (S := (· = b)) (Stay.refl _ _) (p := ⟨b, i + 1, none⟩) (.inr rfl) _
  refine ⟨h.pos, fun j c hj => ?_, h.dom, h.one, h.inj, h.lo, h.fr.stay hst (fun c ho e => by subst e; exact h.nf k _ hk ho), h.nf⟩
  obtain ⟨e, he, hc⟩ := h.node j c hj
  by_cases e1 : c = b
  · subst e1
    obtain rfl := h.inj j k c hj hk
    refine ⟨e, he, ?_⟩
    rw [set_ptr hc hi]
    rcases Nat.le_one_iff_eq_zero_or_eq_one.1 hi with rfl | rfl
    · show some (nodc e.t x (L (2 * j + 1))) = some (nodc e.t (L.put (2 * j) x (2 * j)) (L.put (2 * j) x (2 * j + 1)))
      rw [Lks.put_at, Lks.put_ne _ _ (by omega)]
    · rw [Lks.put_at, Lks.put_ne _ _ (by omega)]; rfl
  · refine ⟨e, he, ?_⟩
    have hne : j ≠ k := fun h2 => by subst h2; rw [hj] at hk; injection hk with hk; exact e1 hk
    rw [Lks.put_ne _ _ (by omega), Lks.put_ne _ _ (by omega)]
    exact hst.kept hc e1
/-- One more node, of blocks that nobody had; nothing hangs below it, nothing leads to it. -/
theorem Nods.add {B : Nat} {w w' : World} {N L : Lks} {F : For} {k b base t : Nat} {S : St} {m : List Bool} (h : Nods B w N L F) (hk1 : 1 ≤ k) (hk : N k = none) (h0 : L (2 * k) = none) (h1 : L (2 * k + 1) = none) (hb : Below w.heap.size w w')
    (hc : w'.heap[b]? = some (nodc t none none)) (hlo : w.heap.size ≤ b) (ht : Tre base w' t S m) (hB : w.heap.size ≤ base) (hnb : S.own b = none) (hsz : B ≤ w.heap.size) : Nods B w' (N.put k (some b)) L (F.put k ⟨base, t, S, m⟩) := by
  have hown : ∀ c, (F.put k ⟨base, t, S, m⟩).own c → F.own c ∨ (w.heap.size ≤ c ∧ c ≠ b) := fun c ⟨j, e, hj, ho⟩ => by
    by_cases e1 : j = k
    · subst e1
      rw [For.put_at] at hj
      injection hj with hj
      subst hj
      exact .inr ⟨Nat.le_trans hB (ht.1.blocks ho).1, fun e => ho (e ▸ hnb)⟩
    · rw [For.put_ne _ _ e1] at hj
      exact .inl ⟨j, e, hj, ho⟩
  refine ⟨h.pos, fun j c hj => ?_, fun j hj => ?_, by rw [Lks.put_ne _ _ (by omega)]; exact h.one, fun i j c hi hj => ?_, fun j c hj => ?_, h.fr.add hb ht hB hsz, fun j c hj ho => ?_⟩
  · by_cases e1 : j = k
    · subst e1
      rw [Lks.put_at] at hj
      injection hj with hj
      subst hj
      rw [h0, h1]
      exact ⟨_, For.put_at _ _ _, hc⟩
    · rw [Lks.put_ne _ _ e1] at hj
      obtain ⟨e, he, hh⟩ := h.node j c hj
      exact ⟨e, by rw [For.put_ne _ _ e1]; exact he, Below.keptB hb hh (h.lt hj)⟩
  · by_cases e1 : j = k
    · subst e1; rw [Lks.put_at] at hj; cases hj
    · rw [Lks.put_ne _ _ e1] at hj
      rw [For.put_ne _ _ e1]; exact h.dom j hj
  · by_cases e1 : i = k
    · subst e1
      rw [Lks.put_at] at hi
      injection hi with hi
      subst hi
      by_cases e2 : j = i
      · exact e2.symm
      · rw [Lks.put_ne _ _ e2] at hj
        have := h.lt hj; omega
    · rw [Lks.put_ne _ _ e1] at hi
      by_cases e2 : j = k
      · subst e2
        rw [Lks.put_at] at hj
        injection hj with hj
        subst hj
        have := h.lt hi; omega
      · rw [Lks.put_ne _ _ e2] at hj
        exact h.inj i j c hi hj
  · by_cases e1 : j = k
    · subst e1
      rw [Lks.put_at] at hj
      injection hj with hj
      subst hj
      omega
    · rw [Lks.put_ne _ _ e1] at hj
      exact h.lo j c hj
  · by_cases e1 : j = k
    · subst e1
      rw [Lks.put_at] at hj
      injection hj with hj
      subst hj
      rcases hown _ ho with h2 | h2
      · have := (h.fr.blocks h2).2; omega
      · exact h2.2 rfl
    · rw [Lks.put_ne _ _ e1] at hj
      rcases hown _ ho with h2 | h2
      · exact h.nf j c hj h2
      · have := h.lt hj; omega
/-- Some nodes are let go. -/
theorem Nods.cut {B : Nat} {w : World} {N L : Lks} {F : For} (c : Nat → Bool) (h : Nods B w N L F) (hL : ∀ k, L k = if c k = true then none else N k) : Nods B w L L (fun k => if c k = true then none else F k) := by
  have hN : ∀ k b, L k = some b → N k = some b ∧ ¬ c k = true := fun k b e => by
    rw [hL] at e
    split at e
    · cases e
    · exact ⟨e, by assumption⟩
  have hF : ∀ k e, (if c k = true then none else F k) = some e → F k = some e ∧ ¬ c k = true := fun k e e1 => by
    split at e1
    · cases e1
    · exact ⟨e1, by assumption⟩
  refine ⟨h.pos, fun k b hk => ?_, fun k hk => ?_, by rw [hL, h.one]; split <;> rfl, fun k j b hk hj => h.inj k j b (hN k b hk).1 (hN j b hj).1, fun k b hk => h.lo k b (hN k b hk).1, ⟨fun k e hk => h.fr.tre k e (hF k e hk).1, fun k j e f hk hj hne => h.fr.sep k j e f (hF k e hk).1 (hF j f hj).1 hne⟩, fun k b hk ⟨j, e, hj, ho⟩ => h.nf k b (hN k b hk).1 ⟨j, e, (hF j e hj).1, ho⟩⟩
  · obtain ⟨e, he, hc⟩ := h.node k b (hN k b hk).1
    exact ⟨e, by show (if c k = true then none else F k) = _; rw [if_neg (hN k b hk).2]; exact he, hc⟩
  · show (if c k = true then none else F k) = none
    rw [hL] at hk
    split
    · rfl
    · rw [if_neg (by assumption)] at hk; exact h.dom k hk
theorem Nown.cut {N L : Lks} {F : For} (c : Nat → Bool) (hL : ∀ k, L k = if c k = true then none else N k) {b : Nat} (h : Nown L (fun k => if c k = true then none else F k) b) : Nown N F b := by
  rcases h with ⟨k, hk⟩ | ⟨k, e, hk, ho⟩
  · rw [hL] at hk
    split at hk
    · cases hk
    · exact .inl ⟨k, hk⟩
  · have hk' : (if c k = true then none else F k) = some e := hk
    split at hk'
    · cases hk'
    · exact .inr ⟨k, e, hk', ho⟩

/-- The wave's own block beside its nodes. -/
structure Web (B : Nat) (w : World) (t : Nat) (N L : Lks) (F : For) (v : Nat) : Prop where
  nods : Nods B w N L F
  top : w.heap[t]? = some (topc (L 1) v)
  lo : B ≤ t
  tn : ¬ Nown N F t
theorem Web.lt {B : Nat} {w : World} {t : Nat} {N L : Lks} {F : For} {v : Nat} (h : Web B w t N L F v) : t < w.heap.size := lt_of_block h.top
theorem Web.stay {B : Nat} {w w' : World} {t : Nat} {N L : Lks} {F : For} {v : Nat} {Z : Nat → Prop} (h : Web B w t N L F v) (hb : Stay Z w w') (hz : ∀ b, Nown N F b → ¬ Z b) (ht : ¬ Z t) : Web B w' t N L F v :=
  ⟨h.nods.stay hb hz, hb.kept h.top ht, h.lo, h.tn⟩
theorem Web.below {B : Nat} {w w' : World} {t : Nat} {N L : Lks} {F : For} {v : Nat} (h : Web B w t N L F v) (hb : Below w.heap.size w w') : Web B w' t N L F v := h.stay (Stay.of_below (S := fun _ => False) hb) (fun _ _ e => e) (fun e => e)
theorem Web.drewN {B : Nat} {w : World} {t : Nat} {N L : Lks} {F : For} {v : Nat} (h : Web B w t N L F v) (n : Nat) : Web B (w.drewN n) t N L F v := h.below ((Below.refl _ _).drewN n)
theorem Web.turn {B : Nat} {w w' : World} {t : Nat} {N L : Lks} {F : For} {v k : Nat} {e : Ent} {S' : St} {m' : List Bool} (h : Web B w t N L F v) (hk : F k = some e) (ht : Tre e.base w' e.t S' m') (hm : Mv w w' e.S S') :
    Web B w' t N L (F.put k ⟨e.base, e.t, S', m'⟩) v := by
  have hs : ¬ (e.S.own t ≠ none) := fun ho => h.tn (.inr ⟨k, e, hk, ho⟩)
  refine ⟨h.nods.turn hk ht hm, hm.st.kept h.top hs, h.lo, fun ho => ?_⟩
  rcases (Nown.turned (N := N) (m' := m') hk hm).2 t ho with h1 | h1
  · exact h.tn h1
  · have := h.lt; omega
/-- A cell of the wave's own block is laid anew. -/
theorem Web.setv {B : Nat} {w : World} {t : Nat} {N L : Lks} {F : For} {v : Nat} (h : Web B w t N L F v) (x : Int) (v' : Nat) (hx : x = v') : Web B (w.setCell ⟨t, 1, none⟩ (.int .i64 x)) t N L F v' ∧ Stay (· = t) w (w.setCell ⟨t, 1, none⟩ (.int .i64 x)) := by
  subst hx
  have hst : Stay (· = t) w (w.setCell ⟨t, 1, none⟩ (.int .i64 v')) := Stay.setCell (S := (· = t)) (Stay.refl _ _) (p := ⟨t, 1, none⟩) (.inr rfl) _
  exact ⟨⟨h.nods.stay hst (fun b ho e => by subst e; exact h.tn ho), by rw [set_of h.top]; rfl, h.lo, h.tn⟩, hst⟩
/-- Where the pointer to a node lies: the wave's own block, or the node above. -/
def At (N : Lks) (t k : Nat) (p : Addr) : Prop := (k = 1 ∧ p = ⟨t, 0, none⟩) ∨ ∃ j i b, k = 2 * j + i ∧ i ≤ 1 ∧ N j = some b ∧ p = ⟨b, i + 1, none⟩
theorem Web.load {B : Nat} {w : World} {t : Nat} {N L : Lks} {F : For} {v k : Nat} {p : Addr} (h : Web B w t N L F v) (ha : At N t k p) : w.cell? p = some (pn (L k)) ∧ w.frozen? p = false ∧ (p.block = t ∨ Nown N F p.block) := by
  rcases ha with ⟨rfl, rfl⟩ | ⟨j, i, b, rfl, hi, hb, rfl⟩
  · exact ⟨(cell_of h.top).trans rfl, free_of h.top, .inl rfl⟩
  · obtain ⟨e, he, hc⟩ := h.nods.node j b hb
    refine ⟨(cell_of hc).trans ?_, free_of hc, .inr (.inl ⟨j, hb⟩)⟩
    rcases Nat.le_one_iff_eq_zero_or_eq_one.1 hi with rfl | rfl <;> rfl
theorem Web.store {B : Nat} {w : World} {t : Nat} {N L : Lks} {F : For} {v k : Nat} {p : Addr} (h : Web B w t N L F v) (ha : At N t k p) (x : Option Nat) : Web B (w.setCell p (pn x)) t N (L.put k x) F v ∧ Stay (fun b => b = t ∨ Nown N F b) w (w.setCell p (pn x)) := by
  have hst : Stay (fun b => b = t ∨ Nown N F b) w (w.setCell p (pn x)) := (Stay.refl _ w).setCell (.inr (h.load ha).2.2) _
  rcases ha with ⟨rfl, rfl⟩ | ⟨j, i, b, rfl, hi, hb, rfl⟩
  · have hs : Stay (· = t) w (w.setCell ⟨t, 0, none⟩ (pn x)) := Stay.setCell (S := (· = t)) (Stay.refl _ _) (p := ⟨t, 0, none⟩) (.inr rfl) _
    refine ⟨⟨⟨h.nods.pos, fun j b hb => ?_, h.nods.dom, h.nods.one, h.nods.inj, h.nods.lo, h.nods.fr.stay hs (fun b ho e => by subst e; exact h.tn (.inr ho)), h.nods.nf⟩, ?_, h.lo, h.tn⟩, hst⟩
    · obtain ⟨e, he, hc⟩ := h.nods.node j b hb
      have h1 : b ≠ t := fun e => by subst e; exact h.tn (.inl ⟨j, hb⟩)
      by_cases hj : j = 0
      · subst hj; rw [h.nods.one] at hb; cases hb
      · exact ⟨e, he, by rw [Lks.put_ne _ _ (by omega), Lks.put_ne _ _ (by omega)]; exact hs.kept hc h1⟩
    · rw [set_of h.top, Lks.put_at]; rfl
  · have h1 : b ≠ t := fun e => by subst e; exact h.tn (.inl ⟨j, hb⟩)
    have hs : Stay (· = b) w (w.setCell ⟨b, i + 1, none⟩ (pn x)) := Stay.setCell (S := (· = b)) (Stay.refl _ _) (p := ⟨b, i + 1, none⟩) (.inr rfl) _
    exact ⟨⟨h.nods.link hb hi x, by rw [Lks.put_ne _ _ (by have := h.nods.one_le hb; omega)]; exact hs.kept h.top (fun e => h1 e.symm), h.lo, h.tn⟩, hst⟩
theorem Web.add {B : Nat} {w w' : World} {t0 : Nat} {N L : Lks} {F : For} {v k b base t : Nat} {S : St} {m : List Bool} (h : Web B w t0 N L F v) (hk1 : 1 ≤ k) (hk : N k = none) (h0 : L (2 * k) = none) (h1 : L (2 * k + 1) = none) (hb : Below w.heap.size w w')
    (hc : w'.heap[b]? = some (nodc t none none)) (hlo : w.heap.size ≤ b) (ht : Tre base w' t S m) (hB : w.heap.size ≤ base) (hnb : S.own b = none) : Web B w' t0 (N.put k (some b)) L (F.put k ⟨base, t, S, m⟩) v := by
  have hlt := h.lt
  refine ⟨h.nods.add hk1 hk h0 h1 hb hc hlo ht hB hnb (by have := h.lo; omega), Below.keptB hb h.top hlt, h.lo, fun ho => ?_⟩
  rcases ho with ⟨j, hj⟩ | ⟨j, e, hj, ho⟩
  · by_cases e1 : j = k
    · subst e1
      rw [Lks.put_at] at hj
      injection hj with hj
      omega
    · rw [Lks.put_ne _ _ e1] at hj
      exact h.tn (.inl ⟨j, hj⟩)
  · by_cases e1 : j = k
    · subst e1
      rw [For.put_at] at hj
      injection hj with hj
      subst hj
      have := (ht.1.blocks ho).1
      have : base ≤ t0 := this
      omega
    · rw [For.put_ne _ _ e1] at hj
      exact h.tn (.inr ⟨j, e, hj, ho⟩)
theorem Web.cut {B : Nat} {w : World} {t : Nat} {N L : Lks} {F : For} {v : Nat} (c : Nat → Bool) (h : Web B w t N L F v) (hL : ∀ k, L k = if c k = true then none else N k) : Web B w t L L (fun k => if c k = true then none else F k) v :=
  ⟨h.nods.cut c hL, h.top, h.lo, fun ho => h.tn (Nown.cut c hL ho)⟩
end Go.Proofs.YthbbokoeiifjdaaGreatDoor
namespace Go.Proofs.YthbbokoeiifjdaaGreatDoor
open Go Go.RowKit Go.ChangeAt Tr

theorem wsym (s : Int) (w : World) : Calls Tryz.prog 57 #[.int .i64 s] w fun e w' => e = .returned (.bool (decide (0 ≤ s ∧ s ≤ 256))) ∧ w = w' := by
  by_cases h0 : 0 ≤ s
  · by_cases h1 : s < 257
    · rw [decide_eq_true (p := 0 ≤ s ∧ s ≤ 256) (by omega)]
      go_enter Tryz.func57, Tryz.ntmps57
      go_wp2
      go_ret
      exact ⟨rfl, rfl⟩
    · rw [decide_eq_false (p := 0 ≤ s ∧ s ≤ 256) (by omega)]
      go_enter Tryz.func57, Tryz.ntmps57
      go_wp2
      go_ret
      exact ⟨rfl, rfl⟩
  · rw [decide_eq_false (p := 0 ≤ s ∧ s ≤ 256) (by omega)]
    go_enter Tryz.func57, Tryz.ntmps57
    go_wp2
    go_ret
    exact ⟨rfl, rfl⟩
theorem wsym_yes {s : Int} (w : World) (h : 0 ≤ s ∧ s ≤ 256) : Calls Tryz.prog 57 #[.int .i64 s] w fun e w' => e = .returned (.bool true) ∧ w = w' := by
  have := wsym s w
  rwa [decide_eq_true h] at this
theorem wsym_no {s : Int} (w : World) (h : ¬ (0 ≤ s ∧ s ≤ 256)) : Calls Tryz.prog 57 #[.int .i64 s] w fun e w' => e = .returned (.bool false) ∧ w = w' := by
  have := wsym s w
  rwa [decide_eq_false h] at this
theorem wside_t (w : World) : Calls Tryz.prog 53 #[.bool true] w fun e w' => e = .returned (.int .i64 1) ∧ w = w' := by
  go_enter Tryz.func53, Tryz.ntmps53
  go_wp2
  go_ret
  exact ⟨rfl, rfl⟩
theorem wside_f (w : World) : Calls Tryz.prog 53 #[.bool false] w fun e w' => e = .returned (.int .i64 0) ∧ w = w' := by
  go_enter Tryz.func53, Tryz.ntmps53
  go_wp2
  go_ret
  exact ⟨rfl, rfl⟩
theorem qside_f (w : World) : Calls Tryz.prog 53 #[.bool false] w fun e w' => e = .returned (.int .i64 0) ∧ w' = w := (wside_f w).mono fun _ _ ⟨h1, h2⟩ => ⟨h1, h2.symm⟩
theorem qside_t (w : World) : Calls Tryz.prog 53 #[.bool true] w fun e w' => e = .returned (.int .i64 1) ∧ w' = w := (wside_t w).mono fun _ _ ⟨h1, h2⟩ => ⟨h1, h2.symm⟩
/-- A node that was made just now. -/
structure NewNd (w w' : World) (b base t : Nat) (S : St) (m : List Bool) : Prop where
  below : Below w.heap.size w w'
  node : w'.heap[b]? = some (nodc t none none)
  lo : w.heap.size ≤ b
  tre : Tre base w' t S m
  base : w.heap.size ≤ base
  nb : S.own b = none
  vis : S.vis = 0
theorem TM.fresh {base t : Nat} {w : World} {S : St} (h : TM base w t S) {b : Nat} (hb : w.heap.size ≤ b) : S.own b = none := by
  cases e : S.own b with
  | none => rfl
  | some x => have := (h.blocks (b := b) (by rw [e]; exact fun h => by cases h)).2; omega
theorem wnode {v : Value} {m : List Bool} (w : World) (hr : RdB w v m) (hlen : m.length ≤ 100000000) :
    Calls Tryz.prog 78 #[v] w fun e w' => ∃ b base t S, e = .returned (.pointer (some ⟨b, 0, none⟩)) ∧ NewNd w w' b base t S m := by
  have key := tnew w hr hlen
  obtain ⟨a, n, c, rfl⟩ : ∃ a n c, v = .slice a n c := by
    rcases hr with ⟨rfl, _⟩ | ⟨b, off, cap, rfl, _⟩
    · exact ⟨_, _, _, rfl⟩
    · exact ⟨_, _, _, rfl⟩
  clear hr
  go_enter Tryz.func78, Tryz.ntmps78
  go_wp2_with fail
  (with_reducible refine key.mono ?_); rintro e w1 ⟨S, rfl, hN⟩
  have hb := hN.below
  have HN := Lib.hid hN
  clear hN key
  go_wp2_with fail
  go_ret
  have hN := HN.out
  have hz := hb.size
  exact ⟨w1.heap.size, w.heap.size, w.heap.size, S, rfl, ⟨Below.allocs hb _, alloc_of, hz, hN.tre.below (Below.allocs (Below.refl _ _) _), Nat.le_refl _, hN.tre.1.fresh (Nat.le_refl _), hN.vis⟩⟩

/-- What is known of a node. -/
structure Node (B : Nat) (w : World) (b : Nat) (e : Ent) (x y : Option Nat) : Prop where
  c0 : w.cell? ⟨b, 0, none⟩ = some (.pointer (some ⟨e.t, 0, none⟩))
  c1 : w.cell? ⟨b, 1, none⟩ = some (pn x)
  c2 : w.cell? ⟨b, 2, none⟩ = some (pn y)
  fz : ∀ i, w.frozen? ⟨b, i, none⟩ = false
  tre : Tre e.base w e.t e.S e.m
  base : B ≤ e.base
theorem Nods.at {B : Nat} {w : World} {N L : Lks} {F : For} (h : Nods B w N L F) {k b : Nat} (hk : N k = some b) : ∃ e, F k = some e ∧ Node B w b e (L (2 * k)) (L (2 * k + 1)) := by
  obtain ⟨e, he, hc⟩ := h.node k b hk
  obtain ⟨h1, h2⟩ := h.fr.tre k e he
  exact ⟨e, he, (cell_of hc).trans rfl, (cell_of hc).trans rfl, (cell_of hc).trans rfl, fun i => free_of hc, h1, h2⟩
theorem Nods.nd {B : Nat} {w : World} {N L : Lks} {F : For} (h : Nods B w N L F) {k b : Nat} {e : Ent} (hk : N k = some b) (hF : F k = some e) : Node B w b e (L (2 * k)) (L (2 * k + 1)) := by
  obtain ⟨e', he, hn⟩ := h.at hk
  rw [hF] at he
  injection he with he
  rw [he]; exact hn
def Ent.see (e : Ent) (u : Nat) : Ent := ⟨e.base, e.t, e.S.see u, e.m⟩
theorem Web.read {B : Nat} {w w' : World} {t : Nat} {N L : Lks} {F : For} {v k u : Nat} {e : Ent} (h : Web B w t N L F v) (hF : F k = some e) (ht : Tre e.base w' e.t (e.S.see u) e.m) (hs : Stay (· = e.t) w w') :
    Web B w' t N L (F.put k (e.see u)) v ∧ Stay (Nown N F) w w' := by
  have hm : Mv w w' e.S (e.S.see u) := (h.nods.fr.tre k e hF).1.1.mvt hs rfl
  exact ⟨h.turn hF ht hm, (Nown.turned (N := N) (m' := e.m) hF hm).1⟩
set_option maxRecDepth 100000 in
theorem wlook {B : Nat} {w : World} {t : Nat} {N L : Lks} {F : For} {v k b : Nat} {e : Ent} (h : Web B w t N L F v) (hk : N k = some b) (hF : F k = some e) (hv : v ≤ 1000000000) (he : e.S.vis ≤ 1000000000) :
    Calls Tryz.prog 51 #[.pointer (some ⟨t, 0, none⟩), .pointer (some ⟨b, 0, none⟩)] w fun r w' => r = .returned (.tuple #[]) ∧ Web B w' t N L F (v + e.S.vis) ∧ Stay (· = t) w w' := by
  have hn := h.nods.nd hk hF
  have c0 := hn.c0
  have q1 : w.cell? ⟨t, 1, none⟩ = some (.int .i64 v) := (cell_of h.top).trans rfl
  have f1 : w.frozen? ⟨t, 1, none⟩ = false := free_of h.top
  have key := tvisits w.drew (hn.tre.drewN 1)
  obtain ⟨u, hu⟩ : ∃ u, e.S.vis = u := ⟨_, rfl⟩
  rw [hu] at key he ⊢
  have hvi : (v : Int) ≤ 1000000000 := by omega
  have hui : (u : Int) ≤ 1000000000 := by omega
  have H := Lib.hid h
  clear h hn hk hF hu hv he
  go_enter Tryz.func51, Tryz.ntmps51
  go_region_law (first | (go_simp; (go_at_call 74; (with_reducible refine key.mono ?_); rintro e w' ⟨rfl, rfl⟩)))
  all_goals
    try go_wp2_with fail
    go_end0
    have z : IntKind.i64.wrap ((v : Int) + u) = ((v + u : Nat) : Int) := (IntWalk.i64_in _ (by omega)).trans (by omega)
    have hd := H.out.setv (IntKind.i64.wrap ((v : Int) + u)) (v + u) z
    exact ⟨rfl, hd.1.drewN 1, hd.2.drewN 1⟩
theorem wrank {B : Nat} {w : World} {t : Nat} {N L : Lks} {F : For} {v k b : Nat} {e : Ent} (n : Int) (b0 : Bool) (r : Int) (h : Web B w t N L F v) (hk : N k = some b) (hF : F k = some e) (hlen : e.m.length ≤ 100000000) (hv : v ≤ 800000000) (hr : (Blk.rk b0 e.m (place e.m.length n) : Int) = r) :
    Calls Tryz.prog 52 #[.pointer (some ⟨t, 0, none⟩), .pointer (some ⟨b, 0, none⟩), .int .i64 n, .bool b0] w fun q w' => q = .returned (.int .i64 r) ∧ ∃ u, u ≤ e.S.rt.ht + 1 ∧ Web B w' t N L (F.put k (e.see u)) (v + u) ∧ Stay (fun c => c = t ∨ Nown N F c) w w' := by
  have hn := h.nods.nd hk hF
  have c0 := hn.c0
  have hht := hn.tre.2.ht
  have key := krank n b0 r w hn.tre (by omega) hr
  have H := Lib.hid h
  clear h hn hr
  go_enter Tryz.func52, Tryz.ntmps52
  go_wp2_with fail
  (with_reducible refine key.mono ?_); rintro q w1 ⟨rfl, u, hT, _, hu, hs⟩
  obtain ⟨hW, hS⟩ := H.out.read hF hT hs
  have key := wlook (e := e.see u) hW hk (For.put_at _ _ _) (by omega) (by show u ≤ _; omega)
  have HS := Lib.hid hS
  clear hW hS hT hs c0
  go_wp2_with fail
  (with_reducible refine key.mono ?_); rintro q w2 ⟨rfl, hW, hS⟩
  have HW := Lib.hid hW
  have HS2 := Lib.hid hS
  clear hW hS key
  go_wp2_with fail
  go_ret
  exact ⟨rfl, u, hu, HW.out, (HS.out.mono (fun _ _ h => .inr h)).trans HS2.out (fun _ _ h => .inl h)⟩
end Go.Proofs.YthbbokoeiifjdaaGreatDoor
namespace Go.Proofs.YthbbokoeiifjdaaGreatDoor
open Go Go.RowKit Go.ChangeAt Tr

/-- A wave as plain data. -/
structure Wx where
  B : Nat
  t : Nat
  N : Lks
  F : For
  v : Nat
def Wx.own (x : Wx) (b : Nat) : Prop := b = x.t ∨ Nown x.N x.F b
def shE (e : Ent) : Sh := ((e.S.rt.len : Int), (e.S.rt.ht : Int), (((e.S.live + 1) / 2 : Nat) : Int), (e.S.live : Int))
/-- The shapes of the first n nodes of a level; of all nodes. -/
def shL (F : For) (v n : Nat) : List Sh := (List.range n).filterMap fun p => (F (2 ^ v + p)).map shE
def shF (F : For) : List Sh := (List.range 9).flatMap fun v => shL F v (2 ^ v)
structure Wav (w : World) (x : Wx) (m : List Int) : Prop where
  web : Web x.B w x.t x.N x.N x.F x.v
  des : ∀ k, (x.F k).map Ent.m = Wk.wq m k
  good : Wv.Good m

theorem des_some {F : For} {q : Option (List Bool)} {k : Nat} {l : List Bool} (h : (F k).map Ent.m = q) (hq : q = some l) : ∃ e, F k = some e ∧ e.m = l := by
  rw [hq] at h
  cases e : F k with
  | none => rw [e] at h; cases h
  | some x => rw [e] at h; injection h with h; exact ⟨x, rfl, h⟩
theorem des_none {F : For} {q : Option (List Bool)} {k : Nat} (h : (F k).map Ent.m = q) (hq : q = none) : F k = none := by
  rw [hq] at h
  cases e : F k with
  | none => rfl
  | some x => rw [e] at h; cases h
theorem Nods.none_of {B : Nat} {w : World} {N L : Lks} {F : For} (h : Nods B w N L F) {k : Nat} (hk : F k = none) : N k = none := by
  cases e : N k with
  | none => rfl
  | some b => obtain ⟨f, hf, _⟩ := h.node k b e; rw [hk] at hf; cases hf
theorem Nods.some_of {B : Nat} {w : World} {N L : Lks} {F : For} (h : Nods B w N L F) {k : Nat} {e : Ent} (hk : F k = some e) : ∃ b, N k = some b := by
  cases e1 : N k with
  | none => have := h.dom k e1; rw [hk] at this; cases this
  | some b => exact ⟨b, rfl⟩

/-- Trees that were read alone. -/
def SeenF (F F' : For) : Prop := ∀ k, ∃ u, F' k = (F k).map fun e => e.see u
theorem SeenF.refl (F : For) : SeenF F F := fun k => by
  cases e : F k with
  | none => exact ⟨0, rfl⟩
  | some x => exact ⟨x.S.vis, rfl⟩
theorem SeenF.at {F F' : For} (h : SeenF F F') {k : Nat} {e : Ent} (hk : F k = some e) : ∃ u, F' k = some (e.see u) := by
  obtain ⟨u, hu⟩ := h k
  rw [hk] at hu
  exact ⟨u, hu⟩
theorem SeenF.put {F F' : For} (h : SeenF F F') {k : Nat} {e e' : Ent} (hk : F k = some e) (u : Nat) (he : e' = e.see u) : SeenF F (F'.put k e') := fun j => by
  by_cases e1 : j = k
  · subst e1
    exact ⟨u, by rw [For.put_at, hk, he]; rfl⟩
  · rw [For.put_ne _ _ e1]; exact h j
theorem SeenF.own {F F' : For} (h : SeenF F F') (b : Nat) : F'.own b ↔ F.own b := by
  constructor
  · rintro ⟨k, e, hk, ho⟩
    obtain ⟨u, hu⟩ := h k
    rw [hk] at hu
    cases e1 : F k with
    | none => rw [e1] at hu; cases hu
    | some f => rw [e1] at hu; injection hu with hu; subst hu; exact ⟨k, f, e1, ho⟩
  · rintro ⟨k, e, hk, ho⟩
    obtain ⟨u, hu⟩ := h.at hk
    exact ⟨k, e.see u, hu, ho⟩
theorem SeenF.nown {F F' : For} (h : SeenF F F') (N : Lks) (b : Nat) : Nown N F' b ↔ Nown N F b := by
  unfold Nown; rw [h.own b]
theorem SeenF.des {F F' : For} (h : SeenF F F') {q : Nat → Option (List Bool)} (hd : ∀ k, (F k).map Ent.m = q k) : ∀ k, (F' k).map Ent.m = q k := fun k => by
  obtain ⟨u, hu⟩ := h k
  rw [← hd k, hu]
  cases F k <;> rfl
theorem SeenF.shL {F F' : For} (h : SeenF F F') (v n : Nat) : shL F' v n = shL F v n := by
  unfold Go.Proofs.YthbbokoeiifjdaaGreatDoor.shL
  congr 1
  funext p
  obtain ⟨u, hu⟩ := h (2 ^ v + p)
  rw [hu]
  cases F (2 ^ v + p) <;> rfl
theorem SeenF.shF {F F' : For} (h : SeenF F F') : shF F' = shF F := by
  unfold Go.Proofs.YthbbokoeiifjdaaGreatDoor.shF
  congr 1
  funext v
  exact h.shL v _
theorem SeenF.trans {F F' F2 : For} (h : SeenF F F') (h' : SeenF F' F2) : SeenF F F2 := fun k => by
  obtain ⟨u, hu⟩ := h k
  obtain ⟨u2, hu2⟩ := h' k
  refine ⟨u2, ?_⟩
  rw [hu2, hu]
  cases F k <;> rfl
/-- A wave that was read. -/
theorem Wav.seen {w w' : World} {x : Wx} {m : List Int} {F' : For} {v' : Nat} (h : Wav w x m) (hF : SeenF x.F F') (hw : Web x.B w' x.t x.N x.N F' v') : Wav w' ⟨x.B, x.t, x.N, F', v'⟩ m := ⟨hw, hF.des h.des, h.good⟩

theorem shF_at {F : For} {k : Nat} {e : Ent} (h1 : 1 ≤ k) (h2 : k < 512) (hk : F k = some e) : shE e ∈ shF F := by
  obtain ⟨h3, h4⟩ := Wk.of_lev h1
  have h5 := Wk.lev_le h1 h2
  unfold shF
  refine List.mem_flatMap.2 ⟨Wk.lev k, List.mem_range.2 (by omega), ?_⟩
  unfold shL
  exact List.mem_filterMap.2 ⟨Wk.pth k, List.mem_range.2 h4, by rw [← h3, hk]; rfl⟩
theorem shF_in {F : For} {s : Sh} (h : s ∈ shF F) : ∃ k e, F k = some e ∧ s = shE e := by
  unfold shF at h
  obtain ⟨v, _, h⟩ := List.mem_flatMap.1 h
  unfold shL at h
  obtain ⟨p, _, h⟩ := List.mem_filterMap.1 h
  cases e : F (2 ^ v + p) with
  | none => rw [e] at h; cases h
  | some f => rw [e] at h; injection h with h; exact ⟨_, f, e, h.symm⟩
theorem hiS_mem : ∀ (l : List Sh) (h0 : Int) (s : Sh), s ∈ l → s.2.1 ≤ hiS h0 l
  | [], _, _, h => by cases h
  | x :: l, h0, s, h => by
    rcases List.mem_cons.1 h with rfl | h
    · have := hiS_ge l (max h0 s.2.1)
      show s.2.1 ≤ hiS (max h0 s.2.1) l
      omega
    · exact hiS_mem l (max h0 x.2.1) s h
/-- The greatest height, as a plain number. -/
def hiF (F : For) : Nat := (hiS 0 (shF F)).toNat
theorem hiF_eq (F : For) : (hiF F : Int) = hiS 0 (shF F) := Int.toNat_of_nonneg (hiS_ge _ _)
theorem hiF_at {F : For} {k : Nat} {e : Ent} (h1 : 1 ≤ k) (h2 : k < 512) (hk : F k = some e) : e.S.rt.ht ≤ hiF F := by
  have := hiS_mem _ 0 _ (shF_at h1 h2 hk)
  have h3 : (shE e).2.1 = (e.S.rt.ht : Int) := rfl
  have := hiF_eq F
  omega
theorem SeenF.hiF {F F' : For} (h : SeenF F F') : hiF F' = hiF F := by unfold Go.Proofs.YthbbokoeiifjdaaGreatDoor.hiF; rw [h.shF]
theorem Wav.in_rng {w : World} {x : Wx} {m : List Int} (h : Wav w x m) {k : Nat} {e : Ent} (hk : x.F k = some e) : (1 ≤ k ∧ k < 512) ∧ e.m = Wk.wb m k ∧ e.m ≠ [] := by
  have h1 := h.des k
  rw [hk] at h1
  obtain ⟨h2, h3, h4⟩ := Wk.wq_is h1.symm
  exact ⟨h2, h3, h4⟩
theorem Wav.hi_le {w : World} {x : Wx} {m : List Int} (h : Wav w x m) : hiF x.F ≤ m.length := by
  have h1 := hiS_le (shF x.F) (m.length : Int) (fun s hs => by
    obtain ⟨k, e, hk, rfl⟩ := shF_in hs
    have h2 := (h.web.nods.fr.tre k e hk).1.2.ht
    rw [(h.in_rng hk).2.1] at h2
    have h3 := Wk.wb_len m k
    show (e.S.rt.ht : Int) ≤ _
    omega) 0 (by omega)
  have := hiF_eq x.F
  omega
/-- A node that has bits stands. -/
theorem Wav.stands {w : World} {x : Wx} {m : List Int} (h : Wav w x m) {k : Nat} (h1 : 1 ≤ k ∧ k < 512) (h2 : Wk.wb m k ≠ []) : ∃ e b, x.F k = some e ∧ e.m = Wk.wb m k ∧ x.N k = some b := by
  obtain ⟨e, he, hm⟩ := des_some (h.des k) (by rw [Wk.wq_in m h1, Wk.ob_some h2])
  obtain ⟨b, hb⟩ := h.web.nods.some_of he
  exact ⟨e, b, he, hm, hb⟩
theorem Wav.stands_not {w : World} {x : Wx} {m : List Int} (h : Wav w x m) {k : Nat} (h1 : Wk.wq m k = none) : x.F k = none ∧ x.N k = none := by
  have := des_none (h.des k) h1
  exact ⟨this, h.web.nods.none_of this⟩
theorem Wav.top_none {w : World} {x : Wx} {m : List Int} (h : Wav w x m) : x.N 1 = none ↔ m = [] := by
  have hl := Wk.wb_top h.good
  constructor
  · intro h1
    cases e : Wk.wb m 1 with
    | nil => rw [e] at hl; exact List.eq_nil_of_length_eq_zero hl.symm
    | cons a r =>
      obtain ⟨_, b, _, _, hb⟩ := h.stands (k := 1) (by decide) (by rw [e]; exact fun h => by cases h)
      rw [h1] at hb; cases hb
  · rintro rfl
    exact (h.stands_not (by rw [Wk.wq_in _ (by decide), List.eq_nil_of_length_eq_zero (l := Wk.wb [] 1) hl]; rfl)).2
theorem Wav.stay {w w' : World} {x : Wx} {m : List Int} {S : Nat → Prop} (h : Wav w x m) (hb : Stay S w w') (hs : ∀ i, x.own i → ¬ S i) : Wav w' x m :=
  ⟨h.web.stay hb (fun b ho => hs b (.inr ho)) (hs _ (.inl rfl)), h.des, h.good⟩
theorem Wav.below {w w' : World} {x : Wx} {m : List Int} (h : Wav w x m) (hb : Below w.heap.size w w') : Wav w' x m := ⟨h.web.below hb, h.des, h.good⟩
theorem Wav.own_lt {w : World} {x : Wx} {m : List Int} (h : Wav w x m) {b : Nat} (hb : x.own b) : x.B ≤ b ∧ b < w.heap.size := by
  rcases hb with rfl | hb
  · exact ⟨h.web.lo, h.web.lt⟩
  · exact h.web.nods.blocks hb
set_option maxRecDepth 100000 in
theorem Wav.len {w : World} {x : Wx} {m : List Int} (h : Wav w x m) :
    Calls Tryz.prog 41 #[.pointer (some ⟨x.t, 0, none⟩)] w fun e w' => e = .returned (.int .i64 m.length) ∧ w = w' := by
  have q0 : w.cell? ⟨x.t, 0, none⟩ = some (pn (x.N 1)) := (cell_of h.web.top).trans rfl
  cases hN : x.N 1 with
  | none =>
    rw [hN] at q0
    obtain rfl := h.top_none.1 hN
    replace q0 : w.cell? ⟨x.t, 0, none⟩ = some (.pointer none) := q0
    clear h
    go_enter Tryz.func41, Tryz.ntmps41
    go_wp2_with fail
    go_ret
    exact ⟨rfl, rfl⟩
  | some b =>
    rw [hN] at q0
    replace q0 : w.cell? ⟨x.t, 0, none⟩ = some (.pointer (some ⟨b, 0, none⟩)) := q0
    obtain ⟨e, he, hn⟩ := h.web.nods.at hN
    have c0 := hn.c0
    have hm := (h.in_rng he).2.1
    have hl : (e.m.length : Int) = m.length := by rw [hm, Wk.wb_top h.good]
    have key := klen (m.length : Int) w hn.tre hl
    clear h hn hl hm
    go_enter Tryz.func41, Tryz.ntmps41
    go_wp2_with fail
    (with_reducible refine key.mono ?_); rintro q w1 ⟨rfl, rfl⟩
    go_wp2_with fail
    go_ret
    exact ⟨rfl, rfl⟩
theorem wlen_nil (w : World) : Calls Tryz.prog 41 #[.pointer none] w fun e w' => e = .returned (.int .i64 0) ∧ w = w' := by
  go_enter Tryz.func41, Tryz.ntmps41
  go_wp2_with fail
  go_ret
  exact ⟨rfl, rfl⟩
/-- A wave that is being read. -/
structure Rdw (w : World) (x : Wx) (wr : World) (F' : For) (v : Nat) : Prop where
  web : Web x.B wr x.t x.N x.N F' v
  seen : SeenF x.F F'
  stay : Stay x.own w wr
theorem Rdw.read {w wr w1 : World} {x : Wx} {F' : For} {v k u : Nat} {e f : Ent} (h : Rdw w x wr F' v) (he : x.F k = some e) (hf : F' k = some f) (ht : Tre f.base w1 f.t (f.S.see u) f.m) (hs : Stay (· = f.t) wr w1) : Rdw w x w1 (F'.put k (f.see u)) v := by
  obtain ⟨h1, h2⟩ := h.web.read hf ht hs
  refine ⟨h1, h.seen.put he u ?_, h.stay.trans h2 (fun _ _ ho => .inr ((h.seen.nown x.N _).1 ho))⟩
  obtain ⟨u0, hu0⟩ := h.seen.at he
  rw [hf] at hu0
  injection hu0 with hu0
  rw [hu0]; rfl
theorem Rdw.step {w wr w1 : World} {x : Wx} {F' : For} {v v2 : Nat} {S : Nat → Prop} (h : Rdw w x wr F' v) (hW : Web x.B w1 x.t x.N x.N F' v2) (hs : Stay S wr w1) (hS : ∀ b, S b → x.own b) : Rdw w x w1 F' v2 :=
  ⟨hW, h.seen, h.stay.trans hs (fun b _ ho => hS b ho)⟩
theorem Rdw.look {w wr w1 : World} {x : Wx} {F' : For} {v v2 : Nat} (h : Rdw w x wr F' v) (hW : Web x.B w1 x.t x.N x.N F' v2) (hs : Stay (· = x.t) wr w1) : Rdw w x w1 F' v2 := h.step hW hs (fun _ e => .inl e)
theorem Rdw.rank {w wr w1 : World} {x : Wx} {F' : For} {v v2 k u : Nat} {e f : Ent} (h : Rdw w x wr F' v) (he : x.F k = some e) (hf : F' k = some f) (hW : Web x.B w1 x.t x.N x.N (F'.put k (f.see u)) v2) (hs : Stay (fun c => c = x.t ∨ Nown x.N F' c) wr w1) : Rdw w x w1 (F'.put k (f.see u)) v2 := by
  refine ⟨hW, h.seen.put he u ?_, h.stay.trans hs (fun _ _ ho => ho.imp id (h.seen.nown x.N _).1)⟩
  obtain ⟨u0, hu0⟩ := h.seen.at he
  rw [hf] at hu0
  injection hu0 with hu0
  rw [hu0]; rfl
theorem Rdw.drewN {w wr : World} {x : Wx} {F' : For} {v : Nat} (h : Rdw w x wr F' v) (n : Nat) : Rdw w x (wr.drewN n) F' v := ⟨h.web.drewN n, h.seen, h.stay.drewN n⟩
theorem Wav.done {w wr : World} {x : Wx} {m : List Int} {F' : For} {v : Nat} (h : Wav w x m) (hR : Rdw w x wr F' v) : Wav wr ⟨x.B, x.t, x.N, F', v⟩ m := h.seen hR.seen hR.web
theorem Wav.done0 {w wr : World} {x : Wx} {m : List Int} {v : Nat} (h : Wav w ⟨x.B, x.t, x.N, x.F, v⟩ m) {w0 : World} (hR : Rdw w0 x wr x.F 0) : Wav wr ⟨x.B, x.t, x.N, x.F, 0⟩ m := ⟨hR.web, h.des, h.good⟩
/-- The first store of a call: none was looked at. -/
theorem Wav.zero {w : World} {x : Wx} {m : List Int} (h : Wav w x m) : Wav (w.setCell ⟨x.t, 1, none⟩ (.int .i64 0)) ⟨x.B, x.t, x.N, x.F, 0⟩ m ∧ Rdw w x (w.setCell ⟨x.t, 1, none⟩ (.int .i64 0)) x.F 0 := by
  have Z := h.web.setv 0 0 rfl
  exact ⟨⟨Z.1, h.des, h.good⟩, Z.1, SeenF.refl _, Z.2.mono (fun _ _ e => .inl e)⟩
/-- What is known of a node that is being read. -/
structure Nod (wr : World) (x : Wx) (F' : For) (k b : Nat) (f : Ent) (l : List Bool) : Prop where
  at' : F' k = some f
  nd : Node x.B wr b f (x.N (2 * k)) (x.N (2 * k + 1))
  m : f.m = l
  ht : f.S.rt.ht ≤ hiF x.F
  N : x.N k = some b
  F : ∃ e, x.F k = some e
theorem Rdw.node {w wr : World} {x : Wx} {m : List Int} {F' : For} {v k : Nat} (h : Rdw w x wr F' v) (hw : Wav w x m) (hk : 1 ≤ k ∧ k < 512) (hne : Wk.wb m k ≠ []) : ∃ b f, Nod wr x F' k b f (Wk.wb m k) := by
  obtain ⟨e, b, he, hm, hb⟩ := hw.stands hk hne
  obtain ⟨u, hu⟩ := h.seen.at he
  have hh := hiF_at hk.1 hk.2 he
  exact ⟨b, e.see u, hu, h.web.nods.nd hb hu, hm, hh, hb, e, he⟩
/-- What a call left that read alone. -/
structure Red (w w' : World) (x : Wx) (m : List Int) (F' : For) (v' : Nat) : Prop where
  wav : Wav w' ⟨x.B, x.t, x.N, F', v'⟩ m
  seen : SeenF x.F F'
  stay : Stay x.own w w'
theorem Wav.red {w wr : World} {x : Wx} {m : List Int} {F' : For} {v : Nat} (h : Wav w x m) (hR : Rdw w x wr F' v) : Red w wr x m F' v := ⟨h.done hR, hR.seen, hR.stay⟩
end Go.Proofs.YthbbokoeiifjdaaGreatDoor
