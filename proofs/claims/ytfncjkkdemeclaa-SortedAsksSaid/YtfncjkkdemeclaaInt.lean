/- Lists of integers in memory: what is read, what is the call's own. And lists of bools of the call's own. No function of the program stands in it. -/
import Derived.Test.YtfncjkkdemeclaaOwn
import Derived.Test.YtfncjkkdemeclaaFrame
import Derived.Test.YtfncjkkdemeclaaOpen
import Derived.Outline
import Derived.WalkSpells
import Derived.Laws.Rows
import Derived.Laws.OwnMore
import Derived.WalkLawsBesides
import Derived.Deep.RegionHeld3
import Derived.Deep.AppendLies
import Derived.Lib.Hide
import Derived.BigQuiet
import Derived.BigRegion
import Derived.RegionTactic
import Derived.ChangeAlike
import Derived.Deep.RegionLaw
import Derived.Laws.AppendOwnNone
import Derived.LoopTactic
namespace Go.Proofs.Ytfncjkkdemeclaa
open Go Go.RowKit Go.ChangeAt

theorem infoI : (Try.prog.info? 3).map (fun i => (i.zero, i.size, i.bytes)) = some (some (.int .i64 0), 1, 8) := by kernel_rfl
abbrev OwnI (base : Nat) (w : World) (v : Value) (l : List Int) : Prop := w.ownsRow base 3 1 v l.length (l.map (Value.int .i64))
/-- What a slice of the call's own looks like. -/
theorem own_form {w : World} {base : Nat} {e : TypeId} {size : Nat} {v : Value} {n : Nat} {xs : List Value} (h : w.ownsRow base e size v n xs) : ∃ a cap, v = .slice a n cap ∧ n ≤ cap ∧ cap ≤ maxLen := by
  rcases h.2 with ⟨hv, h0⟩ | ⟨g, cap, cur, hv, hb, hg, hn, hm, hs, ht⟩
  · exact ⟨none, 0, by rw [hv, h0], by omega, by decide⟩
  · exact ⟨_, cap, hv, hn, hm⟩
/-- A block of another type is not the slice's. -/
theorem own_ne {w : World} {base : Nat} {e t : TypeId} {size : Nat} {v : Value} {n : Nat} {xs : List Value} {g : Nat} {c : Array Value} {f : Nat × Nat} (h : w.ownsRow base e size v n xs) (hg : w.heap[g]? = some (.cells c t f)) (hne : t ≠ e) :
    ∀ k, v.ownBlock = some k → k ≠ g := by
  intro k hk ek
  subst ek
  rcases h.2 with ⟨hv, h0⟩ | ⟨g', cap, cur, hv, hb, hg', _⟩
  · subst hv; cases hk
  · subst hv
    have : g' = k := by simpa [Value.ownBlock] using hk
    subst this
    rw [hg] at hg'
    simp at hg'
    exact hne hg'.2.1
theorem own_ne2 {w : World} {base base' : Nat} {e t : TypeId} {size size' : Nat} {v v' : Value} {n n' : Nat} {xs xs' : List Value} (h : w.ownsRow base e size v n xs) (h' : w.ownsRow base' t size' v' n' xs') (hne : t ≠ e) :
    ∀ k, v.ownBlock = some k → v'.ownBlock ≠ some k := by
  intro k hk hk'
  rcases h'.2 with ⟨hv, h0⟩ | ⟨g', cap, cur, hv, hb, hg', _⟩
  · subst hv; cases hk'
  · subst hv
    have : g' = k := by simpa [Value.ownBlock] using hk'
    subst this
    exact own_ne h hg' hne _ hk rfl
theorem OwnI.app {base : Nat} {w : World} {v : Value} {l m : List Int} (h : w.ownsRow base 3 1 v (l.length + m.length) (l.map (Value.int .i64) ++ m.map (Value.int .i64))) : OwnI base w v (l ++ m) := by
  unfold OwnI
  rw [List.length_append, List.map_append]
  exact h
/-- A list that is not empty: its cells, which may be written. -/
theorem OwnB.open {base : Nat} {w : World} {a : Option Addr} {cap : Nat} {l : List Bool} (h : OwnB base w (.slice a l.length cap) l) (hne : 0 < l.length) :
    ∃ b, a = some ⟨b, 0, none⟩ ∧ base ≤ b ∧ b < w.heap.size ∧ (∀ i, i < l.length → w.cell? ⟨b, i, none⟩ = some (.bool (l.getD i false))) ∧ ∀ i, w.frozen? ⟨b, i, none⟩ = false := by
  have h2 := h.2
  rcases h2 with ⟨hv, h0⟩ | ⟨g, cap', cur, hv, hb, hg, hn, hm, hs, ht⟩
  · omega
  · simp only [Value.slice.injEq] at hv
    obtain ⟨rfl, _, rfl⟩ := hv
    refine ⟨g, rfl, hb, lt_of_block hg, fun i hi => ?_, fun i => World.ownsRow.frozenAt (w := w) h i⟩
    have := World.ownsRow.cellAt (w := w) h i (by omega)
    rw [this]
    simp [hi]
theorem OwnI.open {base : Nat} {w : World} {a : Option Addr} {cap : Nat} {l : List Int} (h : OwnI base w (.slice a l.length cap) l) (hne : 0 < l.length) :
    ∃ b, a = some ⟨b, 0, none⟩ ∧ base ≤ b ∧ b < w.heap.size ∧ (∀ i, i < l.length → w.cell? ⟨b, i, none⟩ = some (.int .i64 (l.getD i 0))) ∧ ∀ i, w.frozen? ⟨b, i, none⟩ = false := by
  have h2 := h.2
  rcases h2 with ⟨hv, h0⟩ | ⟨g, cap', cur, hv, hb, hg, hn, hm, hs, ht⟩
  · omega
  · simp only [Value.slice.injEq] at hv
    obtain ⟨rfl, _, rfl⟩ := hv
    refine ⟨g, rfl, hb, lt_of_block hg, fun i hi => ?_, fun i => World.ownsRow.frozenAt (w := w) h i⟩
    have := World.ownsRow.cellAt (w := w) h i (by omega)
    rw [this]
    simp [hi]
theorem grown_stay {w w' : World} {o : Option Nat} (h : w.grownBy w' o) : Stay (fun k => o = some k) w w' := by
  obtain ⟨h1, h2, h3, h4, h5⟩ := h
  exact ⟨h1, h2, h3, h4, fun k hk hs => h5 k hk (fun e => hs e.symm)⟩
/-- A store into a list of the call's own. -/
theorem OwnB.set {base : Nat} {w : World} {b cap : Nat} {l : List Bool} (h : OwnB base w (.slice (some ⟨b, 0, none⟩) l.length cap) l) (j : Nat) (x : Bool) :
    OwnB base (w.setCell ⟨b, j, none⟩ (.bool x)) (.slice (some ⟨b, 0, none⟩) (l.set j x).length cap) (l.set j x) := by
  have := (World.ownsRow.stored (w := w) h j (.bool x)).1
  unfold OwnB
  rw [List.length_set, List.map_set]
  exact this
/-- All but the last: of the same block. -/
theorem OwnI.init {base : Nat} {w : World} {b cap : Nat} {l : List Int} {k : Int} (h : OwnI base w (.slice (some ⟨b, 0, none⟩) (l ++ [k]).length cap) (l ++ [k])) : OwnI base w (.slice (some ⟨b, 0, none⟩) l.length cap) l := by
  refine ⟨by simp, .inr ?_⟩
  rcases h.2 with ⟨hv, h0⟩ | ⟨g, cap', cur, hv, hb, hg, hn, hm, hs, ht⟩
  · cases hv
  · simp only [Value.slice.injEq, Option.some.injEq, Addr.mk.injEq, and_true, true_and] at hv
    obtain ⟨rfl, rfl⟩ := hv
    have hlen : (l ++ [k]).length = l.length + 1 := by simp
    rw [hlen] at hn ht
    refine ⟨b, cap, cur, rfl, hb, hg, by omega, hm, hs, ?_⟩
    have h2 : (cur.toList.take ((l.length + 1) * 1)).take (l.length * 1) = (List.map (Value.int .i64) (l ++ [k])).take (l.length * 1) := by rw [ht]
    rw [List.take_take, Nat.min_eq_left (by omega), List.map_append, List.take_append_of_le_length (by simp)] at h2
    rw [h2]
    exact List.take_of_length_le (by simp)

/-- A slice of integers, as it is read. -/
def RdL (w : World) (a : Option Addr) (cap : Nat) (l : List Int) : Prop :=
  l.length ≤ cap ∧ cap ≤ maxLen ∧ (a = none → cap = 0) ∧ (0 < l.length → ∃ b off, a = some ⟨b, off, none⟩ ∧ b < w.heap.size ∧ ∀ i, i < l.length → w.cell? ⟨b, off + i, none⟩ = some (.int .i64 (l.getD i 0)))
theorem RdL.nil (w : World) : RdL w none 0 [] := ⟨Nat.le_refl _, by decide, fun _ => rfl, fun h => absurd h (by decide)⟩
theorem RdL.zero {w : World} {a : Option Addr} {cap : Nat} (h : cap ≤ maxLen) (ha : a = none → cap = 0) : RdL w a cap [] := ⟨Nat.zero_le _, h, ha, fun h => absurd h (by decide)⟩
theorem OwnI.rd {base : Nat} {w : World} {a : Option Addr} {cap : Nat} {l : List Int} (h : OwnI base w (.slice a l.length cap) l) : RdL w a cap l := by
  obtain ⟨a', cap', hv, h1, h2⟩ := own_form h
  simp only [Value.slice.injEq, true_and] at hv
  obtain ⟨rfl, rfl⟩ := hv
  refine ⟨h1, h2, fun e => ?_, fun hp => ?_⟩
  · subst e
    rcases h.2 with ⟨hv, h0⟩ | ⟨g, cap', cur, hv, hb, hg, hn, hm, hs, ht⟩
    · simp at hv; exact hv.2
    · cases hv
  · obtain ⟨b, ha, _, hlt, hc, _⟩ := OwnI.open h hp
    exact ⟨b, 0, ha, hlt, fun i hi => by rw [Nat.zero_add]; exact hc i hi⟩
theorem Stay.cell {S : Nat → Prop} {a b : World} (h : Stay S a b) {p : Addr} (hp : p.block < a.heap.size) (hs : ¬ S p.block) : b.cell? p = a.cell? p := by
  unfold World.cell?
  rw [h.block _ hp hs]
theorem RdL.stay {w w' : World} {S : Nat → Prop} {a : Option Addr} {cap : Nat} {l : List Int} (h : RdL w a cap l) (hb : Stay S w w') (hs : 0 < l.length → ∀ ad, a = some ad → ad.block < w.heap.size → ¬ S ad.block) : RdL w' a cap l := by
  obtain ⟨h1, h2, h3, h4⟩ := h
  refine ⟨h1, h2, h3, fun hp => ?_⟩
  obtain ⟨b, off, ha, hlt, hc⟩ := h4 hp
  exact ⟨b, off, ha, Nat.lt_of_lt_of_le hlt hb.size, fun i hi => (hb.cell (p := ⟨b, off + i, none⟩) hlt (hs hp ⟨b, off, none⟩ ha hlt)).trans (hc i hi)⟩
theorem RdL.below {w w' : World} {a : Option Addr} {cap : Nat} {l : List Int} (h : RdL w a cap l) (hb : Below w.heap.size w w') : RdL w' a cap l :=
  h.stay (Stay.of_below (S := fun _ => False) hb) (fun _ _ _ _ h => h)
/-- The first k of them. -/
theorem RdL.take {w : World} {a : Option Addr} {cap : Nat} {l : List Int} (h : RdL w a cap l) (k : Nat) : RdL w a cap (l.take k) := by
  obtain ⟨h1, h2, h3, h4⟩ := h
  have hl : (l.take k).length ≤ l.length := by rw [List.length_take]; omega
  refine ⟨by omega, h2, h3, fun hp => ?_⟩
  obtain ⟨b, off, ha, hlt, hc⟩ := h4 (by omega)
  refine ⟨b, off, ha, hlt, fun i hi => ?_⟩
  have hi2 : i < k := by rw [List.length_take] at hi; omega
  rw [hc i (by omega), List.getD_eq_getElem?_getD, List.getD_eq_getElem?_getD, List.getElem?_take_of_lt hi2]
/-- A slice that was just made of the numbers given. -/
theorem RdL.made {w : World} (l : List Int) (hl : l.length ≤ maxLen) : RdL (w.alloc (.cells (l.map (Value.int .i64)).toArray 3)) (some ⟨w.heap.size, 0, none⟩) l.length l := by
  refine ⟨Nat.le_refl _, hl, (fun e => by cases e), fun _ => ⟨w.heap.size, 0, rfl, by simp, fun i hi => ?_⟩⟩
  rw [Nat.zero_add]
  refine new_cell rfl ?_
  simp [hi]
theorem RdL.cells {w : World} {a : Option Addr} {cap : Nat} {l : List Int} (h : RdL w a cap l) (hp : 0 < l.length) : ∃ ad, a = some ad ∧ ∀ j u, (l.map (Value.int .i64))[j]? = some u → w.cell? (ad.add j) = some u := by
  obtain ⟨b, off, ha, _, hc⟩ := h.2.2.2 hp
  refine ⟨_, ha, fun j u hu => ?_⟩
  have hj : j < l.length := by
    have := (List.getElem?_eq_some_iff.1 hu).1
    simpa using this
  rw [List.getElem?_map, List.getElem?_eq_getElem hj] at hu
  simp at hu
  rw [show (⟨b, off, none⟩ : Addr).add j = ⟨b, off + j, none⟩ by simp [Addr.add], hc j hj, ← hu, List.getD_eq_getElem?_getD, List.getElem?_eq_getElem hj]
  rfl
theorem ints_one (l : List Int) : ∀ u ∈ l.map (Value.int .i64), u.oneCell' = true := by
  intro u hu
  obtain ⟨b, _, rfl⟩ := List.mem_map.1 hu
  rfl
end Go.Proofs.Ytfncjkkdemeclaa
