/- Numbers of the call's own by places; ranks of symbols (package sorted): contracts of the walk. Suffixes in memory (package sorted): alike, regroup, newSuffixes: contracts of the walk. Suffixes in memory (package sorted): newSuffixes, Clone, sortByTwice, Rows: contracts of the walk. Suffixes in memory (package sorted): sortByTwice, Rows: contracts of the walk. -/
import Derived.Test.YthbbokoeiifjdaaGreatDoorBwg
import Derived.Test.YthbbokoeiifjdaaGreatDoorAre
import Derived.Deep.OwnRows
import Derived.Test.YthbbokoeiifjdaaGreatDoorSyg
import Derived.Deep.DeepCutAuto
import Derived.Deep.CutBlock
namespace Go.Proofs.YthbbokoeiifjdaaGreatDoor
open Go Go.RowKit Go.ChangeAt

/-- Block b of the memory: a row of 'cap' cells, the first N are the numbers f. -/
def Arr (w : World) (b cap N : Nat) (f : Nat → Int) : Prop :=
  ∃ c, w.heap[b]? = some (.cells c 3 (0, 0)) ∧ c.size = cap ∧ N ≤ cap ∧ cap ≤ maxLen ∧ ∀ i, i < N → c[i]? = some (.int .i64 (f i))
theorem Arr.cell {w : World} {b cap N : Nat} {f : Nat → Int} (h : Arr w b cap N f) {i : Nat} (hi : i < N) : w.cell? ⟨b, i, none⟩ = some (.int .i64 (f i)) := by
  obtain ⟨c, h1, _, _, _, h5⟩ := h
  exact (cell_of h1).trans (h5 i hi)
theorem Arr.free {w : World} {b cap N : Nat} {f : Nat → Int} (h : Arr w b cap N f) (i : Nat) : w.frozen? ⟨b, i, none⟩ = false := by
  obtain ⟨c, h1, _⟩ := h
  exact free_of h1
theorem Arr.lt {w : World} {b cap N : Nat} {f : Nat → Int} (h : Arr w b cap N f) : b < w.heap.size := by
  obtain ⟨c, h1, _⟩ := h
  exact (Array.getElem?_eq_some_iff.1 h1).1
theorem Arr.fits {w : World} {b cap N : Nat} {f : Nat → Int} (h : Arr w b cap N f) : N ≤ cap ∧ cap ≤ maxLen := by
  obtain ⟨c, _, _, h3, h4, _⟩ := h
  exact ⟨h3, h4⟩
theorem Arr.stay {w w' : World} {b cap N : Nat} {f : Nat → Int} {S : Nat → Prop} (h : Arr w b cap N f) (hs : Stay S w w') (hn : ¬ S b) : Arr w' b cap N f := by
  obtain ⟨c, h1, h2⟩ := h
  exact ⟨c, hs.kept h1 hn, h2⟩
theorem Arr.below {w w' : World} {b cap N : Nat} {f : Nat → Int} (h : Arr w b cap N f) (hs : Below w.heap.size w w') : Arr w' b cap N f := h.stay (Stay.of_below (S := fun _ => False) hs) (fun e => e)
theorem Arr.drewN {w : World} {b cap N : Nat} {f : Nat → Int} (h : Arr w b cap N f) (n : Nat) : Arr (w.drewN n) b cap N f := h
theorem Arr.set {w : World} {b cap N : Nat} {f : Nat → Int} (h : Arr w b cap N f) (i : Nat) (v : Int) : Arr (w.setCell ⟨b, i, none⟩ (.int .i64 v)) b cap N (fun j => if j = i then v else f j) := by
  obtain ⟨c, h1, h2, h3, h4, h5⟩ := h
  refine ⟨_, set_of h1 _, by rw [Array.size_setIfInBounds]; exact h2, h3, h4, fun j hj => ?_⟩
  show _ = some (Value.int .i64 (if j = i then v else f j))
  by_cases e : j = i
  · subst e
    rw [if_pos rfl, Array.getElem?_setIfInBounds_self_of_lt (by omega)]
  · rw [if_neg e, Array.getElem?_setIfInBounds_ne (Ne.symm e)]
    exact h5 j hj
theorem Arr.congr {w : World} {b cap N : Nat} {f g : Nat → Int} (h : Arr w b cap N f) (e : ∀ i, i < N → f i = g i) : Arr w b cap N g := by
  obtain ⟨c, h1, h2, h3, h4, h5⟩ := h
  exact ⟨c, h1, h2, h3, h4, fun i hi => by rw [h5 i hi, e i hi]⟩
theorem Arr.made {w : World} (n : Nat) (h : n ≤ maxLen) : Arr (w.alloc (.cells (madeCells #[Value.int .i64 0] n) 3)) w.heap.size n n (fun _ => 0) := by
  refine ⟨_, alloc_of, ?_, Nat.le_refl _, h, fun i hi => ?_⟩
  · rw [← Array.length_toList, toList_madeCells_one, List.length_replicate]
  · rw [← Array.getElem?_toList, toList_madeCells_one, List.getElem?_replicate, if_pos hi]
/-- A list of the call's own that is not empty. -/
theorem Arr.of_own {w : World} {base : Nat} {v : Value} {l : List Int} {n : Nat} (h : OwnI base w v l) (hn : l.length = n) (hp : 0 < n) : ∃ b cap, v = .slice (some ⟨b, 0, none⟩) n cap ∧ base ≤ b ∧ Arr w b cap n (fun i => l.getD i 0) := by
  subst hn
  rcases h.2 with ⟨_, h0⟩ | ⟨g, cap, cur, hv, hb, hg, hn, hm, hs, ht⟩
  · omega
  · refine ⟨g, cap, hv, hb, cur, hg, by omega, hn, hm, fun i hi => ?_⟩
    have h1 : (cur.toList.take (l.length * 1))[i]? = (l.map (Value.int .i64))[i]? := by rw [ht]
    rw [List.getElem?_take_of_lt (by omega), List.getElem?_map, List.getElem?_eq_getElem hi] at h1
    rw [← Array.getElem?_toList, h1]
    show _ = some (Value.int .i64 (l.getD i 0))
    rw [List.getD_eq_getElem?_getD, List.getElem?_eq_getElem hi]
    rfl
theorem Arr.own {w : World} {base b cap N : Nat} {f : Nat → Int} (h : Arr w b cap N f) (hb : base ≤ b) : OwnI base w (.slice (some ⟨b, 0, none⟩) N cap) ((List.range N).map f) := by
  obtain ⟨c, h1, h2, h3, h4, h5⟩ := h
  have hl : ((List.range N).map f).length = N := by rw [List.length_map, List.length_range]
  unfold OwnI
  rw [hl]
  refine ⟨by rw [List.length_map, hl]; omega, .inr ⟨b, cap, c, rfl, hb, h1, h3, h4, by omega, ?_⟩⟩
  refine List.ext_getElem? fun i => ?_
  by_cases hi : i < N
  · rw [List.getElem?_take_of_lt (by omega), Array.getElem?_toList, h5 i hi, List.getElem?_map, List.getElem?_map, List.getElem?_range hi]
    rfl
  · rw [List.getElem?_eq_none (by rw [List.length_take]; omega), List.getElem?_eq_none (by rw [List.length_map, hl]; omega)]
theorem Arr.rd {w : World} {b cap N : Nat} {f : Nat → Int} (h : Arr w b cap N f) (l : List Int) (hl : l.length = N) (he : ∀ i, i < N → f i = l.getD i 0) : RdL w (some ⟨b, 0, none⟩) cap l := by
  refine ⟨by have := h.fits; omega, h.fits.2, (fun e => by cases e), fun _ => ⟨b, 0, rfl, h.lt, fun i hi => ?_⟩⟩
  rw [Nat.zero_add, h.cell (by omega), he i (by omega)]

/-- Block t of the memory holds 258 numbers. -/
def Nx (w : World) (t : Nat) (b : Nat → Int) : Prop :=
  ∃ c, w.heap[t]? = some (.cells c 85 (0, 0)) ∧ c.size = 258 ∧ ∀ i, i ≤ 257 → c[i]? = some (.int .i64 (b i))
theorem Nx.cell {w : World} {t : Nat} {b : Nat → Int} (h : Nx w t b) {i : Nat} (hi : i ≤ 257) : w.cell? ⟨t, i, none⟩ = some (.int .i64 (b i)) := by
  obtain ⟨c, h1, _, h3⟩ := h
  exact (cell_of h1).trans (h3 i hi)
theorem Nx.free {w : World} {t : Nat} {b : Nat → Int} (h : Nx w t b) (i : Nat) : w.frozen? ⟨t, i, none⟩ = false := by
  obtain ⟨c, h1, _, _⟩ := h
  exact free_of h1
theorem Nx.lt {w : World} {t : Nat} {b : Nat → Int} (h : Nx w t b) : t < w.heap.size := by
  obtain ⟨c, h1, _, _⟩ := h
  exact (Array.getElem?_eq_some_iff.1 h1).1
theorem Nx.stay {w w' : World} {t : Nat} {b : Nat → Int} {S : Nat → Prop} (h : Nx w t b) (hs : Stay S w w') (hn : ¬ S t) : Nx w' t b := by
  obtain ⟨c, h1, h2, h3⟩ := h
  exact ⟨c, hs.kept h1 hn, h2, h3⟩
theorem Nx.below {w w' : World} {t : Nat} {b : Nat → Int} (h : Nx w t b) (hs : Below w.heap.size w w') : Nx w' t b := h.stay (Stay.of_below (S := fun _ => False) hs) (fun e => e)
theorem Nx.set {w : World} {t : Nat} {b : Nat → Int} (h : Nx w t b) (i : Nat) (v : Int) : Nx (w.setCell ⟨t, i, none⟩ (.int .i64 v)) t (fun j => if j = i then v else b j) := by
  obtain ⟨c, h1, h2, h3⟩ := h
  refine ⟨_, set_of h1 _, by rw [Array.size_setIfInBounds]; exact h2, fun j hj => ?_⟩
  show _ = some (Value.int .i64 (if j = i then v else b j))
  by_cases e : j = i
  · subst e
    rw [if_pos rfl, Array.getElem?_setIfInBounds_self_of_lt (by omega)]
  · rw [if_neg e, Array.getElem?_setIfInBounds_ne (Ne.symm e)]
    exact h3 j hj
theorem Nx.congr {w : World} {t : Nat} {b b' : Nat → Int} (h : Nx w t b) (e : ∀ i, i ≤ 257 → b i = b' i) : Nx w t b' := by
  obtain ⟨c, h1, h2, h3⟩ := h
  exact ⟨c, h1, h2, fun i hi => by rw [h3 i hi, e i hi]⟩
theorem infoN : (Tryz.prog.info? 85).map (fun i => i.zero) = some (some (.agg (Array.replicate 258 (.int .i64 0)))) := by kernel_rfl
theorem zeroN : ∃ zs : Array Value, (∀ w, (zeroValue 85).run Tryz.prog w = .ok (.agg zs) w) ∧ zs.size = 258 ∧ ∀ j, j ≤ 257 → zs[j]? = some (.int .i64 0) := by
  refine ⟨Array.replicate 258 (.int .i64 0), fun w => ?_, Array.size_replicate, fun j hj => by rw [Array.getElem?_replicate, if_pos (by omega)]⟩
  obtain ⟨i, hi, hz⟩ := Option.map_eq_some_iff.1 infoN
  simp [zeroValue, typeInfo, hi, hz]

namespace Bw
theorem low_succ (l : List Int) (s : Int) : low l (s + 1) = low l s + l.count s := by
  unfold low
  induction l with
  | nil => rfl
  | cons a l ih =>
    rw [List.countP_cons, List.countP_cons, List.count_cons, ih]
    by_cases h1 : a < s
    · have e1 : ¬ (a == s) = true := by simp; omega
      rw [if_pos (decide_eq_true (show a < s + 1 by omega)), if_pos (decide_eq_true h1), if_neg e1]
      omega
    · by_cases h2 : a = s
      · have e1 : (a == s) = true := by simp [h2]
        rw [if_pos (decide_eq_true (show a < s + 1 by omega)), if_neg (by simpa using h1), if_pos e1]
        omega
      · have e1 : ¬ (a == s) = true := by simpa using h2
        have h3 : ¬ a < s + 1 := by omega
        rw [if_neg (by simpa using h3), if_neg (by simpa using h1), if_neg e1]
        omega
theorem low_zero {l : List Int} (h : ∀ s ∈ l, 0 ≤ s) : low l 0 = 0 := by
  unfold low
  rw [List.countP_eq_zero]
  intro a ha
  have := h a ha
  simp
  omega
/-- What the 258 numbers are: counted, summed, taken. -/
def n1 (l : List Int) (k : Nat) : Nat → Int := fun j => if j = 0 then 0 else ((l.take k).count ((j : Int) - 1) : Int)
def n2 (l : List Int) (s : Nat) : Nat → Int := fun j => if j ≤ s then (low l (j : Int) : Int) else (l.count ((j : Int) - 1) : Int)
def n3 (l : List Int) (k : Nat) : Nat → Int := fun j => ((low l (j : Int) + (l.take k).count (j : Int) : Nat) : Int)
theorem getD_mem {l : List Int} {k : Nat} (hk : k < l.length) : l.getD k 0 ∈ l := by
  rw [List.getD_eq_getElem?_getD, List.getElem?_eq_getElem hk]
  exact List.getElem_mem hk
theorem take_next {l : List Int} {k : Nat} (hk : k < l.length) : l.take (k + 1) = l.take k ++ [l.getD k 0] := by
  rw [List.take_succ_eq_append_getElem hk, List.getD_eq_getElem?_getD, List.getElem?_eq_getElem hk]
  rfl
theorem count_next {l : List Int} {k : Nat} (hk : k < l.length) (s : Int) : (l.take (k + 1)).count s = (l.take k).count s + if l.getD k 0 = s then 1 else 0 := by
  rw [take_next hk, List.count_append, List.count_singleton]
  congr 1
  by_cases e : l.getD k 0 = s
  · rw [if_pos e, if_pos (by simpa using e)]
  · rw [if_neg e, if_neg (by simpa using e)]
theorem count_few (l : List Int) (k : Nat) (s : Int) : (l.take k).count s ≤ k := Nat.le_trans List.count_le_length (List.length_take_le _ _)
end Bw

set_option maxRecDepth 100000 in
set_option maxHeartbeats 1600000 in
theorem sranks {a : Option Addr} {cap n : Nat} {l : List Int} (w : World) (h : RdL w a cap l) (hl : l.length = n) (hn : n ≤ 1000000000) (hg : ∀ s ∈ l, 0 ≤ s ∧ s ≤ 256) :
    Calls Tryz.prog 48 #[.slice a n cap] w fun e w' => ∃ b, e = .returned (.slice (some ⟨b, 0, none⟩) n n) ∧ w.heap.size ≤ b ∧ Arr w' b n n (fun k => (Bw.bk l k : Int)) ∧ Below w.heap.size w w' := by
  obtain ⟨i0, hi, hz0, hz1, hz2⟩ := info_parts infoI
  obtain ⟨zs, hz, hzn, hzc⟩ := zeroN
  have hB0 : Below w.heap.size w (w.alloc (Obj.cells zs 85)) := (Below.refl _ _).alloc (Nat.le_refl _) _
  have hT0 : Nx (w.alloc (Obj.cells zs 85)) w.heap.size (Bw.n1 l 0) := ⟨zs, alloc_of, hzn, fun i hi => by
    rw [hzc i hi]
    unfold Bw.n1
    by_cases e : i = 0
    · rw [if_pos e]
    · rw [if_neg e]; rfl⟩
  have hcell : 0 < n → ∃ b off, a = some ⟨b, off, none⟩ ∧ b < w.heap.size ∧ ∀ i, i < n → w.cell? ⟨b, off + i, none⟩ = some (.int .i64 (l.getD i 0)) := fun hp => by
    obtain ⟨b, off, h1, h2, h3⟩ := h.2.2.2 (by omega)
    exact ⟨b, off, h1, h2, fun i hi => h3 i (by omega)⟩
  have HC := Lib.hid hcell
  have HL := Lib.hid hl
  have HG := Lib.hid hg
  have HT0 := Lib.hid hT0
  have HB0 := Lib.hid hB0
  clear h hcell hl hg hT0 hB0 hzn hzc
  go_enter Tryz.func48, Tryz.ntmps48
  go_wp2_with fail
  clear hz
  obtain ⟨T, hT⟩ : ∃ T, w.heap.size = T := ⟨_, rfl⟩
  rw [hT] at HT0 HB0 ⊢
  have HTT := Lib.hid hT
  clear hT
  go_loopw [5, 12] (fun _ i wr => ∃ m : Nat, m ≤ n ∧ i = .int .i64 m ∧ Nx wr T (Bw.n1 l m) ∧ Below T w wr) (fun _ i _ => n - (intOf i).toNat)
  case atStart => exact ⟨0, Nat.zero_le _, rfl, HT0.out, HB0.out⟩
  case round =>
    clear HT0 HB0
    obtain ⟨m, hm, rfl, hT, hB⟩ := hrel
    by_cases hlt : m < n
    · have hlt' : (m : Int) < n := by omega
      have hml : m < l.length := by rw [HL.out]; exact hlt
      obtain ⟨b, off, rfl, hbb, hc⟩ := HC.out (by omega)
      have hbT : b < T := by rw [← HTT.out]; exact hbb
      have c0 := (hB.cell (p := ⟨b, off + m, none⟩) hbT).trans (hc m hlt)
      have htk := Bw.count_next hml
      have hgx := HG.out _ (Bw.getD_mem hml)
      obtain ⟨x, hx⟩ : ∃ x, l.getD m 0 = x := ⟨_, rfl⟩
      rw [hx] at c0 htk hgx
      obtain ⟨s, rfl⟩ : ∃ s : Nat, x = s := ⟨x.toNat, by omega⟩
      have hs257 : s + 1 ≤ 257 := by omega
      have c1 := hT.cell hs257
      have c2 := hT.free (s + 1)
      have hle := Bw.count_few l m s
      have e0 : Bw.n1 l m (s + 1) = ((l.take m).count (s : Int) : Int) := by
        unfold Bw.n1
        rw [if_neg (by omega), show ((s + 1 : Nat) : Int) - 1 = s by omega]
      rw [e0] at c1
      obtain ⟨y, hy⟩ : ∃ y, (l.take m).count (s : Int) = y := ⟨_, rfl⟩
      rw [hy] at c1 hle
      have hT2 : Nx (wr.setCell ⟨T, s + 1, none⟩ (.int .i64 ((y : Int) + 1))) T (Bw.n1 l (m + 1)) := (hT.set (s + 1) _).congr (fun i hi => by
        show (if i = s + 1 then (y : Int) + 1 else Bw.n1 l m i) = _
        unfold Bw.n1
        by_cases h8 : i = s + 1
        · subst h8
          rw [if_pos rfl, if_neg (by omega), show ((s + 1 : Nat) : Int) - 1 = s by omega, htk, if_pos rfl, hy]
          omega
        · rw [if_neg h8]
          by_cases h7 : i = 0
          · rw [if_pos h7, if_pos h7]
          · rw [if_neg h7, if_neg h7, htk, if_neg (by omega)]
            omega)
      have hB2 : Below T w (wr.setCell ⟨T, s + 1, none⟩ (.int .i64 ((y : Int) + 1))) := hB.setCell (Nat.le_refl _) _
      have HT2 := Lib.hid hT2
      have HB2 := Lib.hid hB2
      obtain ⟨hs0, hs1⟩ := hgx
      clear hT hB hT2 hB2 hc hx htk e0 hy hml
      go_wp2_with fail
      go_roundw
      case rel => exact ⟨m + 1, by omega, by go_num, HT2.out, HB2.out⟩
      case measure => simp [intOf]; omega
    · have hlt' : ¬ (m : Int) < n := by omega
      have hfin : l.take m = l := List.take_of_length_le (by rw [HL.out]; omega)
      have hT1 : Nx wr T (Bw.n2 l 0) := hT.congr (fun i _ => by
        unfold Bw.n1 Bw.n2
        rw [hfin]
        by_cases h7 : i = 0
        · subst h7
          rw [if_pos rfl, if_pos (Nat.le_refl _), show ((0 : Nat) : Int) = 0 from rfl, Bw.low_zero fun s hs => (HG.out s hs).1]
          rfl
        · rw [if_neg h7, if_neg (by omega)])
      have hbl : ∀ s : Int, Bw.low l s + l.count s ≤ n := fun s => by rw [← HL.out]; exact Bw.low_len l s
      have HBL := Lib.hid hbl
      have HT1 := Lib.hid hT1
      have HB1 := Lib.hid hB
      clear hT hB hT1 hfin hbl
      go_wp2_with fail
      go_loopw [6, 23] (fun _ i wr => ∃ k : Nat, k ≤ 257 ∧ i = .int .i64 k ∧ Nx wr T (Bw.n2 l k) ∧ Below T w wr) (fun _ i _ => 257 - (intOf i).toNat)
      case atStart => exact ⟨0, Nat.zero_le _, rfl, HT1.out, HB1.out⟩
      case round =>
        clear HT1 HB1
        obtain ⟨k, hk, rfl, hT, hB⟩ := hrel
        by_cases hlt2 : k < 257
        · have hlt3 : (k : Int) < 257 := by omega
          have c1 := hT.cell (i := k + 1) (by omega)
          have c2 := hT.cell (i := k) (by omega)
          have c3 := hT.free (k + 1)
          have e1 : Bw.n2 l k (k + 1) = (l.count (k : Int) : Int) := by
            unfold Bw.n2
            rw [if_neg (by omega), show ((k + 1 : Nat) : Int) - 1 = k by omega]
          have e2 : Bw.n2 l k k = (Bw.low l (k : Int) : Int) := by unfold Bw.n2; rw [if_pos (Nat.le_refl _)]
          have e3 := Bw.low_succ l k
          have hle := HBL.out k
          rw [e1] at c1
          rw [e2] at c2
          obtain ⟨y, hy⟩ : ∃ y, l.count (k : Int) = y := ⟨_, rfl⟩
          obtain ⟨z, hz⟩ : ∃ z, Bw.low l (k : Int) = z := ⟨_, rfl⟩
          rw [hy] at c1 hle e3
          rw [hz] at c2 hle e3
          have hT2 : Nx (wr.setCell ⟨T, k + 1, none⟩ (.int .i64 ((y : Int) + z))) T (Bw.n2 l (k + 1)) := (hT.set (k + 1) _).congr (fun i hi => by
            show (if i = k + 1 then (y : Int) + z else Bw.n2 l k i) = _
            unfold Bw.n2
            by_cases h8 : i = k + 1
            · subst h8
              rw [if_pos rfl, if_pos (Nat.le_refl _), show ((k + 1 : Nat) : Int) = (k : Int) + 1 by omega, e3]
              omega
            · rw [if_neg h8]
              by_cases h7 : i ≤ k
              · rw [if_pos h7, if_pos (by omega)]
              · rw [if_neg h7, if_neg (by omega)])
          have hB2 : Below T w (wr.setCell ⟨T, k + 1, none⟩ (.int .i64 ((y : Int) + z))) := hB.setCell (Nat.le_refl _) _
          have HT2 := Lib.hid hT2
          have HB2 := Lib.hid hB2
          clear hT hB hT2 hB2 e1 e2 e3 hy hz
          go_wp2_with fail
          go_region
          all_goals go_wp2
          all_goals go_roundw
          case rel => exact ⟨k + 1, by omega, by go_num, HT2.out.below ((Below.refl _ _).drew), HB2.out.drew⟩
          case measure => simp [intOf]; omega
        · have hlt3 : ¬ (k : Int) < 257 := by omega
          obtain rfl : k = 257 := by omega
          have hT1 : Nx (wr.alloc (.cells (madeCells #[Value.int .i64 0] n) 3)) T (Bw.n3 l 0) := (hT.below ((Below.refl _ _).alloc (Nat.le_refl _) _)).congr fun i hi => by
            unfold Bw.n2 Bw.n3
            rw [if_pos hi]
            rfl
          have hA : Arr (wr.alloc (.cells (madeCells #[Value.int .i64 0] n) 3)) wr.heap.size n n (fun _ => 0) := Arr.made n (by unfold maxLen; omega)
          have hTR : T < wr.heap.size := hT.lt
          have hB3 : Below T w (wr.alloc (.cells (madeCells #[Value.int .i64 0] n) 3)) := hB.alloc (by omega) _
          have HT1 := Lib.hid hT1
          have HA1 := Lib.hid hA
          have HB3 := Lib.hid hB3
          clear hT hB hT1 hA hB3
          go_wp2_with (first
            | (at_make; refine wpList_make_row _ rfl _ _ 22 rfl 3 i0 (.int .i64 0) Tryz.underlying22 hi hz0 hz1 rfl .i64 .i64 n rfl rfl (by rw [hz2]; omega) (by omega) ?_))
          obtain ⟨B, hBB⟩ : ∃ B, wr.heap.size = B := ⟨_, rfl⟩
          rw [hBB] at HA1 hTR ⊢
          obtain ⟨w1, hw1⟩ : ∃ w1, wr.alloc (.cells (madeCells #[Value.int .i64 0] n) 3) = w1 := ⟨_, rfl⟩
          rw [hw1] at HT1 HA1 HB3 ⊢
          clear hBB hw1
          go_wp2_with fail
          go_loopw [8, 9, 41] (fun _ _ i wr => ∃ k : Nat, k ≤ n ∧ i = .int .i64 k ∧ Nx wr T (Bw.n3 l k) ∧ (∃ f, Arr wr B n n f ∧ ∀ j, j < k → f j = (Bw.bk l j : Int)) ∧ Below T w wr) (fun _ _ i _ => n - (intOf i).toNat)
          case atStart => exact ⟨0, Nat.zero_le _, rfl, HT1.out, ⟨_, HA1.out, fun j hj => absurd hj (Nat.not_lt_zero _)⟩, HB3.out⟩
          case round =>
            clear HT1 HA1 HB3
            obtain ⟨k, hk, rfl, hT, ⟨f, hA, hf⟩, hB⟩ := hrel
            by_cases hlt : k < n
            · have hlt' : (k : Int) < n := by omega
              have hml : k < l.length := by rw [HL.out]; exact hlt
              obtain ⟨b, off, rfl, hbb, hc⟩ := HC.out (by omega)
              have hbT : b < T := by rw [← HTT.out]; exact hbb
              have c0 := (hB.cell (p := ⟨b, off + k, none⟩) hbT).trans (hc k hlt)
              have htk := Bw.count_next hml
              have hgx := HG.out _ (Bw.getD_mem hml)
              have hbk := Bw.bk_lt hml
              rw [HL.out] at hbk
              obtain ⟨x, hx⟩ : ∃ x, l.getD k 0 = x := ⟨_, rfl⟩
              have hbe : Bw.bk l k = Bw.low l x + (l.take k).count x := by unfold Bw.bk; rw [hx]
              rw [hx] at c0 htk hgx
              obtain ⟨s, rfl⟩ : ∃ s : Nat, x = s := ⟨x.toNat, by omega⟩
              have c1 := hT.cell (i := s) (by omega)
              have c2 := hT.free s
              have c3 := hA.free k
              have c5 := hA.cell hlt
              have e0 : Bw.n3 l k s = (Bw.bk l k : Int) := by
                rw [hbe]; rfl
              rw [e0] at c1
              obtain ⟨y, hy⟩ : ∃ y, Bw.bk l k = y := ⟨_, rfl⟩
              rw [hy] at c1 hbk hbe
              have hs1 : Stay (· = B) wr (wr.setCell ⟨B, k, none⟩ (.int .i64 (y : Int))) := (Stay.refl (· = B) wr).setCell (p := ⟨B, k, none⟩) (.inr rfl) _
              have hneT : ¬ T = B := by omega
              have c1' := (hs1.cell (p := ⟨T, s, none⟩) hT.lt hneT).trans c1
              have hT1 := hT.stay hs1 hneT
              have hT2 : Nx ((wr.setCell ⟨B, k, none⟩ (.int .i64 (y : Int))).setCell ⟨T, s, none⟩ (.int .i64 ((y : Int) + 1))) T (Bw.n3 l (k + 1)) := (hT1.set s _).congr (fun i hi => by
                show (if i = s then (y : Int) + 1 else Bw.n3 l k i) = _
                unfold Bw.n3
                by_cases h8 : i = s
                · subst h8
                  rw [if_pos rfl, htk, if_pos rfl]
                  omega
                · rw [if_neg h8, htk, if_neg (by omega)]
                  omega)
              have hA2 : Arr ((wr.setCell ⟨B, k, none⟩ (.int .i64 (y : Int))).setCell ⟨T, s, none⟩ (.int .i64 ((y : Int) + 1))) B n n (fun j => if j = k then (y : Int) else f j) :=
                (hA.set k _).stay ((Stay.refl (· = T) _).setCell (p := ⟨T, s, none⟩) (.inr rfl) _) (by omega)
              have hf2 : ∀ j, j < k + 1 → (if j = k then (y : Int) else f j) = (Bw.bk l j : Int) := fun j hj => by
                by_cases e : j = k
                · subst e; rw [if_pos rfl, hy]
                · rw [if_neg e]; exact hf j (by omega)
              have hB2 : Below T w ((wr.setCell ⟨B, k, none⟩ (.int .i64 (y : Int))).setCell ⟨T, s, none⟩ (.int .i64 ((y : Int) + 1))) := (hB.setCell (by show T ≤ B; omega) _).setCell (Nat.le_refl _) _
              have HT2 := Lib.hid hT2
              have HA2 := Lib.hid hA2
              have HF2 := Lib.hid hf2
              have HB2 := Lib.hid hB2
              obtain ⟨hs0, hs1⟩ := hgx
              have c4 := hT1.free s
              clear hT hB hT2 hB2 hc hx htk e0 hy hml hA hf hA2 hf2 hT1 hbe
              go_wp2_with fail
              go_roundw
              case rel => exact ⟨k + 1, by omega, by go_num, HT2.out, ⟨_, HA2.out, HF2.out⟩, HB2.out⟩
              case measure => simp [intOf]; omega
            · have hlt' : ¬ (k : Int) < n := by omega
              have hA2 := hA.congr fun i hi => hf i (by omega)
              have HA2 := Lib.hid hA2
              have HB2 := Lib.hid hB
              clear hT hB hA hf hA2
              go_wp2_with fail
              go_ret
              exact ⟨B, rfl, by rw [HTT.out]; omega, HA2.out, by rw [HTT.out]; exact HB2.out⟩
end Go.Proofs.YthbbokoeiifjdaaGreatDoor
namespace Go.Proofs.YthbbokoeiifjdaaGreatDoor
open Go Go.RowKit Go.ChangeAt

/-- Block g of the memory holds the two slices and the number. -/
def Box (w : World) (g N rb rc hb hc : Nat) (G : Int) : Prop :=
  w.heap[g]? = some (.cells #[.slice (some ⟨rb, 0, none⟩) N rc, .slice (some ⟨hb, 0, none⟩) N hc, .int .i64 G] 98 (0, 0))
theorem Box.c0 {w : World} {g N rb rc hb hc : Nat} {G : Int} (h : Box w g N rb rc hb hc G) : w.cell? ⟨g, 0, none⟩ = some (.slice (some ⟨rb, 0, none⟩) N rc) := (cell_of h).trans rfl
theorem Box.c1 {w : World} {g N rb rc hb hc : Nat} {G : Int} (h : Box w g N rb rc hb hc G) : w.cell? ⟨g, 1, none⟩ = some (.slice (some ⟨hb, 0, none⟩) N hc) := (cell_of h).trans rfl
theorem Box.c2 {w : World} {g N rb rc hb hc : Nat} {G : Int} (h : Box w g N rb rc hb hc G) : w.cell? ⟨g, 2, none⟩ = some (.int .i64 G) := (cell_of h).trans rfl
theorem Box.free {w : World} {g N rb rc hb hc : Nat} {G : Int} (h : Box w g N rb rc hb hc G) (i : Nat) : w.frozen? ⟨g, i, none⟩ = false := free_of h
theorem Box.lt {w : World} {g N rb rc hb hc : Nat} {G : Int} (h : Box w g N rb rc hb hc G) : g < w.heap.size := lt_of_block h
theorem Box.stay {w w' : World} {g N rb rc hb hc : Nat} {G : Int} {S : Nat → Prop} (h : Box w g N rb rc hb hc G) (hs : Stay S w w') (hn : ¬ S g) : Box w' g N rb rc hb hc G := hs.kept h hn
theorem Box.below {w w' : World} {g N rb rc hb hc : Nat} {G : Int} (h : Box w g N rb rc hb hc G) (hs : Below w.heap.size w w') : Box w' g N rb rc hb hc G := h.stay (Stay.of_below (S := fun _ => False) hs) (fun e => e)
theorem Box.set0 {w : World} {g N rb rc hb hc : Nat} {G : Int} (h : Box w g N rb rc hb hc G) (b c : Nat) : Box (w.setCell ⟨g, 0, none⟩ (.slice (some ⟨b, 0, none⟩) N c)) g N b c hb hc G := set_of h _
theorem Box.set1 {w : World} {g N rb rc hb hc : Nat} {G : Int} (h : Box w g N rb rc hb hc G) (b c : Nat) : Box (w.setCell ⟨g, 1, none⟩ (.slice (some ⟨b, 0, none⟩) N c)) g N rb rc b c G := set_of h _
theorem Box.set2 {w : World} {g N rb rc hb hc : Nat} {G : Int} (h : Box w g N rb rc hb hc G) (G' : Int) : Box (w.setCell ⟨g, 2, none⟩ (.int .i64 G')) g N rb rc hb hc G' := set_of h _
theorem Box.ne {w : World} {g N rb rc hb hc : Nat} {G : Int} (h : Box w g N rb rc hb hc G) {b cap M : Nat} {f : Nat → Int} (h' : Arr w b cap M f) : b ≠ g := by
  intro e
  subst e
  obtain ⟨c, h1, _⟩ := h'
  rw [show w.heap[b]? = _ from h] at h1
  simp at h1

set_option maxRecDepth 100000 in
theorem salike {g N rb rc hb hc : Nat} {G : Int} {H : Nat → Int} (a b k : Nat) (r : Bool) (w : World) (h : Box w g N rb rc hb hc G) (hA : Arr w hb hc N H) (hN : N ≤ 1000000000) (ha : a < N) (hb0 : b < N) (hk : H a = H b → a + k < N ∧ b + k < N) (hr : (decide (H a = H b) && decide (H (a + k) = H (b + k))) = r) :
    Calls Tryz.prog 90 #[.pointer (some ⟨g, 0, none⟩), .int .i64 a, .int .i64 b, .int .i64 k] w fun e w' => e = .returned (.bool r) ∧ ∃ m, w' = w.drewN m := by
  have c1 := h.c1
  have a1 := hA.cell ha
  have a2 := hA.cell hb0
  by_cases he : H a = H b
  · obtain ⟨h1, h2⟩ := hk he
    have a3 := hA.cell h1
    have a4 := hA.cell h2
    obtain ⟨x, hx⟩ : ∃ x, H a = x := ⟨_, rfl⟩
    obtain ⟨y, hy⟩ : ∃ y, H b = y := ⟨_, rfl⟩
    obtain ⟨z, hz⟩ : ∃ z, H (a + k) = z := ⟨_, rfl⟩
    obtain ⟨u, hu⟩ : ∃ u, H (b + k) = u := ⟨_, rfl⟩
    rw [hx] at a1 he hr
    rw [hy] at a2 he hr
    rw [hz] at a3 hr
    rw [hu] at a4 hr
    subst he
    have hd : decide (x = x) = true := decide_eq_true rfl
    have hd' : (x == x) = true := by simp
    rw [hd, Bool.true_and] at hr
    have HR := Lib.hid hr
    clear h hA hk hx hy hz hu hr
    go_enter Tryz.func90, Tryz.ntmps90
    go_wp2_with fail
    go_quiet (fail)
    go_wp2
    go_ret
    exact ⟨congrArg (fun b => Ending.returned (Value.bool b)) (by rw [← HR.out]; rfl), _, rfl⟩
  · obtain ⟨x, hx⟩ : ∃ x, H a = x := ⟨_, rfl⟩
    obtain ⟨y, hy⟩ : ∃ y, H b = y := ⟨_, rfl⟩
    rw [hx] at a1 he hr
    rw [hy] at a2 he hr
    have hd : decide (x = y) = false := decide_eq_false he
    have hd' : (x == y) = false := by simpa using he
    rw [hd, Bool.false_and] at hr
    have HR := Lib.hid hr
    clear h hA hk hx hy hr he
    go_enter Tryz.func90, Tryz.ntmps90
    go_wp2_with fail
    go_quiet (fail)
    go_wp2
    go_ret
    exact ⟨congrArg (fun b => Ending.returned (Value.bool b)) HR.out, _, rfl⟩

set_option maxRecDepth 100000 in
set_option maxHeartbeats 1600000 in
theorem sregroup {g N rb rc hb hc : Nat} {G : Int} {H : Nat → Int} {ro : Nat → Nat} (E : Nat → Nat → Bool) (k : Nat) (w : World) (h : Box w g N rb rc hb hc G) (hR : Arr w rb rc N (fun i => (ro i : Int))) (hA : Arr w hb hc N H) (hN : N ≤ 1000000000) (hp : 0 < N)
    (hlt : ∀ i, i < N → ro i < N) (hinj : ∀ i j, i < N → j < N → ro i = ro j → i = j)
    (hE : ∀ i, i + 1 < N → (decide (H (ro i) = H (ro (i + 1))) && decide (H (ro i + k) = H (ro (i + 1) + k))) = E (ro i) (ro (i + 1)))
    (hk : ∀ i, i + 1 < N → H (ro i) = H (ro (i + 1)) → ro i + k < N ∧ ro (i + 1) + k < N) :
    Calls Tryz.prog 79 #[.pointer (some ⟨g, 0, none⟩), .int .i64 k] w fun e w' => e = .returned (.tuple #[]) ∧ ∃ b H', w.heap.size ≤ b ∧ Box w' g N rb rc b N (Bw.gc E ro (N - 1)) ∧ Arr w' rb rc N (fun i => (ro i : Int)) ∧ Arr w' b N N H' ∧ (∀ i, i < N → H' (ro i) = (Bw.gh E ro i : Int)) ∧ Stay (· = g) w w' := by
  obtain ⟨i0, hi, hz0, hz1, hz2⟩ := info_parts infoI
  have c0 := h.c0
  have c2 := h.c2
  have f2 := h.free 2
  have hgl := h.lt
  obtain ⟨w0, hw0⟩ : ∃ w0, w.alloc (.cells (madeCells #[Value.int .i64 0] N) 3) = w0 := ⟨_, rfl⟩
  have hbl : Below w.heap.size w w0 := by rw [← hw0]; exact (Below.refl _ _).alloc (Nat.le_refl _) _
  have hR1 := hR.below hbl
  have hA1 := hA.below hbl
  have hB1 := h.below hbl
  have hn1 : Arr w0 w.heap.size N N (fun _ => 0) := by rw [← hw0]; exact Arr.made N (by unfold maxLen; omega)
  have hgr : rb ≠ g := h.ne hR
  have hgh : hb ≠ g := h.ne hA
  have hs0 : Stay (· = g) w w0 := Stay.of_below hbl
  have hs2 : Stay (· = g) w0 (w0.setCell ⟨g, 2, none⟩ (.int .i64 1)) := (Stay.refl (· = g) _).setCell (p := ⟨g, 2, none⟩) (.inr rfl) _
  have HR1 := Lib.hid (hR1.stay hs2 hgr)
  have HA1 := Lib.hid (hA1.stay hs2 hgh)
  have HN1 := Lib.hid (hn1.stay hs2 (by omega))
  have HB1 := Lib.hid (hB1.set2 1)
  have HS1 := Lib.hid (hs0.trans hs2 (fun _ _ h => h))
  have HLT := Lib.hid hlt
  have HIN := Lib.hid hinj
  have HE := Lib.hid hE
  have HK := Lib.hid hk
  have hrn : rb ≠ w.heap.size := by have := hR.lt; omega
  have hhn : hb ≠ w.heap.size := by have := hA.lt; omega
  have hgn : g ≠ w.heap.size := by omega
  have c2' := hB1.c2
  have f2' := hB1.free 2
  have c0' := hB1.c0
  clear h hR hA hR1 hA1 hB1 hn1 hs0 hs2 hlt hinj hE hk hbl c2 f2
  go_enter Tryz.func79, Tryz.ntmps79
  go_wp2_with (first
    | (at_make; refine wpList_make_row _ rfl _ _ 22 rfl 3 i0 (.int .i64 0) Tryz.underlying22 hi hz0 hz1 rfl .i64 .i64 N rfl rfl (by rw [hz2]; omega) (by omega) ?_; rw [hw0]; clear c0))
  obtain ⟨B, hBB⟩ : ∃ B, w.heap.size = B := ⟨_, rfl⟩
  have HBB := Lib.hid hBB
  rw [hBB] at HN1 hrn hhn hgn hgl ⊢
  obtain ⟨w1, hw1⟩ : ∃ w1, w0.setCell ⟨g, 2, none⟩ (.int .i64 1) = w1 := ⟨_, rfl⟩
  rw [hw1] at HR1 HA1 HN1 HB1 HS1 ⊢
  clear hBB hw1 c2' f2' c0' hw0
  go_loopw [5, 6] (fun hd i wr => ∃ (m M : Nat) (H' : Nat → Int), Hid (M = m + 1) ∧ M ≤ N ∧ i = .int .i64 M ∧ hd = .int .i64 (Bw.gh E ro m) ∧ Box wr g N rb rc hb hc (Bw.gc E ro m) ∧ Arr wr rb rc N (fun i => (ro i : Int)) ∧ Arr wr hb hc N H ∧ Arr wr B N N H' ∧ (∀ i, i < m + 1 → H' (ro i) = (Bw.gh E ro i : Int)) ∧ Stay (· = g) w wr) (fun _ i _ => N - (intOf i).toNat)
  case atStart =>
    refine ⟨0, 1, fun _ => 0, Lib.hid rfl, by omega, rfl, rfl, HB1.out, HR1.out, HA1.out, HN1.out, fun i hi => ?_, HS1.out⟩
    obtain rfl : i = 0 := by omega
    rfl
  case round =>
    clear HB1 HR1 HA1 HN1 HS1
    obtain ⟨m, M, H', HM, hm, rfl, rfl, hB, hR, hA, hH, hf, hS⟩ := hrel
    have c0 := hB.c0
    have hghl := Bw.gh_le E ro m
    have hgcl := Bw.gc_le E ro m
    by_cases hlt : M < N
    · have hlt' : (M : Int) < N := by omega
      have hMm := HM.out
      have hm0 : (m : Int) < N := by omega
      have r1 := hR.cell (i := m) (by omega)
      have r2 := hR.cell hlt
      have l1 := HLT.out m (by omega)
      have l2 := HLT.out M hlt
      have hee := HE.out m (by omega)
      have hkk := HK.out m (by omega)
      have hgs : Bw.gh E ro (m + 1) = if E (ro m) (ro (m + 1)) = true then Bw.gh E ro m else m + 1 := rfl
      have hcs : Bw.gc E ro (m + 1) = if E (ro m) (ro (m + 1)) = true then Bw.gc E ro m else Bw.gc E ro m + 1 := rfl
      have hin : ∀ i, i < N → ro i = ro M → i = M := fun i hi e => HIN.out i M hi hlt e
      rw [← hMm] at hee hkk hgs hcs
      obtain ⟨G0, hG0⟩ : ∃ G0, Bw.gc E ro m = G0 := ⟨_, rfl⟩
      obtain ⟨g0, hg0⟩ : ∃ g0, Bw.gh E ro m = g0 := ⟨_, rfl⟩
      rw [hG0] at hcs hgcl hB
      rw [hg0] at hgs hghl ⊢
      obtain ⟨p, hpp⟩ : ∃ p, ro m = p := ⟨_, rfl⟩
      obtain ⟨q, hqq⟩ : ∃ q, ro M = q := ⟨_, rfl⟩
      obtain ⟨pv, hpv⟩ : ∃ pv : Int, (ro m : Int) = pv := ⟨_, rfl⟩
      rw [hpp] at hee hkk l1 hgs hcs r1
      rw [hqq] at hee hkk l2 hgs hcs hin r2
      have hf1 : ∀ v, Bw.gh E ro M = v → ∀ i, i < M + 1 → (if ro i = q then (v : Int) else H' (ro i)) = (Bw.gh E ro i : Int) := fun v hv i hi => by
        by_cases e : i = M
        · subst e
          rw [if_pos hqq, hv]
        · rw [if_neg fun e2 => e (hin i (by omega) e2)]
          exact hf i (by omega)
      have HF1 := Lib.hid hf1
      have HB := Lib.hid hB
      have HR := Lib.hid hR
      have HA := Lib.hid hA
      have HH := Lib.hid hH
      have HS := Lib.hid hS
      have HPQ := Lib.hid hkk
      obtain ⟨r, hr⟩ : ∃ r, E p q = r := ⟨_, rfl⟩
      rw [hr] at hee hgs hcs
      have HEE := Lib.hid hee
      have n0 := hH.cell l2
      have n1 := hH.free q
      have c2 := hB.c2
      have f2 := hB.free 2
      have hgB : ¬ B = g := fun e => hgn e.symm
      have hgr' : ¬ rb = g := hgr
      have ew : IntKind.i64.wrap ((M : Int) - 1) = m := by rw [IntKind.wrap_i64]; omega
      have HQQ := Lib.hid hqq
      clear hf hf1 hB hR hA hH hS hkk hr hee hpp hG0 hg0 hin hqq hpv
      cases r
      · have kk := fun n => Calls.quiet_of (salike p q k false (wr.drewN n) (HB.out.below ((Below.refl _ _).drewN _)) (HA.out.drewN _) hN l1 l2 HPQ.out HEE.out)
        rw [if_neg (by decide)] at hgs hcs
        have hB2 : Box (wr.setCell ⟨g, 2, none⟩ (.int .i64 ((G0 : Int) + 1))) g N rb rc hb hc ((G0 : Int) + 1) := HB.out.set2 _
        have hst : Stay (· = g) wr (wr.setCell ⟨g, 2, none⟩ (.int .i64 ((G0 : Int) + 1))) := (Stay.refl (· = g) _).setCell (p := ⟨g, 2, none⟩) (.inr rfl) _
        have hR2 := HR.out.stay hst hgr'
        have hA2 := HA.out.stay hst hgh
        have hH2 := HH.out.stay hst hgB
        have hst2 : Stay (· = B) (wr.setCell ⟨g, 2, none⟩ (.int .i64 ((G0 : Int) + 1))) ((wr.setCell ⟨g, 2, none⟩ (.int .i64 ((G0 : Int) + 1))).setCell ⟨B, q, none⟩ (.int .i64 (M : Int))) := (Stay.refl (· = B) _).setCell (p := ⟨B, q, none⟩) (.inr rfl) _
        have HX := Lib.hid (And.intro (hB2.stay hst2 (fun e => hgn e)) (And.intro (hR2.stay hst2 hrn) (And.intro (hA2.stay hst2 hhn) (And.intro (hH2.set q (M : Int)) ((HS.out.trans hst (fun _ _ h => h)).trans hst2 (fun i hi h => absurd hi (by rw [HBB.out]; omega)))))))
        have k0 := hB2.c0
        have k1 := (hR2.cell (i := M) hlt)
        have HFX := Lib.hid (HF1.out M hgs)
        have HCX : Hid (Bw.gc E ro M = G0 + 1) := Lib.hid hcs
        have HGX : Hid (Bw.gh E ro M = M) := Lib.hid hgs
        clear hB2 hst hR2 hA2 hH2 hst2 hgs hcs hMm
        go_wp2_with fail
        go_quiet ((go_at_call 90; (with_reducible exact kk _)))
        clear kk
        go_wp2_with fail
        go_roundw
        case rel => exact ⟨M, M + 1, _, Lib.hid rfl, by omega, by go_num, by rw [HGX.out], by rw [HCX.out]; exact HX.out.1.below ((Below.refl _ _).drewN nq), HX.out.2.1.drewN nq, HX.out.2.2.1.drewN nq, HX.out.2.2.2.1.drewN nq, HFX.out, HX.out.2.2.2.2.drewN nq⟩
        case measure => simp [intOf]; omega
      · have kk := fun n => Calls.quiet_of (salike p q k true (wr.drewN n) (HB.out.below ((Below.refl _ _).drewN _)) (HA.out.drewN _) hN l1 l2 HPQ.out HEE.out)
        rw [if_pos rfl] at hgs hcs
        have hst2 : Stay (· = B) wr (wr.setCell ⟨B, q, none⟩ (.int .i64 (g0 : Int))) := (Stay.refl (· = B) _).setCell (p := ⟨B, q, none⟩) (.inr rfl) _
        have HX := Lib.hid (And.intro (HB.out.stay hst2 (fun e => hgn e)) (And.intro (HR.out.stay hst2 hrn) (And.intro (HA.out.stay hst2 hhn) (And.intro (HH.out.set q (g0 : Int)) (HS.out.trans hst2 (fun i hi h => absurd hi (by rw [HBB.out]; omega)))))))
        have HFX := Lib.hid (HF1.out g0 hgs)
        have HCX : Hid (Bw.gc E ro M = G0) := Lib.hid hcs
        have HGX : Hid (Bw.gh E ro M = g0) := Lib.hid hgs
        clear hst2 hgs hcs hMm
        go_wp2_with fail
        go_quiet ((go_at_call 90; (with_reducible exact kk _)))
        clear kk
        go_wp2_with fail
        go_roundw
        case rel => exact ⟨M, M + 1, _, Lib.hid rfl, by omega, by go_num, by rw [HGX.out], by rw [HCX.out]; exact HX.out.1.below ((Below.refl _ _).drewN nq), HX.out.2.1.drewN nq, HX.out.2.2.1.drewN nq, HX.out.2.2.2.1.drewN nq, HFX.out, HX.out.2.2.2.2.drewN nq⟩
        case measure => simp [intOf]; omega
    · have hlt' : ¬ (M : Int) < N := by omega
      have hMm := HM.out
      obtain rfl : M = N := by omega
      have c1 := hB.c1
      have f1 := hB.free 1
      have hmm : m = M - 1 := by omega
      have hst : Stay (· = g) wr (wr.setCell ⟨g, 1, none⟩ (.slice (some ⟨B, 0, none⟩) M M)) := (Stay.refl (· = g) _).setCell (p := ⟨g, 1, none⟩) (.inr rfl) _
      have HX := Lib.hid (And.intro (hmm ▸ hB.set1 B M) (And.intro (hR.stay hst hgr) (And.intro (hH.stay hst (fun e => hgn e.symm)) (hS.trans hst (fun _ _ h => h)))))
      have HF := Lib.hid hf
      clear hB hR hA hH hS hst hf hmm hMm
      go_wp2_with fail
      go_end0
      exact ⟨rfl, B, by rw [HBB.out]; exact Nat.le_refl _, HX.out.1, HX.out.2.1, H', HX.out.2.2.1, fun i hi => HF.out i (by have := HM.out; omega), HX.out.2.2.2⟩
end Go.Proofs.YthbbokoeiifjdaaGreatDoor
namespace Go.Proofs.YthbbokoeiifjdaaGreatDoor
open Go Go.RowKit Go.ChangeAt

theorem add_off (b off j : Nat) : (⟨b, off, none⟩ : Addr).add j = ⟨b, off + j, none⟩ := by simp [Addr.add]
theorem Arr.cells {w : World} {b cap N : Nat} {f : Nat → Int} (h : Arr w b cap N f) : ∀ j u, (((List.range N).map f).map (Value.int .i64))[j]? = some u → w.cell? ((⟨b, 0, none⟩ : Addr).add j) = some u := by
  intro j u hu
  have hj : j < N := by
    have := (List.getElem?_eq_some_iff.1 hu).1
    simpa using this
  rw [List.getElem?_map, List.getElem?_map, List.getElem?_range hj] at hu
  simp at hu
  rw [add_off, Nat.zero_add, h.cell hj, ← hu]

theorem slice_nil (b n cap : Nat) (w : World) : (binOp .eql 22 (.slice (some ⟨b, 0, none⟩) n cap) (.slice none 0 0)).run Tryz.prog w = .ok (.bool false) w := by
  kernel_rfl

set_option maxHeartbeats 800000 in
theorem sclone {b cap N : Nat} {f : Nat → Int} (w : World) (h : Arr w b cap N f) (hp : 0 < N) (hN : N ≤ 1000000000) :
    Calls Tryz.prog 80 #[.slice (some ⟨b, 0, none⟩) N cap] w fun e w' => ∃ b' cap', e = .returned (.slice (some ⟨b', 0, none⟩) N cap') ∧ w.heap.size ≤ b' ∧ Arr w' b' cap' N f ∧ Below w.heap.size w w' := by
  obtain ⟨i0, hi, hz0, hz1, hz2⟩ := info_parts infoI
  have hfit := h.fits
  unfold maxLen at hfit
  have hcell := (h.below ((Below.refl w.heap.size w).alloc (Nat.le_refl _) (.cells #[] 3))).cells
  have hbl := h.lt
  have HC := Lib.hid hcell
  obtain ⟨l, hl⟩ : ∃ l, (List.range N).map f = l := ⟨_, rfl⟩
  have hll : l.length = N := by rw [← hl, List.length_map, List.length_range]
  rw [hl] at HC
  have HL := Lib.hid hl
  have HLL := Lib.hid hll
  have hnil := slice_nil b N cap
  clear hcell h hl hll
  go_enter Tryz.func80, Tryz.ntmps80
  go_wp2_with (first
    | (at_builtin; (refine wpList_append_own _ rfl (.tmp 5) (.tmp 6) 22 rfl w.heap.size 3 i0 (.int .i64 0) 1 8 Tryz.underlying22 hi hz0 hz1 hz2 rfl (by decide) _ 0 [] rfl (World.ownsRow_made w #[] 0 (Nat.le_refl _) (by decide) rfl) ⟨b, 0, none⟩ N cap (l.map (Value.int .i64)) rfl (by rw [List.length_map, HLL.out]; omega) (fun j u hu => HC.out j u hu) (ints_one _) (by unfold maxLen; omega) (by omega) (by simp) ?_); intro v1 w1 hown1 hgrow1 hnil1))
  have hb1 : Below w.heap.size w w1 := ((Below.refl _ _).alloc (Nat.le_refl _) _).grown hgrow1 (by simp) (by intro q hq; cases hq; exact Nat.le_refl _)
  have hown2 : OwnI w.heap.size w1 v1 l := by
    unfold OwnI
    rw [HLL.out]
    simpa using hown1
  obtain ⟨b', cap', rfl, hb', hA⟩ := Arr.of_own hown2 HLL.out hp
  have hA2 : Arr w1 b' cap' N f := hA.congr fun i hi => by
    show l.getD i 0 = f i
    rw [← HL.out, List.getD_eq_getElem?_getD, List.getElem?_map, List.getElem?_range hi]
    rfl
  have HA := Lib.hid hA2
  clear hown1 hgrow1 hnil1 hown2 hA hA2
  go_wp2_with fail
  go_ret
  exact ⟨b', cap', rfl, hb', HA.out, hb1⟩

/-- The suffixes, sorted by the first h symbols. -/
structure Sfs (B : Nat) (w : World) (T : List Int) (N g h : Nat) (r ro : Nat → Nat) (rb rc hb hc : Nat) : Prop where
  len : T.length = N
  few : N ≤ 1000000000
  txt : Bw.IsTxt T
  box : Box w g N rb rc hb hc (Bw.gc (Bw.eqn T h) ro (N - 1))
  rows : Arr w rb rc N (fun i => (ro i : Int))
  heads : Arr w hb hc N (fun p => (Bw.hd T h p : Int))
  ord : Bw.Ord T h r ro
  low : B ≤ g ∧ B ≤ rb

theorem Bw.Ord.heads {T : List Int} {h : Nat} {r ro : Nat → Nat} {H : Nat → Int} (o : Bw.Ord T h r ro) (hH : ∀ i, i < T.length → H (ro i) = (Bw.gh (Bw.eqn T h) ro i : Int)) (p : Nat) (hp : p < T.length) : H p = (Bw.hd T h p : Int) := by
  have h1 := hH (r p) (o.lt p hp)
  rw [o.gh (o.lt p hp), o.at_ p hp] at h1
  exact h1

set_option maxHeartbeats 1600000 in
set_option maxRecDepth 100000 in
theorem snew {b cap N : Nat} {T : List Int} (w : World) (h : Arr w b cap N (fun i => T.getD i 0)) (hl : T.length = N) (hN : N ≤ 1000000000) (ht : Bw.IsTxt T) (hg : ∀ s ∈ T, 0 ≤ s ∧ s ≤ 256) :
    Calls Tryz.prog 66 #[.slice (some ⟨b, 0, none⟩) N cap] w fun e w' => ∃ g ro rb hb, e = .returned (.pointer (some ⟨g, 0, none⟩)) ∧ Sfs w.heap.size w' T N g 1 (Bw.bk T) ro rb N hb N ∧ Below w.heap.size w w' := by
  obtain ⟨i0, hi, hz0, hz1, hz2⟩ := info_parts infoI
  have hp : 0 < N := by rw [← hl]; exact ht.pos
  have hbl := h.lt
  obtain ⟨R, hR⟩ : ∃ R, w.heap.size = R := ⟨_, rfl⟩
  obtain ⟨w0, hw0⟩ : ∃ w0, w.alloc (.cells (madeCells #[Value.int .i64 0] N) 3) = w0 := ⟨_, rfl⟩
  have hb0 : Below R w w0 := by rw [← hw0, ← hR]; exact (Below.refl _ _).alloc (Nat.le_refl _) _
  have hs0 : w0.heap.size = R + 1 := by rw [← hw0, ← hR]; simp
  obtain ⟨w1, hw1⟩ : ∃ w1, w0.alloc (.cells #[.slice (some ⟨R, 0, none⟩) N N, .slice (some ⟨b, 0, none⟩) N cap, .int .i64 0] 98) = w1 := ⟨_, rfl⟩
  have hb1 : Below w0.heap.size w0 w1 := by rw [← hw1]; exact (Below.refl _ _).alloc (Nat.le_refl _) _
  have hb01 : Below R w w1 := hb0.trans (hb1.mono (by omega))
  have hbR : b < R := by omega
  have hA0 : Arr w1 b cap N (fun i => T.getD i 0) := h.below (by rw [hR]; exact hb01)
  have hR0 : Arr w0 R N N (fun _ => 0) := by rw [← hw0, ← hR]; exact Arr.made N (by unfold maxLen; omega)
  have hR1 : Arr w1 R N N (fun i => (((fun _ => 0 : Nat → Nat) i : Nat) : Int)) := hR0.below hb1
  have hB1 : Box w1 (R + 1) N R N b cap 0 := by
    rw [← hw1]
    unfold Box
    rw [← hs0]
    exact alloc_of
  have hrd : RdL w1 (some ⟨b, 0, none⟩) cap T := hA0.rd T hl (fun _ _ => rfl)
  have key := sranks w1 hrd hl hN hg
  have HB01 := Lib.hid hb01
  have HA0 := Lib.hid hA0
  have HR1 := Lib.hid hR1
  have HB1 := Lib.hid hB1
  have HT := Lib.hid ht
  have HL := Lib.hid hl
  have HR := Lib.hid hR
  have hs1 : R + 1 < w1.heap.size := hB1.lt
  have hw0s := hs0
  clear h ht hg hb0 hb1 hb01 hA0 hR0 hR1 hB1 hrd hl
  go_enter Tryz.func66, Tryz.ntmps66
  go_wp2_with (first
    | (at_make; refine wpList_make_row _ rfl _ _ 22 rfl 3 i0 (.int .i64 0) Tryz.underlying22 hi hz0 hz1 rfl .i64 .i64 N rfl rfl (by rw [hz2]; omega) (by omega) ?_; rw [hw0, hR]))
  (with_reducible refine key.mono ?_); rintro e w2 ⟨K, rfl, hK, hRK, hb2⟩
  clear key hw0 hw1
  have HRK := Lib.hid hRK
  have HB2 := Lib.hid hb2
  have HB1 := Lib.hid (HB1.out.below hb2)
  have HR1 := Lib.hid (HR1.out.below hb2)
  have HA0 := Lib.hid (HA0.out.below hb2)
  have HBW := Lib.hid (HB01.out.trans (hb2.mono (by omega)))
  have hKs := hRK.lt
  clear hRK hb2 HB2 HB01
  go_wp2_with fail
  go_loopw [4, 5, 15] (fun _ _ i wr => ∃ (k : Nat) (ro : Nat → Nat), k ≤ N ∧ i = .int .i64 k ∧ Box wr (R + 1) N R N b cap 0 ∧ Arr wr R N N (fun i => (ro i : Int)) ∧ (∀ p, p < k → ro (Bw.bk T p) = p) ∧ Arr wr b cap N (fun i => T.getD i 0) ∧ Arr wr K N N (fun k => (Bw.bk T k : Int)) ∧ Below R w wr) (fun _ _ i _ => N - (intOf i).toNat)
  case atStart => exact ⟨0, _, Nat.zero_le _, rfl, HB1.out, HR1.out, fun p hp => absurd hp (Nat.not_lt_zero _), HA0.out, HRK.out, HBW.out⟩
  case round =>
    clear HB1 HR1 HA0 HRK HBW
    obtain ⟨k, ro, hk, rfl, hB, hR, hf, hA, hK1, hbw⟩ := hrel
    by_cases hlt : k < N
    · have hlt' : (k : Int) < N := by omega
      have c0 := hK1.cell hlt
      have c1 := hB.c0
      have hbk := Bw.bk_lt (l := T) (r := k) (by rw [HL.out]; exact hlt)
      rw [HL.out] at hbk
      have hinj : ∀ p, p < k → Bw.bk T p ≠ Bw.bk T k := fun p hp e => by
        have := Bw.bk_inj (l := T) (by rw [HL.out]; omega) (by rw [HL.out]; exact hlt) e
        omega
      obtain ⟨q, hq⟩ : ∃ q, Bw.bk T k = q := ⟨_, rfl⟩
      rw [hq] at hbk hinj c0
      have hq' : (q : Int) < N := by omega
      have c2 := hR.cell hbk
      have c3 := hR.free q
      have hst : Stay (· = R) wr (wr.setCell ⟨R, q, none⟩ (.int .i64 (k : Int))) := (Stay.refl (· = R) _).setCell (p := ⟨R, q, none⟩) (.inr rfl) _
      have hR2 : Arr (wr.setCell ⟨R, q, none⟩ (.int .i64 (k : Int))) R N N (fun j => (((fun j => if j = q then k else ro j) j : Nat) : Int)) := (hR.set q k).congr fun j _ => by
        show (if j = q then (k : Int) else (ro j : Int)) = (((if j = q then k else ro j) : Nat) : Int)
        split <;> rfl
      have hf2 : ∀ p, p < k + 1 → (if Bw.bk T p = q then k else ro (Bw.bk T p)) = p := fun p hp => by
        by_cases e : p = k
        · rw [e, if_pos hq]
        · rw [if_neg (hinj p (by omega))]; exact hf p (by omega)
      have HX := Lib.hid (And.intro (hB.stay hst (by omega)) (And.intro hR2 (And.intro hf2 (And.intro (hA.stay hst (by omega)) (And.intro (hK1.stay hst (by omega)) (hbw.setCell (p := ⟨R, q, none⟩) (Nat.le_refl _) (.int .i64 (k : Int))))))))
      clear hB hR hf hA hK1 hbw hst hR2 hf2 hinj hq
      go_wp2_with fail
      go_roundw
      case rel => exact ⟨k + 1, _, by omega, by go_num, HX.out.1, HX.out.2.1, HX.out.2.2.1, HX.out.2.2.2.1, HX.out.2.2.2.2.1, HX.out.2.2.2.2.2⟩
      case measure => simp [intOf]; omega
    · have hlt' : ¬ (k : Int) < N := by omega
      obtain rfl : k = N := by omega
      have ho : Bw.Ord T 1 (Bw.bk T) ro := Bw.Ord.first fun p hp => hf p (by rw [← HL.out]; exact hp)
      have key := sregroup (Bw.eqn T 1) 0 wr hB hR hA hN hp (fun i hi => by have := (ho.row (by rw [HL.out]; exact hi)).1; rw [HL.out] at this; exact this)
        (fun i j hi hj e => by
          have h1 := (ho.row (i := i) (by rw [HL.out]; exact hi)).2
          have h2 := (ho.row (i := j) (by rw [HL.out]; exact hj)).2
          rw [e, h2] at h1
          exact h1.symm)
        (fun i _ => by
          show (decide (T.getD (ro i) 0 = T.getD (ro (i + 1)) 0) && decide (T.getD (ro i) 0 = T.getD (ro (i + 1)) 0)) = (decide (T.getD (ro i) 0 = T.getD (ro (i + 1)) 0) && true)
          rw [Bool.and_self, Bool.and_true])
        (fun i hi _ => by
          have h1 := (ho.row (i := i) (by rw [HL.out]; omega)).1
          have h2 := (ho.row (i := i + 1) (by rw [HL.out]; omega)).1
          rw [HL.out] at h1 h2
          exact ⟨h1, h2⟩)
      rw [show ((0 : Nat) : Int) = 0 from rfl] at key
      have HO := Lib.hid ho
      have HBW := Lib.hid hbw
      clear hB hR hf hA hK1 hbw ho
      go_wp2_with fail
      (with_reducible refine key.mono ?_); rintro e w3 ⟨rfl, hb', H', hle, hB, hR, hH, hHe, hs⟩
      have hfin : Sfs R w3 T k (R + 1) 1 (Bw.bk T) ro R k hb' k := ⟨HL.out, hN, HT.out, hB, hR, hH.congr (fun p hp => HO.out.heads (fun i hi => hHe i (by rw [← HL.out]; exact hi)) p (by rw [HL.out]; exact hp)), HO.out, by omega⟩
      have HF := Lib.hid hfin
      have HBF := Lib.hid (HBW.out.trans (hs.below (B := R) (by rw [← HR.out]; exact HBW.out.size) (fun i _ e => by omega)))
      clear key hB hR hH hHe hs hfin
      go_wp2_with fail
      go_ret
      exact ⟨R + 1, ro, R, hb', rfl, by rw [HR.out]; exact HF.out, by rw [HR.out]; exact HBF.out⟩
end Go.Proofs.YthbbokoeiifjdaaGreatDoor
namespace Go.Proofs.YthbbokoeiifjdaaGreatDoor
open Go Go.RowKit Go.ChangeAt

set_option maxHeartbeats 1600000 in
set_option maxRecDepth 100000 in
theorem stwice {R N g h rb rc hb hc : Nat} {T : List Int} {r ro : Nat → Nat} (w : World) (hS : Sfs R w T N g h r ro rb rc hb hc) (hh : h ≤ 1000000000) (hRw : R ≤ w.heap.size) :
    Calls Tryz.prog 67 #[.pointer (some ⟨g, 0, none⟩), .int .i64 h] w fun e w' => e = .returned (.tuple #[]) ∧ ∃ r' ro' rb' rc' hb' hc', Sfs R w' T N g (h + h) r' ro' rb' rc' hb' hc' ∧ Below R w w' := by
  obtain ⟨i0, hi, hz0, hz1, hz2⟩ := info_parts infoI
  have c0 := hS.box.c0
  have hN := hS.few
  have hp : 0 < N := by rw [← hS.len]; exact hS.txt.pos
  have hmk : ∀ w' : World, (Instr.makeSlice 22 (.int .i64 (N : Int)) (.int .i64 (N : Int))).run Tryz.prog w' = .ok (.slice (some ⟨w'.heap.size, 0, none⟩) N N) (w'.alloc (.cells (madeCells #[Value.int .i64 0] N) 3)) := fun w' =>
    run_make_row' 22 3 (.int .i64 0) 8 Tryz.underlying22 infoI rfl .i64 .i64 N (by omega) (by omega) w'
  have H := Lib.hid hS
  have hgl := hS.box.lt
  have hrl := hS.rows.lt
  have kc1 := sclone w.drew (hS.rows.drewN 1) hp hN
  have hb0 : Below w.heap.size w (w.alloc (.cells (madeCells #[Value.int .i64 0] N) 3)).drew := ((Below.refl w.heap.size w).alloc (Nat.le_refl _) _).drew
  have kc2 := sclone (w.alloc (.cells (madeCells #[Value.int .i64 0] N) 3)).drew (hS.rows.below hb0) hp hN
  clear hS
  go_enter Tryz.func67, Tryz.ntmps67
  go_wp2_with fail
  go_cut [4, 5] (fun s4 s5 wx => ∃ nb nc tb, s4 = .slice (some ⟨nb, 0, none⟩) N nc ∧ s5 = .slice (some ⟨tb, 0, none⟩) N N ∧ Arr wx nb nc N (fun i => (ro i : Int)) ∧ Arr wx tb N N (fun _ => 0) ∧ nb ≠ tb ∧ w.heap.size ≤ nb ∧ w.heap.size ≤ tb ∧ Below w.heap.size w wx)
  case first =>
    go_region_held3 (fun w' => w'.cell? ⟨g, 0, none⟩ = some (.slice (some ⟨rb, 0, none⟩) N rc)) (first | exact c0 | exact c0' | go_keep)
      (first
        | (go_at_call 80; (with_reducible refine kc1.mono ?_); rintro e w1 ⟨nb, nc, rfl, hnb, hA1, hb1⟩;
           (have c0' : w1.cell? ⟨g, 0, none⟩ = some (.slice (some ⟨rb, 0, none⟩) N rc) := (hb1.cell (p := ⟨g, 0, none⟩) hgl).trans c0))
        | (go_at_call 80; (with_reducible refine kc2.mono ?_); rintro e w2 ⟨nb, nc, rfl, hnb, hA2, hb2⟩;
           (have c0' : w2.cell? ⟨g, 0, none⟩ = some (.slice (some ⟨rb, 0, none⟩) N rc) := (hb2.cell (p := ⟨g, 0, none⟩) (by simp; omega)).trans ((World.cell?_alloc_past _ _ _ hgl).trans c0))))
    · have hb1' : Below w.heap.size w w1 := ((Below.refl w.heap.size w).drewN 1).trans hb1
      have hbm : Below w1.heap.size w1 (w1.alloc (.cells (madeCells #[Value.int .i64 0] N) 3)) := (Below.refl _ _).alloc (Nat.le_refl _) _
      have h1 := hA1.below hbm
      have h2 := Arr.made (w := w1) N (by unfold maxLen; omega)
      have h3 : nb ≠ w1.heap.size := by have := hA1.lt; omega
      have h4 := hb1'.trans (hbm.mono hb1'.size)
      have HX := Lib.hid (And.intro h1 (And.intro h2 (And.intro h3 (And.intro hnb (And.intro hb1'.size h4)))))
      clear hb1' hbm h1 h2 h3 h4 hA1 hb1 hnb kc1 kc2
      go_wp2_with fail
      go_meet
      case rel => exact ⟨nb, nc, w1.heap.size, rfl, rfl, HX.out.1, HX.out.2.1, HX.out.2.2.1, HX.out.2.2.2.1, HX.out.2.2.2.2.1, HX.out.2.2.2.2.2⟩
    · have h2' : Arr (w.alloc (.cells (madeCells #[Value.int .i64 0] N) 3)).drew w.heap.size N N (fun _ => 0) := Arr.made (w := w) N (by unfold maxLen; omega)
      have h2 : Arr w2 w.heap.size N N (fun _ => 0) := h2'.below hb2
      have h5 : w.heap.size < nb := by
        have : (w.alloc (Obj.cells (madeCells #[Value.int .i64 0] N) 3)).drew.heap.size = w.heap.size + 1 := by simp
        omega
      have h3 : nb ≠ w.heap.size := by omega
      have h4 := hb0.trans (hb2.mono hb0.size)
      have HX := Lib.hid (And.intro hA2 (And.intro h2 (And.intro h3 (And.intro (Nat.le_of_lt h5) (And.intro (Nat.le_refl w.heap.size) h4)))))
      clear hb0 h2 h2' h3 h4 h5 hA2 hb2 hnb kc1 kc2
      go_wp2_with fail
      go_meet
      case rel => exact ⟨nb, nc, w.heap.size, rfl, rfl, HX.out.1, HX.out.2.1, HX.out.2.2.1, HX.out.2.2.2.1, HX.out.2.2.2.2.1, HX.out.2.2.2.2.2⟩
  case rest =>
    obtain ⟨nb, nc, tb, rfl, rfl, hA, hT, hne, hnl, htl, hbw⟩ := hcut
    clear kc1 kc2 hb0 hmk c0
    have c0 := (hbw.cell (p := ⟨g, 0, none⟩) hgl).trans H.out.box.c0
    have HA0 := Lib.hid hA
    have HT0 := Lib.hid (hT.congr (g := fun g => ((Bw.tkn T h r 0 g : Nat) : Int)) fun i _ => by
      show (0 : Int) = ((Bw.tkn T h r 0 i : Nat) : Int)
      rw [Bw.tkn_zero]; rfl)
    have HB0 := Lib.hid hbw
    clear hA hT hbw
    go_wp2_with fail
    clear c0
    go_loopw [7, 8, 25] (fun _ _ i wr => ∃ (k : Nat) (q : Nat → Nat), k ≤ N ∧ i = .int .i64 k ∧ Arr wr nb nc N (fun i => (q i : Int)) ∧ Bw.Tak T h r k q ∧ Arr wr tb N N (fun g => ((Bw.tkn T h r k g : Nat) : Int)) ∧ Below w.heap.size w wr) (fun _ _ i _ => N - (intOf i).toNat)
    case atStart => exact ⟨0, ro, Nat.zero_le _, rfl, HA0.out, Bw.Tak.zero H.out.txt H.out.ord, HT0.out, HB0.out⟩
    case round =>
      clear HA0 HT0 HB0
      obtain ⟨k, rq, hk, rfl, hA, ht, hT, hbw⟩ := hrel
      have hS := H.out
      have hlen := hS.len
      by_cases hlt : k < N
      · have hlt' : (k : Int) < N := by omega
        have c1 := (hbw.cell (p := ⟨rb, k, none⟩) hrl).trans (hS.rows.cell hlt)
        have hrow := hS.ord.row (i := k) (by omega)
        obtain ⟨x, hx⟩ : ∃ x, ro k = x := ⟨_, rfl⟩
        rw [hx] at c1 hrow
        have hxN : x < N := by omega
        by_cases hxh : x < h
        · have hxh' : (x : Int) < h := by omega
          have HX := Lib.hid (And.intro hA (And.intro (ht.skip hS.ord (by omega)) (And.intro (hT.congr (g := fun g => ((Bw.tkn T h r (k + 1) g : Nat) : Int)) fun i _ => by
            show ((Bw.tkn T h r k i : Nat) : Int) = ((Bw.tkn T h r (k + 1) i : Nat) : Int)
            rw [Bw.tkn_skip hS.ord (by omega)]) hbw)))
          clear hA ht hT hbw hx hrow hS
          go_wp2_with fail
          go_roundw
          case rel => exact ⟨k + 1, rq, by omega, by go_num, HX.out.1, HX.out.2.1, HX.out.2.2.1, HX.out.2.2.2⟩
          case measure => simp [intOf]; omega
        · have hxh' : ¬ (x : Int) < h := by omega
          obtain ⟨p, hpx⟩ : ∃ p, x = p + h := ⟨x - h, by omega⟩
          have hpN : p < N := by omega
          have hpT : p < T.length := by omega
          have hep : (x : Int) - h = p := by omega
          have c2 := (hbw.cell (p := ⟨g, 1, none⟩) hgl).trans hS.box.c1
          have c3 := (hbw.cell (p := ⟨hb, p, none⟩) hS.heads.lt).trans (hS.heads.cell hpN)
          have hqN := Bw.hd_lt (T := T) (h := h) hpT
          have hat := Bw.tkn_at (r := r) hS.txt (h := h) hpT
          rw [show r (p + h) = k by rw [← hpx]; exact hrow.2] at hat
          have hsN := Bw.nxt_lt (T := T) (h := h) (r := r) hpT
          have htn := Bw.tkn_next hS.ord (k := k) (p := p) (by omega) (by omega)
          have htk := ht.next hS.txt hS.ord (k := k) (p := p) (by omega) (by omega)
          obtain ⟨q, hq⟩ : ∃ q, Bw.hd T h p = q := ⟨_, rfl⟩
          obtain ⟨s, hs⟩ : ∃ s, Bw.nxt T h r p = s := ⟨_, rfl⟩
          rw [hq] at c3 hqN hat htn
          rw [hs] at hat hsN htk
          rw [hlen] at hqN hsN
          have c4 := hT.cell hqN
          obtain ⟨t, htt⟩ : ∃ t, Bw.tkn T h r k q = t := ⟨_, rfl⟩
          rw [htt] at c4 hat
          have hes : (q : Int) + t = s := by omega
          have c5 := hA.cell hsN
          have c6 := hA.free s
          have hst1 : Stay (· = nb) wr (wr.setCell ⟨nb, s, none⟩ (.int .i64 (p : Int))) := (Stay.refl (· = nb) _).setCell (p := ⟨nb, s, none⟩) (.inr rfl) _
          have hT1 := hT.stay hst1 (fun e => hne e.symm)
          have hA1 := hA.set s (p : Int)
          have c7 := hT1.cell hqN
          have c8 := hT1.free q
          rw [htt] at c7
          have hst2 : Stay (· = tb) (wr.setCell ⟨nb, s, none⟩ (.int .i64 (p : Int))) ((wr.setCell ⟨nb, s, none⟩ (.int .i64 (p : Int))).setCell ⟨tb, q, none⟩ (.int .i64 ((t : Int) + 1))) := (Stay.refl (· = tb) _).setCell (p := ⟨tb, q, none⟩) (.inr rfl) _
          have hA2 : Arr _ nb nc N (fun j => (((fun j => if j = s then p else rq j) j : Nat) : Int)) := (hA1.stay hst2 hne).congr fun j _ => by
            show (if j = s then (p : Int) else (rq j : Int)) = (((if j = s then p else rq j) : Nat) : Int)
            split <;> rfl
          have hT2 : Arr _ tb N N (fun g => ((Bw.tkn T h r (k + 1) g : Nat) : Int)) := (hT1.set q ((t : Int) + 1)).congr fun j _ => by
            show (if j = q then (t : Int) + 1 else ((Bw.tkn T h r k j : Nat) : Int)) = ((Bw.tkn T h r (k + 1) j : Nat) : Int)
            rw [htn j]
            by_cases e : j = q
            · rw [if_pos e, if_pos e, e, htt]; rfl
            · rw [if_neg e, if_neg e]; rfl
          have hb2 : Below w.heap.size w ((wr.setCell ⟨nb, s, none⟩ (.int .i64 (p : Int))).setCell ⟨tb, q, none⟩ (.int .i64 ((t : Int) + 1))) := (hbw.setCell (p := ⟨nb, s, none⟩) hnl _).setCell (p := ⟨tb, q, none⟩) htl _
          have HX := Lib.hid (And.intro hA2 (And.intro htk (And.intro hT2 hb2)))
          have htN : (t : Int) ≤ 1000000000 := by omega
          have hqN' : (q : Int) < N := by omega
          have hsN' : (s : Int) < N := by omega
          have hpN' : (p : Int) < N := by omega
          clear hA ht hT hbw hx hrow hS hpx hst1 hT1 hA1 hst2 hA2 hT2 hb2 htt hs hq htn htk hat
          go_wp2_with fail
          go_roundw
          case rel => exact ⟨k + 1, _, by omega, by go_num, HX.out.1, HX.out.2.1, HX.out.2.2.1, HX.out.2.2.2⟩
          case measure => simp [intOf]; omega
      · have hlt' : ¬ (k : Int) < N := by omega
        obtain rfl : k = N := by omega
        rw [← hlen] at ht
        have ho := ht.done hS.txt hS.ord
        have hgn : ¬ nb = g := by omega
        have hst : Stay (· = g) wr (wr.setCell ⟨g, 0, none⟩ (.slice (some ⟨nb, 0, none⟩) k nc)) := (Stay.refl (· = g) _).setCell (p := ⟨g, 0, none⟩) (.inr rfl) _
        have hB0 := hS.box.below hbw
        have hB := hB0.set0 nb nc
        have c1 := hB0.c0
        have f1 := hB0.free 0
        have hH := (hS.heads.below hbw).stay hst (hS.box.ne hS.heads)
        have hA1 := hA.stay hst hgn
        have hro : ∀ i, i < k → rq i < k ∧ Bw.nxt T h r (rq i) = i := fun i hi => by
          have := ho.row (i := i) (by omega)
          rw [hlen] at this
          exact this
        have hrne : ∀ i, i + 1 < k → rq i ≠ rq (i + 1) := fun i hi e => by
          have h1 := (hro i (by omega)).2
          rw [e, (hro (i + 1) hi).2] at h1
          omega
        have key := sregroup (Bw.eqn T (h + h)) h _ hB hA1 hH hN hp (fun i hi => (hro i hi).1)
          (fun i j hi hj e => by
            have h1 := (hro i hi).2
            rw [e, (hro j hj).2] at h1
            exact h1.symm)
          (fun i hi => by
            have a1 := (hro i (by omega)).1
            have a2 := (hro (i + 1) hi).1
            rw [← hlen] at a1 a2
            have a3 := Bw.hd_iff (h := h) a1 a2
            by_cases e : Bw.eqn T h (rq i) (rq (i + 1)) = true
            · have a4 := Bw.eqn_far hS.txt a1 a2 (hrne i hi) e
              have a5 := Bw.hd_iff (h := h) a4.1 a4.2
              rw [decide_eq_true (by rw [a3.2 e]), Bool.true_and]
              by_cases e2 : Bw.eqn T h (rq i + h) (rq (i + 1) + h) = true
              · rw [decide_eq_true (by rw [a5.2 e2]), (Bw.eqn_add h h _ _).2 ⟨e, e2⟩]
              · rw [decide_eq_false (fun e3 => e2 (a5.1 (by omega)))]
                cases e4 : Bw.eqn T (h + h) (rq i) (rq (i + 1)) with
                | false => rfl
                | true => exact absurd ((Bw.eqn_add h h _ _).1 e4).2 e2
            · rw [decide_eq_false (fun e3 => e (a3.1 (by omega))), Bool.false_and]
              cases e4 : Bw.eqn T (h + h) (rq i) (rq (i + 1)) with
              | false => rfl
              | true => exact absurd ((Bw.eqn_add h h _ _).1 e4).1 e)
          (fun i hi e => by
            have a1 := (hro i (by omega)).1
            have a2 := (hro (i + 1) hi).1
            rw [← hlen] at a1 a2
            have a3 := (Bw.hd_iff (h := h) a1 a2).1 (by omega)
            have a4 := Bw.eqn_far hS.txt a1 a2 (hrne i hi) a3
            omega)
        have HO := Lib.hid ho
        have HBW := Lib.hid (hbw.mono hRw)
        have hRg := hS.low.1
        have HBS := Lib.hid (hbw.size)
        clear hA ht hT hbw ho hB hH hA1 hro hrne hS hst hB0
        go_wp2_with fail
        (with_reducible refine key.mono ?_); rintro e w3 ⟨rfl, hb', H', hle, hB, hR, hH, hHe, hs⟩
        have hfin : Sfs R w3 T k g (h + h) (Bw.nxt T h r) rq nb nc hb' k := ⟨hlen, hN, H.out.txt, hB, hR, hH.congr (fun p hp => HO.out.heads (fun i hi => hHe i (by rw [← hlen]; exact hi)) p (by rw [hlen]; exact hp)), HO.out, by omega⟩
        have HF := Lib.hid hfin
        have hs2 : Below R (wr.setCell ⟨g, 0, none⟩ (.slice (some ⟨nb, 0, none⟩) k nc)) w3 := hs.below (B := R) (by have := HBS.out; simp [World.setCell]; omega) (fun i _ e => by omega)
        have HBF := Lib.hid ((HBW.out.setCell (p := ⟨g, 0, none⟩) hRg _).trans hs2)
        clear key hB hR hH hHe hs hfin hs2
        go_wp2_with fail
        go_end0
        exact ⟨rfl, _, _, _, _, _, _, HF.out, HBF.out⟩

theorem Sy.txt (t : List UInt8) : Bw.IsTxt (Sy.of t ++ [0]) := Bw.IsTxt.of _ fun s hs => by
  obtain ⟨b, _, rfl⟩ := List.mem_map.1 hs
  omega
theorem Sy.all_good (t : List UInt8) : ∀ s ∈ Sy.of t ++ [0], 0 ≤ s ∧ s ≤ 256 := fun s hs => by
  rcases List.mem_append.1 hs with h | h
  · obtain ⟨b, _, rfl⟩ := List.mem_map.1 h
    have := u8_rng b
    omega
  · rw [List.mem_singleton.1 h]; omega
theorem Sy.all_len (t : List UInt8) : (Sy.of t ++ [0]).length = t.length + 1 := by rw [List.length_append, Sy.of_len]; rfl
theorem Sfs.below {R N g h rb rc hb hc : Nat} {T : List Int} {r ro : Nat → Nat} {w w' : World} (s : Sfs R w T N g h r ro rb rc hb hc) (hb' : Below w.heap.size w w') : Sfs R w' T N g h r ro rb rc hb hc :=
  ⟨s.len, s.few, s.txt, s.box.below hb', s.rows.below hb', s.heads.below hb', s.ord, s.low⟩
theorem Bw.two_of (h : Nat) : ((h + h : Nat) : Int) = (h : Int) * 2 := by omega
set_option maxHeartbeats 1600000 in
set_option maxRecDepth 100000 in
/-- The rows of a text. -/
theorem srows {a : Option Addr} {n cap : Nat} {t : List UInt8} (w : World) (h : RdU w a cap t) (hn : t.length = n) (hm : n ≤ 100000000) :
    Calls Tryz.prog 45 #[.slice a n cap] w fun e w' => ∃ b c R, e = .returned (.slice (some ⟨b, 0, none⟩) (n + 1) c) ∧ w.heap.size ≤ b ∧ Arr w' b c (n + 1) (fun i => (R i : Int)) ∧ Bw.IsRows (Sy.of t ++ [0]) ((List.range (n + 1)).map R) ∧ Below w.heap.size w w' := by
  have hp := RdP.one (g := w.heap.size) rfl h hn
  have key := sall _ hp (by simp; omega)
  have hfl : [t].flatten = t := by simp
  rw [hfl] at key
  have hTx := Sy.txt t
  have hTg := Sy.all_good t
  have hTl := Sy.all_len t
  rw [hn] at hTl
  obtain ⟨T, hT⟩ : ∃ T, Sy.of t ++ [0] = T := ⟨_, rfl⟩
  rw [hT] at key hTx hTg hTl ⊢
  have HTX := Lib.hid hTx
  have HTG := Lib.hid hTg
  have HTL := Lib.hid hTl
  clear h hp hfl hTx hTg hTl hT
  go_enter Tryz.func45, Tryz.ntmps45
  go_wp2_with fail
  (with_reducible refine key.mono ?_); rintro e w1 ⟨v, rfl, hown, hb1⟩
  clear key
  obtain ⟨b, c, rfl, hbl, hA⟩ := Arr.of_own hown HTL.out (by omega)
  have hb1' : Below w.heap.size w w1 := ((Below.refl w.heap.size w).alloc (Nat.le_refl _) _).trans (hb1.mono (by simp))
  have key := snew w1 hA HTL.out (by omega) HTX.out HTG.out
  have HB1 := Lib.hid hb1'
  clear hown hb1 hA hb1' hbl
  go_wp2_with fail
  (with_reducible refine key.mono ?_); rintro e w2 ⟨g, ro, rb, hb, rfl, hS, hb2⟩
  clear key
  obtain ⟨N, hN⟩ : ∃ N, n + 1 = N := ⟨_, rfl⟩
  obtain ⟨R, hR⟩ : ∃ R, w1.heap.size = R := ⟨_, rfl⟩
  have hRw : w.heap.size ≤ R := by rw [← hR]; exact HB1.out.size
  rw [hN, hR] at hS
  rw [hR] at hb2
  have hN9 : N ≤ 100000001 := by omega
  have HS0 := Lib.hid hS
  have HB2 := Lib.hid (HB1.out.trans (hb2.mono hRw))
  have HR2 : Hid (R ≤ w2.heap.size) := Lib.hid (by rw [← hR]; exact hb2.size)
  have HN := Lib.hid hN
  clear hS hb2 hN hR HB1
  go_wp2_with fail
  go_loopw [4] (fun k wr => ∃ (h : Nat) (r ro : Nat → Nat) (rb rc hb hc : Nat), k = .int .i64 h ∧ 1 ≤ h ∧ h ≤ 1000000000 ∧ Sfs R wr T N g h r ro rb rc hb hc ∧ R ≤ wr.heap.size ∧ Below w.heap.size w wr) (fun k _ => N - (intOf k).toNat)
  case atStart => exact ⟨1, _, _, _, _, _, _, rfl, Nat.le_refl _, by omega, HS0.out, HR2.out, HB2.out⟩
  case round =>
    clear HS0 HB2 HR2
    obtain ⟨h, r, ro, rb, rc, hb, hc, rfl, hh1, hh2, hS, hRr, hbw⟩ := hrel
    have c0 := hS.box.c0
    have c2 := hS.box.c2
    have hgl := Bw.gc_le (Bw.eqn T h) ro (N - 1)
    have hN1 : N - 1 + 1 = N := by have := HN.out; omega
    have hfar : ¬ h < N → Bw.gc (Bw.eqn T h) ro (N - 1) = N := fun hx => by
      rw [Bw.gc_of fun i hi => Bw.far_all hS.txt hS.ord (by rw [hS.len]; omega) i (by rw [hS.len]; omega), hN1]
    have hall : Bw.gc (Bw.eqn T h) ro (N - 1) = N → Bw.IsRows T ((List.range N).map ro) := fun hx => by
      rw [← hS.len]
      refine hS.ord.rows hS.txt fun i hi => ?_
      rw [hS.len] at hi
      exact Bw.gc_all (n := N - 1) (by rw [hx, hN1]) i (by omega)
    rw [hN1] at hgl
    obtain ⟨G, hG⟩ : ∃ G, Bw.gc (Bw.eqn T h) ro (N - 1) = G := ⟨_, rfl⟩
    rw [hG] at c2 hgl hfar hall
    have HALL := Lib.hid hall
    have HBW := Lib.hid hbw
    have HS := Lib.hid hS
    by_cases hlt : G < N
    · have hlt' : (G : Int) < N := by omega
      have hhN : h < N := by
        apply Nat.lt_of_not_le
        intro hx
        have := hfar (by omega)
        omega
      clear hS hbw hall hfar hG hN1
      go_wp2_with fail
      go_quiet (fail)
      have key := stwice (wr.drewN nq) (HS.out.below ((Below.refl _ _).drewN _)) hh2 hRr
      clear c0 c2
      go_wp2_with fail
      (with_reducible refine key.mono ?_); rintro e w3 ⟨rfl, r', ro', rb', rc', hb', hc', hS', hb3⟩
      have HX := Lib.hid (And.intro hS' (And.intro (Nat.le_trans hRr hb3.size) (HBW.out.trans (((Below.refl _ wr).drewN nq).trans (hb3.mono hRw)))))
      clear key hS' hb3
      have h2h := Bw.two_of h
      go_wp2_with fail
      go_roundw
      case rel => exact ⟨h + h, _, _, _, _, _, _, by rw [h2h], by omega, by omega, HX.out.1, HX.out.2.1, HX.out.2.2⟩
      case measure => simp [intOf]; omega
    · have hlt' : ¬ (G : Int) < N := by omega
      have hfin := hall (by omega)
      rw [← HN.out] at hfin
      have HF := Lib.hid hfin
      have HA := Lib.hid hS.rows
      have hl := hS.low.2
      clear hS hbw hall hfar hG hN1 hfin
      go_wp2_with fail
      go_quiet (fail)
      go_wp2_with fail
      obtain rfl := HN.out
      go_ret
      exact ⟨rb, rc, ro, rfl, by omega, HA.out.drewN nq, HF.out, HBW.out.drewN nq⟩
end Go.Proofs.YthbbokoeiifjdaaGreatDoor
