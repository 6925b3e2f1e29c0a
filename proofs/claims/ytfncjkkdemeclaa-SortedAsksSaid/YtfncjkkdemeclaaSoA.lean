/- Numbers of the call's own by places; ranks of symbols (package sorted): contracts of the walk. -/
import Derived.Test.YtfncjkkdemeclaaBwP
import Derived.Test.YtfncjkkdemeclaaInt
import Derived.Deep.OwnRows
namespace Go.Proofs.Ytfncjkkdemeclaa
open Go Go.RowKit Go.ChangeAt

/-- Block b of the memory: a row of 'cap' cells, the first N are the numbers f. -/
def Arr (w : World) (b cap N : Nat) (f : Nat → Int) : Prop :=
  ∃ c, w.heap[b]? = some (.cells c 3 (0, 0)) ∧ c.size = cap ∧ N ≤ cap ∧ cap ≤ maxLen ∧ ∀ i, i < N → c[i]? = some (.int .i64 (f i))
theorem Arr.cell {w : World} {b cap N : Nat} {f : Nat → Int} (h : Arr w b cap N f) {i : Nat} (hi : i < N) : w.cell? ⟨b, i, none⟩ = some (.int .i64 (f i)) := by
  obtain ⟨c, h1, _, _, _, h5⟩ := h
  exact (cell_of h1).trans (h5 i hi)
theorem Arr.free {w : World} {b cap N : Nat} {f : Nat → Int} (h : Arr w b cap N f) (i : Nat) : w.frozen? ⟨b, i, none⟩ = false := by
  obtain ⟨c, h1, _⟩ := h
  exact free_of h1
theorem Arr.lt {w : World} {b cap N : Nat} {f : Nat → Int} (h : Arr w b cap N f) : b < w.heap.size := by
  obtain ⟨c, h1, _⟩ := h
  exact (Array.getElem?_eq_some_iff.1 h1).1
theorem Arr.fits {w : World} {b cap N : Nat} {f : Nat → Int} (h : Arr w b cap N f) : N ≤ cap ∧ cap ≤ maxLen := by
  obtain ⟨c, _, _, h3, h4, _⟩ := h
  exact ⟨h3, h4⟩
theorem Arr.stay {w w' : World} {b cap N : Nat} {f : Nat → Int} {S : Nat → Prop} (h : Arr w b cap N f) (hs : Stay S w w') (hn : ¬ S b) : Arr w' b cap N f := by
  obtain ⟨c, h1, h2⟩ := h
  exact ⟨c, hs.kept h1 hn, h2⟩
theorem Arr.below {w w' : World} {b cap N : Nat} {f : Nat → Int} (h : Arr w b cap N f) (hs : Below w.heap.size w w') : Arr w' b cap N f := h.stay (Stay.of_below (S := fun _ => False) hs) (fun e => e)
theorem Arr.drewN {w : World} {b cap N : Nat} {f : Nat → Int} (h : Arr w b cap N f) (n : Nat) : Arr (w.drewN n) b cap N f := h
theorem Arr.set {w : World} {b cap N : Nat} {f : Nat → Int} (h : Arr w b cap N f) (i : Nat) (v : Int) : Arr (w.setCell ⟨b, i, none⟩ (.int .i64 v)) b cap N (fun j => if j = i then v else f j) := by
  obtain ⟨c, h1, h2, h3, h4, h5⟩ := h
  refine ⟨_, set_of h1 _, by rw [Array.size_setIfInBounds]; exact h2, h3, h4, fun j hj => ?_⟩
  show _ = some (Value.int .i64 (if j = i then v else f j))
  by_cases e : j = i
  · subst e
    rw [if_pos rfl, Array.getElem?_setIfInBounds_self_of_lt (by omega)]
  · rw [if_neg e, Array.getElem?_setIfInBounds_ne (Ne.symm e)]
    exact h5 j hj
theorem Arr.congr {w : World} {b cap N : Nat} {f g : Nat → Int} (h : Arr w b cap N f) (e : ∀ i, i < N → f i = g i) : Arr w b cap N g := by
  obtain ⟨c, h1, h2, h3, h4, h5⟩ := h
  exact ⟨c, h1, h2, h3, h4, fun i hi => by rw [h5 i hi, e i hi]⟩
theorem Arr.made {w : World} (n : Nat) (h : n ≤ maxLen) : Arr (w.alloc (.cells (madeCells #[Value.int .i64 0] n) 3)) w.heap.size n n (fun _ => 0) := by
  refine ⟨_, alloc_of, ?_, Nat.le_refl _, h, fun i hi => ?_⟩
  · rw [← Array.length_toList, toList_madeCells_one, List.length_replicate]
  · rw [← Array.getElem?_toList, toList_madeCells_one, List.getElem?_replicate, if_pos hi]
/-- A list of the call's own that is not empty. -/
theorem Arr.of_own {w : World} {base : Nat} {v : Value} {l : List Int} {n : Nat} (h : OwnI base w v l) (hn : l.length = n) (hp : 0 < n) : ∃ b cap, v = .slice (some ⟨b, 0, none⟩) n cap ∧ base ≤ b ∧ Arr w b cap n (fun i => l.getD i 0) := by
  subst hn
  rcases h.2 with ⟨_, h0⟩ | ⟨g, cap, cur, hv, hb, hg, hn, hm, hs, ht⟩
  · omega
  · refine ⟨g, cap, hv, hb, cur, hg, by omega, hn, hm, fun i hi => ?_⟩
    have h1 : (cur.toList.take (l.length * 1))[i]? = (l.map (Value.int .i64))[i]? := by rw [ht]
    rw [List.getElem?_take_of_lt (by omega), List.getElem?_map, List.getElem?_eq_getElem hi] at h1
    rw [← Array.getElem?_toList, h1]
    show _ = some (Value.int .i64 (l.getD i 0))
    rw [List.getD_eq_getElem?_getD, List.getElem?_eq_getElem hi]
    rfl
theorem Arr.own {w : World} {base b cap N : Nat} {f : Nat → Int} (h : Arr w b cap N f) (hb : base ≤ b) : OwnI base w (.slice (some ⟨b, 0, none⟩) N cap) ((List.range N).map f) := by
  obtain ⟨c, h1, h2, h3, h4, h5⟩ := h
  have hl : ((List.range N).map f).length = N := by rw [List.length_map, List.length_range]
  unfold OwnI
  rw [hl]
  refine ⟨by rw [List.length_map, hl]; omega, .inr ⟨b, cap, c, rfl, hb, h1, h3, h4, by omega, ?_⟩⟩
  refine List.ext_getElem? fun i => ?_
  by_cases hi : i < N
  · rw [List.getElem?_take_of_lt (by omega), Array.getElem?_toList, h5 i hi, List.getElem?_map, List.getElem?_map, List.getElem?_range hi]
    rfl
  · rw [List.getElem?_eq_none (by rw [List.length_take]; omega), List.getElem?_eq_none (by rw [List.length_map, hl]; omega)]
theorem Arr.rd {w : World} {b cap N : Nat} {f : Nat → Int} (h : Arr w b cap N f) (l : List Int) (hl : l.length = N) (he : ∀ i, i < N → f i = l.getD i 0) : RdL w (some ⟨b, 0, none⟩) cap l := by
  refine ⟨by have := h.fits; omega, h.fits.2, (fun e => by cases e), fun _ => ⟨b, 0, rfl, h.lt, fun i hi => ?_⟩⟩
  rw [Nat.zero_add, h.cell (by omega), he i (by omega)]

/-- Block t of the memory holds 258 numbers. -/
def Nx (w : World) (t : Nat) (b : Nat → Int) : Prop :=
  ∃ c, w.heap[t]? = some (.cells c 60 (0, 0)) ∧ c.size = 258 ∧ ∀ i, i ≤ 257 → c[i]? = some (.int .i64 (b i))
theorem Nx.cell {w : World} {t : Nat} {b : Nat → Int} (h : Nx w t b) {i : Nat} (hi : i ≤ 257) : w.cell? ⟨t, i, none⟩ = some (.int .i64 (b i)) := by
  obtain ⟨c, h1, _, h3⟩ := h
  exact (cell_of h1).trans (h3 i hi)
theorem Nx.free {w : World} {t : Nat} {b : Nat → Int} (h : Nx w t b) (i : Nat) : w.frozen? ⟨t, i, none⟩ = false := by
  obtain ⟨c, h1, _, _⟩ := h
  exact free_of h1
theorem Nx.lt {w : World} {t : Nat} {b : Nat → Int} (h : Nx w t b) : t < w.heap.size := by
  obtain ⟨c, h1, _, _⟩ := h
  exact (Array.getElem?_eq_some_iff.1 h1).1
theorem Nx.stay {w w' : World} {t : Nat} {b : Nat → Int} {S : Nat → Prop} (h : Nx w t b) (hs : Stay S w w') (hn : ¬ S t) : Nx w' t b := by
  obtain ⟨c, h1, h2, h3⟩ := h
  exact ⟨c, hs.kept h1 hn, h2, h3⟩
theorem Nx.below {w w' : World} {t : Nat} {b : Nat → Int} (h : Nx w t b) (hs : Below w.heap.size w w') : Nx w' t b := h.stay (Stay.of_below (S := fun _ => False) hs) (fun e => e)
theorem Nx.set {w : World} {t : Nat} {b : Nat → Int} (h : Nx w t b) (i : Nat) (v : Int) : Nx (w.setCell ⟨t, i, none⟩ (.int .i64 v)) t (fun j => if j = i then v else b j) := by
  obtain ⟨c, h1, h2, h3⟩ := h
  refine ⟨_, set_of h1 _, by rw [Array.size_setIfInBounds]; exact h2, fun j hj => ?_⟩
  show _ = some (Value.int .i64 (if j = i then v else b j))
  by_cases e : j = i
  · subst e
    rw [if_pos rfl, Array.getElem?_setIfInBounds_self_of_lt (by omega)]
  · rw [if_neg e, Array.getElem?_setIfInBounds_ne (Ne.symm e)]
    exact h3 j hj
theorem Nx.congr {w : World} {t : Nat} {b b' : Nat → Int} (h : Nx w t b) (e : ∀ i, i ≤ 257 → b i = b' i) : Nx w t b' := by
  obtain ⟨c, h1, h2, h3⟩ := h
  exact ⟨c, h1, h2, fun i hi => by rw [h3 i hi, e i hi]⟩
theorem infoN : (Try.prog.info? 60).map (fun i => i.zero) = some (some (.agg (Array.replicate 258 (.int .i64 0)))) := by kernel_rfl
theorem zeroN : ∃ zs : Array Value, (∀ w, (zeroValue 60).run Try.prog w = .ok (.agg zs) w) ∧ zs.size = 258 ∧ ∀ j, j ≤ 257 → zs[j]? = some (.int .i64 0) := by
  refine ⟨Array.replicate 258 (.int .i64 0), fun w => ?_, Array.size_replicate, fun j hj => by rw [Array.getElem?_replicate, if_pos (by omega)]⟩
  obtain ⟨i, hi, hz⟩ := Option.map_eq_some_iff.1 infoN
  simp [zeroValue, typeInfo, hi, hz]

namespace Bw
theorem low_succ (l : List Int) (s : Int) : low l (s + 1) = low l s + l.count s := by
  unfold low
  induction l with
  | nil => rfl
  | cons a l ih =>
    rw [List.countP_cons, List.countP_cons, List.count_cons, ih]
    by_cases h1 : a < s
    · have e1 : ¬ (a == s) = true := by simp; omega
      rw [if_pos (decide_eq_true (show a < s + 1 by omega)), if_pos (decide_eq_true h1), if_neg e1]
      omega
    · by_cases h2 : a = s
      · have e1 : (a == s) = true := by simp [h2]
        rw [if_pos (decide_eq_true (show a < s + 1 by omega)), if_neg (by simpa using h1), if_pos e1]
        omega
      · have e1 : ¬ (a == s) = true := by simpa using h2
        have h3 : ¬ a < s + 1 := by omega
        rw [if_neg (by simpa using h3), if_neg (by simpa using h1), if_neg e1]
        omega
theorem low_zero {l : List Int} (h : ∀ s ∈ l, 0 ≤ s) : low l 0 = 0 := by
  unfold low
  rw [List.countP_eq_zero]
  intro a ha
  have := h a ha
  simp
  omega
/-- What the 258 numbers are: counted, summed, taken. -/
def n1 (l : List Int) (k : Nat) : Nat → Int := fun j => if j = 0 then 0 else ((l.take k).count ((j : Int) - 1) : Int)
def n2 (l : List Int) (s : Nat) : Nat → Int := fun j => if j ≤ s then (low l (j : Int) : Int) else (l.count ((j : Int) - 1) : Int)
def n3 (l : List Int) (k : Nat) : Nat → Int := fun j => ((low l (j : Int) + (l.take k).count (j : Int) : Nat) : Int)
theorem getD_mem {l : List Int} {k : Nat} (hk : k < l.length) : l.getD k 0 ∈ l := by
  rw [List.getD_eq_getElem?_getD, List.getElem?_eq_getElem hk]
  exact List.getElem_mem hk
theorem take_next {l : List Int} {k : Nat} (hk : k < l.length) : l.take (k + 1) = l.take k ++ [l.getD k 0] := by
  rw [List.take_succ_eq_append_getElem hk, List.getD_eq_getElem?_getD, List.getElem?_eq_getElem hk]
  rfl
theorem count_next {l : List Int} {k : Nat} (hk : k < l.length) (s : Int) : (l.take (k + 1)).count s = (l.take k).count s + if l.getD k 0 = s then 1 else 0 := by
  rw [take_next hk, List.count_append, List.count_singleton]
  congr 1
  by_cases e : l.getD k 0 = s
  · rw [if_pos e, if_pos (by simpa using e)]
  · rw [if_neg e, if_neg (by simpa using e)]
theorem count_few (l : List Int) (k : Nat) (s : Int) : (l.take k).count s ≤ k := Nat.le_trans List.count_le_length (List.length_take_le _ _)
end Bw

set_option maxRecDepth 100000 in
set_option maxHeartbeats 1600000 in
theorem sranks {a : Option Addr} {cap n : Nat} {l : List Int} (w : World) (h : RdL w a cap l) (hl : l.length = n) (hn : n ≤ 1000000000) (hg : ∀ s ∈ l, 0 ≤ s ∧ s ≤ 256) :
    Calls Try.prog 25 #[.slice a n cap] w fun e w' => ∃ b, e = .returned (.slice (some ⟨b, 0, none⟩) n n) ∧ w.heap.size ≤ b ∧ Arr w' b n n (fun k => (Bw.bk l k : Int)) ∧ Below w.heap.size w w' := by
  obtain ⟨i0, hi, hz0, hz1, hz2⟩ := info_parts infoI
  obtain ⟨zs, hz, hzn, hzc⟩ := zeroN
  have hB0 : Below w.heap.size w (w.alloc (Obj.cells zs 60)) := (Below.refl _ _).alloc (Nat.le_refl _) _
  have hT0 : Nx (w.alloc (Obj.cells zs 60)) w.heap.size (Bw.n1 l 0) := ⟨zs, alloc_of, hzn, fun i hi => by
    rw [hzc i hi]
    unfold Bw.n1
    by_cases e : i = 0
    · rw [if_pos e]
    · rw [if_neg e]; rfl⟩
  have hcell : 0 < n → ∃ b off, a = some ⟨b, off, none⟩ ∧ b < w.heap.size ∧ ∀ i, i < n → w.cell? ⟨b, off + i, none⟩ = some (.int .i64 (l.getD i 0)) := fun hp => by
    obtain ⟨b, off, h1, h2, h3⟩ := h.2.2.2 (by omega)
    exact ⟨b, off, h1, h2, fun i hi => h3 i (by omega)⟩
  have HC := Lib.hid hcell
  have HL := Lib.hid hl
  have HG := Lib.hid hg
  have HT0 := Lib.hid hT0
  have HB0 := Lib.hid hB0
  clear h hcell hl hg hT0 hB0 hzn hzc
  go_enter Try.func25, Try.ntmps25
  go_wp2_with fail
  clear hz
  obtain ⟨T, hT⟩ : ∃ T, w.heap.size = T := ⟨_, rfl⟩
  rw [hT] at HT0 HB0 ⊢
  have HTT := Lib.hid hT
  clear hT
  go_loopw [5, 12] (fun _ i wr => ∃ m : Nat, m ≤ n ∧ i = .int .i64 m ∧ Nx wr T (Bw.n1 l m) ∧ Below T w wr) (fun _ i _ => n - (intOf i).toNat)
  case atStart => exact ⟨0, Nat.zero_le _, rfl, HT0.out, HB0.out⟩
  case round =>
    clear HT0 HB0
    obtain ⟨m, hm, rfl, hT, hB⟩ := hrel
    by_cases hlt : m < n
    · have hlt' : (m : Int) < n := by omega
      have hml : m < l.length := by rw [HL.out]; exact hlt
      obtain ⟨b, off, rfl, hbb, hc⟩ := HC.out (by omega)
      have hbT : b < T := by rw [← HTT.out]; exact hbb
      have c0 := (hB.cell (p := ⟨b, off + m, none⟩) hbT).trans (hc m hlt)
      have htk := Bw.count_next hml
      have hgx := HG.out _ (Bw.getD_mem hml)
      obtain ⟨x, hx⟩ : ∃ x, l.getD m 0 = x := ⟨_, rfl⟩
      rw [hx] at c0 htk hgx
      obtain ⟨s, rfl⟩ : ∃ s : Nat, x = s := ⟨x.toNat, by omega⟩
      have hs257 : s + 1 ≤ 257 := by omega
      have c1 := hT.cell hs257
      have c2 := hT.free (s + 1)
      have hle := Bw.count_few l m s
      have e0 : Bw.n1 l m (s + 1) = ((l.take m).count (s : Int) : Int) := by
        unfold Bw.n1
        rw [if_neg (by omega), show ((s + 1 : Nat) : Int) - 1 = s by omega]
      rw [e0] at c1
      obtain ⟨y, hy⟩ : ∃ y, (l.take m).count (s : Int) = y := ⟨_, rfl⟩
      rw [hy] at c1 hle
      have hT2 : Nx (wr.setCell ⟨T, s + 1, none⟩ (.int .i64 ((y : Int) + 1))) T (Bw.n1 l (m + 1)) := (hT.set (s + 1) _).congr (fun i hi => by
        show (if i = s + 1 then (y : Int) + 1 else Bw.n1 l m i) = _
        unfold Bw.n1
        by_cases h8 : i = s + 1
        · subst h8
          rw [if_pos rfl, if_neg (by omega), show ((s + 1 : Nat) : Int) - 1 = s by omega, htk, if_pos rfl, hy]
          omega
        · rw [if_neg h8]
          by_cases h7 : i = 0
          · rw [if_pos h7, if_pos h7]
          · rw [if_neg h7, if_neg h7, htk, if_neg (by omega)]
            omega)
      have hB2 : Below T w (wr.setCell ⟨T, s + 1, none⟩ (.int .i64 ((y : Int) + 1))) := hB.setCell (Nat.le_refl _) _
      have HT2 := Lib.hid hT2
      have HB2 := Lib.hid hB2
      obtain ⟨hs0, hs1⟩ := hgx
      clear hT hB hT2 hB2 hc hx htk e0 hy hml
      go_wp2_with fail
      go_roundw
      case rel => exact ⟨m + 1, by omega, by go_num, HT2.out, HB2.out⟩
      case measure => simp [intOf]; omega
    · have hlt' : ¬ (m : Int) < n := by omega
      have hfin : l.take m = l := List.take_of_length_le (by rw [HL.out]; omega)
      have hT1 : Nx wr T (Bw.n2 l 0) := hT.congr (fun i _ => by
        unfold Bw.n1 Bw.n2
        rw [hfin]
        by_cases h7 : i = 0
        · subst h7
          rw [if_pos rfl, if_pos (Nat.le_refl _), show ((0 : Nat) : Int) = 0 from rfl, Bw.low_zero fun s hs => (HG.out s hs).1]
          rfl
        · rw [if_neg h7, if_neg (by omega)])
      have hbl : ∀ s : Int, Bw.low l s + l.count s ≤ n := fun s => by rw [← HL.out]; exact Bw.low_len l s
      have HBL := Lib.hid hbl
      have HT1 := Lib.hid hT1
      have HB1 := Lib.hid hB
      clear hT hB hT1 hfin hbl
      go_wp2_with fail
      go_loopw [6, 23] (fun _ i wr => ∃ k : Nat, k ≤ 257 ∧ i = .int .i64 k ∧ Nx wr T (Bw.n2 l k) ∧ Below T w wr) (fun _ i _ => 257 - (intOf i).toNat)
      case atStart => exact ⟨0, Nat.zero_le _, rfl, HT1.out, HB1.out⟩
      case round =>
        clear HT1 HB1
        obtain ⟨k, hk, rfl, hT, hB⟩ := hrel
        by_cases hlt2 : k < 257
        · have hlt3 : (k : Int) < 257 := by omega
          have c1 := hT.cell (i := k + 1) (by omega)
          have c2 := hT.cell (i := k) (by omega)
          have c3 := hT.free (k + 1)
          have e1 : Bw.n2 l k (k + 1) = (l.count (k : Int) : Int) := by
            unfold Bw.n2
            rw [if_neg (by omega), show ((k + 1 : Nat) : Int) - 1 = k by omega]
          have e2 : Bw.n2 l k k = (Bw.low l (k : Int) : Int) := by unfold Bw.n2; rw [if_pos (Nat.le_refl _)]
          have e3 := Bw.low_succ l k
          have hle := HBL.out k
          rw [e1] at c1
          rw [e2] at c2
          obtain ⟨y, hy⟩ : ∃ y, l.count (k : Int) = y := ⟨_, rfl⟩
          obtain ⟨z, hz⟩ : ∃ z, Bw.low l (k : Int) = z := ⟨_, rfl⟩
          rw [hy] at c1 hle e3
          rw [hz] at c2 hle e3
          have hT2 : Nx (wr.setCell ⟨T, k + 1, none⟩ (.int .i64 ((y : Int) + z))) T (Bw.n2 l (k + 1)) := (hT.set (k + 1) _).congr (fun i hi => by
            show (if i = k + 1 then (y : Int) + z else Bw.n2 l k i) = _
            unfold Bw.n2
            by_cases h8 : i = k + 1
            · subst h8
              rw [if_pos rfl, if_pos (Nat.le_refl _), show ((k + 1 : Nat) : Int) = (k : Int) + 1 by omega, e3]
              omega
            · rw [if_neg h8]
              by_cases h7 : i ≤ k
              · rw [if_pos h7, if_pos (by omega)]
              · rw [if_neg h7, if_neg (by omega)])
          have hB2 : Below T w (wr.setCell ⟨T, k + 1, none⟩ (.int .i64 ((y : Int) + z))) := hB.setCell (Nat.le_refl _) _
          have HT2 := Lib.hid hT2
          have HB2 := Lib.hid hB2
          clear hT hB hT2 hB2 e1 e2 e3 hy hz
          go_wp2_with fail
          go_region
          all_goals go_wp2
          all_goals go_roundw
          case rel => exact ⟨k + 1, by omega, by go_num, HT2.out.below ((Below.refl _ _).drew), HB2.out.drew⟩
          case measure => simp [intOf]; omega
        · have hlt3 : ¬ (k : Int) < 257 := by omega
          obtain rfl : k = 257 := by omega
          have hT1 : Nx (wr.alloc (.cells (madeCells #[Value.int .i64 0] n) 3)) T (Bw.n3 l 0) := (hT.below ((Below.refl _ _).alloc (Nat.le_refl _) _)).congr fun i hi => by
            unfold Bw.n2 Bw.n3
            rw [if_pos hi]
            rfl
          have hA : Arr (wr.alloc (.cells (madeCells #[Value.int .i64 0] n) 3)) wr.heap.size n n (fun _ => 0) := Arr.made n (by unfold maxLen; omega)
          have hTR : T < wr.heap.size := hT.lt
          have hB3 : Below T w (wr.alloc (.cells (madeCells #[Value.int .i64 0] n) 3)) := hB.alloc (by omega) _
          have HT1 := Lib.hid hT1
          have HA1 := Lib.hid hA
          have HB3 := Lib.hid hB3
          clear hT hB hT1 hA hB3
          go_wp2_with (first
            | (at_make; refine wpList_make_row _ rfl _ _ 22 rfl 3 i0 (.int .i64 0) Try.underlying22 hi hz0 hz1 rfl .i64 .i64 n rfl rfl (by rw [hz2]; omega) (by omega) ?_))
          obtain ⟨B, hBB⟩ : ∃ B, wr.heap.size = B := ⟨_, rfl⟩
          rw [hBB] at HA1 hTR ⊢
          obtain ⟨w1, hw1⟩ : ∃ w1, wr.alloc (.cells (madeCells #[Value.int .i64 0] n) 3) = w1 := ⟨_, rfl⟩
          rw [hw1] at HT1 HA1 HB3 ⊢
          clear hBB hw1
          go_wp2_with fail
          go_loopw [8, 9, 41] (fun _ _ i wr => ∃ k : Nat, k ≤ n ∧ i = .int .i64 k ∧ Nx wr T (Bw.n3 l k) ∧ (∃ f, Arr wr B n n f ∧ ∀ j, j < k → f j = (Bw.bk l j : Int)) ∧ Below T w wr) (fun _ _ i _ => n - (intOf i).toNat)
          case atStart => exact ⟨0, Nat.zero_le _, rfl, HT1.out, ⟨_, HA1.out, fun j hj => absurd hj (Nat.not_lt_zero _)⟩, HB3.out⟩
          case round =>
            clear HT1 HA1 HB3
            obtain ⟨k, hk, rfl, hT, ⟨f, hA, hf⟩, hB⟩ := hrel
            by_cases hlt : k < n
            · have hlt' : (k : Int) < n := by omega
              have hml : k < l.length := by rw [HL.out]; exact hlt
              obtain ⟨b, off, rfl, hbb, hc⟩ := HC.out (by omega)
              have hbT : b < T := by rw [← HTT.out]; exact hbb
              have c0 := (hB.cell (p := ⟨b, off + k, none⟩) hbT).trans (hc k hlt)
              have htk := Bw.count_next hml
              have hgx := HG.out _ (Bw.getD_mem hml)
              have hbk := Bw.bk_lt hml
              rw [HL.out] at hbk
              obtain ⟨x, hx⟩ : ∃ x, l.getD k 0 = x := ⟨_, rfl⟩
              have hbe : Bw.bk l k = Bw.low l x + (l.take k).count x := by unfold Bw.bk; rw [hx]
              rw [hx] at c0 htk hgx
              obtain ⟨s, rfl⟩ : ∃ s : Nat, x = s := ⟨x.toNat, by omega⟩
              have c1 := hT.cell (i := s) (by omega)
              have c2 := hT.free s
              have c3 := hA.free k
              have c5 := hA.cell hlt
              have e0 : Bw.n3 l k s = (Bw.bk l k : Int) := by
                rw [hbe]; rfl
              rw [e0] at c1
              obtain ⟨y, hy⟩ : ∃ y, Bw.bk l k = y := ⟨_, rfl⟩
              rw [hy] at c1 hbk hbe
              have hs1 : Stay (· = B) wr (wr.setCell ⟨B, k, none⟩ (.int .i64 (y : Int))) := (Stay.refl (· = B) wr).setCell (p := ⟨B, k, none⟩) (.inr rfl) _
              have hneT : ¬ T = B := by omega
              have c1' := (hs1.cell (p := ⟨T, s, none⟩) hT.lt hneT).trans c1
              have hT1 := hT.stay hs1 hneT
              have hT2 : Nx ((wr.setCell ⟨B, k, none⟩ (.int .i64 (y : Int))).setCell ⟨T, s, none⟩ (.int .i64 ((y : Int) + 1))) T (Bw.n3 l (k + 1)) := (hT1.set s _).congr (fun i hi => by
                show (if i = s then (y : Int) + 1 else Bw.n3 l k i) = _
                unfold Bw.n3
                by_cases h8 : i = s
                · subst h8
                  rw [if_pos rfl, htk, if_pos rfl]
                  omega
                · rw [if_neg h8, htk, if_neg (by omega)]
                  omega)
              have hA2 : Arr ((wr.setCell ⟨B, k, none⟩ (.int .i64 (y : Int))).setCell ⟨T, s, none⟩ (.int .i64 ((y : Int) + 1))) B n n (fun j => if j = k then (y : Int) else f j) :=
                (hA.set k _).stay ((Stay.refl (· = T) _).setCell (p := ⟨T, s, none⟩) (.inr rfl) _) (by omega)
              have hf2 : ∀ j, j < k + 1 → (if j = k then (y : Int) else f j) = (Bw.bk l j : Int) := fun j hj => by
                by_cases e : j = k
                · subst e; rw [if_pos rfl, hy]
                · rw [if_neg e]; exact hf j (by omega)
              have hB2 : Below T w ((wr.setCell ⟨B, k, none⟩ (.int .i64 (y : Int))).setCell ⟨T, s, none⟩ (.int .i64 ((y : Int) + 1))) := (hB.setCell (by show T ≤ B; omega) _).setCell (Nat.le_refl _) _
              have HT2 := Lib.hid hT2
              have HA2 := Lib.hid hA2
              have HF2 := Lib.hid hf2
              have HB2 := Lib.hid hB2
              obtain ⟨hs0, hs1⟩ := hgx
              have c4 := hT1.free s
              clear hT hB hT2 hB2 hc hx htk e0 hy hml hA hf hA2 hf2 hT1 hbe
              go_wp2_with fail
              go_roundw
              case rel => exact ⟨k + 1, by omega, by go_num, HT2.out, ⟨_, HA2.out, HF2.out⟩, HB2.out⟩
              case measure => simp [intOf]; omega
            · have hlt' : ¬ (k : Int) < n := by omega
              have hA2 := hA.congr fun i hi => hf i (by omega)
              have HA2 := Lib.hid hA2
              have HB2 := Lib.hid hB
              clear hT hB hA hf hA2
              go_wp2_with fail
              go_ret
              exact ⟨B, rfl, by rw [HTT.out]; omega, HA2.out, by rw [HTT.out]; exact HB2.out⟩
end Go.Proofs.Ytfncjkkdemeclaa
