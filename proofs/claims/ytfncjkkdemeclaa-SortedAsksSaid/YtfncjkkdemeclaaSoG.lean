/- What the laws of layer 9 lean on: told, Text: contracts of the walk. -/
import Derived.Test.YtfncjkkdemeclaaSoF
import Derived.Test.YtfncjkkdemeclaaSyS
namespace Go.Proofs.Ytfncjkkdemeclaa
open Go Go.RowKit Go.ChangeAt

theorem conv_marks (w : World) (vs : Array Value) (l c : Nat) : (convert 23 23 (.slice (some ⟨w.heap.size, 0, none⟩) l c)).run Try.prog (w.alloc (.cells vs 5)) = .ok (.slice (some ⟨w.heap.size, 0, none⟩) l c) (w.alloc (.cells vs 5 (vs.size, vs.size + 1))) := by
  have hsh : (w.alloc (.cells vs 5)).shape? w.heap.size = some (5, vs.size) := by
    have : (w.alloc (.cells vs 5)).heap[w.heap.size]? = some (.cells vs 5) := by
      show (w.heap.push (.cells vs 5))[w.heap.size]? = _
      simp
    unfold World.shape?
    rw [this]
  have hfr : (w.alloc (.cells vs 5)).freeze ⟨w.heap.size, vs.size, none⟩ 1 = w.alloc (.cells vs 5 (vs.size, vs.size + 1)) := by
    have hm : ∀ (a : Array Obj) (x : Obj) (f : Obj → Obj), (a.push x).modify a.size f = a.push (f x) := by
      intro a x f
      apply Array.ext
      · simp
      · intro i h1 h2
        simp only [Array.getElem_modify, Array.getElem_push]
        by_cases h : a.size = i
        · subst h
          simp
        · have hi : i < a.size := by simp at h1; omega
          simp [h, hi]
    unfold World.freeze
    rw [if_neg (by decide)]
    show ({ w.alloc (.cells vs 5) with heap := (w.heap.push (.cells vs 5)).modify w.heap.size _ } : World) = _
    rw [hm]
    rfl
  simp [convert, run_underlying Try.underlying23, run_underlying Try.underlying5, markStringish, hsh, hfr]
theorem RdU.lits (w : World) {g : Nat} (hg : g = w.heap.size) (vs : Array Value) (t : List UInt8) (fr : Nat × Nat) {n : Nat} (hn : t.length = n) (hm : n ≤ maxLen) (h : ∀ i, i < n → vs[i]? = some (.int .u8 ((t.getD i 0).toNat : Int))) : RdU (w.alloc (.cells vs 5 fr)) (some ⟨g, 0, none⟩) n t := by
  subst hg hn
  refine ⟨Nat.le_refl _, hm, fun _ => ⟨w.heap.size, 0, rfl, by simp, fun i hi => ?_⟩⟩
  rw [Nat.zero_add]
  exact (World.cell?_alloc_mark w _ _ fr i).trans (h i hi)
def t3 : List UInt8 := [97, 98, 97]
theorem t3_rows : Bw.IsRows (Bw.sy (ub t3)) [3, 2, 0, 1] := ⟨by decide, by decide, by decide, by decide⟩
theorem Rx_t3 : Rx t3 = [3, 2, 0, 1] := (Rx_is t3).unique t3_rows
theorem Lx_t3 : Lx t3 = [98, 99, 0, 98] := by
  show Bw.lst (Bw.sy (ub t3)) (Rx t3) = _
  rw [Rx_t3]
  decide
theorem Lx_nil : Lx [] = [0] := by
  have h := Lx_len []
  have h2 := Lx_read (t := []) (i := 0)
  have h3 := (Bw.thru_lastT (ub_byt [])).fin
  change (Lx []).getD (Bw.stp (Lx []) ((Lx []).length - 1)) 0 = 0 at h3
  rw [h] at h3
  match hl : Lx [], h with
  | [x], _ =>
    rw [hl] at h3
    have : x = 0 := h3
    rw [this]
theorem no_98 : ∀ t, Lx t ≠ [98, 98] := fun t e => by
  have := (Lx_iff.1 ⟨t, e⟩).2.1
  exact absurd this (by decide)
theorem RdL.lits (w : World) {g : Nat} (hg : g = w.heap.size) (l : List Int) {n : Nat} (hn : l.length = n) (hm : n ≤ maxLen) {vs : Array Value} (hv : vs = (l.map (Value.int .i64)).toArray) : RdL (w.alloc (.cells vs 3)) (some ⟨g, 0, none⟩) n l := by
  subst hg hn hv
  exact RdL.made l hm
/-- What Back answers. -/
theorem kback_of {a : Option Addr} {cap n : Nat} {l : List Int} (t : List UInt8) (w : World) (h : RdL w a cap l) (hl : l.length = n) (hm : n ≤ 100000001) (ht : Lx t = l) :
    Calls Try.prog 14 #[.slice a n cap] w fun e w' => ∃ b, e = .returned (.tuple #[.slice (some ⟨b, 0, none⟩) t.length t.length, .bool true]) ∧ w.heap.size ≤ b ∧ RdU w' (some ⟨b, 0, none⟩) t.length t ∧ Below w.heap.size w w' := by
  refine (kback w h hl hm).mono ?_
  rintro e w' ⟨⟨t', b, h1, h2, rfl, h3, h4⟩ | ⟨h1, _⟩, hb⟩
  · obtain rfl := Lx_inj (ht.trans h1.symm)
    exact ⟨b, rfl, h3, h4, hb⟩
  · exact absurd ht (h1 t)
theorem kback_no {a : Option Addr} {cap n : Nat} {l : List Int} (w : World) (h : RdL w a cap l) (hl : l.length = n) (hm : n ≤ 100000001) (ht : ∀ t, Lx t ≠ l) :
    Calls Try.prog 14 #[.slice a n cap] w fun e w' => e = .returned (.tuple #[.slice none 0 0, .bool false]) ∧ Below w.heap.size w w' := by
  refine (kback w h hl hm).mono ?_
  rintro e w' ⟨⟨t', b, h1, _⟩ | ⟨_, rfl⟩, hb⟩
  · exact absurd h1 (ht t')
  · exact ⟨rfl, hb⟩
theorem Arr.list {w : World} {b cap N : Nat} {l : List Int} (h : Arr w b cap N (fun i => l.getD i 0)) (hl : l.length = N) : RdL w (some ⟨b, 0, none⟩) cap l := h.rd l hl fun _ _ => rfl
theorem Arr.rows {w : World} {b cap N : Nat} {t : List UInt8} (h : Arr w b cap N (fun i => ((Rx t).getD i 0 : Int))) (hn : t.length + 1 = N) : RdL w (some ⟨b, 0, none⟩) cap (rxi t) :=
  h.rd _ ((rxi_len t).trans hn) fun i hi => (rxi_at (by omega)).symm
theorem _root_.Go.RowKit.Below.drawn {B : Nat} {a w w' : World} (h : Below B a w) (hd : ∃ k, w' = w.drewN k) : Below B a w' := by
  obtain ⟨k, rfl⟩ := hd
  exact h.drewN k

theorem vs3 : ∀ i, i < 3 → #[Value.int .u8 97, Value.int .u8 98, Value.int .u8 97][i]? = some (.int .u8 ((t3.getD i 0).toNat : Int)) := fun i hi => by
  match i, hi with
  | 0, _ => rfl
  | 1, _ => rfl
  | 2, _ => rfl
theorem rxi_t3 : rxi t3 = [3, 2, 0, 1] := by unfold rxi; rw [Rx_t3]; rfl
theorem str_t3 : str t3 = ⟨#[97, 98, 97]⟩ := rfl
set_option maxHeartbeats 1600000 in
set_option maxRecDepth 100000 in
theorem told9 (w : World) : Calls Try.prog 12 #[] w fun e w' => e = .returned (.bool true) ∧ Below w.heap.size w w' := by
  have hcv := fun w => conv_marks w #[Value.int .u8 97, Value.int .u8 98, Value.int .u8 97] 3 3
  simp only [List.size_toArray, List.length_cons, List.length_nil, Nat.zero_add, Nat.reduceAdd] at hcv
  have key := krows _ (RdU.lits w rfl #[Value.int .u8 97, Value.int .u8 98, Value.int .u8 97] t3 (3, 4) (n := 3) rfl (by decide) vs3) (n := 3) rfl (by decide)
  go_enter Try.func12, Try.ntmps12
  go_wp2_with fail
  (with_reducible refine key.mono ?_); rintro e w1 ⟨rb, rc, rfl, hrl, hR, hb1⟩
  clear key
  have hbw1 : Below w.heap.size w w1 := ((Below.refl _ _).alloc (Nat.le_refl _) _).trans (hb1.mono (by simp))
  have key := klast _ (RdU.lits w1 rfl #[Value.int .u8 97, Value.int .u8 98, Value.int .u8 97] t3 (3, 4) (n := 3) rfl (by decide) vs3) (n := 3) rfl (by decide)
  have hR2 := hR.below ((Below.refl w1.heap.size w1).alloc (Nat.le_refl _) (.cells #[Value.int .u8 97, Value.int .u8 98, Value.int .u8 97] 5 (3, 4)))
  have HR := Lib.hid hR2
  have HB := Lib.hid hbw1
  clear hR hR2 hbw1 hb1
  go_wp2_with fail
  (with_reducible refine key.mono ?_); rintro e w2 ⟨lb, lc, rfl, hll, hL, hb2⟩
  clear key hcv
  have hbw2 : Below w.heap.size w w2 := (HB.out.alloc HB.out.size _).trans (hb2.mono (by have := HB.out.size; simp; omega))
  have hR2 := HR.out.below hb2
  have hL0 := hL.list (Lx_len t3)
  have key := kback_of t3 w2 hL0 (n := 4) (Lx_len t3) (by decide) rfl
  have HR := Lib.hid hR2
  have HL := Lib.hid hL
  have HB := Lib.hid hbw2
  clear hR2 hbw2 hb2 hL hL0
  go_wp2_with fail
  (with_reducible refine key.mono ?_); rintro e w3 ⟨tb, rfl, htl, hT, hb3⟩
  clear key
  have h98 : ∀ t, Lx t ≠ [98, 98] := no_98
  have hbw3 : Below w.heap.size w w3 := HB.out.trans (hb3.mono HB.out.size)
  have hm4 : Below w3.heap.size w3 (w3.alloc (.cells #[Value.int .i64 98, Value.int .i64 98] 3)) := (Below.refl _ _).alloc (Nat.le_refl _) _
  have key := kback_no _ (RdL.lits w3 rfl [98, 98] (n := 2) (vs := #[Value.int .i64 98, Value.int .i64 98]) rfl (by decide) rfl) (n := 2) rfl (by decide) h98
  have HR := Lib.hid ((HR.out.below hb3).below hm4)
  have HL := Lib.hid ((HL.out.below hb3).below hm4)
  have HT := Lib.hid (hT.below hm4)
  have HB := Lib.hid (hbw3.trans (hm4.mono hbw3.size))
  clear hb3 hbw3 hT h98 hm4
  go_wp2_with fail
  (with_reducible refine key.mono ?_); rintro e w4 ⟨rfl, hb4⟩
  clear key
  have hbw4 := HB.out.trans (hb4.mono HB.out.size)
  have hm5 : Below w4.heap.size w4 (w4.alloc (.cells #[Value.int .i64 3, Value.int .i64 2, Value.int .i64 0, Value.int .i64 1] 3)) := (Below.refl _ _).alloc (Nat.le_refl _) _
  have hR4 := (HR.out.below hb4).below hm5
  have HR := Lib.hid hR4
  have HL := Lib.hid ((HL.out.below hb4).below hm5)
  have HT := Lib.hid ((HT.out.below hb4).below hm5)
  have HB := Lib.hid (hbw4.trans (hm5.mono hbw4.size))
  have key := r6same_is true _ (hR4.rows (t := t3) rfl) (RdL.lits w4 rfl [3, 2, 0, 1] (n := 4) (vs := #[Value.int .i64 3, Value.int .i64 2, Value.int .i64 0, Value.int .i64 1]) rfl (by decide) rfl) (n := 4) (n' := 4) (rxi_len t3) rfl (by rw [rxi_t3]; rfl)
  clear hbw4 hb4 hm5 hR4
  go_wp2_with fail
  (with_reducible refine key.mono ?_); rintro e w5 ⟨rfl, hd5⟩
  clear key
  have hbw5 := HB.out.drawn hd5
  have h5 : Below (w4.alloc (.cells #[Value.int .i64 3, Value.int .i64 2, Value.int .i64 0, Value.int .i64 1] 3)).heap.size (w4.alloc (.cells #[Value.int .i64 3, Value.int .i64 2, Value.int .i64 0, Value.int .i64 1] 3)) w5 := (Below.refl _ _).drawn hd5
  have hm6 : Below w5.heap.size w5 (w5.alloc (.cells #[Value.int .i64 98, Value.int .i64 99, Value.int .i64 0, Value.int .i64 98] 3)) := (Below.refl _ _).alloc (Nat.le_refl _) _
  have hL5 := (HL.out.below h5).below hm6
  have HR := Lib.hid ((HR.out.below h5).below hm6)
  have HT := Lib.hid ((HT.out.below h5).below hm6)
  have HL := Lib.hid hL5
  have HB := Lib.hid (hbw5.trans (hm6.mono hbw5.size))
  have key := r6same_is true _ (hL5.list (Lx_len t3)) (RdL.lits w5 rfl [98, 99, 0, 98] (n := 4) (vs := #[Value.int .i64 98, Value.int .i64 99, Value.int .i64 0, Value.int .i64 98]) rfl (by decide) rfl) (n := 4) (n' := 4) (Lx_len t3) rfl (by rw [Lx_t3]; rfl)
  clear hbw5 h5 hm6 hL5 hd5
  go_wp2_with fail
  (with_reducible refine key.mono ?_); rintro e w6 ⟨rfl, hd6⟩
  clear key
  have h6 : Below (w5.alloc (.cells #[Value.int .i64 98, Value.int .i64 99, Value.int .i64 0, Value.int .i64 98] 3)).heap.size (w5.alloc (.cells #[Value.int .i64 98, Value.int .i64 99, Value.int .i64 0, Value.int .i64 98] 3)) w6 := (Below.refl _ _).drawn hd6
  have hcv := conv_str (HT.out.below h6) (n := t3.length) rfl
  rw [str_t3] at hcv
  have key := klast w6 (t := []) (RdU.nil w6 none 0 (by decide)) (n := 0) rfl (by decide)
  have HR := Lib.hid (HR.out.below h6)
  have HL := Lib.hid (HL.out.below h6)
  have HB := Lib.hid (HB.out.drawn hd6)
  clear hd6 h6
  go_wp2_with fail
  (with_reducible refine key.mono ?_); rintro e w7 ⟨nb, nc, rfl, -, -, hb7⟩
  clear key hcv
  have hR7 := (HR.out.below hb7).rows (t := t3) rfl
  have key := ssame true w7 hR7 hR7 (n := 4) (n' := 4) (rxi_len t3) (rxi_len t3) (decide_eq_true rfl)
  have HL := Lib.hid (HL.out.below hb7)
  have HR := Lib.hid (HR.out.below hb7)
  have HB := Lib.hid (HB.out.trans (hb7.mono HB.out.size))
  clear hR7 hb7
  go_wp2_with fail
  (with_reducible refine key.mono ?_); rintro e w8 ⟨rfl, hd8⟩
  clear key
  have h8 : Below w7.heap.size w7 w8 := (Below.refl _ _).drawn hd8
  have key := ssame false w8 ((HR.out.below h8).rows (t := t3) rfl) ((HL.out.below h8).list (Lx_len t3)) (n := 4) (n' := 4) (rxi_len t3) (Lx_len t3) (by rw [rxi_t3, Lx_t3]; rfl)
  have HB := Lib.hid (HB.out.drawn hd8)
  clear hd8 h8
  go_wp2_with fail
  (with_reducible refine key.mono ?_); rintro e w9 ⟨rfl, hd9⟩
  clear key
  have HB := Lib.hid (HB.out.drawn hd9)
  clear hd9
  go_wp2_with fail
  go_ret
  exact ⟨rfl, HB.out⟩
end Go.Proofs.Ytfncjkkdemeclaa
