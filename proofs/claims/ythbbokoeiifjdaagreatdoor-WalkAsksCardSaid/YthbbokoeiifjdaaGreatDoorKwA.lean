/- A walk's column in memory: its wave and its tally, what its calls find and leave; firstAhead, own. -/
import Derived.Test.YthbbokoeiifjdaaGreatDoorWae
import Derived.Test.YthbbokoeiifjdaaGreatDoorTyg
import Derived.Test.YthbbokoeiifjdaaGreatDoorKwP
namespace Go.Proofs.YthbbokoeiifjdaaGreatDoor
open Go Go.RowKit Go.ChangeAt Tr Wk

/-- A column in memory: a wave and a tally of a text's last column. -/
structure Col (w : World) (x : Wx) (T : Nat) (t : List UInt8) : Prop where
  wav : Wav w x (Lx t)
  tal : Tal w T (Ty.of (Lx t))
  nT : ¬ x.own T
  tab : TabAt w
  few : t.length ≤ 100000
theorem Col.pos {w : World} {x : Wx} {T : Nat} {t : List UInt8} (h : Col w x T t) : 0 < x.B := h.wav.web.nods.pos
theorem Col.below {w w' : World} {x : Wx} {T : Nat} {t : List UInt8} (h : Col w x T t) (hb : Below w.heap.size w w') : Col w' x T t :=
  ⟨h.wav.below hb, h.tal.below hb, h.nT, h.tab.below hb (by have := h.tal.lt; omega), h.few⟩
theorem Col.stay {w w' : World} {x : Wx} {T : Nat} {t : List UInt8} {S : Nat → Prop} (h : Col w x T t) (hb : Stay S w w') (hx : ∀ i, x.own i → ¬ S i) (hT : ¬ S T) (h0 : ¬ S 0) : Col w' x T t :=
  ⟨h.wav.stay hb hx, h.tal.stay hb hT, h.nT, h.tab.stay hb h0, h.few⟩
theorem Col.len {w : World} {x : Wx} {T : Nat} {t : List UInt8} (h : Col w x T t) : (Lx t).length ≤ 1000000 := by
  rw [Lx_len]
  have := h.few
  omega
/-- One and the same wave, read again. -/
structure Smx (x x' : Wx) : Prop where
  t : x'.t = x.t
  own : ∀ i, x'.own i ↔ x.own i
theorem Smx.refl (x : Wx) : Smx x x := ⟨rfl, fun _ => Iff.rfl⟩
theorem Smx.trans {x y z : Wx} (h : Smx x y) (k : Smx y z) : Smx x z := ⟨k.t.trans h.t, fun i => (k.own i).trans (h.own i)⟩
/-- What a call leaves that reads a column. -/
def Cld (w w' : World) (x : Wx) (T : Nat) (t : List UInt8) : Prop := ∃ x', Col w' x' T t ∧ Smx x x' ∧ Stay x.own w w'
theorem Cld.of_red {w w' : World} {x : Wx} {T : Nat} {t : List UInt8} {F' : For} {v' : Nat} (h : Col w x T t) (hR : Red w w' x (Lx t) F' v') : Cld w w' x T t := by
  have hs : Smx x ⟨x.B, x.t, x.N, F', v'⟩ := ⟨rfl, fun i => or_congr Iff.rfl (hR.seen.nown x.N i)⟩
  refine ⟨_, ⟨hR.wav, h.tal.stay hR.stay h.nT, fun ho => h.nT ((hs.own T).1 ho), h.tab.stay hR.stay fun ho => ?_, h.few⟩, hs, hR.stay⟩
  have h1 := (h.wav.own_lt ho).1
  have h2 := h.pos
  omega
theorem Cld.refl {w : World} {x : Wx} {T : Nat} {t : List UInt8} (h : Col w x T t) : Cld w w x T t := ⟨x, h, Smx.refl x, Stay.refl _ _⟩
theorem Cld.below {w w1 w2 : World} {x : Wx} {T : Nat} {t : List UInt8} (h : Cld w w1 x T t) (hb : Below w1.heap.size w1 w2) : Cld w w2 x T t := by
  obtain ⟨x', h1, h2, h3⟩ := h
  exact ⟨x', h1.below hb, h2, h3.trans (Stay.of_below (S := x.own) hb) fun _ _ hi => hi⟩
theorem Cld.trans {w w1 w2 : World} {x x' : Wx} {T : Nat} {t : List UInt8} (hs : Smx x x') (h3 : Stay x.own w w1) (k : Cld w1 w2 x' T t) : Cld w w2 x T t := by
  obtain ⟨x2, k1, k2, k3⟩ := k
  exact ⟨x2, k1, hs.trans k2, h3.trans k3 fun i _ hi => (hs.own i).1 hi⟩
theorem Cld.stay_cell {w w' : World} {x : Wx} {T : Nat} {t : List UInt8} (h : Cld w w' x T t) {p : Addr} (hp : p.block < w.heap.size) (hn : ¬ x.own p.block) : w'.cell? p = w.cell? p := by
  obtain ⟨_, _, _, h3⟩ := h
  exact h3.cell hp hn
theorem Cld.ahead {w w1 w2 : World} {x : Wx} {T : Nat} {t : List UInt8} (hb : Below w.heap.size w w1) (k : Cld w1 w2 x T t) : Cld w w2 x T t := by
  obtain ⟨x2, k1, k2, k3⟩ := k
  exact ⟨x2, k1, k2, (Stay.of_below (S := x.own) hb).trans k3 fun _ _ hi => hi⟩

theorem kahead {x : Wx} {p T : Nat} {t : List UInt8} (row s : Int) (w : World) (h : Col w x T t) (hp : x.t = p) (hs : 0 ≤ s ∧ s ≤ 256) :
    Calls Tryz.prog 28 #[.agg #[.pointer (some ⟨p, 0, none⟩), .pointer (some ⟨T, 0, none⟩)], .int .i64 row, .int .i64 s] w fun e w' => e = .returned (.int .i64 (nrx t row.toNat s)) ∧ Cld w w' x T t := by
  subst hp
  obtain ⟨w1, hw1⟩ : ∃ w1, w.alloc (Obj.cells #[.pointer (some ⟨x.t, 0, none⟩), .pointer (some ⟨T, 0, none⟩)] 52) = w1 := ⟨_, rfl⟩
  have hal : Below w.heap.size w w1 := by rw [← hw1]; exact (Below.refl _ _).alloc (Nat.le_refl _) _
  have hc1 : w1.heap[w.heap.size]? = some (Obj.cells #[.pointer (some ⟨x.t, 0, none⟩), .pointer (some ⟨T, 0, none⟩)] 52) := by rw [← hw1]; exact alloc_of
  have h1 : Col w1.drew x T t := h.below hal.drew
  have hnx : ¬ x.own w.heap.size := fun ho => by have := (h.wav.own_lt ho).2; omega
  have o1 : w1.drew.cell? ⟨w.heap.size, 0, none⟩ = some (.pointer (some ⟨x.t, 0, none⟩)) := (cell_of hc1).trans rfl
  have o2 : w1.drew.cell? ⟨w.heap.size, 1, none⟩ = some (.pointer (some ⟨T, 0, none⟩)) := (cell_of hc1).trans rfl
  have eb := bel_fs (t := t) hs
  have kB := tbelow s w1.drew h1.tal
  have kR := h1.wav.rank row s h1.len
  rw [eb] at kB
  obtain ⟨A, hA⟩ : ∃ A, Bw.low (Lx t) s = A := ⟨_, rfl⟩
  obtain ⟨R, hR⟩ : ∃ R, Wv.rk (Lx t) row.toNat s = R := ⟨_, rfl⟩
  obtain ⟨N, hN⟩ : ∃ N, nrx t row.toNat s = N := ⟨_, rfl⟩
  have hsum : A + R = N := by rw [← hA, ← hR, ← hN]; rfl
  have hle := nrx_le t row.toNat s
  have hfew := h.few
  have z : IntKind.i64.wrap ((A : Int) + R) = N := by rw [IntKind.wrap_i64]; omega
  have z2 : RowKit.wrap64 ((A : Int) + R) = N := by unfold RowKit.wrap64; omega
  have HC1 := Lib.hid hc1
  have H1 := Lib.hid h1
  have HB1 := Lib.hid hal
  have HEB := Lib.hid (eb.trans hA)
  have HNX := Lib.hid hnx
  rw [hA] at kB
  rw [hR] at kR
  rw [hN]
  clear hc1 h1 hal eb hA hR hN hsum hle hfew h hs hnx
  go_enter Tryz.func28, Tryz.ntmps28
  go_wp2_with fail
  clear hw1
  go_region_held3 (fun w' => w'.cell? ⟨w.heap.size, 0, none⟩ = some (.pointer (some ⟨x.t, 0, none⟩)) ∧ w'.cell? ⟨w.heap.size, 1, none⟩ = some (.pointer (some ⟨T, 0, none⟩)))
    (first | exact ⟨o1, o2⟩ | exact ⟨q1, q2⟩ | go_keep)
    (first
     | (go_at_call 38; (with_reducible refine kB.mono ?_); rintro e w3 ⟨rfl, rfl⟩)
     | (go_at_call 38; (with_reducible refine kB2.mono ?_); rintro e w3 ⟨rfl, rfl⟩)
     | (go_at_call 46; (with_reducible refine kR.mono ?_); rintro e w2 ⟨rfl, F', v', hR⟩; (have q1 := (hR.stay.cell (p := ⟨w.heap.size, 0, none⟩) (block_lt_of_cell o1) HNX.out).trans o1); (have q2 := (hR.stay.cell (p := ⟨w.heap.size, 1, none⟩) (block_lt_of_cell o2) HNX.out).trans o2); (have kB2 := tbelow s w2 (H1.out.tal.stay hR.stay H1.out.nT)); (rw [HEB.out] at kB2); (have HD := Lib.hid (Cld.ahead HB1.out.drew (Cld.of_red H1.out hR))); clear hR))
  all_goals
    go_wp2_with fail
    go_ret
    exact ⟨rfl, HD.out⟩
end Go.Proofs.YthbbokoeiifjdaaGreatDoor
