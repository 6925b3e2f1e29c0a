/- A walk in memory: On, First, Len, All. -/
import Derived.Test.YthbbokoeiifjdaaGreatDoorKwB
import Derived.Test.YthbbokoeiifjdaaGreatDoorSoi
namespace Go.Proofs.YthbbokoeiifjdaaGreatDoor
open Go Go.RowKit Go.ChangeAt Tr Wk

set_option maxHeartbeats 1600000 in
theorem Wli.on_any {w : World} {b : Nat} {x : Wx} {T : Nat} {t : List UInt8} (h : Wli w b x T t) (k s : Int) (A : Nat) (r j : Int) (hw : Ty.wh (Ty.of (Lx t)) k = s) (hA : Ty.bel (Ty.of (Lx t)) (Ty.clamp s) = A)
    (hj : IntKind.i64.wrap (k - A) = j) (hsl : Wv.sl (Lx t) j s = r) :
    Calls Tryz.prog 16 #[.pointer (some ⟨b, 0, none⟩), .int .i64 k] w fun e w' => e = .returned (.int .i64 r) ∧ Cld w w' x T t := by
  have key := kown h
  have H := Lib.hid h
  clear h
  go_enter Tryz.func16, Tryz.ntmps16
  go_wp2_with fail
  (with_reducible refine key.mono ?_); rintro e w1 ⟨rfl, hb1⟩
  clear key
  obtain ⟨w2, hw2⟩ : ∃ w2, w1.alloc (Obj.cells #[.pointer (some ⟨x.t, 0, none⟩), .pointer (some ⟨T, 0, none⟩)] 52) = w2 := ⟨_, rfl⟩
  have hb2 : Below w.heap.size w w2 := by rw [← hw2]; exact Below.allocs hb1 _
  have hc2 : w2.heap[w1.heap.size]? = some (Obj.cells #[.pointer (some ⟨x.t, 0, none⟩), .pointer (some ⟨T, 0, none⟩)] 52) := by rw [← hw2]; exact alloc_of
  have d1 : w2.cell? ⟨w1.heap.size, 1, none⟩ = some (.pointer (some ⟨T, 0, none⟩)) := (cell_of hc2).trans rfl
  have hC2 := H.out.col.below hb2
  have keyW := twhich k w2 hC2.tal
  rw [hw] at keyW
  have HNX := Lib.hid (H.out.hnx hb1.size)
  have HC2 := Lib.hid hc2
  have HB2 := Lib.hid hb2
  clear hb2 hc2 hC2 hb1
  go_wp2_with fail
  clear hw2
  (with_reducible refine keyW.mono ?_); rintro e w3 ⟨rfl, hb3⟩
  clear keyW d1
  have hc3 := Below.keptB hb3 HC2.out (lt_of_block HC2.out)
  have hb3' : Below w.heap.size w w3.drew := (HB2.out.trans (hb3.mono HB2.out.size)).drew
  have hC3 : Col w3.drew x T t := H.out.col.below hb3'
  have o1 : w3.drew.cell? ⟨w1.heap.size, 0, none⟩ = some (.pointer (some ⟨x.t, 0, none⟩)) := (cell_of hc3).trans rfl
  have o2 : w3.drew.cell? ⟨w1.heap.size, 1, none⟩ = some (.pointer (some ⟨T, 0, none⟩)) := (cell_of hc3).trans rfl
  have kB := tbelow s w3.drew hC3.tal
  rw [hA] at kB
  have kS := hC3.wav.select hC3.tab j s hC3.len
  rw [hsl] at kS
  have H3 := Lib.hid hC3
  have HB3 := Lib.hid hb3'
  clear hb3 hc3 hb3' hC3 hw hA hsl
  go_wp2_with fail
  go_region_held3 (fun w' => w'.cell? ⟨w1.heap.size, 0, none⟩ = some (.pointer (some ⟨x.t, 0, none⟩)) ∧ w'.cell? ⟨w1.heap.size, 1, none⟩ = some (.pointer (some ⟨T, 0, none⟩)))
    (first | exact ⟨o1, o2⟩ | exact ⟨q1, q2⟩ | go_keep)
    (first
     | (go_at_call 38; (with_reducible refine kB.mono ?_); rintro e w4 ⟨rfl, rfl⟩)
     | (go_at_call 37; (with_reducible refine kS.mono ?_); rintro e w4 ⟨rfl, F', v', hR⟩; (have q1 := (hR.stay.cell (p := ⟨w1.heap.size, 0, none⟩) (block_lt_of_cell o1) HNX.out).trans o1); (have q2 := (hR.stay.cell (p := ⟨w1.heap.size, 1, none⟩) (block_lt_of_cell o2) HNX.out).trans o2); (have HD := Lib.hid (Cld.ahead HB3.out (Cld.of_red H3.out hR))); clear hR))
  all_goals
    go_wp2_with fail
    go_ret
    exact ⟨rfl, HD.out⟩
theorem Wli.on {w : World} {b : Nat} {x : Wx} {T : Nat} {t : List UInt8} (h : Wli w b x T t) (r : Nat) (hr : r < t.length + 1) :
    Calls Tryz.prog 16 #[.pointer (some ⟨b, 0, none⟩), .int .i64 r] w fun e w' => e = .returned (.int .i64 (onx t r)) ∧ Cld w w' x T t := by
  have h1 := Bw.low_len (Lx t) (fsx t r)
  rw [Lx_len] at h1
  have h2 := h.col.few
  exact h.on_any r (fsx t r) (Bw.low (Lx t) (fsx t r)) (onx t r) _ (wh_fsx hr) (bel_fs (fsx_good hr)) (by rw [IntKind.wrap_i64]; omega) (sl_onx hr)
theorem Wli.on_no {w : World} {b : Nat} {x : Wx} {T : Nat} {t : List UInt8} (h : Wli w b x T t) (k : Int) (hk : k < 0 ∨ (t.length : Int) + 1 ≤ k) :
    Calls Tryz.prog 16 #[.pointer (some ⟨b, 0, none⟩), .int .i64 k] w fun e w' => e = .returned (.int .i64 (-1)) ∧ Cld w w' x T t :=
  h.on_any k (-1) 0 (-1) _ (wh_not hk) rfl rfl (sl_not h.col.wav.good (by omega) _)
set_option maxHeartbeats 1600000 in
theorem Wli.first_any {w : World} {b : Nat} {x : Wx} {T : Nat} {t : List UInt8} (h : Wli w b x T t) (k s : Int) (hw : Ty.wh (Ty.of (Lx t)) k = s) :
    Calls Tryz.prog 18 #[.pointer (some ⟨b, 0, none⟩), .int .i64 k] w fun e w' => e = .returned (.int .i64 s) ∧ Below w.heap.size w w' := by
  have key := kown h
  have f1 : ∀ w, (Instr.field 52 (.agg #[.pointer (some ⟨x.t, 0, none⟩), .pointer (some ⟨T, 0, none⟩)]) 1).run Tryz.prog w = .ok (.pointer (some ⟨T, 0, none⟩)) w := fun _ => by kernel_rfl
  have H := Lib.hid h
  clear h
  go_enter Tryz.func18, Tryz.ntmps18
  go_wp2_with fail
  (with_reducible refine key.mono ?_); rintro e w1 ⟨rfl, hb1⟩
  have keyW := twhich k w1 (H.out.col.below hb1).tal
  rw [hw] at keyW
  have HB1 := Lib.hid hb1
  clear key hb1 hw
  go_wp2_with fail
  (with_reducible refine keyW.mono ?_); rintro e w3 ⟨rfl, hb3⟩
  have HB3 := Lib.hid (HB1.out.trans (hb3.mono HB1.out.size))
  clear hb3 keyW
  go_wp2_with fail
  go_ret
  exact ⟨rfl, HB3.out⟩
theorem Wli.first {w : World} {b : Nat} {x : Wx} {T : Nat} {t : List UInt8} (h : Wli w b x T t) (r : Nat) (hr : r < t.length + 1) :
    Calls Tryz.prog 18 #[.pointer (some ⟨b, 0, none⟩), .int .i64 r] w fun e w' => e = .returned (.int .i64 (fsx t r)) ∧ Below w.heap.size w w' := h.first_any r _ (wh_fsx hr)
theorem Wli.first_no {w : World} {b : Nat} {x : Wx} {T : Nat} {t : List UInt8} (h : Wli w b x T t) (k : Int) (hk : k < 0 ∨ (t.length : Int) + 1 ≤ k) :
    Calls Tryz.prog 18 #[.pointer (some ⟨b, 0, none⟩), .int .i64 k] w fun e w' => e = .returned (.int .i64 (-1)) ∧ Below w.heap.size w w' := h.first_any k _ (wh_not hk)
theorem Wli.len {w : World} {b : Nat} {x : Wx} {T : Nat} {t : List UInt8} (h : Wli w b x T t) (n : Nat) (hn : t.length + 1 = n) :
    Calls Tryz.prog 22 #[.pointer (some ⟨b, 0, none⟩)] w fun e w' => e = .returned (.int .i64 n) ∧ Below w.heap.size w w' := by
  have key := kown h
  have f1 : ∀ w, (Instr.field 52 (.agg #[.pointer (some ⟨x.t, 0, none⟩), .pointer (some ⟨T, 0, none⟩)]) 0).run Tryz.prog w = .ok (.pointer (some ⟨x.t, 0, none⟩)) w := fun _ => by kernel_rfl
  have H := Lib.hid h
  clear h
  go_enter Tryz.func22, Tryz.ntmps22
  go_wp2_with fail
  (with_reducible refine key.mono ?_); rintro e w1 ⟨rfl, hb1⟩
  have keyL := (H.out.col.below hb1).wav.len
  rw [Lx_len, hn] at keyL
  have HB1 := Lib.hid hb1
  clear key hb1 hn
  go_wp2_with fail
  (with_reducible refine keyL.mono ?_); rintro e w3 ⟨rfl, rfl⟩
  go_wp2_with fail
  go_ret
  exact ⟨rfl, HB1.out⟩
theorem Wli.all {w : World} {b : Nat} {x : Wx} {T : Nat} {t : List UInt8} (h : Wli w b x T t) :
    Calls Tryz.prog 21 #[.pointer (some ⟨b, 0, none⟩)] w fun e w' => ∃ v, e = .returned v ∧ OwnI w.heap.size w' v (Lx t) ∧ Below w.heap.size w w' := by
  have key := kown h
  have f1 : ∀ w, (Instr.field 52 (.agg #[.pointer (some ⟨x.t, 0, none⟩), .pointer (some ⟨T, 0, none⟩)]) 0).run Tryz.prog w = .ok (.pointer (some ⟨x.t, 0, none⟩)) w := fun _ => by kernel_rfl
  have H := Lib.hid h
  clear h
  go_enter Tryz.func21, Tryz.ntmps21
  go_wp2_with fail
  (with_reducible refine key.mono ?_); rintro e w1 ⟨rfl, hb1⟩
  have hC := H.out.col.below hb1
  have keyL := hC.wav.all hC.len
  have HB1 := Lib.hid hb1
  clear key hb1 hC
  go_wp2_with fail
  (with_reducible refine keyL.mono ?_); rintro e w3 ⟨v, rfl, hv, hb3⟩
  have HV := Lib.hid (And.intro (hv.base HB1.out.size) (HB1.out.trans (hb3.mono HB1.out.size)))
  clear hv hb3 keyL
  go_wp2_with fail
  go_ret
  exact ⟨v, rfl, HV.out⟩
theorem Wli.text {w : World} {b : Nat} {x : Wx} {T : Nat} {t : List UInt8} (h : Wli w b x T t) (n : Nat) (hn : t.length = n) :
    Calls Tryz.prog 13 #[.pointer (some ⟨b, 0, none⟩)] w fun e w' => ∃ B, e = .returned (.slice (some ⟨B, 0, none⟩) n n) ∧ w.heap.size ≤ B ∧ RdU w' (some ⟨B, 0, none⟩) n t ∧ Below w.heap.size w w' := by
  have key := h.all
  have hfew := h.col.few
  clear h
  go_enter Tryz.func13, Tryz.ntmps13
  go_wp2_with fail
  (with_reducible refine key.mono ?_); rintro e w1 ⟨v, rfl, hv, hb1⟩
  clear key
  obtain ⟨a, cap, rfl, hr⟩ := Lr.form (n + 1) hv (by rw [Lx_len, hn])
  have keyB := kback_of t w1 hr (by rw [Lx_len, hn]) (by omega) rfl
  rw [hn] at keyB
  have HB1 := Lib.hid hb1
  clear hb1 hv hr hn hfew
  go_wp2_with fail
  (with_reducible refine keyB.mono ?_); rintro e w2 ⟨B, rfl, hB, hT, hb2⟩
  have HX := Lib.hid (And.intro (Nat.le_trans HB1.out.size hB) (And.intro hT (HB1.out.trans (hb2.mono HB1.out.size))))
  clear hb2 hT hB keyB
  go_wp2_with fail
  go_ret
  exact ⟨B, rfl, HX.out⟩
end Go.Proofs.YthbbokoeiifjdaaGreatDoor
