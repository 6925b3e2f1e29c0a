/- A walk in memory: what its calls find and leave. -/
import Derived.Test.YthbbokoeiifjdaaGreatDoorKwA
namespace Go.Proofs.YthbbokoeiifjdaaGreatDoor
open Go Go.RowKit Go.ChangeAt Tr Wk

/-- A walk in memory: its own block, a column. -/
structure Wli (w : World) (b : Nat) (x : Wx) (T : Nat) (t : List UInt8) : Prop where
  top : w.heap[b]? = some (Obj.cells #[.pointer (some ⟨x.t, 0, none⟩), .pointer (some ⟨T, 0, none⟩)] 66)
  col : Col w x T t
  nb : ¬ x.own b
theorem kown {w : World} {b : Nat} {x : Wx} {T : Nat} {t : List UInt8} (h : Wli w b x T t) :
    Calls Tryz.prog 27 #[.pointer (some ⟨b, 0, none⟩)] w fun e w' => e = .returned (.agg #[.pointer (some ⟨x.t, 0, none⟩), .pointer (some ⟨T, 0, none⟩)]) ∧ Below w.heap.size w w' := by
  have c0 : w.cell? ⟨b, 0, none⟩ = some (.pointer (some ⟨x.t, 0, none⟩)) := (cell_of h.top).trans rfl
  have c1 : w.cell? ⟨b, 1, none⟩ = some (.pointer (some ⟨T, 0, none⟩)) := (cell_of h.top).trans rfl
  have hlt := lt_of_block h.top
  have hB : ∀ p q : Value, Below w.heap.size w (w.alloc (Obj.cells #[p, q] 52)) := fun p q => (Below.refl _ _).alloc (Nat.le_refl _) _
  have HB := Lib.hid hB
  clear h hB
  go_enter Tryz.func27, Tryz.ntmps27
  go_wp2_with fail
  refine bodyPost_ret (v := .agg #[.pointer (some ⟨x.t, 0, none⟩), .pointer (some ⟨T, 0, none⟩)]) (by simp [results, Tryz.results27, go_sem]) rfl ⟨rfl, HB.out _ _⟩
theorem kown_nil (w : World) :
    Calls Tryz.prog 27 #[.pointer none] w fun e w' => e = .returned (.agg #[.pointer none, .pointer none]) ∧ Below w.heap.size w w' := by
  have hB : ∀ p q : Value, Below w.heap.size w (w.alloc (Obj.cells #[p, q] 52)) := fun p q => (Below.refl _ _).alloc (Nat.le_refl _) _
  have HB := Lib.hid hB
  clear hB
  go_enter Tryz.func27, Tryz.ntmps27
  go_wp2_with fail
  refine bodyPost_ret (v := .agg #[.pointer none, .pointer none]) (by simp [results, Tryz.results27, go_sem]) rfl ⟨rfl, HB.out _ _⟩

theorem kget_nil (k : Int) (w : World) : Calls Tryz.prog 34 #[.pointer none, .int .i64 k] w fun e w' => e = .returned (.tuple #[.int .i64 (-1), .int .i64 6]) ∧ w = w' := by
  go_enter Tryz.func34, Tryz.ntmps34
  go_wp2_with fail
  go_ret2
  exact ⟨rfl, rfl⟩
theorem kback_nil (k : Int) (w : World) : Calls Tryz.prog 14 #[.pointer none, .int .i64 k] w fun e w' => e = .returned (.int .i64 (-1)) ∧ Below w.heap.size w w' := by
  have key := kown_nil w
  go_enter Tryz.func14, Tryz.ntmps14
  go_wp2_with fail
  (with_reducible refine key.mono ?_); rintro e w1 ⟨rfl, hb1⟩
  clear key
  have HB := Lib.hid (fun p q : Value => Below.allocs hb1 (Obj.cells #[p, q] 52))
  clear hb1
  go_wp2_with fail
  (with_reducible refine (kget_nil k _).mono ?_); rintro e w2 ⟨rfl, rfl⟩
  go_wp2_with fail
  go_ret
  exact ⟨rfl, HB.out _ _⟩
theorem klen_nil (w : World) : Calls Tryz.prog 22 #[.pointer none] w fun e w' => e = .returned (.int .i64 0) ∧ Below w.heap.size w w' := by
  have key := kown_nil w
  have f0 : ∀ w, (Instr.field 52 (.agg #[.pointer none, .pointer none]) 0).run Tryz.prog w = .ok (.pointer none) w := fun _ => by kernel_rfl
  go_enter Tryz.func22, Tryz.ntmps22
  go_wp2_with fail
  (with_reducible refine key.mono ?_); rintro e w1 ⟨rfl, hb1⟩
  clear key
  have HB := Lib.hid hb1
  clear hb1
  go_wp2_with fail
  (with_reducible refine (wlen_nil _).mono ?_); rintro e w2 ⟨rfl, rfl⟩
  go_wp2_with fail
  go_ret
  exact ⟨rfl, HB.out⟩

theorem Wli.below {w w' : World} {b : Nat} {x : Wx} {T : Nat} {t : List UInt8} (h : Wli w b x T t) (hb : Below w.heap.size w w') : Wli w' b x T t :=
  ⟨Below.keptB hb h.top (lt_of_block h.top), h.col.below hb, h.nb⟩
theorem Wli.hnx {w : World} {b : Nat} {x : Wx} {T : Nat} {t : List UInt8} (h : Wli w b x T t) {i : Nat} (hi : w.heap.size ≤ i) : ¬ x.own i := fun ho => by have := (h.col.wav.own_lt ho).2; omega

set_option maxHeartbeats 1600000 in
theorem Wli.back {w : World} {b : Nat} {x : Wx} {T : Nat} {t : List UInt8} (h : Wli w b x T t) (r : Nat) (hr : r < t.length + 1) :
    Calls Tryz.prog 14 #[.pointer (some ⟨b, 0, none⟩), .int .i64 r] w fun e w' => e = .returned (.int .i64 (bkx t r)) ∧ Cld w w' x T t := by
  have key := kown h
  have H := Lib.hid h
  clear h
  go_enter Tryz.func14, Tryz.ntmps14
  go_wp2_with fail
  (with_reducible refine key.mono ?_); rintro e w1 ⟨rfl, hb1⟩
  clear key
  obtain ⟨w2, hw2⟩ : ∃ w2, w1.alloc (Obj.cells #[.pointer (some ⟨x.t, 0, none⟩), .pointer (some ⟨T, 0, none⟩)] 52) = w2 := ⟨_, rfl⟩
  have hb2 : Below w.heap.size w w2 := by rw [← hw2]; exact Below.allocs hb1 _
  have hc2 : w2.heap[w1.heap.size]? = some (Obj.cells #[.pointer (some ⟨x.t, 0, none⟩), .pointer (some ⟨T, 0, none⟩)] 52) := by rw [← hw2]; exact alloc_of
  have hnx := H.out.hnx hb1.size
  have d0 : w2.cell? ⟨w1.heap.size, 0, none⟩ = some (.pointer (some ⟨x.t, 0, none⟩)) := (cell_of hc2).trans rfl
  have hC2 := H.out.col.below hb2
  have keyG := hC2.wav.get r (by rw [Lx_len]; exact hr) hC2.len
  have hsg := (Lx_good t ((Lx t).getD r 0) (by rw [List.getD_eq_getElem?_getD, List.getElem?_eq_getElem (by rw [Lx_len]; exact hr)]; exact List.getElem_mem _))
  have hbk := bk_sum (t := t) r
  obtain ⟨s, hs⟩ : ∃ s, (Lx t).getD r 0 = s := ⟨_, rfl⟩
  rw [hs] at keyG hsg hbk
  have HC2 := Lib.hid hc2
  have H2 := Lib.hid hC2
  have HB2 := Lib.hid hb2
  have HNX := Lib.hid hnx
  have HBK := Lib.hid hbk
  clear hb2 hc2 hnx hC2 hb1 hs hbk
  go_wp2_with fail
  clear hw2
  (with_reducible refine keyG.mono ?_); rintro e w3 ⟨rfl, F', v', hR, -⟩
  clear keyG d0
  have hc3 := hR.stay.kept HC2.out HNX.out
  have c0 : w3.cell? ⟨w1.heap.size, 0, none⟩ = some (.pointer (some ⟨x.t, 0, none⟩)) := (cell_of hc3).trans rfl
  have c1 : w3.cell? ⟨w1.heap.size, 1, none⟩ = some (.pointer (some ⟨T, 0, none⟩)) := (cell_of hc3).trans rfl
  obtain ⟨x', hC3, hS3, hSt3⟩ := Cld.of_red H2.out hR
  have keyA := kahead r s w3 hC3 hS3.t hsg
  rw [Int.toNat_natCast, nrx_sum, ← HBK.out] at keyA
  have HS := Lib.hid (And.intro hS3 hSt3)
  clear hR hc3 hC3 hS3 hSt3
  go_wp2_with fail
  (with_reducible refine keyA.mono ?_); rintro e w4 ⟨rfl, hD⟩
  clear keyA
  have HD := Lib.hid (Cld.ahead HB2.out (Cld.trans HS.out.1 HS.out.2 hD))
  clear hD c0 c1
  go_wp2_with fail
  go_ret
  exact ⟨rfl, HD.out⟩
set_option maxHeartbeats 1600000 in
theorem Wli.back_no {w : World} {b : Nat} {x : Wx} {T : Nat} {t : List UInt8} (h : Wli w b x T t) (k : Int) (hk : k < 0 ∨ (t.length : Int) + 1 ≤ k) :
    Calls Tryz.prog 14 #[.pointer (some ⟨b, 0, none⟩), .int .i64 k] w fun e w' => e = .returned (.int .i64 (-1)) ∧ Cld w w' x T t := by
  have key := kown h
  have H := Lib.hid h
  clear h
  go_enter Tryz.func14, Tryz.ntmps14
  go_wp2_with fail
  (with_reducible refine key.mono ?_); rintro e w1 ⟨rfl, hb1⟩
  clear key
  obtain ⟨w2, hw2⟩ : ∃ w2, w1.alloc (Obj.cells #[.pointer (some ⟨x.t, 0, none⟩), .pointer (some ⟨T, 0, none⟩)] 52) = w2 := ⟨_, rfl⟩
  have hb2 : Below w.heap.size w w2 := by rw [← hw2]; exact Below.allocs hb1 _
  have hc2 : w2.heap[w1.heap.size]? = some (Obj.cells #[.pointer (some ⟨x.t, 0, none⟩), .pointer (some ⟨T, 0, none⟩)] 52) := by rw [← hw2]; exact alloc_of
  have d0 : w2.cell? ⟨w1.heap.size, 0, none⟩ = some (.pointer (some ⟨x.t, 0, none⟩)) := (cell_of hc2).trans rfl
  have hC2 := H.out.col.below hb2
  have keyG := hC2.wav.get_out k (by rw [Lx_len]; omega)
  have H2 := Lib.hid hC2
  have HB2 := Lib.hid hb2
  clear hb2 hC2 hb1 hk hc2
  go_wp2_with fail
  clear hw2
  (with_reducible refine keyG.mono ?_); rintro e w3 ⟨rfl, hR⟩
  clear keyG d0
  have HD := Lib.hid (Cld.ahead HB2.out (Cld.of_red H2.out hR))
  clear hR
  go_wp2_with fail
  go_ret
  exact ⟨rfl, HD.out⟩
end Go.Proofs.YthbbokoeiifjdaaGreatDoor
