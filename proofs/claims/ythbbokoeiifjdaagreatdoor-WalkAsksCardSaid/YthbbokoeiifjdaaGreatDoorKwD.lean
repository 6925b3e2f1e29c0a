/- A walk in memory: Narrow. -/
import Derived.Test.YthbbokoeiifjdaaGreatDoorKwC
namespace Go.Proofs.YthbbokoeiifjdaaGreatDoor
open Go Go.RowKit Go.ChangeAt Tr Wk

theorem narrow_no (v : Value) (lo hi s : Int) (w : World) (hs : ¬ (0 ≤ s ∧ s ≤ 256)) :
    Calls Tryz.prog 9 #[v, .int .i64 lo, .int .i64 hi, .int .i64 s] w fun e w' => e = .returned (.tuple #[.int .i64 0, .int .i64 0]) ∧ w = w' := by
  by_cases h0 : s < 0
  · clear hs
    go_enter Tryz.func9, Tryz.ntmps9
    go_wp2_with fail
    go_ret2
    exact ⟨rfl, rfl⟩
  · have h1 : 257 ≤ s := by omega
    clear hs
    go_enter Tryz.func9, Tryz.ntmps9
    go_wp2_with fail
    go_ret2
    exact ⟨rfl, rfl⟩
set_option maxHeartbeats 3200000 in
theorem Wli.narrow {w : World} {b : Nat} {x : Wx} {T : Nat} {t : List UInt8} (h : Wli w b x T t) (lo hi mx s : Int) (hs : 0 ≤ s ∧ s ≤ 256) (hmx : max lo hi = mx) :
    Calls Tryz.prog 9 #[.pointer (some ⟨b, 0, none⟩), .int .i64 lo, .int .i64 hi, .int .i64 s] w fun e w' => e = .returned (.tuple #[.int .i64 (nrx t lo.toNat s), .int .i64 (nrx t mx.toNat s)]) ∧ Cld w w' x T t := by
  have key := kown h
  have H := Lib.hid h
  have s0 : ¬ s < 0 := by omega
  have s1 : ¬ 257 ≤ s := by omega
  have HS := Lib.hid hs
  obtain ⟨NA, hNA⟩ : ∃ N, nrx t lo.toNat s = N := ⟨_, rfl⟩
  obtain ⟨NM, hNM⟩ : ∃ N, nrx t mx.toNat s = N := ⟨_, rfl⟩
  have HNA := Lib.hid hNA
  have HNM := Lib.hid hNM
  rw [hNA, hNM]
  clear h hs hNA hNM
  go_enter Tryz.func9, Tryz.ntmps9
  go_wp2_with fail
  (with_reducible refine key.mono ?_); rintro e w1 ⟨rfl, hb1⟩
  clear key s0 s1
  obtain ⟨w2, hw2⟩ : ∃ w2, w1.alloc (Obj.cells #[.pointer (some ⟨x.t, 0, none⟩), .pointer (some ⟨T, 0, none⟩)] 52) = w2 := ⟨_, rfl⟩
  have hb2 : Below w.heap.size w w2 := by rw [← hw2]; exact Below.allocs hb1 _
  have hc2 : w2.heap[w1.heap.size]? = some (Obj.cells #[.pointer (some ⟨x.t, 0, none⟩), .pointer (some ⟨T, 0, none⟩)] 52) := by rw [← hw2]; exact alloc_of
  have o1 : w2.drew.cell? ⟨w1.heap.size, 0, none⟩ = some (.pointer (some ⟨x.t, 0, none⟩)) := (cell_of hc2).trans rfl
  have o2 : w2.drew.cell? ⟨w1.heap.size, 1, none⟩ = some (.pointer (some ⟨T, 0, none⟩)) := (cell_of hc2).trans rfl
  have hC2 : Col w2.drew x T t := H.out.col.below hb2.drew
  have kA := kahead lo s w2.drew hC2 rfl HS.out
  have kM := kahead mx s w2.drew hC2 rfl HS.out
  have HNX := Lib.hid (H.out.hnx hb1.size)
  have HB2 := Lib.hid hb2.drew
  rw [HNA.out] at kA
  rw [HNM.out] at kM
  clear hb2 hc2 hC2 hb1
  go_wp2_with fail
  clear hw2
  go_region_held3 (fun w' => w'.cell? ⟨w1.heap.size, 0, none⟩ = some (.pointer (some ⟨x.t, 0, none⟩)) ∧ w'.cell? ⟨w1.heap.size, 1, none⟩ = some (.pointer (some ⟨T, 0, none⟩)))
    (first | exact ⟨o1, o2⟩ | exact ⟨q1, q2⟩ | exact ⟨r1, r2⟩ | go_keep)
    (first
     | (go_at_call 28; (with_reducible refine kA.mono ?_); rintro e w3 ⟨rfl, x', hC3, hS3, hSt3⟩; (have q1 := (hSt3.cell (p := ⟨w1.heap.size, 0, none⟩) (block_lt_of_cell o1) HNX.out).trans o1); (have q2 := (hSt3.cell (p := ⟨w1.heap.size, 1, none⟩) (block_lt_of_cell o2) HNX.out).trans o2); (have kM' := kahead mx s w3 hC3 hS3.t HS.out); (rw [HNM.out] at kM'); (have HX := Lib.hid (And.intro hS3 hSt3)); clear hC3 hS3 hSt3 kA kM)
     | (go_at_call 28; (with_reducible refine kM.mono ?_); rintro e w3 ⟨rfl, x', hC3, hS3, hSt3⟩; (have q1 := (hSt3.cell (p := ⟨w1.heap.size, 0, none⟩) (block_lt_of_cell o1) HNX.out).trans o1); (have q2 := (hSt3.cell (p := ⟨w1.heap.size, 1, none⟩) (block_lt_of_cell o2) HNX.out).trans o2); (have kA' := kahead lo s w3 hC3 hS3.t HS.out); (rw [HNA.out] at kA'); (have HX := Lib.hid (And.intro hS3 hSt3)); clear hC3 hS3 hSt3 kA kM)
     | (go_at_call 28; (first | (with_reducible refine kM'.mono ?_) | (with_reducible refine kA'.mono ?_)); rintro e w4 ⟨rfl, hD4⟩; (have r1 : w4.cell? ⟨w1.heap.size, 0, none⟩ = some (.pointer (some ⟨x.t, 0, none⟩)) := (hD4.stay_cell (p := ⟨w1.heap.size, 0, none⟩) (block_lt_of_cell q1) (fun ho => HNX.out ((HX.out.1.own _).1 ho))).trans q1); (have r2 : w4.cell? ⟨w1.heap.size, 1, none⟩ = some (.pointer (some ⟨T, 0, none⟩)) := (hD4.stay_cell (p := ⟨w1.heap.size, 1, none⟩) (block_lt_of_cell q2) (fun ho => HNX.out ((HX.out.1.own _).1 ho))).trans q2); (have HD := Lib.hid (Cld.ahead HB2.out (Cld.trans HX.out.1 HX.out.2 hD4))); clear hD4))
  all_goals
    go_wp2_with fail
    go_ret2
    exact ⟨rfl, HD.out⟩
end Go.Proofs.YthbbokoeiifjdaaGreatDoor
