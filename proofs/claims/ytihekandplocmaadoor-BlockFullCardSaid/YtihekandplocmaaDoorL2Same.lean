/- same of layer 2's statements: a block tells what the list tells. -/
import Derived.Test.YtihekandplocmaaDoorL2Bits
namespace Go.Proofs.YtihekandplocmaaDoor
open Go Go.ChangeShapes Go.WideShapes Go.ChangeAt Go.RowKit

set_option maxHeartbeats 1600000 in
theorem same_any {l : List Bool} {v : Value} {g : Nat} (k : Int) (w : World) (h : IsBlk w g l) (hv : RdB w v l) (hT : TabAt w) (hw0 : 0 < w.heap.size) (hk : k ≤ 9223372036854775807) :
    Calls Tryd.prog 17 #[.pointer (some ⟨g, 0, none⟩), v, .int .i64 k] w fun e w' => e = .returned (.bool true) ∧ Below w.heap.size w w' := by
  have hlt := h.lt
  have HT := Lib.hid hT
  have HV := Lib.hid hv
  obtain ⟨a, cap, rfl, hm, _⟩ := hv.open
  unfold maxLen at hm
  clear hT
  go_enter Tryd.func17, Tryd.ntmps17
  go_wp2_with fail
  refine (bget_any _ _ h).mono ?_
  rintro e w' ⟨rfl, rfl⟩
  go_wp2_with fail
  refine (rgets_any _ _ HV.out).mono ?_
  rintro e w' ⟨rfl, rfl⟩
  generalize Blk.getB l k = gb at *
  generalize Blk.getE l k = ge at *
  go_wp2_with fail
  refine (blen_any _ h).mono ?_
  rintro e w' ⟨rfl, rfl⟩
  go_wp2_with fail
  refine (ball_any _ h).mono ?_
  rintro e w1 ⟨v1, rfl, hown1, _, hb1⟩
  have hR1 := OwnB.rd hown1
  have hV1 := HV.out.below hb1
  have h1 := h.below hb1 hlt
  have hsz1 := hb1.size
  clear hown1
  go_wp2_with fail
  refine (rsame_eq _ hR1 hV1).mono ?_
  rintro e w2 ⟨rfl, hb2⟩
  have B2 : Below w.heap.size w w2 := hb1.trans (hb2.mono hsz1)
  have h2 := h.below B2 hlt
  have hV2 := HV.out.below B2
  have hT2 := HT.out.below B2 hw0
  have hp2 : 0 < w2.heap.size := by have := B2.size; omega
  clear hb1 hb2 hR1 hV1 h1 h
  go_wp2_with fail
  refine (bones_any _ h2).mono ?_
  rintro e w' ⟨rfl, rfl⟩
  go_wp2_with fail
  refine (rranks_any _ _ _ hV2).mono ?_
  rintro e w' ⟨rfl, rfl⟩
  rw [show Blk.rk true l (l.length : Int).toNat = l.count true from Blk.rk_all (by simp)]
  go_wp2_with fail
  refine (brank_any _ _ h2).mono ?_
  rintro e w' ⟨rfl, rfl⟩
  go_wp2_with fail
  refine (rranks_any _ _ _ hV2).mono ?_
  rintro e w' ⟨rfl, rfl⟩
  go_wp2_with fail
  refine (bsel_any _ _ _ h2 hT2 hp2 hk).mono ?_
  rintro e w3 ⟨rfl, hb3⟩
  have B3 : Below w.heap.size w w3 := B2.trans (hb3.mono B2.size)
  have h3 := h2.below hb3 h2.lt
  have hV3 := hV2.below hb3
  have hT3 := HT.out.below B3 hw0
  have hp3 : 0 < w3.heap.size := by have := B3.size; omega
  clear hb3 h2 hV2 hT2 hp2 B2
  go_wp2_with fail
  refine (rselects_any _ _ _ hV3).mono ?_
  rintro e w' ⟨rfl, rfl⟩
  go_wp2_with fail
  refine (bsel_any _ _ _ h3 hT3 hp3 hk).mono ?_
  rintro e w4 ⟨rfl, hb4⟩
  have B4 : Below w.heap.size w w4 := B3.trans (hb4.mono B3.size)
  have hV4 := hV3.below hb4
  clear hb4 h3 hV3 hT3 hp3 B3
  go_wp2_with fail
  refine (rselects_any _ _ _ hV4).mono ?_
  rintro e w' ⟨rfl, rfl⟩
  go_wp2_with fail
  go_ret
  exact ⟨rfl, B4⟩
end Go.Proofs.YtihekandplocmaaDoor
