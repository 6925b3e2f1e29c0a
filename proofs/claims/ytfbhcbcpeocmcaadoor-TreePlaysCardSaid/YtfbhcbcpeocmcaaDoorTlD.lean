/- TreeUndo as a walk. -/
import Derived.Test.YtfbhcbcpeocmcaaDoorTlC
import Derived.Test.YtfbhcbcpeocmcaaDoorBits5
import Derived.Test.YtfbhcbcpeocmcaaDoorLaidB
namespace Go.Proofs.YtfbhcbcpeocmcaaDoor
open Go Go.ChangeShapes Go.WideShapes Go.ChangeAt Go.RowKit Tr

theorem del_ins {m : List Bool} {k : Nat} {b : Bool} (hk : k ≤ m.length) : Blk.del (Blk.ins m k b) k = m := by
  unfold Blk.del Blk.ins
  have h : (m.take k).length = k := by rw [List.length_take]; omega
  rw [List.take_append_of_le_length (by omega), List.take_of_length_le (by omega), List.drop_append, List.drop_of_length_le (by omega), List.nil_append, h, show k + 1 - k = 1 by omega]
  show m.take k ++ m.drop k = m
  exact List.take_append_drop _ _
theorem ins_at {m : List Bool} {k : Nat} {b : Bool} (hk : k ≤ m.length) : (Blk.ins m k b).getD k false = b := by
  unfold Blk.ins
  have h : (m.take k).length = k := by rw [List.length_take]; omega
  rw [List.getD_eq_getElem?_getD, List.getElem?_append_right (by omega), h, Nat.sub_self]
  rfl
theorem Tre.shp {base t : Nat} {w : World} {S : St} {m : List Bool} (h : Tre base w t S m) (hlen : m.length ≤ 1000000) :
    ∃ ln ht lv nd : Nat, Calls Tryd.prog 17 #[.pointer (some ⟨t, 0, none⟩)] w (fun e w' => e = .returned (.agg #[.int .i64 ln, .int .i64 ht, .int .i64 lv, .int .i64 nd]) ∧ Below w.heap.size w w') ∧
      (∀ w', Calls Tryd.prog 32 #[.agg #[.int .i64 ln, .int .i64 ht, .int .i64 lv, .int .i64 nd]] w' fun e w'' => e = .returned (.bool true) ∧ Below w'.heap.size w' w'') ∧ Hid (ht = S.rt.ht ∧ ln = m.length ∧ nd = S.live) :=
  ⟨S.rt.len, S.rt.ht, (S.live + 1) / 2, S.live, tshape w h (by omega), fun w' => kmay w' h.2 (by omega) h.1.live_le, Lib.hid ⟨rfl, h.2.len, rfl⟩⟩
/-- What a statement holds while it goes on: a tree, and the list beside it. -/
structure Two (B : Nat) (w1 wr : World) (t : Nat) (S : St) (m : List Bool) : Prop where
  tre : Tre B wr t S m
  below : Below B w1 wr
set_option maxHeartbeats 3200000 in
theorem treeundo_w (a0 : Option Addr) (len0 cap0 : Nat) (z0 : List Int) (a1 : Option Addr) (len1 cap1 : Nat) (z1 : List Int) (b : Bool) (W : World) (r0 : IsRow .i64 W a0 len0 cap0 z0) (r1 : IsRow .i64 W a1 len1 cap1 z1) (hL : LaidFact W) :
    Calls Tryd.prog 8 #[.slice a0 len0 cap0, .slice a1 len1 cap1, .bool b] W fun e w' => e = .returned (.bool true) ∧ Below W.heap.size W w' := by
  have hrd := RdI.of_row r0
  have hr1 := RdI.of_row r1
  have hlc : len1 ≤ cap1 ∧ cap1 ≤ maxLen := by
    rcases r1 with ⟨_, rfl, rfl, _⟩ | ⟨_, _, h1, h2, _⟩
    · exact ⟨Nat.le_refl _, by decide⟩
    · exact ⟨h1, h2⟩
  have hkk := room_int hlc.1 hlc.2
  have HR1 := Lib.hid hr1.2
  have HT := Lib.hid hL.tab
  have hW0 := hL.pos
  have key := bits_any a0 len0 cap0 700 W hrd (by decide)
  clear r0 r1 hL hrd hr1 hlc
  go_enter Tryd.func8, Tryd.ntmps8
  go_wp2_with fail
  refine key.mono ?_
  rintro e w1 ⟨v, m, rfl, hown, hLL, hb1⟩
  have hsz1 := hb1.size
  have hRD := OwnB.rd hown
  obtain ⟨av, cv, rfl, _, _⟩ := own_form hown
  have hml : (m.length : Int) ≤ 700 := by omega
  have key := tnew w1 hRD (by omega)
  have HRD := Lib.hid hRD
  have HB1 := Lib.hid hb1
  clear hown hRD hb1
  go_wp2_with fail
  (with_reducible refine key.mono ?_); rintro e w2 ⟨S0, rfl, hN⟩
  have h2 : Two w1.heap.size w1 w2 w1.heap.size S0 m := ⟨hN.tre, hN.below⟩
  clear hN key
  go_wp2_with fail
  go_loopw [9, 10, 11, 12] (fun i _ _ _ wr => ∃ (j : Nat) (S : St), j ≤ len1 ∧ i = .int .i64 j ∧ Two w1.heap.size w1 wr w1.heap.size S m) (fun i _ _ _ _ => len1 - (intOf i).toNat)
  case atStart => exact ⟨0, S0, Nat.zero_le _, rfl, h2⟩
  case round =>
    obtain ⟨j, S, hj, rfl, h⟩ := hrel
    by_cases hlt : j < len1 ∧ j < 20
    · obtain ⟨hlt1, hlt2⟩ := hlt
      have hi1 : (j : Int) < len1 := by omega
      have hi2 : (j : Int) < 20 := by omega
      have hi3 : (j : Int) < cap1 := by omega
      obtain ⟨bb, off, rfl, hbb, hc⟩ := HR1.out (by omega)
      obtain ⟨z, hz, _⟩ := hc j hlt1
      have hbw : Below W.heap.size W wr := HB1.out.trans (h.below.mono hsz1)
      have hz' := (hbw.cell (p := ⟨bb, off + j, none⟩) hbb).trans hz
      have key := near_any z m.length wr (by omega)
      have HH := Lib.hid h
      clear hc hz h hbw
      go_wp2_with fail
      (with_reducible refine key.mono ?_); rintro e w3 ⟨rfl, k, hk, rfl⟩
      have key := kins (Blk.ins m k b) k k b wr HH.out.tre rfl hk (by omega) rfl
      have HK := Lib.hid hk
      clear hk hz'
      go_wp2_with fail
      (with_reducible refine key.mono ?_); rintro e w4 ⟨rfl, S4, hI, hb4⟩
      have hbW4 := HH.out.below.trans hb4
      have key := kdel m k k b w4 hI.tre rfl (by rw [Blk.ins_len HK.out]; have := HK.out; omega) (by rw [Blk.ins_len HK.out]; omega) (ins_at HK.out) (del_ins HK.out)
      clear hI hb4
      go_wp2_with fail
      (with_reducible refine key.mono ?_); rintro e w5 ⟨rfl, S5, hD, hb5⟩
      have h5 : Two w1.heap.size w1 w5 w1.heap.size S5 m := ⟨hD.tre, hbW4.trans hb5⟩
      clear hD hb5 key hbW4
      go_wp2_with fail
      go_roundw
      case rel => exact ⟨j + 1, S5, hlt1, by go_num, h5⟩
      case measure => simp [intOf]; omega
    · have hbw : Below W.heap.size W wr := HB1.out.trans (h.below.mono hsz1)
      have key := told_any wr (HT.out.below hbw hW0) (by have := hbw.size; omega)
      have HH := Lib.hid h
      have HBW := Lib.hid hbw
      clear h hbw
      have hor : ¬ (j : Int) < len1 ∨ ((j : Int) < len1 ∧ ¬ (j : Int) < 20) := by omega
      clear hlt
      rcases hor with hj1 | ⟨hj1, hj2⟩
      all_goals
        go_wp2_with fail
        (with_reducible refine key.mono ?_); rintro e w3 ⟨rfl, hb3⟩
        have hT3 := HH.out.tre.below hb3
        have key2 := tall w3 hT3 (by omega)
        have hbw3 := HBW.out.trans (hb3.mono HBW.out.size)
        have hR3 : RdB w3 (.slice av m.length cv) m := HRD.out.below (HH.out.below.trans (hb3.mono (by have := HH.out.below.size; omega)))
        have HT3 := Lib.hid hT3
        have HR3 := Lib.hid hR3
        clear hb3 hT3 hR3
        go_wp2_with fail
        (with_reducible refine key2.mono ?_); rintro e w4 ⟨v4, rfl, hown4, hb4⟩
        have hT4 := HT3.out.below hb4
        have hbw4 := hbw3.trans (hb4.mono hbw3.size)
        obtain ⟨a4, c4, rfl, _, _⟩ := own_form hown4
        have key3 := rsame_eq w4 (OwnB.rd hown4) (HR3.out.below hb4)
        clear hown4 hb4 hbw3
        go_wp2_with fail
        (with_reducible refine key3.mono ?_); rintro e w5 ⟨rfl, hb5⟩
        have hT5 := hT4.below hb5
        have hbw5 := hbw4.trans (hb5.mono hbw4.size)
        obtain ⟨ln, ht, lv, nd, key4, key5', _⟩ := hT5.shp (by omega)
        clear hb5 hT4 hbw4
        go_wp2_with fail
        (with_reducible refine key4.mono ?_); rintro e w6 ⟨rfl, hb6⟩
        have key5 := key5' w6
        have hbw6 := hbw5.trans (hb6.mono hbw5.size)
        clear hb6 hT5 hbw5
        go_wp2_with fail
        (with_reducible refine key5.mono ?_); rintro e w7 ⟨rfl, hb7⟩
        have hbw7 := hbw6.trans (hb7.mono hbw6.size)
        clear hb7 hbw6
        go_wp2_with fail
        go_ret
        exact ⟨rfl, hbw7⟩
end Go.Proofs.YtfbhcbcpeocmcaaDoor
