/- BlockOwn as a walk. -/
import Derived.Test.YtihekandplocmaaDoorL2Same
import Derived.Test.YtihekandplocmaaDoorLaidB
namespace Go.Proofs.YtihekandplocmaaDoor
open Go Go.ChangeShapes Go.WideShapes Go.ChangeAt Go.RowKit

set_option maxHeartbeats 1600000 in
theorem own_w (a0 : Option Addr) (len0 cap0 : Nat) (z0 : List Int) (W : World) (w0 : IsRow .i64 W a0 len0 cap0 z0) (hL : LaidFact W) :
    Calls Tryd.prog 7 #[.slice a0 len0 cap0] W fun e w' => e = .returned (.bool true) ∧ Below W.heap.size W w' := by
  have hrd := RdI.of_row w0
  have HT := Lib.hid hL.tab
  have hW0 := hL.pos
  clear w0 hL
  go_enter Tryd.func7, Tryd.ntmps7
  go_wp2_with fail
  refine (bits_any _ _ _ 128 _ hrd (by decide)).mono ?_
  rintro e w1 ⟨v, L, rfl, hown, hLL, hb1⟩
  have hsz1 := hb1.size
  by_cases hpos : 0 < L.length
  · obtain ⟨b, cap, rfl, hbb, hblt, hlc, hmax, hc, hf⟩ := hown.open hpos
    have hm : (cap : Int) ≤ 9223372036854775807 := by unfold maxLen at hmax; omega
    have hRD := Lib.hid (OwnB.rd hown)
    have h1 : ¬ (L.length : Int) < 1 := by omega
    have hpos' : (0 : Int) < L.length := by omega
    obtain ⟨x, HX⟩ : ∃ x, Hid (L.getD 0 false = x) := ⟨_, Lib.hid rfl⟩
    have hc0 := hc 0 hpos
    rw [HX.out] at hc0
    have hf0 := hf 0
    clear hc hf hown hmax
    go_wp2_with fail
    refine (bnew_rd _ hRD.out hLL).mono ?_
    rintro e w2 ⟨g, rfl, hg, hblk, hb2⟩
    have hsz2 := hb2.size
    have hc2 := (hb2.cell (p := ⟨b, 0, none⟩) hblt).trans hc0
    have hf2 := (hb2.frozen (p := ⟨b, 0, none⟩) hblt).trans hf0
    have hBlk3 : IsBlk (w2.setCell ⟨b, 0, none⟩ (.bool (!x))) g L := hblk.stay ((Stay.refl (· = b) w2).setCell (p := ⟨b, 0, none⟩) (.inr rfl) _) (by omega)
    have B3 : Below W.heap.size W (w2.setCell ⟨b, 0, none⟩ (.bool (!x))) := (hb1.trans (hb2.mono hsz1)).setCell (p := ⟨b, 0, none⟩) hbb _
    have HB3 := Lib.hid (And.intro hBlk3 B3)
    clear hblk hb2 hb1 hc0 hf0 hBlk3 B3
    go_wp2_with fail
    have hB3 := HB3.out
    generalize w2.setCell ⟨b, 0, none⟩ (.bool (!x)) = w3 at *
    obtain ⟨hBlk3, B3⟩ := hB3
    have hsz3 := B3.size
    refine (ball_any _ hBlk3).mono ?_
    rintro e w4 ⟨v4, rfl, hown4, _, hb4⟩
    obtain ⟨b4, cap4, rfl, hbb4, hblt4, hlc4, hmax4, hc4, hf4⟩ := hown4.open hpos
    have hm4 : (cap4 : Int) ≤ 9223372036854775807 := by unfold maxLen at hmax4; omega
    have hc40 := hc4 0 hpos
    rw [HX.out] at hc40
    have hf40 := hf4 0
    have hsz4 := hb4.size
    have hblk4 := hBlk3.below hb4 hBlk3.lt
    have hgl := hBlk3.lt
    have B4 : Below W.heap.size W w4 := B3.trans (hb4.mono hsz3)
    have HB5 := Lib.hid (fun (u : Value) => And.intro (hblk4.stay ((Stay.refl (· = b4) w4).setCell (p := ⟨b4, 0, none⟩) (.inr rfl) u) (by omega)) (B4.setCell (p := ⟨b4, 0, none⟩) (by show W.heap.size ≤ b4; omega) u))
    clear hown4 hc4 hf4 hb4 hblk4 hBlk3 hmax4
    go_wp2_with fail
    have hB5 := HB5.out (.bool (!x))
    generalize w4.setCell ⟨b4, 0, none⟩ (.bool (!x)) = w5 at *
    obtain ⟨hBlk5, B5⟩ := hB5
    refine (bget_any _ _ hBlk5).mono ?_
    rintro e w' ⟨rfl, rfl⟩
    rw [show Blk.getB L 0 = L.getD 0 false from if_pos ⟨by decide, hpos'⟩, show Blk.getE L 0 = 0 from if_pos ⟨by decide, hpos'⟩, HX.out]
    have hT5 := HT.out.below B5 hW0
    go_wp2_with fail
    refine (told_any _ hT5 (by have := B5.size; omega)).mono ?_
    rintro e w6 ⟨rfl, hb6⟩
    have B6 := B5.trans (hb6.mono B5.size)
    go_wp2_with fail
    go_ret
    exact ⟨rfl, B6⟩
  · obtain ⟨aa, cc, rfl, _, _⟩ := (OwnB.rd hown).open
    have h1 : (L.length : Int) < 1 := by omega
    go_wp2_with fail
    refine (told_any _ (HT.out.below hb1 hW0) (by omega)).mono ?_
    rintro e w6 ⟨rfl, hb6⟩
    have B6 := hb1.trans (hb6.mono hsz1)
    go_wp2_with fail
    go_ret
    exact ⟨rfl, B6⟩
end Go.Proofs.YtihekandplocmaaDoor
