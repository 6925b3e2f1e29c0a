/- TreeOwn as a walk. -/
import Derived.Test.YtfbhcbcpeocmcaaDoorTlA
import Derived.Test.YtfbhcbcpeocmcaaDoorBits5
import Derived.Test.YtfbhcbcpeocmcaaDoorLaidB
namespace Go.Proofs.YtfbhcbcpeocmcaaDoor
open Go Go.ChangeShapes Go.WideShapes Go.ChangeAt Go.RowKit Tr

set_option maxHeartbeats 1600000 in
theorem treeown_w (a0 : Option Addr) (len0 cap0 : Nat) (z0 : List Int) (W : World) (w0 : IsRow .i64 W a0 len0 cap0 z0) (hL : LaidFact W) :
    Calls Tryd.prog 9 #[.slice a0 len0 cap0] W fun e w' => e = .returned (.bool true) ∧ Below W.heap.size W w' := by
  have hrd := RdI.of_row w0
  have HT := Lib.hid hL.tab
  have hW0 := hL.pos
  have key := bits_any a0 len0 cap0 300 W hrd (by decide)
  clear w0 hL hrd
  go_enter Tryd.func9, Tryd.ntmps9
  go_wp2_with fail
  refine key.mono ?_
  rintro e w1 ⟨v, L, rfl, hown, hLL, hb1⟩
  have hsz1 := hb1.size
  clear key
  by_cases hpos : 0 < L.length
  · obtain ⟨b, cap, rfl, hbb, hblt, hlc, hmax, hc, hf⟩ := OwnB.opens hown hpos
    have hm : (cap : Int) ≤ 9223372036854775807 := by unfold maxLen at hmax; omega
    have hRD := OwnB.rd hown
    have h1 : ¬ (L.length : Int) < 1 := by omega
    have hpos' : (0 : Int) < L.length := by omega
    have hlci : (L.length : Int) ≤ cap := by omega
    obtain ⟨x, HX⟩ : ∃ x, Hid (L.getD 0 false = x) := ⟨_, Lib.hid rfl⟩
    have hc0 := hc 0 hpos
    rw [HX.out] at hc0
    have hf0 := hf 0
    have key := tnew w1 hRD (by omega)
    clear hc hf hown hmax hRD
    go_wp2_with fail
    (with_reducible refine key.mono ?_); rintro e w2 ⟨S, rfl, hN⟩
    have hb2 := hN.below
    have hsz2 := hb2.size
    have hc2 := (hb2.cell (p := ⟨b, 0, none⟩) hblt).trans hc0
    have hf2 := (hb2.frozen (p := ⟨b, 0, none⟩) hblt).trans hf0
    have hst3 : Stay (fun i => i = b) w2 (w2.setCell ⟨b, 0, none⟩ (.bool (!x))) := Stay.setCell (S := fun i => i = b) (Stay.refl _ _) (p := ⟨b, 0, none⟩) (.inr rfl) _
    have hTr3 : Tre w1.heap.size (w2.setCell ⟨b, 0, none⟩ (.bool (!x))) w1.heap.size S L := hN.tre.apart (t := b) hst3 hblt
    have B3 : Below W.heap.size W (w2.setCell ⟨b, 0, none⟩ (.bool (!x))) := (hb1.trans (hb2.mono hsz1)).setCell (p := ⟨b, 0, none⟩) hbb _
    have HB3 := Lib.hid (And.intro hTr3 B3)
    have hsz3 : w1.heap.size ≤ (w2.setCell ⟨b, 0, none⟩ (.bool (!x))).heap.size := Nat.le_trans hsz2 hst3.size
    clear hN hb2 hc0 hf0 hTr3 B3 hst3 key
    go_wp2_with fail
    have hB3 := HB3.out
    clear HB3
    generalize w2.setCell ⟨b, 0, none⟩ (.bool (!x)) = w3 at *
    obtain ⟨hTr3, B3⟩ := hB3
    have key := tall w3 hTr3 (by omega)
    (with_reducible refine key.mono ?_); rintro e w4 ⟨v4, rfl, hown4, hb4⟩
    obtain ⟨b4, cap4, rfl, hbb4, hblt4, hlc4, hmax4, hc4, hf4⟩ := OwnB.opens hown4 hpos
    have hm4 : (cap4 : Int) ≤ 9223372036854775807 := by unfold maxLen at hmax4; omega
    have hlci4 : (L.length : Int) ≤ cap4 := by omega
    have hc40 := hc4 0 hpos
    rw [HX.out] at hc40
    have hf40 := hf4 0
    have hsz4 := hb4.size
    have hTr4 := hTr3.below hb4
    have B4 : Below W.heap.size W w4 := B3.trans (hb4.mono B3.size)
    have ht3 := hTr3.1.lt
    have hst5 : Stay (fun i => i = b4) w4 (w4.setCell ⟨b4, 0, none⟩ (.bool (!x))) := Stay.setCell (S := fun i => i = b4) (Stay.refl _ _) (p := ⟨b4, 0, none⟩) (.inr rfl) _
    have hTr5 : Tre w1.heap.size (w4.setCell ⟨b4, 0, none⟩ (.bool (!x))) w1.heap.size S L := ⟨hTr4.1.stay hst5 (fun i hi e => by
      subst e
      exact hi (hTr3.1.new hbb4)), hTr4.2⟩
    have B5 : Below W.heap.size W (w4.setCell ⟨b4, 0, none⟩ (.bool (!x))) := B4.setCell (p := ⟨b4, 0, none⟩) (by have := B3.size; show W.heap.size ≤ b4; omega) _
    have HB5 := Lib.hid (And.intro hTr5 B5)
    clear hown4 hc4 hf4 hb4 hTr4 hTr3 hmax4 hTr5 B5 B4 B3 hst5 key
    go_wp2_with fail
    have hB5 := HB5.out
    clear HB5
    generalize w4.setCell ⟨b4, 0, none⟩ (.bool (!x)) = w5 at *
    obtain ⟨hTr5, B5⟩ := hB5
    have key := kget_at 0 x 0 w5 hTr5 (by omega) (by unfold Blk.getB; rw [if_pos ⟨by decide, hpos'⟩]; exact HX.out) (by unfold Blk.getE; rw [if_pos ⟨by decide, hpos'⟩])
    (with_reducible refine key.mono ?_); rintro e w6 ⟨rfl, v6, hTr6, hb6, _, _⟩
    have B6 := B5.trans (hb6.mono hsz1)
    have key := told_any w6 (HT.out.below B6 hW0) (by have := B6.size; omega)
    clear hTr5 B5 hTr6 hb6
    go_wp2_with fail
    (with_reducible refine key.mono ?_); rintro e w7 ⟨rfl, hb7⟩
    have B7 := B6.trans (hb7.mono B6.size)
    clear key hb7 B6
    go_wp2_with fail
    go_ret
    exact ⟨ret_bool (by simp), B7⟩
  · have h0 : L.length = 0 := by omega
    obtain rfl : L = [] := List.eq_nil_of_length_eq_zero h0
    have key := told_any w1 (HT.out.below hb1 hW0) (by omega)
    obtain ⟨a, cap, rfl, _, _⟩ := own_form hown
    clear hown
    go_wp2_with fail
    (with_reducible refine key.mono ?_); rintro e w7 ⟨rfl, hb7⟩
    have B7 := hb1.trans (hb7.mono hb1.size)
    clear key hb7
    go_wp2_with fail
    go_ret
    exact ⟨rfl, B7⟩
end Go.Proofs.YtfbhcbcpeocmcaaDoor
