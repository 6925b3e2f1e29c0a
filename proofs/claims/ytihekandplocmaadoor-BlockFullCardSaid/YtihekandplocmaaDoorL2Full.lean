/- BlockFull as a walk. -/
import Derived.Test.YtihekandplocmaaDoorL2Same
import Derived.Test.YtihekandplocmaaDoorLaidB
namespace Go.Proofs.YtihekandplocmaaDoor
open Go Go.ChangeShapes Go.WideShapes Go.ChangeAt Go.RowKit

theorem ins_del {l : List Bool} {k : Nat} (hk : k < l.length) : Blk.ins (Blk.del l k) k (l.getD k false) = l := by
  unfold Blk.ins Blk.del
  have ht : (l.take k).length = k := by rw [List.length_take]; omega
  rw [List.take_append_of_le_length (by omega), List.take_of_length_le (by omega), List.drop_append_of_le_length (by omega), List.drop_of_length_le (by omega), List.nil_append, List.getD_eq_getElem?_getD, List.getElem?_eq_getElem hk, Option.getD_some, ← List.drop_eq_getElem_cons hk, List.take_append_drop]
theorem key128 (k : Int) : ∃ n : Nat, n < 128 ∧ RowKit.wrap64 ((IntKind.u64.wrap k).tmod 128) = (n : Int) := by
  have h0 : 0 ≤ k % 18446744073709551616 := Int.emod_nonneg _ (by decide)
  have h2 : (k % 18446744073709551616).tmod 128 = k % 18446744073709551616 % 128 := Int.tmod_eq_emod_of_nonneg h0
  rw [IntKind.wrap_u64, h2]
  refine ⟨(k % 18446744073709551616 % 128).toNat, by omega, ?_⟩
  unfold RowKit.wrap64
  omega
def lenOf : Value → Nat | .slice _ n _ => n | _ => 0

set_option maxHeartbeats 1600000 in
theorem full_w (a0 : Option Addr) (len0 cap0 : Nat) (z0 : List Int) (a1 : Int) (W : World) (w0 : IsRow .i64 W a0 len0 cap0 z0) (_ : (Lit.int .i64 a1).wf = true) (hL : LaidFact W) :
    Calls Tryd.prog 4 #[.slice a0 len0 cap0, .int .i64 a1] W fun e w' => e = .returned (.bool true) ∧ Below W.heap.size W w' := by
  obtain ⟨i0, hi, hz0, hz1, hz2⟩ := info_parts infoB
  have hrd := RdI.of_row w0
  have HT := Lib.hid hL.tab
  have hW0 := hL.pos
  obtain ⟨n, hn, hkey⟩ := key128 a1
  have HKEY := Lib.hid hkey
  clear w0 hL hkey
  go_enter Tryd.func4, Tryd.ntmps4
  go_wp2_with fail
  refine (bits_any _ _ _ 128 _ hrd (by decide)).mono ?_
  rintro e w1 ⟨v, L, rfl, hown, hLL, hb1⟩
  have hsz1 := hb1.size
  go_wp2_with fail
  go_loopw [5] (fun v wr => ∃ L : List Bool, L.length ≤ 128 ∧ OwnB W.heap.size wr v L ∧ Below W.heap.size W wr) (fun v _ => 128 - lenOf v)
  case atStart => exact ⟨L, hLL, hown, hb1⟩
  case round =>
    clear hown hLL L hb1 hsz1
    obtain ⟨L, hLL, hown, hb⟩ := hrel
    have hsz := hb.size
    obtain ⟨aa, cc, rfl, hmm, hrd0⟩ := (OwnB.rd hown).open
    by_cases hlt : L.length < 128
    · have h1 : (L.length : Int) < 128 := by omega
      have HOWN := Lib.hid hown
      clear hown hrd0
      go_wp2_with (first
        | (at_builtin; (refine wpList_append_own _ rfl (.tmp 18) (.tmp 23) 24 rfl W.heap.size 4 i0 (.bool false) 1 1 Tryd.underlying24 hi hz0 hz1 hz2 rfl (by decide) _ _ _ rfl (World.ownsRow.alloc HOWN.out _) ⟨wr.heap.size, 0, none⟩ 1 1 [.bool _] rfl rfl (cell_one_new _ _ _) (fun u hu => by simp at hu; subst hu; rfl) (by unfold maxLen; omega) (by omega) (by simp; omega) ?_); intro v' w3 hown3 hgrow3 hnil3))
      have hb3 : Below W.heap.size W w3 := (hb.alloc hsz _).grown hgrow3 (by simp; omega) (fun q hq => (HOWN.out.lt q hq).1)
      have hr : OwnB W.heap.size w3 v' (L ++ [_]) := OwnB.push hown3
      obtain ⟨aa', cc', rfl, _, _⟩ := (OwnB.rd hr).open
      have HR := Lib.hid hr
      clear hown3 hgrow3 hnil3 hr
      go_wp2_with fail
      go_roundw
      case rel => exact ⟨_, by simp; omega, HR.out, hb3⟩
      case measure => simp [lenOf]; omega
    · have hL128 : L.length = 128 := by omega
      have HL := Lib.hid hL128
      have h1 : ¬ (L.length : Int) < 128 := by omega
      have hRD := Lib.hid (OwnB.rd hown)
      have HRD0 := Lib.hid hrd0
      clear hlt hL128 hrd0 hown
      go_wp2_with fail
      refine (bnew_rd _ hRD.out hLL).mono ?_
      rintro e w2 ⟨g, rfl, hg, hblk, hb2⟩
      have hC := fun (w' : World) (h : Below wr.heap.size wr w') => And.intro (hRD.out.below h) (And.intro (hb.trans (h.mono hsz)) (HT.out.below (hb.trans (h.mono hsz)) hW0))
      have HC := Lib.hid hC
      clear hC
      go_wp2_with fail
      rw [HKEY.out]
      have hnL : Hid (n < L.length) := Lib.hid (by have := HL.out; omega)
      have hgw := hblk.lt
      have hLN : Hid (n ≤ L.length - 1 ∧ L.length - 1 < 128) := Lib.hid (by have := HL.out; omega)
      obtain ⟨c, HCB⟩ : ∃ c, Hid (L.getD n false = c) := ⟨_, Lib.hid rfl⟩
      have hlenD := Lib.hid (Blk.del_len (l := L) (k := n) hnL.out)
      have hid : Hid (Blk.ins (Blk.del L n) n c = L) := by
        have := ins_del hnL.out
        rw [HCB.out] at this
        exact Lib.hid this
      refine (bins_full _ _ _ hblk HL.out).mono ?_
      rintro e w' ⟨rfl, rfl⟩
      go_wp2_with fail
      refine (bdel_to _ n n c _ hblk rfl hnL.out HCB.out rfl).mono ?_
      rintro e w3 ⟨rfl, hblk3, hs3⟩
      have C3 : Below wr.heap.size wr w3 := hb2.trans (hs3.below hb2.size (fun i _ h => by omega))
      clear hb2 hs3 hblk
      go_wp2_with fail
      refine (bins_to L n n c _ hblk3 (by rw [hlenD.out]; exact hLN.out.2) rfl (by rw [hlenD.out]; exact hLN.out.1) hid.out).mono ?_
      rintro e w4 ⟨rfl, hblk4, hs4⟩
      have C4 : Below wr.heap.size wr w4 := C3.trans (hs4.below C3.size (fun i _ h => by omega))
      clear hs4 hblk3 C3
      go_wp2_with fail
      refine (told_any _ (HC.out _ C4).2.2 (by have := C4.size; omega)).mono ?_
      rintro e w5 ⟨rfl, hb5⟩
      have C5 := C4.trans (hb5.mono C4.size)
      have hblk5 := hblk4.below hb5 hblk4.lt
      obtain ⟨b, off, rfl, hbl, hcell⟩ := HRD0.out (by have := hnL.out; omega)
      have hc5 := (C5.cell (p := ⟨b, off + n, none⟩) hbl).trans (hcell n hnL.out)
      rw [HCB.out] at hc5
      have hn1 : (n : Int) < L.length := by have := hnL.out; omega
      clear hb5 hblk4 C4 hcell
      go_wp2_with fail
      refine (ball_any _ hblk5).mono ?_
      rintro e w6 ⟨v6, rfl, hown6, _, hb6⟩
      have C6 := C5.trans (hb6.mono C5.size)
      have hR6 := OwnB.rd hown6
      clear hown6 hb6 hblk5 hc5 C5
      go_wp2_with fail
      refine (rsame_eq _ hR6 (HC.out _ C6).1).mono ?_
      rintro e w7 ⟨rfl, hb7⟩
      have B7 := (HC.out _ (C6.trans (hb7.mono C6.size))).2.1
      go_wp2_with fail
      go_ret
      exact ⟨rfl, B7⟩
end Go.Proofs.YtihekandplocmaaDoor
