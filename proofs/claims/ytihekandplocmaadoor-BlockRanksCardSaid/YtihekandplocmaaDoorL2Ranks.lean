/- BlockRanks as a walk. -/
import Derived.Test.YtihekandplocmaaDoorL2Same
import Derived.Test.YtihekandplocmaaDoorLaidB
namespace Go.Proofs.YtihekandplocmaaDoor
open Go Go.ChangeShapes Go.WideShapes Go.ChangeAt Go.RowKit

theorem rk_both (l : List Bool) : ∀ k, k ≤ l.length → Blk.rk true l k + Blk.rk false l k = k
  | 0, _ => by simp [Blk.rk]
  | k + 1, h => by
    rw [Blk.rk_succ (by omega), Blk.rk_succ (by omega)]
    have := rk_both l k (by omega)
    cases l.getD k false <;> simp <;> omega
theorem count_both (l : List Bool) : l.count true + l.count false = l.length := by
  have := rk_both l l.length (Nat.le_refl _)
  rw [Blk.rk_all (Nat.le_refl _), Blk.rk_all (Nat.le_refl _)] at this
  exact this
theorem sl_false {l : List Bool} {k : Nat} (hk : k < l.length) (hb : l.getD k false = false) : Blk.sl false l ((k : Int) - (Blk.rk true l k : Int)) = (k : Int) := by
  have h := rk_both l k (by omega)
  rw [show (k : Int) - (Blk.rk true l k : Int) = ((Blk.rk false l k : Nat) : Int) by omega]
  exact Blk.sl_of hk hb rfl

set_option maxHeartbeats 1600000 in
theorem ranks_w (a0 : Option Addr) (len0 cap0 : Nat) (z0 : List Int) (W : World) (w0 : IsRow .i64 W a0 len0 cap0 z0) (hL : LaidFact W) :
    Calls Tryd.prog 5 #[.slice a0 len0 cap0] W fun e w' => e = .returned (.bool true) ∧ Below W.heap.size W w' := by
  have hrd := RdI.of_row w0
  have HT := Lib.hid hL.tab
  have hW0 := hL.pos
  clear w0 hL
  go_enter Tryd.func5, Tryd.ntmps5
  go_wp2_with fail
  refine (bits_any _ _ _ 128 _ hrd (by decide)).mono ?_
  rintro e w1 ⟨v, L, rfl, hown, hLL, hb1⟩
  have hsz1 := hb1.size
  have hRD := Lib.hid (OwnB.rd hown)
  obtain ⟨aa, cc, rfl, hmm, hrd0⟩ := (OwnB.rd hown).open
  have HRD := Lib.hid hrd0
  clear hown hrd0
  go_wp2_with fail
  refine (bnew_rd _ hRD.out hLL).mono ?_
  rintro e w2 ⟨g, rfl, hg, hblk, hb2⟩
  have hC := fun {w' : World} (h : Below w2.heap.size w2 w') => And.intro (hblk.below h hblk.lt) (And.intro (hb1.trans ((hb2.trans (h.mono hb2.size)).mono hsz1)) (HT.out.below (hb1.trans ((hb2.trans (h.mono hb2.size)).mono hsz1)) hW0))
  have HC := @hC
  have HC1 := Lib.hid (fun (w' : World) (h : Below w2.heap.size w2 w') => hb2.trans (h.mono hb2.size))
  have hp2 : 0 < w2.heap.size := by have := hb2.size; omega
  clear hC hblk hb2
  go_wp2_with fail
  go_loopw [6] (fun i wr => ∃ m : Nat, m ≤ L.length ∧ i = .int .i64 m ∧ Below w2.heap.size w2 wr) (fun i _ => L.length - (intOf i).toNat)
  case atStart => exact ⟨0, Nat.zero_le _, rfl, Below.refl _ _⟩
  case round =>
    obtain ⟨m, hm, rfl, hb⟩ := hrel
    have hsz := hb.size
    by_cases hlt : m < L.length
    · obtain ⟨b, off, rfl, hbl, hcell⟩ := HRD.out (by omega)
      have hc := fun (w' : World) (h : Below w2.heap.size w2 w') => (((HC1.out _ h).cell (p := ⟨b, off + m, none⟩) hbl).trans (hcell m hlt))
      have HCC := Lib.hid hc
      clear hc hcell
      have h1 : (m : Int) < L.length := by omega
      have hrm := Blk.rk_le true L m
      have hst := Lib.hid (fun hbit => Blk.sl_of (b := true) hlt hbit rfl)
      have hsf := Lib.hid (fun hbit => sl_false (l := L) hlt hbit)
      obtain ⟨r, HR, hr⟩ : ∃ r : Nat, Hid (Blk.rk true L m = r) ∧ r ≤ m := ⟨_, Lib.hid rfl, hrm⟩
      cases hbit : L.getD m false with
      | true =>
        have HBIT := Lib.hid hbit
        have hc0 := HCC.out _ hb
        rw [hbit] at hc0
        have hs := Lib.hid (hst.out hbit)
        clear hbit hst hsf hrm
        go_wp2_with fail
        refine (brank_to _ r _ (HC hb).1 (by rw [Int.toNat_natCast, HR.out])).mono ?_
        rintro e w' ⟨rfl, rfl⟩
        go_wp2_with fail
        refine (bsel_to _ m _ _ (HC hb).1 (HC hb).2.2 (by omega) (by omega) (by rw [← HR.out]; exact hs.out)).mono ?_
        rintro e w4 ⟨rfl, hb4⟩
        have hb5 := hb.trans (hb4.mono hb.size)
        have hc5 := HCC.out _ hb5
        rw [HBIT.out] at hc5
        clear hb4
        go_wp2_with fail
        go_roundw
        case rel => exact ⟨m + 1, by omega, by go_num, hb5⟩
        case measure => simp [intOf]; omega
      | false =>
        have HBIT := Lib.hid hbit
        have hc0 := HCC.out _ hb
        rw [hbit] at hc0
        have hs := Lib.hid (hsf.out hbit)
        clear hbit hst hsf hrm
        go_wp2_with fail
        refine (brank_to _ r _ (HC hb).1 (by rw [Int.toNat_natCast, HR.out])).mono ?_
        rintro e w' ⟨rfl, rfl⟩
        go_wp2_with fail
        refine (bsel_to _ m _ _ (HC hb).1 (HC hb).2.2 (by omega) (by omega) (by rw [← HR.out]; exact hs.out)).mono ?_
        rintro e w4 ⟨rfl, hb4⟩
        have hb5 := hb.trans (hb4.mono hb.size)
        clear hb4
        go_wp2_with fail
        go_roundw
        case rel => exact ⟨m + 1, by omega, by go_num, hb5⟩
        case measure => simp [intOf]; omega
    · have h1 : ¬ (m : Int) < L.length := by omega
      have hcb := count_both L
      have hct := Lib.hid (Blk.sl_none (b := true) (l := L) (j := (L.count true : Int)) (.inr (Int.le_refl _)))
      have hcf := Lib.hid (Blk.sl_none (b := false) (l := L) (j := (L.length : Int) - (L.count true : Int)) (.inr (by omega)))
      obtain ⟨c, HCN, hcl⟩ : ∃ c : Nat, Hid (L.count true = c) ∧ c ≤ L.length := ⟨_, Lib.hid rfl, by omega⟩
      clear hcb
      go_wp2_with fail
      refine (told_any _ (HC hb).2.2 (by omega)).mono ?_
      rintro e w3 ⟨rfl, hb3⟩
      have hb4 := hb.trans (hb3.mono hb.size)
      clear hb3
      go_wp2_with fail
      refine (brank_to _ c _ (HC hb4).1 (by rw [← HCN.out, Blk.rk_all (by simp)])).mono ?_
      rintro e w' ⟨rfl, rfl⟩
      go_wp2_with fail
      refine (bones_to c _ (HC hb4).1 (by rw [HCN.out])).mono ?_
      rintro e w' ⟨rfl, rfl⟩
      go_wp2_with fail
      refine (bones_to c _ (HC hb4).1 (by rw [HCN.out])).mono ?_
      rintro e w' ⟨rfl, rfl⟩
      go_wp2_with fail
      refine (bsel_to _ (-1) _ _ (HC hb4).1 (HC hb4).2.2 (by have := hb4.size; omega) (by omega) (by rw [← HCN.out]; exact hct.out)).mono ?_
      rintro e w5 ⟨rfl, hb5⟩
      have hb6 := hb4.trans (hb5.mono hb4.size)
      clear hb5
      go_wp2_with fail
      refine (bones_to c _ (HC hb6).1 (by rw [HCN.out])).mono ?_
      rintro e w' ⟨rfl, rfl⟩
      go_wp2_with fail
      refine (bsel_to _ (-1) _ _ (HC hb6).1 (HC hb6).2.2 (by have := hb6.size; omega) (by omega) (by rw [← HCN.out]; exact hcf.out)).mono ?_
      rintro e w7 ⟨rfl, hb7⟩
      have hb8 := hb6.trans (hb7.mono hb6.size)
      have B8 := (HC hb8).2.1
      clear hb7
      go_wp2_with fail
      go_ret
      exact ⟨rfl, B8⟩
end Go.Proofs.YtihekandplocmaaDoor
