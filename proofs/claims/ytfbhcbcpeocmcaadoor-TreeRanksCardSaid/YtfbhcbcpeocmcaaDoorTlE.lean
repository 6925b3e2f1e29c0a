/- TreeRanks as a walk. -/
import Derived.Test.YtfbhcbcpeocmcaaDoorTlD
namespace Go.Proofs.YtfbhcbcpeocmcaaDoor
open Go Go.ChangeShapes Go.WideShapes Go.ChangeAt Go.RowKit Tr

theorem rk_both (m : List Bool) (k : Nat) (hk : k ≤ m.length) : Blk.rk true m k + Blk.rk false m k = k := by
  unfold Blk.rk
  have := count_both (m.take k)
  rw [List.length_take] at this
  omega
set_option maxRecDepth 100000 in
set_option maxHeartbeats 6400000 in
theorem treeranks_w (a0 : Option Addr) (len0 cap0 : Nat) (z0 : List Int) (at0 : Int) (W : World) (r0 : IsRow .i64 W a0 len0 cap0 z0) (_ : (Lit.int .i64 at0).wf = true) (hL : LaidFact W) :
    Calls Tryd.prog 7 #[.slice a0 len0 cap0, .int .i64 at0] W fun e w' => e = .returned (.bool true) ∧ Below W.heap.size W w' := by
  have hrd := RdI.of_row r0
  have HT := Lib.hid hL.tab
  have hW0 := hL.pos
  have key := bits_any a0 len0 cap0 700 W hrd (by decide)
  obtain ⟨c, hc, ec⟩ := mod_any at0 700 (by decide) (by decide)
  change RowKit.wrap64 ((IntKind.u64.wrap at0).tmod 700) = _ at ec
  clear r0 hL hrd
  go_enter Tryd.func7, Tryd.ntmps7
  go_wp2_with fail
  refine key.mono ?_
  rintro e w1 ⟨v, m, rfl, hown, hLL, hb1⟩
  have hsz1 := hb1.size
  have hRD := OwnB.rd hown
  obtain ⟨av, cv, rfl, hcv, hcm⟩ := own_form hown
  have hcc := room_int hcv hcm
  have hcellm : ∀ i, i < m.length → ∃ b, av = some ⟨b, 0, none⟩ ∧ b < w1.heap.size ∧ w1.cell? ⟨b, i, none⟩ = some (.bool (m.getD i false)) := fun i hi => by
    obtain ⟨b, cap, h1, _, h3, _, _, h6, _⟩ := OwnB.opens hown (by omega)
    injection h1 with h1
    exact ⟨b, h1, h3, h6 i hi⟩
  have hml : (m.length : Int) ≤ 700 := by omega
  have key := tnew w1 hRD (by omega)
  have HCM := Lib.hid hcellm
  have HB1 := Lib.hid hb1
  clear hown hRD hb1 hcellm hcv hcm
  obtain ⟨L, hLm⟩ : ∃ L, m.length = L := ⟨_, rfl⟩
  rw [hLm] at key hml hcc hLL
  have HLM := Lib.hid hLm
  rw [hLm]
  clear hLm
  go_wp2_with fail
  (with_reducible refine key.mono ?_); rintro e w2 ⟨S0, rfl, hN⟩
  have h2 : Two w1.heap.size w1 w2 w1.heap.size S0 m := ⟨hN.tre, hN.below⟩
  clear hN key
  go_wp2_with fail
  go_loopw [7, 8, 9, 10, 11] (fun i _ _ _ _ wr => ∃ (j : Nat) (S : St), j ≤ 1000 ∧ i = .int .i64 j ∧ Two w1.heap.size w1 wr w1.heap.size S m) (fun i _ _ _ _ _ => L - (intOf i).toNat)
  case atStart => exact ⟨0, S0, Nat.zero_le _, rfl, h2⟩
  case round =>
    obtain ⟨j, S, hj, rfl, h⟩ := hrel
    by_cases hlt : j < L
    · have hi1 : (j : Int) < L := by omega
      obtain ⟨k, hk⟩ : ∃ k, (j + c) % L = k := ⟨_, rfl⟩
      have hkL : k < L := by rw [← hk]; exact Nat.mod_lt _ (by omega)
      have hki : ((j : Int) + c).tmod L = k := by
        rw [Int.tmod_eq_emod_of_nonneg (by omega), ← hk, Int.natCast_emod, Int.natCast_add]
      have hL0 : ¬ (L : Int) = 0 := by omega
      have hjc : (j : Int) + c ≤ 2000 := by omega
      have hkLi : (k : Int) < L := by omega
      have hkc : (k : Int) < cv := by omega
      obtain ⟨b0, rfl, hb0, hcell⟩ := HCM.out k (by rw [HLM.out]; exact hkL)
      have hcell' := (h.below.cell (p := ⟨b0, k, none⟩) hb0)
      obtain ⟨x, hx⟩ : ∃ x, m.getD k false = x := ⟨_, rfl⟩
      rw [hx] at hcell
      obtain ⟨r, hr⟩ : ∃ r, Blk.rk x m k = r := ⟨_, rfl⟩
      have hkm : k < m.length := by rw [HLM.out]; exact hkL
      have hrk : r ≤ k := by rw [← hr]; exact Blk.rk_le _ _ _
      have hsl : Blk.sl x m (r : Int) = (k : Int) := Blk.sl_of hkm hx hr
      have hr1 : Blk.rk x m (k + 1) = r + 1 := by rw [Blk.rk_succ hkm, hr, if_pos hx]
      obtain ⟨rt, hrt⟩ : ∃ rt, Blk.rk true m k = rt := ⟨_, rfl⟩
      obtain ⟨rf, hrf⟩ : ∃ rf, Blk.rk false m k = rf := ⟨_, rfl⟩
      have hsum : rt + rf = k := by rw [← hrt, ← hrf]; exact rk_both m k (by omega)
      have hsumi : (rt : Int) + rf = k := by omega
      have hrti : (rt : Int) ≤ 700 := by omega
      have hrfi : (rf : Int) ≤ 700 := by omega
      have hri : (r : Int) ≤ 700 := by omega
      have hki7 : (k : Int) < 700 := by omega
      have p1 : place m.length (k : Int) = k := by unfold place; rw [Int.toNat_natCast]; omega
      have p2 : place m.length ((k : Int) + 1) = k + 1 := by unfold place; omega
      have hbw : Below W.heap.size W wr := HB1.out.trans (h.below.mono hsz1)
      have keyG := kget_at (k : Int) x 0 wr h.tre (by rw [HLM.out]; omega) (by unfold Blk.getB; rw [if_pos (by omega), Int.toNat_natCast, hx]) (by unfold Blk.getE; rw [if_pos (by omega)])
      have HP := Lib.hid (And.intro p1 (And.intro p2 (And.intro hr (And.intro hsl (And.intro hr1 (And.intro hrt (And.intro hrf hsum)))))))
      have HBE := Lib.hid h.below
      have HCE := Lib.hid (And.intro hb0 hcell)
      have HMS := Lib.hid (show m.length ≤ 100000000 by rw [HLM.out]; omega)
      clear h hcell hcell' hx hr hsl hr1 hrt hrf hsum p1 p2 hk hb0 hkm
      go_wp2_with fail
      (with_reducible refine keyG.mono ?_); rintro e w3 ⟨rfl, v3, h3, hb3, _, _⟩
      have hB3 := HBE.out.trans hb3
      have keyR := krank (k : Int) x r w3 h3 HMS.out (by rw [HP.out.1, HP.out.2.2.1])
      clear hb3 keyG
      go_wp2_with fail
      (with_reducible refine keyR.mono ?_); rintro e w4 ⟨rfl, v4, h4, hb4, _, _⟩
      have hB4 := hB3.trans hb4
      have hcell4 : w4.cell? ⟨b0, k, none⟩ = some (.bool x) := (hB4.cell (p := ⟨b0, k, none⟩) HCE.out.1).trans HCE.out.2
      have hw4 : Below W.heap.size W w4 := HB1.out.trans (hB4.mono hsz1)
      have keyS := kselect (r : Int) x k w4 h4 HMS.out (HT.out.below hw4 hW0) (by omega) HP.out.2.2.2.1
      clear hb4 hB3 h3 keyR hw4
      go_wp2_with fail
      (with_reducible refine keyS.mono ?_); rintro e w5 ⟨rfl, v5, h5, hb5, _, _⟩
      have hB5 := hB4.trans hb5
      have keyR := krank ((k : Int) + 1) x (r + 1) w5 h5 HMS.out (by rw [HP.out.2.1, HP.out.2.2.2.2.1]; rfl)
      clear hb5 hB4 h4 keyS hcell4
      go_wp2_with fail
      (with_reducible refine keyR.mono ?_); rintro e w6 ⟨rfl, v6, h6, hb6, _, _⟩
      have hB6 := hB5.trans hb6
      have keyR := krank (k : Int) true rt w6 h6 HMS.out (by rw [HP.out.1, HP.out.2.2.2.2.2.1])
      clear hb6 hB5 h5
      go_wp2_with fail
      (with_reducible refine keyR.mono ?_); rintro e w7 ⟨rfl, v7, h7, hb7, _, _⟩
      have hB7 := hB6.trans hb7
      have keyR := krank (k : Int) false rf w7 h7 HMS.out (by rw [HP.out.1, HP.out.2.2.2.2.2.2.1])
      clear hb7 hB6 h6
      go_wp2_with fail
      (with_reducible refine keyR.mono ?_); rintro e w8 ⟨rfl, v8, h8, hb8, _, _⟩
      have hB8 := hB7.trans hb8
      have H8 : Hid (Two w1.heap.size w1 w8 w1.heap.size _ m) := Lib.hid ⟨h8, hB8⟩
      obtain ⟨st, hst⟩ : ∃ st, L / 40 = st := ⟨_, rfl⟩
      have hsti : (L : Int) / 40 = st := by omega
      have hst2 : (st : Int) ≤ 700 := by omega
      clear hb8 hB7 h7 h8 hB8 keyR
      go_wp2_with fail
      go_roundw
      case rel => exact ⟨j + 1 + st, _, by omega, by go_num, H8.out⟩
      case measure => simp [intOf]; omega
    · have hi1 : ¬ (j : Int) < L := by omega
      have hbw : Below W.heap.size W wr := HB1.out.trans (h.below.mono hsz1)
      have keyT := told_any wr (HT.out.below hbw hW0) (by have := hbw.size; omega)
      have HH := Lib.hid h
      have HBW := Lib.hid hbw
      have HMS := Lib.hid (show m.length ≤ 100000000 by rw [HLM.out]; omega)
      obtain ⟨o, ho⟩ : ∃ o, m.count true = o := ⟨_, rfl⟩
      have hol : o ≤ L := by rw [← ho, ← HLM.out]; exact List.count_le_length
      have hcf : m.count false = L - o := by have := count_both m; rw [HLM.out] at this; omega
      have hoi : (o : Int) ≤ L := by omega
      have HO := Lib.hid (And.intro ho hcf)
      clear h hbw ho hcf
      go_wp2_with fail
      (with_reducible refine keyT.mono ?_); rintro e w3 ⟨rfl, hb3⟩
      have h3 := HH.out.tre.below hb3
      have hB3 := HBW.out.trans (hb3.mono HBW.out.size)
      have keyO := kones (o : Int) w3 h3 (by rw [HO.out.1])
      clear hb3 keyT
      go_wp2_with fail
      (with_reducible refine keyO.mono ?_); rintro e w3' ⟨rfl, rfl⟩
      have keyS := kselect (o : Int) true (-1) w3 h3 HMS.out (HT.out.below hB3 hW0) (by omega) (Blk.sl_none (.inr (by rw [HO.out.1]; exact Int.le_refl _)))
      clear keyO
      go_wp2_with fail
      (with_reducible refine keyS.mono ?_); rintro e w4 ⟨rfl, v4, h4, hb4, _, _⟩
      have hB4 := hB3.trans (hb4.mono hsz1)
      have keyN := klen (L : Int) w4 h4 (by rw [HLM.out])
      have keyO := kones (o : Int) w4 h4 (by rw [HO.out.1])
      clear keyS hb4 hB3 h3
      go_wp2_with fail
      (with_reducible refine keyN.mono ?_); rintro e w4' ⟨rfl, rfl⟩
      go_wp2_with fail
      (with_reducible refine keyO.mono ?_); rintro e w4' ⟨rfl, rfl⟩
      have keyS := kselect ((L : Int) - o) false (-1) w4 h4 HMS.out (HT.out.below hB4 hW0) (by omega) (Blk.sl_none (.inr (by rw [HO.out.2]; omega)))
      clear keyN keyO
      go_wp2_with fail
      (with_reducible refine keyS.mono ?_); rintro e w5 ⟨rfl, v5, h5, hb5, _, _⟩
      have hB5 := hB4.trans (hb5.mono hsz1)
      have keyR := krank (L : Int) true o w5 h5 HMS.out (by
        have : place m.length (L : Int) = m.length := by unfold place; rw [HLM.out]; omega
        rw [this, Blk.rk_all (Nat.le_refl _), HO.out.1])
      clear keyS hb5 hB4 h4
      go_wp2_with fail
      (with_reducible refine keyR.mono ?_); rintro e w6 ⟨rfl, v6, h6, hb6, _, _⟩
      have hB6 := hB5.trans (hb6.mono hsz1)
      have keyO := kones (o : Int) w6 h6 (by rw [HO.out.1])
      clear keyR hb6 hB5 h5
      go_wp2_with fail
      (with_reducible refine keyO.mono ?_); rintro e w6' ⟨rfl, rfl⟩
      go_wp2_with fail
      go_ret
      exact ⟨rfl, hB6⟩
end Go.Proofs.YtfbhcbcpeocmcaaDoor
