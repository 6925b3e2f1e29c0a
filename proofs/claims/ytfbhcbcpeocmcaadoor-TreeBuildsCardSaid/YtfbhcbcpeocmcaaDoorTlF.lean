/- TreeBuilds as a walk. -/
import Derived.Test.YtfbhcbcpeocmcaaDoorTlD
namespace Go.Proofs.YtfbhcbcpeocmcaaDoor
open Go Go.ChangeShapes Go.WideShapes Go.ChangeAt Go.RowKit Tr

theorem ins_end (m : List Bool) (j : Nat) (hj : j < m.length) : Blk.ins (m.take j) j (m.getD j false) = m.take (j + 1) := by
  unfold Blk.ins
  rw [List.take_of_length_le (by rw [List.length_take]; omega), List.drop_of_length_le (by rw [List.length_take]; omega), List.take_succ_eq_append_getElem hj, List.getD_eq_getElem?_getD, List.getElem?_eq_getElem hj]
  rfl
/-- Two trees side by side. -/
structure Pair (Ba Bb : Nat) (w1 wr : World) (ta : Nat) (Sa Sb : St) (ma mb : List Bool) : Prop where
  a : Tre Ba wr ta Sa ma
  b : Tre Bb wr Bb Sb mb
  low : ∀ b x, Sa.own b = some x → b < Bb
  below : Below Ba w1 wr
  le : Ba ≤ Bb
theorem Pair.ta {Ba Bb : Nat} {w1 wr : World} {ta : Nat} {Sa Sb : St} {ma mb : List Bool} (h : Pair Ba Bb w1 wr ta Sa Sb ma mb) : ta < Bb := by
  obtain ⟨g, a, c, hx⟩ := h.a.1
  exact h.low _ _ hx.ownt
/-- The second one was changed. -/
theorem Pair.onB {Ba Bb : Nat} {w1 wr w' : World} {ta : Nat} {Sa Sb Sb' : St} {ma mb mb' : List Bool} (h : Pair Ba Bb w1 wr ta Sa Sb ma mb) (hb : Tre Bb w' Bb Sb' mb') (hB : Below Bb wr w') : Pair Ba Bb w1 w' ta Sa Sb' ma mb' :=
  ⟨⟨h.a.1.low h.low hB, h.a.2⟩, hb, h.low, h.below.trans (hB.mono h.le), h.le⟩
/-- The first one was read. -/
theorem Pair.onA {Ba Bb : Nat} {w1 wr w' : World} {ta : Nat} {Sa Sb : St} {ma mb : List Bool} {v : Nat} (h : Pair Ba Bb w1 wr ta Sa Sb ma mb) (ha : Tre Ba w' ta (Sa.see v) ma) (hs : Stay (· = ta) wr w') (hB : Below Ba wr w') : Pair Ba Bb w1 w' ta (Sa.see v) Sb ma mb :=
  ⟨ha, h.b.apart hs h.ta, h.low, h.below.trans hB, h.le⟩
/-- Memory was made beside both. -/
theorem Pair.beside {Ba Bb : Nat} {w1 wr w' : World} {ta : Nat} {Sa Sb : St} {ma mb : List Bool} (h : Pair Ba Bb w1 wr ta Sa Sb ma mb) (hB : Below wr.heap.size wr w') : Pair Ba Bb w1 w' ta Sa Sb ma mb :=
  ⟨h.a.below hB, h.b.below hB, h.low, h.below.trans (hB.mono (by have := h.a.1.lt; omega)), h.le⟩
set_option maxRecDepth 100000 in
set_option maxHeartbeats 6400000 in
theorem treebuilds_w (a0 : Option Addr) (len0 cap0 : Nat) (z0 : List Int) (W : World) (r0 : IsRow .i64 W a0 len0 cap0 z0) (hL : LaidFact W) :
    Calls Tryd.prog 6 #[.slice a0 len0 cap0] W fun e w' => e = .returned (.bool true) ∧ Below W.heap.size W w' := by
  have hrd := RdI.of_row r0
  have HT := Lib.hid hL.tab
  have hW0 := hL.pos
  have key := bits_any a0 len0 cap0 700 W hrd (by decide)
  clear r0 hL hrd
  go_enter Tryd.func6, Tryd.ntmps6
  go_wp2_with fail
  refine key.mono ?_
  rintro e w1 ⟨v, m, rfl, hown, hLL, hb1⟩
  have hsz1 := hb1.size
  have hRD := OwnB.rd hown
  obtain ⟨av, cv, rfl, hcv, hcm⟩ := own_form hown
  have hcc := room_int hcv hcm
  have hcellm : ∀ i, i < m.length → ∃ b, av = some ⟨b, 0, none⟩ ∧ b < w1.heap.size ∧ w1.cell? ⟨b, i, none⟩ = some (.bool (m.getD i false)) := fun i hi => by
    obtain ⟨b, cap, h1, _, h3, _, _, h6, _⟩ := OwnB.opens hown (by omega)
    injection h1 with h1
    exact ⟨b, h1, h3, h6 i hi⟩
  have hml : (m.length : Int) ≤ 700 := by omega
  have key := tnew w1 hRD (by omega)
  have HCM := Lib.hid hcellm
  have HB1 := Lib.hid hb1
  clear hown hRD hb1 hcellm hcv hcm
  obtain ⟨L, hLm⟩ : ∃ L, m.length = L := ⟨_, rfl⟩
  rw [hLm] at key hml hcc hLL
  have HLM := Lib.hid hLm
  have HMS := Lib.hid (show m.length ≤ 100000000 by omega)
  rw [hLm]
  clear hLm
  go_wp2_with fail
  (with_reducible refine key.mono ?_); rintro e w2 ⟨Sa, rfl, hN⟩
  have hTa := hN.tre
  have hBa := hN.below
  have hza := hBa.size
  have key2 := tnew_none w2
  clear hN key
  go_wp2_with fail
  (with_reducible refine key2.mono ?_); rintro e w3 ⟨Sb, rfl, hN⟩
  have hP : Pair w1.heap.size w2.heap.size w1 w3 w1.heap.size Sa Sb m (m.take 0) := ⟨hTa.below hN.below, hN.tre, fun b x e => by obtain ⟨⟨g, q, c, hh⟩, _⟩ := hTa; exact (hh.lab b x e).2, hBa.trans (hN.below.mono hza), hza⟩
  clear hN key2 hTa hBa
  generalize w2.heap.size = tb at *
  generalize hta : w1.heap.size = ta at *
  go_wp2_with fail
  go_loopw [6] (fun i wr => ∃ (j : Nat) (Sb : St), j ≤ L ∧ i = .int .i64 j ∧ Pair ta tb w1 wr ta Sa Sb m (m.take j)) (fun i _ => L - (intOf i).toNat)
  case atStart => exact ⟨0, Sb, Nat.zero_le _, rfl, hP⟩
  case round =>
    obtain ⟨j, Sb, hj, rfl, h⟩ := hrel
    by_cases hlt : j < L
    · have hi1 : (j : Int) < L := by omega
      have hjc : (j : Int) < cv := by omega
      obtain ⟨b0, rfl, hb0, hcell⟩ := HCM.out j (by rw [HLM.out]; exact hlt)
      obtain ⟨x, hx⟩ : ∃ x, m.getD j false = x := ⟨_, rfl⟩
      rw [hx] at hcell
      have hcell' : _ = some (Value.bool x) := (h.below.cell (p := ⟨b0, j, none⟩) (by first | exact hb0 | (rw [hta]; exact hb0))).trans hcell
      have hlt' : (m.take j).length = j := by rw [List.length_take, HLM.out]; omega
      have key := kins (m.take (j + 1)) (j : Int) j x _ h.b rfl (by omega) (by omega) (by rw [← hx]; exact ins_end m j (by rw [HLM.out]; exact hlt))
      have HH := Lib.hid h
      clear h hcell hx hlt' hb0
      go_wp2_with fail
      (with_reducible refine key.mono ?_); rintro e w4 ⟨rfl, Sb', hI, hb4⟩
      have h4 := Lib.hid (HH.out.onB hI.tre hb4)
      clear hI hb4 key hcell'
      go_wp2_with fail
      go_roundw
      case rel => exact ⟨j + 1, Sb', hlt, by go_num, h4.out⟩
      case measure => simp [intOf]; omega
    · obtain rfl : j = L := by omega
      have hi1 : ¬ (j : Int) < j := by omega
      have hmt : m.take j = m := by rw [← HLM.out]; exact List.take_length
      rw [hmt] at h
      have key := tall _ h.a (by have := HMS.out; omega)
      have HH := Lib.hid h
      clear h hmt hP
      go_wp2_with fail
      (with_reducible refine key.mono ?_); rintro e w4 ⟨v4, rfl, hown4, hb4⟩
      have h4 := HH.out.beside hb4
      have key2 := tall _ h4.b (by have := HMS.out; omega)
      have hR4 := OwnB.rd hown4
      clear key hb4 hown4
      go_wp2_with fail
      (with_reducible refine key2.mono ?_); rintro e w5 ⟨v5, rfl, hown5, hb5⟩
      have h5 := h4.beside hb5
      have key3 := rsame_eq w5 (hR4.below hb5) (OwnB.rd hown5)
      clear key2 hb5 hown5 h4 hR4
      go_wp2_with fail
      (with_reducible refine key3.mono ?_); rintro e w6 ⟨rfl, hb6⟩
      have h6 := h5.beside hb6
      obtain ⟨o, ho⟩ : ∃ o, m.count true = o := ⟨_, rfl⟩
      have key4 := kones (o : Int) w6 h6.a (by rw [ho])
      have key5 := kones (o : Int) w6 h6.b (by rw [ho])
      clear key3 hb6 h5 ho
      go_wp2_with fail
      (with_reducible refine key4.mono ?_); rintro e w6' ⟨rfl, rfl⟩
      go_wp2_with fail
      (with_reducible refine key5.mono ?_); rintro e w6' ⟨rfl, rfl⟩
      have H6 := Lib.hid h6
      clear key4 key5 h6
      go_wp2_with fail
      go_loopw [7] (fun i wr => ∃ (i' : Nat) (Sa Sb : St), i' ≤ 2000 ∧ i = .int .i64 i' ∧ Pair ta tb w1 wr ta Sa Sb m m) (fun i _ => j + 1 - (intOf i).toNat)
      case atStart => exact ⟨0, Sa, Sb, Nat.zero_le _, rfl, H6.out⟩
      case round =>
        obtain ⟨k, Sa, Sb, hk, rfl, h⟩ := hrel
        have htab : 0 < ta := by omega
        have hWw : ∀ w', Below ta w1 w' → Below W.heap.size W w' := fun w' hb => HB1.out.trans (hb.mono (by first | exact hsz1 | omega))
        by_cases hlt2 : k ≤ j
        · have hi2 : (k : Int) ≤ j := by omega
          obtain ⟨r1, hr1⟩ : ∃ r, (Blk.rk true m (place m.length (k : Int)) : Int) = r := ⟨_, rfl⟩
          obtain ⟨s1, hs1⟩ : ∃ s, Blk.sl true m (k : Int) = s := ⟨_, rfl⟩
          obtain ⟨s2, hs2⟩ : ∃ s, Blk.sl false m (k : Int) = s := ⟨_, rfl⟩
          have key := krank (k : Int) true r1 _ h.a HMS.out hr1
          have HH := Lib.hid h
          have HR := Lib.hid (And.intro hr1 (And.intro hs1 hs2))
          clear h hr1 hs1 hs2
          go_wp2_with fail
          (with_reducible refine key.mono ?_); rintro e w7 ⟨rfl, v7, q1, q2, _, q3⟩
          have h7 := HH.out.onA q1 q3 q2
          have key := krank (k : Int) true r1 _ h7.b HMS.out HR.out.1
          clear q1 q2 q3
          go_wp2_with fail
          (with_reducible refine key.mono ?_); rintro e w8 ⟨rfl, v8, q1, q2, _, q3⟩
          have h8 := h7.onB q1 q2
          have key := kselect (k : Int) true s1 _ h8.a HMS.out (HT.out.below (hWw _ h8.below) hW0) htab HR.out.2.1
          clear q1 q2 q3 h7
          go_wp2_with fail
          (with_reducible refine key.mono ?_); rintro e w9 ⟨rfl, v9, q1, q2, _, q3⟩
          have h9 := h8.onA q1 q3 q2
          have key := kselect (k : Int) true s1 _ h9.b HMS.out (HT.out.below (hWw _ h9.below) hW0) (by have := h9.le; omega) HR.out.2.1
          clear q1 q2 q3 h8
          go_wp2_with fail
          (with_reducible refine key.mono ?_); rintro e w10 ⟨rfl, v10, q1, q2, _, q3⟩
          have h10 := h9.onB q1 q2
          have key := kselect (k : Int) false s2 _ h10.a HMS.out (HT.out.below (hWw _ h10.below) hW0) htab HR.out.2.2
          clear q1 q2 q3 h9
          go_wp2_with fail
          (with_reducible refine key.mono ?_); rintro e w11 ⟨rfl, v11, q1, q2, _, q3⟩
          have h11 := h10.onA q1 q3 q2
          have key := kselect (k : Int) false s2 _ h11.b HMS.out (HT.out.below (hWw _ h11.below) hW0) (by have := h11.le; omega) HR.out.2.2
          clear q1 q2 q3 h10
          go_wp2_with fail
          (with_reducible refine key.mono ?_); rintro e w12 ⟨rfl, v12, q1, q2, _, q3⟩
          have H12 := Lib.hid (h11.onB q1 q2)
          obtain ⟨st, hst⟩ : ∃ st, j / 20 = st := ⟨_, rfl⟩
          have hsti : (j : Int) / 20 = st := by omega
          have hst2 : (st : Int) ≤ 700 := by omega
          clear q1 q2 q3 h11 key
          go_wp2_with fail
          go_roundw
          case rel => exact ⟨k + 1 + st, _, _, by omega, by go_num, H12.out⟩
          case measure => simp [intOf]; omega
        · have hi2 : ¬ (k : Int) ≤ j := by omega
          have hbw := hWw _ h.below
          have keyT := told_any wr (HT.out.below hbw hW0) (by have := hbw.size; omega)
          clear h
          go_wp2_with fail
          (with_reducible refine keyT.mono ?_); rintro e w7 ⟨rfl, hb7⟩
          have hB7 := hbw.trans (hb7.mono hbw.size)
          go_wp2_with fail
          go_ret
          exact ⟨rfl, hB7⟩
end Go.Proofs.YtfbhcbcpeocmcaaDoor
