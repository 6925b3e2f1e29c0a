/- TreeHeaps as a walk. -/
import Derived.Test.YtfbhcbcpeocmcaaDoorTlG
namespace Go.Proofs.YtfbhcbcpeocmcaaDoor
open Go Go.ChangeShapes Go.WideShapes Go.ChangeAt Go.RowKit Tr

theorem ins_getD {l : List Bool} {k t : Nat} {b : Bool} (hk : k ≤ l.length) : (Blk.ins l k b).getD t false = if t < k then l.getD t false else if t = k then b else l.getD (t - 1) false := by
  unfold Blk.ins
  have h : (l.take k).length = k := by rw [List.length_take]; omega
  rw [List.getD_eq_getElem?_getD]
  by_cases c1 : t < k
  · rw [if_pos c1, List.getElem?_append_left (by omega), List.getElem?_take, if_pos c1, List.getD_eq_getElem?_getD]
  · rw [if_neg c1, List.getElem?_append_right (by omega), h]
    by_cases c2 : t = k
    · rw [if_pos c2, c2, Nat.sub_self]; rfl
    · rw [if_neg c2]
      obtain ⟨d, rfl⟩ : ∃ d, t = k + d + 1 := ⟨t - k - 1, by omega⟩
      rw [show k + d + 1 - k = d + 1 by omega, List.getElem?_cons_succ, List.getElem?_drop, List.getD_eq_getElem?_getD]
      rfl
/-- What stands at a place behind j steps. -/
def Hp (r j t : Nat) : Bool := if r = 0 then decide ((j - 1 - t) % 2 = 0) else if r = 1 then decide (t % 2 = 0) else decide (t < (j + 1) / 2)
structure Heap (r j : Nat) (L : List Bool) : Prop where
  len : L.length = j
  ones : L.count true = (j + 1) / 2
  bit : ∀ t, t < j → L.getD t false = Hp r j t
theorem Heap.ins {r j q : Nat} {L : List Bool} {x : Bool} (h : Heap r j L) (hr : r < 3) (hq : q = if r = 0 ∨ (r = 2 ∧ j % 2 = 0) then 0 else j) (hx : x = decide (j % 2 = 0)) : Heap r (j + 1) (Blk.ins L q x) := by
  have hqj : q ≤ j := by rw [hq]; split <;> omega
  have hl := h.len
  refine ⟨by rw [Blk.ins_len (by omega), hl], ?_, ?_⟩
  · rw [ins_count, h.ones, hx]
    by_cases c : j % 2 = 0
    · simp [c]; omega
    · simp [c]; omega
  · intro t ht
    rw [ins_getD (by omega)]
    have hb := h.bit
    unfold Hp at hb ⊢
    have h3 : r = 0 ∨ r = 1 ∨ r = 2 := by omega
    rcases h3 with rfl | rfl | rfl
    · simp only [true_or, if_true] at hq hb ⊢
      subst hq
      rw [if_neg (by omega)]
      by_cases c : t = 0
      · rw [if_pos c, hx, c]; congr 1
      · rw [if_neg c, hb _ (by omega)]
        rw [show j - 1 - (t - 1) = j + 1 - 1 - t by omega]
    · simp only [Nat.one_ne_zero, show ¬ (1 = 2) by omega, false_and, or_self, if_false, if_true] at hq hb ⊢
      subst hq
      by_cases c : t < q
      · rw [if_pos c, hb _ c]
      · rw [if_neg c, if_pos (by omega), hx, show t = q by omega]
    · simp only [show ¬ (2 = 0) by omega, show ¬ (2 = 1) by omega, true_and, false_or, if_false] at hq hb ⊢
      by_cases c2 : j % 2 = 0
      · rw [if_pos c2] at hq
        subst hq
        rw [if_neg (by omega)]
        by_cases c : t = 0
        · rw [if_pos c, hx, decide_eq_true c2]; symm; exact decide_eq_true (by omega)
        · rw [if_neg c, hb _ (by omega)]; congr 1; exact propext ⟨fun _ => by omega, fun _ => by omega⟩
      · rw [if_neg c2] at hq
        subst hq
        by_cases c : t < q
        · rw [if_pos c, hb _ c]; congr 1; exact propext ⟨fun _ => by omega, fun _ => by omega⟩
        · rw [if_neg c, if_pos (by omega), hx, decide_eq_false c2]; symm; exact decide_eq_false (by omega)
theorem Heap.get {r k i : Nat} {L : List Bool} (h : Heap r k L) (hi : i < k) : Blk.getB L (i : Int) = Hp r k i := by
  unfold Blk.getB
  rw [if_pos (by rw [h.len]; omega), Int.toNat_natCast, h.bit i hi]
theorem three (z : Int) : ∃ r : Nat, r < 3 ∧ (IntKind.u64.wrap z).tmod 3 = (r : Int) := by
  rw [IntKind.wrap_u64]
  have h2 : 0 ≤ z % 18446744073709551616 := Int.emod_nonneg _ (by decide)
  rw [Int.tmod_eq_emod_of_nonneg h2]
  exact ⟨(z % 18446744073709551616 % 3).toNat, by omega, by omega⟩
set_option maxRecDepth 100000 in
set_option maxHeartbeats 6400000 in
theorem treeheaps_w (n0 e0 : Int) (W : World) (_ : (Lit.int .i64 n0).wf = true) (_ : (Lit.int .i64 e0).wf = true) (hL : LaidFact W) :
    Calls Tryd.prog 10 #[.int .i64 n0, .int .i64 e0] W fun e w' => e = .returned (.bool true) ∧ Below W.heap.size W w' := by
  have HT := Lib.hid hL.tab
  have hW0 := hL.pos
  obtain ⟨k, hk, ek⟩ := mod_any n0 901 (by decide) (by decide)
  change RowKit.wrap64 ((IntKind.u64.wrap n0).tmod 901) = _ at ek
  have hki : (k : Int) ≤ 900 := by omega
  obtain ⟨r, hr, er⟩ := three e0
  have HR := Lib.hid (And.intro hr er)
  have key := tnew_none W
  clear hL hr er
  go_enter Tryd.func10, Tryd.ntmps10
  go_wp2_with fail
  (with_reducible refine key.mono ?_); rintro e w1 ⟨S0, rfl, hN⟩
  have h1 : Two W.heap.size W w1 W.heap.size S0 [] := ⟨hN.tre, hN.below⟩
  clear hN key
  go_wp2_with fail
  (try simp only [ek])
  clear ek
  go_loopw [7, 8] (fun i _ wr => ∃ (j : Nat) (S : St) (L : List Bool), j ≤ k ∧ i = .int .i64 j ∧ Heap r j L ∧ Two W.heap.size W wr W.heap.size S L) (fun i _ _ => k - (intOf i).toNat)
  case atStart => exact ⟨0, S0, [], Nat.zero_le _, rfl, ⟨rfl, rfl, fun t ht => absurd ht (by omega)⟩, h1⟩
  case round =>
    obtain ⟨j, S, L, hj, rfl, hF, h⟩ := hrel
    by_cases hlt : j < k
    · have hi1 : (j : Int) < k := by omega
      have hjb : (j : Int) ≤ 900 := by omega
      have HF := Lib.hid hF
      have HH := Lib.hid h
      have HLJ := Lib.hid hF.len
      clear hF h h1
      obtain ⟨hr, er⟩ := HR.out
      have hor : (((r = 0 ∧ (IntKind.u64.wrap e0).tmod 3 = 0) ∨ (r = 1 ∧ (IntKind.u64.wrap e0).tmod 3 = 1)) ∨ (r = 2 ∧ (IntKind.u64.wrap e0).tmod 3 = 2)) ∧ ((j : Int) % 2 = 0 ∨ (j : Int) % 2 = 1) := by rw [er]; omega
      clear er
      obtain ⟨(⟨h3, e3⟩ | ⟨h3, e3⟩) | ⟨h3, e3⟩, h2 | h2⟩ := hor
      all_goals
        have keyA := fun (q : Nat) (x : Bool) (hq : q ≤ j) => kins (Blk.ins L q x) q q x wr HH.out.tre rfl (by rw [HLJ.out]; exact hq) (by rw [HLJ.out]; omega) rfl
        have keyZ := fun (x : Bool) => kins (Blk.ins L 0 x) 0 0 x wr HH.out.tre rfl (Nat.zero_le _) (by rw [HLJ.out]; omega) rfl
        have H3 := Lib.hid h3
        clear h3
        go_wp2_with fail
        first
        | (with_reducible refine (keyA j true (Nat.le_refl _)).mono ?_); rintro e w4 ⟨rfl, S4, hI, hb4⟩; (have hF4 := HF.out.ins (q := j) (x := true) hr (by have := H3.out; split <;> omega) (by symm; exact decide_eq_true (by omega)))
        | (with_reducible refine (keyA j false (Nat.le_refl _)).mono ?_); rintro e w4 ⟨rfl, S4, hI, hb4⟩; (have hF4 := HF.out.ins (q := j) (x := false) hr (by have := H3.out; split <;> omega) (by symm; exact decide_eq_false (by omega)))
        | (with_reducible refine (keyZ true).mono ?_); rintro e w4 ⟨rfl, S4, hI, hb4⟩; (have hF4 := HF.out.ins (q := 0) (x := true) hr (by have := H3.out; split <;> omega) (by symm; exact decide_eq_true (by omega)))
        | (with_reducible refine (keyZ false).mono ?_); rintro e w4 ⟨rfl, S4, hI, hb4⟩; (have hF4 := HF.out.ins (q := 0) (x := false) hr (by have := H3.out; split <;> omega) (by symm; exact decide_eq_false (by omega)))
        have h4 : Two W.heap.size W w4 W.heap.size S4 _ := ⟨hI.tre, HH.out.below.trans hb4⟩
        clear hI hb4 keyA keyZ
        have HF4 := Lib.hid hF4
        clear hF4
        go_wp2_with fail
        go_roundw
        case rel => exact ⟨j + 1, S4, _, hlt, by go_num, HF4.out, h4⟩
        case measure => simp [intOf]; omega
    · obtain rfl : j = k := by omega
      have hi1 : ¬ (j : Int) < j := by omega
      have hlj := hF.len
      obtain ⟨ln, ht, lv, nd, keyS, keyM, _⟩ := h.tre.shp (by omega)
      have HH := Lib.hid h
      obtain ⟨o, ho⟩ : ∃ o, (j + 1) / 2 = o := ⟨_, rfl⟩
      have hoi : ((j : Int) + 1) / 2 = o := by omega
      have HO := Lib.hid (And.intro ho (hF.ones.trans ho))
      have HF := Lib.hid hF
      have HLJ := Lib.hid hlj
      clear h hF ho h1 hj hlt hlj
      go_wp2_with fail
      (with_reducible refine keyS.mono ?_); rintro e w2 ⟨rfl, hb2⟩
      have key := keyM w2
      have hT2 := HH.out.tre.below hb2
      have hB2 := HH.out.below.trans (hb2.mono HH.out.below.size)
      clear keyM keyS hb2
      go_wp2_with fail
      (with_reducible refine key.mono ?_); rintro e w3 ⟨rfl, hb3⟩
      have hT3 := hT2.below hb3
      have hB3 := hB2.trans (hb3.mono hB2.size)
      have keyO := kones (o : Int) w3 hT3 (by rw [HO.out.2])
      have H3 := Lib.hid (show Two W.heap.size W w3 W.heap.size S L from ⟨hT3, hB3⟩)
      clear key hb3 hT2 hB2 hT3 hB3
      go_wp2_with fail
      (with_reducible refine keyO.mono ?_); rintro e w3' ⟨rfl, rfl⟩
      clear keyO
      go_wp2_with fail
      (try simp only [hoi])
      go_loopw [9, 10, 11, 12, 80, 88] (fun i _ _ _ _ _ wr => ∃ (i' : Nat) (S : St), i' ≤ 2000 ∧ i = .int .i64 i' ∧ Two W.heap.size W wr W.heap.size S L) (fun i _ _ _ _ _ _ => j - (intOf i).toNat)
      case atStart => exact ⟨0, S, Nat.zero_le _, rfl, H3.out⟩
      case round =>
        obtain ⟨i', S, hi', rfl, h⟩ := hrel
        by_cases hlt : i' < j
        · have hi2 : (i' : Int) < j := by omega
          obtain ⟨d, hd⟩ : ∃ d, j - 1 - i' = d := ⟨_, rfl⟩
          have hdi : (j : Int) - 1 - i' = d := by omega
          have hdb : (d : Int) ≤ 900 := by omega
          obtain ⟨b, hb⟩ : ∃ b, Hp r j i' = b := ⟨_, rfl⟩
          obtain ⟨st, hst⟩ : ∃ st, j / 30 = st := ⟨_, rfl⟩
          have hsti : (j : Int) / 30 = st := by omega
          have hst2 : (st : Int) ≤ 900 := by omega
          have keyG := kget_at (i' : Int) b 0 wr h.tre (by rw [HLJ.out]; omega) (by rw [HF.out.get hlt, hb]) (by unfold Blk.getE; rw [if_pos (by rw [HLJ.out]; omega)])
          have HH := Lib.hid h
          have hor : ((IntKind.u64.wrap e0).tmod 3 = 0 ∧ (d : Int) % 2 = 0 ∧ b = true) ∨ ((IntKind.u64.wrap e0).tmod 3 = 0 ∧ (d : Int) % 2 = 1 ∧ b = false) ∨ ((IntKind.u64.wrap e0).tmod 3 = 1 ∧ (i' : Int) % 2 = 0 ∧ b = true) ∨ ((IntKind.u64.wrap e0).tmod 3 = 1 ∧ (i' : Int) % 2 = 1 ∧ b = false) ∨ ((IntKind.u64.wrap e0).tmod 3 = 2 ∧ (i' : Int) < o ∧ b = true) ∨ ((IntKind.u64.wrap e0).tmod 3 = 2 ∧ ¬ (i' : Int) < o ∧ b = false) := by
            obtain ⟨hr, er⟩ := HR.out
            have hoo := HO.out.1
            rw [er]
            unfold Hp at hb
            rw [hd, hoo] at hb
            have h3 : r = 0 ∨ r = 1 ∨ r = 2 := by omega
            rcases h3 with rfl | rfl | rfl
            · rw [if_pos rfl] at hb
              by_cases c : d % 2 = 0
              · rw [decide_eq_true c] at hb; exact .inl ⟨rfl, by omega, hb.symm⟩
              · rw [decide_eq_false c] at hb; exact .inr (.inl ⟨rfl, by omega, hb.symm⟩)
            · rw [if_neg (by omega), if_pos rfl] at hb
              by_cases c : i' % 2 = 0
              · rw [decide_eq_true c] at hb; exact .inr (.inr (.inl ⟨rfl, by omega, hb.symm⟩))
              · rw [decide_eq_false c] at hb; exact .inr (.inr (.inr (.inl ⟨rfl, by omega, hb.symm⟩)))
            · rw [if_neg (by omega), if_neg (by omega)] at hb
              by_cases c : i' < o
              · rw [decide_eq_true c] at hb; exact .inr (.inr (.inr (.inr (.inl ⟨rfl, by omega, hb.symm⟩))))
              · rw [decide_eq_false c] at hb; exact .inr (.inr (.inr (.inr (.inr ⟨rfl, by omega, hb.symm⟩))))
          clear h hb hd
          rcases hor with ⟨e3, hp, rfl⟩ | ⟨e3, hp, rfl⟩ | ⟨e3, hp, rfl⟩ | ⟨e3, hp, rfl⟩ | ⟨e3, hp, rfl⟩ | ⟨e3, hp, rfl⟩
          all_goals
            go_wp2_with fail
            (with_reducible refine keyG.mono ?_); rintro e w4 ⟨rfl, v4, q1, q2, _, _⟩
            have H4 := Lib.hid (show Two W.heap.size W w4 W.heap.size (S.see v4) L from ⟨q1, HH.out.below.trans q2⟩)
            clear q1 q2 keyG
            go_wp2_with fail
            go_roundw
            case rel => exact ⟨i' + 1 + st, _, by omega, by go_num, H4.out⟩
            case measure => simp [intOf]; omega
        · have hi2 : ¬ (i' : Int) < j := by omega
          have hbw := h.below
          have keyT := told_any wr (HT.out.below hbw hW0) (by have := hbw.size; omega)
          clear h
          go_wp2_with fail
          (with_reducible refine keyT.mono ?_); rintro e w7 ⟨rfl, hb7⟩
          have hB7 := hbw.trans (hb7.mono hbw.size)
          go_wp2_with fail
          go_ret
          exact ⟨rfl, hB7⟩
end Go.Proofs.YtfbhcbcpeocmcaaDoor
