/- TreeGrows as a walk. -/
import Derived.Test.YtfbhcbcpeocmcaaDoorTlD
namespace Go.Proofs.YtfbhcbcpeocmcaaDoor
open Go Go.ChangeShapes Go.WideShapes Go.ChangeAt Go.RowKit Tr

theorem ins_count {l : List Bool} {k : Nat} {b : Bool} : (Blk.ins l k b).count true = l.count true + (if b then 1 else 0) := by
  unfold Blk.ins
  rw [List.count_append, List.count_cons]
  conv => rhs; rw [← List.take_append_drop k l, List.count_append]
  cases b <;> simp <;> omega
/-- A list that grew to j, every fifth a 1. -/
structure Fives (j : Nat) (L : List Bool) : Prop where
  len : L.length = j
  ones : L.count true = (j + 4) / 5
theorem Fives.ins {j q : Nat} {L : List Bool} {x : Bool} (h : Fives j L) (hq : q ≤ j) (hx : ((j : Int) % 5 == 0) = x) : Fives (j + 1) (Blk.ins L q x) := by
  refine ⟨by rw [Blk.ins_len (by rw [h.len]; exact hq), h.len], ?_⟩
  rw [ins_count, h.ones, ← hx]
  by_cases c : (j : Int) % 5 = 0
  · simp [c]; omega
  · simp [c]; omega
set_option maxRecDepth 100000 in
set_option maxHeartbeats 6400000 in
theorem treegrows_w (n0 at0 : Int) (W : World) (_ : (Lit.int .i64 n0).wf = true) (_ : (Lit.int .i64 at0).wf = true) (hL : LaidFact W) :
    Calls Tryd.prog 5 #[.int .i64 n0, .int .i64 at0] W fun e w' => e = .returned (.bool true) ∧ Below W.heap.size W w' := by
  have HT := Lib.hid hL.tab
  have hW0 := hL.pos
  obtain ⟨k, hk, ek⟩ := mod_any n0 1201 (by decide) (by decide)
  change RowKit.wrap64 ((IntKind.u64.wrap n0).tmod 1201) = _ at ek
  have hki : (k : Int) ≤ 1200 := by omega
  have key := tnew_none W
  clear hL
  go_enter Tryd.func5, Tryd.ntmps5
  go_wp2_with fail
  (with_reducible refine key.mono ?_); rintro e w1 ⟨S0, rfl, hN⟩
  have h1 : Two W.heap.size W w1 W.heap.size S0 [] := ⟨hN.tre, hN.below⟩
  clear hN key
  go_wp2_with fail
  (try simp only [ek])
  clear ek
  go_loopw [7, 8, 9] (fun i _ _ wr => ∃ (j : Nat) (S : St) (L : List Bool), j ≤ k ∧ i = .int .i64 j ∧ Fives j L ∧ Two W.heap.size W wr W.heap.size S L) (fun i _ _ _ => k - (intOf i).toNat)
  case atStart => exact ⟨0, S0, [], Nat.zero_le _, rfl, ⟨rfl, rfl⟩, h1⟩
  case round =>
    obtain ⟨j, S, L, hj, rfl, hF, h⟩ := hrel
    by_cases hlt : j < k
    · have hi1 : (j : Int) < k := by omega
      have hjb : (j : Int) ≤ 1200 := by omega
      have keyN := near_any at0 j wr (by omega)
      have hlj := hF.len
      obtain ⟨ln, ht, lv, nd, keyS, _, hsh⟩ := h.tre.shp (by omega)
      have hfd : ∀ w : World, (Instr.field 35 (.agg #[.int .i64 ln, .int .i64 ht, .int .i64 lv, .int .i64 nd]) 1).run Tryd.prog w = .ok (.int .i64 ht) w := fun _ => by kernel_rfl
      have HF := Lib.hid hF
      have HH := Lib.hid h
      have HLJ := Lib.hid hlj
      clear hF h h1 hlj
      have hor3 : (IntKind.u64.wrap at0).tmod 3 = 0 ∨ ¬ (IntKind.u64.wrap at0).tmod 3 = 0 := Classical.em _
      have hor16 : (j : Int) % 16 = 0 ∨ ¬ (j : Int) % 16 = 0 := Classical.em _
      go_wp2_with fail
      (with_reducible refine keyN.mono ?_); rintro e w2 ⟨rfl, p, hp, rfl⟩
      have HP := Lib.hid hp
      clear hp keyN
      rcases hor3 with h3 | h3
      all_goals
        go_wp2_with fail
        (with_reducible refine keyS.mono ?_); rintro e w3 ⟨rfl, hb3⟩
        have hT3 := HH.out.tre.below hb3
        have hB3 := HH.out.below.trans (hb3.mono HH.out.below.size)
        have keyA := fun (q : Nat) (hq : q ≤ j) => kins (Blk.ins L q ((j : Int) % 5 == 0)) q q ((j : Int) % 5 == 0) w3 hT3 rfl (by rw [HLJ.out]; exact hq) (by rw [HLJ.out]; omega) rfl
        clear keyS hb3
        go_wp2_with fail
        first
        | (with_reducible refine (keyA j (Nat.le_refl _)).mono ?_); rintro e w4 ⟨rfl, S4, hI, hb4⟩; (have hF4 := HF.out.ins (Nat.le_refl _) rfl)
        | (with_reducible refine (keyA p HP.out).mono ?_); rintro e w4 ⟨rfl, S4, hI, hb4⟩; (have hF4 := HF.out.ins HP.out rfl)
        have hT4 := hI.tre
        have hB4 := hB3.trans hb4
        have hv4 := hI.vis
        have hl4 := hF4.len
        have keyF := fine_any ht w4 hT4 (by omega) (by have := HH.out.tre.2.ht; have := hsh.out.1; have := HLJ.out; omega) (by have := hsh.out.1; omega)
        have HF4 := Lib.hid hF4
        have HT4 := Lib.hid hT4
        clear hI hb4 keyA hT3 hB3 hF4 hl4 hv4 hT4
        rcases hor16 with h16 | h16
        · go_wp2_with fail
          (with_reducible refine keyF.mono ?_); rintro e w5 ⟨rfl, hT5, hb5⟩
          have h5 : Two W.heap.size W w5 W.heap.size S4 _ := ⟨hT5, hB4.trans (hb5.mono hB4.size)⟩
          clear hT5 hb5 keyF
          go_wp2_with fail
          go_roundw
          case rel => exact ⟨j + 1, S4, _, hlt, by go_num, HF4.out, h5⟩
          case measure => simp [intOf]; omega
        · have h4 : Two W.heap.size W w4 W.heap.size S4 _ := ⟨HT4.out, hB4⟩
          clear keyF
          go_wp2_with fail
          go_roundw
          case rel => exact ⟨j + 1, S4, _, hlt, by go_num, HF4.out, h4⟩
          case measure => simp [intOf]; omega
    · obtain rfl : j = k := by omega
      have hi1 : ¬ (j : Int) < j := by omega
      have keyT := told_any wr (HT.out.below h.below hW0) (by have := h.below.size; omega)
      have HH := Lib.hid h
      obtain ⟨o, ho⟩ : ∃ o, (j + 4) / 5 = o := ⟨_, rfl⟩
      have hoi : ((j : Int) + 4) / 5 = o := by omega
      have hF1 := Lib.hid hF.len
      have hF2 := Lib.hid (hF.ones.trans ho)
      clear h hF ho h1 hj hlt
      go_wp2_with fail
      (with_reducible refine keyT.mono ?_); rintro e w3 ⟨rfl, hb3⟩
      have h3 := HH.out.tre.below hb3
      have hB3 := HH.out.below.trans (hb3.mono HH.out.below.size)
      have keyN := klen (j : Int) w3 h3 (by rw [hF1.out])
      have keyO := kones (o : Int) w3 h3 (by rw [hF2.out])
      have keyR := krank (j : Int) true o w3 h3 (by rw [hF1.out]; omega) (by
        have : place L.length (j : Int) = L.length := by unfold place; rw [hF1.out]; omega
        rw [this, Blk.rk_all (Nat.le_refl _), hF2.out])
      clear hb3 keyT
      go_wp2_with fail
      (with_reducible refine keyN.mono ?_); rintro e w3' ⟨rfl, rfl⟩
      go_wp2_with fail
      (with_reducible refine keyO.mono ?_); rintro e w3' ⟨rfl, rfl⟩
      go_wp2_with fail
      (with_reducible refine keyR.mono ?_); rintro e w4 ⟨rfl, v4, h4, hb4, _, _⟩
      have hB4 := hB3.trans hb4
      have keyO := kones (o : Int) w4 h4 (by rw [hF2.out])
      clear keyR keyN
      go_wp2_with fail
      (with_reducible refine keyO.mono ?_); rintro e w4' ⟨rfl, rfl⟩
      go_wp2_with fail
      go_ret
      exact ⟨rfl, hB4⟩
end Go.Proofs.YtfbhcbcpeocmcaaDoor
