/- TreePlays as a walk. -/
import Derived.Test.YtfbhcbcpeocmcaaDoorTlI
import Derived.Deep.RegionLaw
namespace Go.Proofs.YtfbhcbcpeocmcaaDoor
open Go Go.ChangeShapes Go.WideShapes Go.ChangeAt Go.RowKit Tr

set_option maxRecDepth 100000 in
set_option maxHeartbeats 6400000 in
theorem treeplays_w (a0 : Option Addr) (len0 cap0 : Nat) (z0 : List Int) (a1 : Option Addr) (len1 cap1 : Nat) (W : World) (r0 : IsRow .i64 W a0 len0 cap0 z0) (hops : RdOps W a1 len1) (hL : LaidFact W) :
    Calls Tryd.prog 3 #[.slice a0 len0 cap0, .slice a1 len1 cap1] W fun e w' => e = .returned (.bool true) ∧ Below W.heap.size W w' := by
  have hrd := RdI.of_row r0
  have HT := Lib.hid hL.tab
  have HOPS := Lib.hid hops
  have hW0 := hL.pos
  have key := bits_any a0 len0 cap0 700 W hrd (by decide)
  clear r0 hL hrd hops
  go_enter Tryd.func3, Tryd.ntmps3
  go_wp2_with fail
  refine key.mono ?_
  rintro e w1 ⟨v, m, rfl, hown, hLL, hb1⟩
  have hsz1 := hb1.size
  have hRD := OwnB.rd hown
  obtain ⟨av, cv, rfl, _, _⟩ := own_form hown
  have key := tnew w1 hRD (by omega)
  have hlow := hown.lt
  have HRD := Lib.hid hRD
  have HB1 := Lib.hid hb1
  have HLOW := Lib.hid hlow
  clear hown hRD hb1 hlow
  go_wp2_with fail
  (with_reducible refine key.mono ?_); rintro e w2 ⟨S0, rfl, hN⟩
  have hP : PlT W w1.heap.size w1.heap.size w2 S0 (.slice av m.length cv) m := by
    refine ⟨hN.tre, HRD.out.below (hN.below), fun q hq => ?_, HB1.out.trans (hN.below.mono hsz1), hsz1⟩
    have h1 := (HLOW.out q hq).2
    cases e : S0.own q with
    | none => rfl
    | some x =>
      obtain ⟨⟨g, a, c, hx⟩, _⟩ := hN.tre
      have := (hx.lab q x e).1
      omega
  have HV0 := Lib.hid hN.vis
  have HP := Lib.hid hP
  have key := tall w2 hP.tre (by omega)
  clear hN hP HRD HLOW
  go_wp2_with fail
  (with_reducible refine key.mono ?_); rintro e w3 ⟨v3, rfl, hown3, hb3⟩
  have h3 := HP.out.step hb3
  have key := rsame_eq w3 (OwnB.rd hown3) h3.rd
  have H3 := Lib.hid h3
  obtain ⟨a3, c3, rfl, _, _⟩ := own_form hown3
  clear hown3 hb3 h3 HP
  go_wp2_with fail
  (with_reducible refine key.mono ?_); rintro e w4 ⟨rfl, hb4⟩
  have h4 := H3.out.step hb4
  have key := fine_any 0 w4 h4.tre (by omega) (by omega) (by rw [HV0.out]; omega)
  rw [show ((0 : Nat) : Int) = 0 from rfl] at key
  have H4 := Lib.hid h4
  clear hb4 h4 H3 HV0
  go_wp2_with fail
  (with_reducible refine key.mono ?_); rintro e w5 ⟨rfl, _, hb5⟩
  have h5 := H4.out.step hb5
  clear hb5 key H4
  generalize w1.heap.size = B at *
  by_cases hlong : 150 < len1
  · have i1 : (150 : Int) < len1 := by omega
    have keyT := told_any w5 (HT.out.below h5.bel hW0) (by have := h5.bel.size; omega)
    have H5 := Lib.hid h5
    clear h5
    go_wp2_with fail
    (with_reducible refine keyT.mono ?_); rintro e w6 ⟨rfl, hb6⟩
    have h6 := H5.out.step hb6
    go_wp2_with fail
    go_ret
    exact ⟨rfl, h6.bel⟩
  · have i1 : ¬ (150 : Int) < len1 := by omega
    go_wp2_with fail
    have hl150 : len1 ≤ 150 := by omega
    clear i1 hlong
    go_loopw [5, 7, 8, 9, 10, 11, 12, 13, 14, 74, 98] (fun m i _ _ _ _ _ _ _ _ _ wr => ∃ (j : Nat) (S : St) (L : List Bool) (a : Option Addr) (c : Nat), j ≤ len1 ∧ i = .int .i64 j ∧ m = .slice a L.length c ∧ L.length ≤ 700 + j ∧ PlT W B B wr S (.slice a L.length c) L) (fun _ i _ _ _ _ _ _ _ _ _ _ => len1 - (intOf i).toNat)
    case atStart => exact ⟨0, S0, m, _, _, Nat.zero_le _, rfl, rfl, by omega, h5⟩
    case round =>
      obtain ⟨j, S, L, aL, cL, hj, rfl, rfl, hll, h⟩ := hrel
      clear h5 hLL
      have hml : (L.length : Int) ≤ 850 := by omega
      by_cases hlt : j < len1
      · have hi1 : (j : Int) < len1 := by omega
        have hjb : (j : Int) ≤ 150 := by omega
        obtain ⟨ob0, off, rfl, hob, hops⟩ := HOPS.out.2 (by omega)
        obtain ⟨z, k, c, c0, c1, c2, _, hk1, hk2⟩ := hops j hlt
        have g0 := (h.bel.cell (p := ⟨ob0, off + j * 3, none⟩) hob).trans c0
        have g1 := (h.bel.cell (p := ⟨ob0, off + j * 3 + 1, none⟩) hob).trans c1
        have g2 := (h.bel.cell (p := ⟨ob0, off + j * 3 + 2, none⟩) hob).trans c2
        have H := Lib.hid h
        clear h hops c0 c1 c2
        have hOP0 : OpAt (wr.alloc (Obj.cells #[.int .i64 z, .int .i64 k, .bool c] 33)) wr.heap.size z k c := alloc_of
        have hP0 := H.out.step (Below.allocs (Below.refl _ _) (Obj.cells #[.int .i64 z, .int .i64 k, .bool c] 33))
        have hOWN : S.own wr.heap.size = none := by
          cases e : S.own wr.heap.size with
          | none => rfl
          | some x =>
            obtain ⟨⟨g, a, c, hx⟩, _⟩ := H.out.tre
            have := (hx.lab _ x e).2
            omega
        go_wp2_with fail
        generalize wr.alloc (Obj.cells #[.int .i64 z, .int .i64 k, .bool c] 33) = w2 at *
        generalize wr.heap.size = ob at *
        obtain ⟨ln, ht, lv, nd, keyS, _, hsh⟩ := (hP0.drewN 1).tre.shp (by omega)
        have hfd : ∀ w : World, (Instr.field 35 (.agg #[.int .i64 ln, .int .i64 ht, .int .i64 lv, .int .i64 nd]) 1).run Tryd.prog w = .ok (.int .i64 ht) w := fun _ => by kernel_rfl
        have keyS' : Calls Tryd.prog 17 #[.pointer (some ⟨B, 0, none⟩)] w2.drew (fun e w' => e = .returned (.agg #[.int .i64 ln, .int .i64 ht, .int .i64 lv, .int .i64 nd]) ∧ Below w2.drew.heap.size w2.drew w') := keyS
        have HP0 := Lib.hid hP0
        have HOP0 := Lib.hid hOP0
        have o1 : w2.drew.cell? ⟨ob, 1, none⟩ = some (.int .i64 k) := hOP0.c1
        clear hP0 hOP0 keyS g0 g1 g2
        go_cut [9, 10] (fun k' h' wx => k' = .int .i64 k ∧ h' = .int .i64 ht ∧ PlT W B B wx S (.slice aL L.length cL) L ∧ OpAt wx ob z k c)
        case first =>
          go_region_law (first | (go_simp; (go_at_call 17; (with_reducible refine keyS'.mono ?_); rintro e w3 ⟨rfl, hb3⟩; (have hOP3 := HOP0.out.below (Below.drewed hb3)); (have o3 := hOP3.c1); (have HOP3 := Lib.hid hOP3); (have HP3 := Lib.hid (HP0.out.step (Below.drewed hb3))); clear hb3 hOP3)))
          all_goals
            go_wp2_with fail
            go_meet
            case rel => exact ⟨rfl, rfl, HP3.out, HOP3.out⟩
        case rest =>
        obtain ⟨rfl, rfl, hP3, hOP3⟩ := hcut
        clear o1 hfd keyS'
        have HP3 := Lib.hid hP3
        have HOP3 := Lib.hid hOP3
        clear hP3 hOP3
        generalize wc = w3 at *
        go_upto_if 54 with fail
        go_cut [9] (fun k' wx => ∃ K : Int, k' = .int .i64 K ∧ w3 = wx)
        case first =>
          by_cases h9 : (j : Int) % 9 < 8
          · have keyN := near_any k L.length w3 (by omega)
            go_wp2_with fail
            (with_reducible refine keyN.mono ?_); rintro e w4 ⟨rfl, p, hp, rfl⟩
            go_wp2_with fail
            go_meet
            case rel => exact ⟨p, rfl, rfl⟩
          · go_wp2_with fail
            go_meet
            case rel => exact ⟨k, rfl, rfl⟩
        case rest =>
        obtain ⟨K, rfl, rfl⟩ := hcut
        obtain ⟨kk, hkk, hk8⟩ := and7 z
        have o0 := HOP3.out.c0
        have o2 := HOP3.out.c2
        go_upto_if 74 with fail
        go_cut [74] (fun b wx => ∃ b5 : Bool, b = .bool b5 ∧ ((b5 = true ∧ kk < 5) ∨ (b5 = false ∧ (kk = 5 ∨ kk = 6 ∨ kk = 7))) ∧ w3 = wx)
        case first =>
          have h8 : ((((((kk = 0 ∨ kk = 1) ∨ kk = 2) ∨ kk = 3) ∨ kk = 4) ∨ kk = 5) ∨ kk = 6) ∨ kk = 7 := by omega
          obtain (((((((rfl | rfl) | rfl) | rfl) | rfl) | rfl) | rfl) | rfl) := h8
          all_goals
            go_wp2_with fail
            go_meet
            case rel => exact ⟨_, rfl, by decide, rfl⟩
        case rest =>
        obtain ⟨b5, rfl, h5, rfl⟩ := hcut
        rcases h5 with ⟨rfl, h5⟩ | ⟨rfl, h5⟩
        · clear h5 hkk
          by_cases hin : 0 ≤ K ∧ K ≤ L.length
          · obtain ⟨n, hKn⟩ : ∃ n : Nat, K = n := ⟨K.toNat, by omega⟩
            have hn : n ≤ L.length := by omega
            have i2 : ¬ K < 0 := by omega
            have i3 : ¬ (L.length : Int) < K := by omega
            obtain ⟨M, hM⟩ : ∃ M, Blk.ins L n c = M := ⟨_, rfl⟩
            have key := kins M K n c w3 HP3.out.tre hKn hn (by omega) hM
            have HM := Lib.hid hM
            have HKN := Lib.hid hKn
            clear hKn hin o0 hM
            go_wp2_with fail
            (with_reducible refine key.mono ?_); rintro e w4 ⟨rfl, S4, hI, hb4⟩
            obtain ⟨hrd4, hap4, hbel4⟩ := HP3.out.turn hI.mv hb4
            have o4 := (HOP3.out.mv hI.mv hOWN).c2
            have key := rin_to K n c w4 hrd4 HKN.out hn (by omega)
            have HI := Lib.hid (And.intro hI.tre (And.intro hI.vis hbel4))
            clear hI hb4 hrd4 hap4 hbel4
            go_wp2_with fail
            (with_reducible refine key.mono ?_); rintro e w5 ⟨v5, rfl, hown5, hb5⟩
            rw [HM.out] at hown5
            have hP5 := PlT.own HI.out.1 HI.out.2.2 HP3.out.le hown5 hb5
            obtain ⟨a5, c5, rfl, _, _⟩ := hP5.rd.open
            have HP5 := Lib.hid hP5
            clear hown5 hb5 hP5 key
            have HX : Hid (PlT W B B w5 S4 (.slice a5 M.length c5) M ∧ M.length ≤ L.length + 1 ∧ St.vis S4 ≤ 4 * S.rt.ht + 3) := Lib.hid ⟨HP5.out, by have := HM.out; rw [← this, Blk.ins_len hn]; exact Nat.le_refl _, HI.out.2.1⟩
            have key := fine_any ht _ HX.out.1.tre (by have := HX.out.2.1; omega) (by have := HP3.out.tre.2.ht; have := hsh.out.1; omega) (by have := HX.out.2.2; have := hsh.out.1; omega)
            go_wp2_with fail
            (with_reducible refine key.mono ?_); rintro e w6 ⟨rfl, _, hb6⟩
            have h6 := HX.out.1.step hb6
            have key := same5 K w6 h6 HT.out hW0 (by have := HX.out.2.1; omega)
            clear hb6 h6
            go_wp2_with fail
            (with_reducible refine key.mono ?_); rintro e w7 ⟨rfl, S7, h7⟩
            have H7 := Lib.hid h7
            clear h7 key
            go_wp2_with fail
            go_roundw
            case rel => exact ⟨j + 1, S7, _, _, _, hlt, by go_num, rfl, by have := HX.out.2.1; omega, H7.out⟩
            case measure => simp [intOf]; omega
          · have hor : K < 0 ∨ (¬ K < 0 ∧ (L.length : Int) < K) := by omega
            have key := tinsert_out K c w3 HP3.out.tre (by omega)
            clear hin o0
            rcases hor with i2 | ⟨i2, i3⟩
            all_goals
              go_wp2_with fail
              (with_reducible refine key.mono ?_); rintro e w4 ⟨rfl, q2, q3⟩
              have HP4 := Lib.hid (HP3.out.see ⟨q2, HP3.out.tre.2⟩ q3 (HP3.out.tre.1.wide1 q3))
              clear q2 q3 key
              have HX : Hid (PlT W B B w4 (S.see 0) (.slice aL L.length cL) L ∧ L.length ≤ L.length + 1 ∧ St.vis (S.see 0) ≤ 4 * S.rt.ht + 3) := Lib.hid ⟨HP4.out, Nat.le_succ _, Nat.zero_le _⟩
              have key := fine_any ht _ HX.out.1.tre (by have := HX.out.2.1; omega) (by have := HP3.out.tre.2.ht; have := hsh.out.1; omega) (by have := HX.out.2.2; have := hsh.out.1; omega)
              go_wp2_with fail
              (with_reducible refine key.mono ?_); rintro e w6 ⟨rfl, _, hb6⟩
              have h6 := HX.out.1.step hb6
              have key := same5 K w6 h6 HT.out hW0 (by have := HX.out.2.1; omega)
              clear hb6 h6
              go_wp2_with fail
              (with_reducible refine key.mono ?_); rintro e w7 ⟨rfl, S7, h7⟩
              have H7 := Lib.hid h7
              clear h7 key
              go_wp2_with fail
              go_roundw
              case rel => exact ⟨j + 1, S7, _, _, _, hlt, by go_num, rfl, by have := HX.out.2.1; omega, H7.out⟩
              case measure => simp [intOf]; omega
        · clear o2
          rcases h5 with rfl | rfl | rfl
          rotate_left 2
          · obtain ⟨gb, hgb⟩ : ∃ x, Blk.getB L K = x := ⟨_, rfl⟩
            obtain ⟨ge, hge⟩ : ∃ x, Blk.getE L K = x := ⟨_, rfl⟩
            have key := kget_at K gb ge w3 HP3.out.tre (by omega) hgb hge
            have HG := Lib.hid (And.intro hgb hge)
            clear hgb hge
            go_wp2_with fail
            (with_reducible refine key.mono ?_); rintro e w4 ⟨rfl, v4, q1, q2, q3, q4⟩
            have HP4 := Lib.hid (HP3.out.see q1 q4 q2)
            have HV4 := Lib.hid q3
            have key := rgets_to K gb ge w4 HP4.out.rd HG.out.1 HG.out.2
            clear q1 q2 q3 q4
            go_wp2_with fail
            (with_reducible refine key.mono ?_); rintro e w4' ⟨rfl, rfl⟩
            clear key
            have HX : Hid (PlT W B B w4 (S.see v4) (.slice aL L.length cL) L ∧ L.length ≤ L.length + 1 ∧ St.vis (S.see v4) ≤ 4 * S.rt.ht + 3) := Lib.hid ⟨HP4.out, Nat.le_succ _, by have := HV4.out; show v4 ≤ _; omega⟩
            have key := fine_any ht _ HX.out.1.tre (by have := HX.out.2.1; omega) (by have := HP3.out.tre.2.ht; have := hsh.out.1; omega) (by have := HX.out.2.2; have := hsh.out.1; omega)
            go_wp2_with fail
            (with_reducible refine key.mono ?_); rintro e w6 ⟨rfl, _, hb6⟩
            have h6 := HX.out.1.step hb6
            have key := same5 K w6 h6 HT.out hW0 (by have := HX.out.2.1; omega)
            clear hb6 h6
            go_wp2_with fail
            (with_reducible refine key.mono ?_); rintro e w7 ⟨rfl, S7, h7⟩
            have H7 := Lib.hid h7
            clear h7 key
            go_wp2_with fail
            go_roundw
            case rel => exact ⟨j + 1, S7, _, _, _, hlt, by go_num, rfl, by have := HX.out.2.1; omega, H7.out⟩
            case measure => simp [intOf]; omega
          all_goals
            by_cases hin : 0 ≤ K ∧ K < L.length
            · obtain ⟨n, hKn⟩ : ∃ n : Nat, K = n := ⟨K.toNat, by omega⟩
              have hn : n < L.length := by omega
              obtain ⟨x, hx⟩ : ∃ x, L.getD n false = x := ⟨_, rfl⟩
              have HGB : Hid (Blk.getB L K = x) := Lib.hid (by unfold Blk.getB; rw [if_pos hin, hKn, Int.toNat_natCast, hx])
              have HGE : Hid (Blk.getE L K = 0) := Lib.hid (by unfold Blk.getE; rw [if_pos hin])
              obtain ⟨M, hM⟩ : ∃ M, Blk.del L n = M := ⟨_, rfl⟩
              have key := kdel M K n x w3 HP3.out.tre hKn hn (by omega) hx hM
              have HM := Lib.hid hM
              have HKN := Lib.hid hKn
              clear hKn hin hx hM
              go_wp2_with fail
              (with_reducible refine key.mono ?_); rintro e w4 ⟨rfl, S4, hD, hb4⟩
              obtain ⟨hrd4, hap4, hbel4⟩ := HP3.out.turn hD.mv hb4
              have key := rgets_to K x 0 w4 hrd4 HGB.out HGE.out
              have key2 := rout_to K n w4 hrd4 HKN.out hn (by omega)
              have HI := Lib.hid (And.intro hD.tre (And.intro hD.vis hbel4))
              clear hD hb4 hrd4 hap4 hbel4
              go_wp2_with fail
              (with_reducible refine key.mono ?_); rintro e w4' ⟨rfl, rfl⟩
              clear key
              go_wp2_with fail
              (with_reducible refine key2.mono ?_); rintro e w5 ⟨v5, rfl, hown5, hb5⟩
              rw [HM.out] at hown5
              have hP5 := PlT.own HI.out.1 HI.out.2.2 HP3.out.le hown5 hb5
              obtain ⟨a5, c5, rfl, _, _⟩ := hP5.rd.open
              have HP5 := Lib.hid hP5
              clear hown5 hb5 hP5 key2
              have HX : Hid (PlT W B B w5 S4 (.slice a5 M.length c5) M ∧ M.length ≤ L.length + 1 ∧ St.vis S4 ≤ 4 * S.rt.ht + 3) := Lib.hid ⟨HP5.out, by have := HM.out; rw [← this, Blk.del_len hn]; omega, by have := HI.out.2.1; omega⟩
              have key := fine_any ht _ HX.out.1.tre (by have := HX.out.2.1; omega) (by have := HP3.out.tre.2.ht; have := hsh.out.1; omega) (by have := HX.out.2.2; have := hsh.out.1; omega)
              go_wp2_with fail
              (with_reducible refine key.mono ?_); rintro e w6 ⟨rfl, _, hb6⟩
              have h6 := HX.out.1.step hb6
              have key := same5 K w6 h6 HT.out hW0 (by have := HX.out.2.1; omega)
              clear hb6 h6
              go_wp2_with fail
              (with_reducible refine key.mono ?_); rintro e w7 ⟨rfl, S7, h7⟩
              have H7 := Lib.hid h7
              clear h7 key
              go_wp2_with fail
              go_roundw
              case rel => exact ⟨j + 1, S7, _, _, _, hlt, by go_num, rfl, by have := HX.out.2.1; omega, H7.out⟩
              case measure => simp [intOf]; omega
            · have hout : K < 0 ∨ (L.length : Int) ≤ K := by omega
              have HGB : Hid (Blk.getB L K = false) := Lib.hid (by unfold Blk.getB; rw [if_neg hin])
              have HGE : Hid (Blk.getE L K = 2) := Lib.hid (by unfold Blk.getE; rw [if_neg hin])
              have key := tdelete_out K w3 HP3.out.tre hout
              clear hin hout
              go_wp2_with fail
              (with_reducible refine key.mono ?_); rintro e w4 ⟨rfl, q2, q3⟩
              have HP4 := Lib.hid (HP3.out.see ⟨q2, HP3.out.tre.2⟩ q3 (HP3.out.tre.1.wide1 q3))
              have key := rgets_to K false 2 w4 HP4.out.rd HGB.out HGE.out
              clear q2 q3
              go_wp2_with fail
              (with_reducible refine key.mono ?_); rintro e w4' ⟨rfl, rfl⟩
              clear key
              have HX : Hid (PlT W B B w4 (S.see 0) (.slice aL L.length cL) L ∧ L.length ≤ L.length + 1 ∧ St.vis (S.see 0) ≤ 4 * S.rt.ht + 3) := Lib.hid ⟨HP4.out, Nat.le_succ _, Nat.zero_le _⟩
              have key := fine_any ht _ HX.out.1.tre (by have := HX.out.2.1; omega) (by have := HP3.out.tre.2.ht; have := hsh.out.1; omega) (by have := HX.out.2.2; have := hsh.out.1; omega)
              go_wp2_with fail
              (with_reducible refine key.mono ?_); rintro e w6 ⟨rfl, _, hb6⟩
              have h6 := HX.out.1.step hb6
              have key := same5 K w6 h6 HT.out hW0 (by have := HX.out.2.1; omega)
              clear hb6 h6
              go_wp2_with fail
              (with_reducible refine key.mono ?_); rintro e w7 ⟨rfl, S7, h7⟩
              have H7 := Lib.hid h7
              clear h7 key
              go_wp2_with fail
              go_roundw
              case rel => exact ⟨j + 1, S7, _, _, _, hlt, by go_num, rfl, by have := HX.out.2.1; omega, H7.out⟩
              case measure => simp [intOf]; omega
      · obtain rfl : j = len1 := by omega
        have hi1 : ¬ (j : Int) < j := by omega
        have keyT := told_any wr (HT.out.below h.bel hW0) (by have := h.bel.size; omega)
        have H := Lib.hid h
        clear h
        go_wp2_with fail
        (with_reducible refine keyT.mono ?_); rintro e w6 ⟨rfl, hb6⟩
        have h6 := H.out.step hb6
        have key := tall w6 h6.tre (by omega)
        have H6 := Lib.hid h6
        clear hb6 h6 keyT
        go_wp2_with fail
        (with_reducible refine key.mono ?_); rintro e w7 ⟨v7, rfl, hown7, hb7⟩
        have h7 := H6.out.step hb7
        have key := rsame_eq w7 (OwnB.rd hown7) h7.rd
        have H7 := Lib.hid h7
        obtain ⟨a7, c7, rfl, _, _⟩ := own_form hown7
        clear hb7 hown7 h7
        go_wp2_with fail
        (with_reducible refine key.mono ?_); rintro e w8 ⟨rfl, hb8⟩
        have h8 := H7.out.step hb8
        go_wp2_with fail
        go_ret
        exact ⟨rfl, h8.bel⟩
end Go.Proofs.YtfbhcbcpeocmcaaDoor
