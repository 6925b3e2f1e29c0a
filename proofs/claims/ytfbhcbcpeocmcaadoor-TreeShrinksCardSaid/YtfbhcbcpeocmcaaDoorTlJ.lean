/- TreeShrinks as a walk. -/
import Derived.Test.YtfbhcbcpeocmcaaDoorTlI
import Derived.Test.YtfbhcbcpeocmcaaDoorBits6
import Derived.Deep.RegionLaw
import Derived.ArgAppend
namespace Go.Proofs.YtfbhcbcpeocmcaaDoor
open Go Go.ChangeShapes Go.WideShapes Go.ChangeAt Go.RowKit Tr

/-- A list without the bit at k, as append(m[:k:k], m[k+1:]...) makes it: anew, or cut at its end. -/
theorem step_append_cut {P : Program} (w : World) {ops : Array Oper} {o : Oper} {a : Act} {K : Act → World → Prop} {Q : Exit → Act → World → Prop} {E : Prop} (hgd : o.guard = none) (s x : Operand) (t : TypeId)
    (ho : o.op = .call { callee := .builtin .append, args := #[s, x], argTypes := #[t, t] })
    (i : TypeInfo) (ht : P.underlying t = some (.slice 4)) (hi : P.info? 4 = some i) (hz : i.zero = some (.bool false)) (hsize : i.size = 1) (hby : i.bytes = 1)
    (l : List Bool) (k k1 b off c2 : Nat) (ad : Addr) (hk1 : k1 = k + 1) (hs : a.eval s = .slice (some ⟨b, off, none⟩) k k) (hx : a.eval x = .slice (some ad) (l.length - k1) c2)
    (hk : k < l.length) (hl : l.length ≤ 1000000) (hb : b < w.heap.size) (hc : ∀ i, i < l.length → w.cell? ⟨b, off + i, none⟩ = some (.bool (l.getD i false)))
    (hadc : ∀ j u, ((l.drop k1).map Value.bool)[j]? = some u → w.cell? (ad.add j) = some u)
    (h : ∀ v' w', RdB w' v' (Blk.del l k) → Below w.heap.size w w' → (∀ q, v'.ownBlock = some q → q = b ∨ w.heap.size ≤ q) → K (a.put o.dst v') w') :
    if Region.wanted o (yielded ops a.tmps) = true then Oper.wp P o a w K Q else E := by
  have hw : Region.wanted o (yielded ops a.tmps) = true := by simp [Region.wanted, hgd]
  rw [if_pos hw]
  subst hk1
  have hdl := Blk.del_len hk
  have hlt : (l.take k).length = k := by rw [List.length_take]; omega
  have hld : (l.drop (k + 1)).length = l.length - (k + 1) := List.length_drop
  by_cases hend : k + 1 = l.length
  · have h0 : l.length - (k + 1) = 0 := by omega
    have hdd : Blk.del l k = l.take k := by unfold Blk.del; rw [List.drop_of_length_le (by omega), List.append_nil]
    have hr := run_append_room_cells (P := P) w t o.type 4 i ht hi b off k k ad 0 c2 [] (by simp) (by simp) (by simp) (by omega) (by simp) (by simp)
    rw [h0] at hx
    unfold Oper.wp execOp
    simp only [ho, resolve, invoke, builtin, Sem.run_bind, Sem.run_pure, Result.andThen_ok, List.map_toArray, List.map_cons, List.map_nil, hs, hx, hr]
    refine h _ _ ?_ (Below.refl _ _) (fun q hq => .inl (by simpa [Value.ownBlock] using hq.symm))
    rw [hdd]
    refine .inr ⟨b, off, k, by rw [hlt]; rfl, hb, by omega, by unfold maxLen; omega, fun i hi => ?_⟩
    rw [hlt] at hi
    refine (hc i (by omega)).trans ?_
    rw [List.getD_eq_getElem?_getD, List.getD_eq_getElem?_getD, List.getElem?_take, if_pos hi]
  · have holds : ∀ j u, ((l.take k).map Value.bool)[j]? = some u → w.cell? ((⟨b, off, none⟩ : Addr).add j) = some u := take_cells hc k (by omega)
    obtain ⟨v', w', hr, h2, h3⟩ := run_append_arg_grows (P := P) w t o.type 4 i (.bool false) 1 1 ht hi hz hsize hby rfl (by decide) ⟨b, off, none⟩ k k ((l.take k).map Value.bool) (by rw [List.length_map, hlt]; omega) holds ad (l.length - (k + 1)) c2 ((l.drop (k + 1)).map Value.bool) (by rw [List.length_map, hld]; omega) hadc (by omega) (by unfold maxLen; omega) (by omega)
    unfold Oper.wp execOp
    simp only [ho, resolve, invoke, builtin, Sem.run_bind, Sem.run_pure, Result.andThen_ok, List.map_toArray, List.map_cons, List.map_nil, hs, hx, hr]
    have hown : OwnB w.heap.size w' v' (l.take k ++ l.drop (k + 1)) := OwnB.app (by rw [hlt, hld]; exact h2)
    refine h _ _ (OwnB.rd hown) ((Below.refl _ _).grown h3 (Nat.le_refl _) (fun q hq => by cases hq)) (fun q hq => .inr (hown.lt q hq).1)
/-- A list in the hand, from anywhere. -/
theorem PlT.rdd {W : World} {B t b : Nat} {w w' : World} {S : St} {v' : Value} {L' : List Bool} (hT : Tre B w t S L') (hbel : Below W.heap.size W w) (hle : W.heap.size ≤ B) (hrd : RdB w' v' L') (h6 : Below w.heap.size w w') (hq : ∀ q, v'.ownBlock = some q → q = b ∨ w.heap.size ≤ q) (hb : S.own b = none) : PlT W B t w' S v' L' := by
  refine ⟨hT.below h6, hrd, fun q e => ?_, hbel.trans (h6.mono hbel.size), hle⟩
  rcases hq q e with rfl | h1
  · exact hb
  · cases e2 : S.own q with
    | none => rfl
    | some x =>
      obtain ⟨⟨g, a, c, hx⟩, _⟩ := hT
      have := (hx.lab q x e2).2
      omega
theorem RdB.cells {w : World} {b off n cap : Nat} {l : List Bool} (h : RdB w (.slice (some ⟨b, off, none⟩) n cap) l) : b < w.heap.size ∧ l.length ≤ cap ∧ cap ≤ maxLen ∧ ∀ i, i < l.length → w.cell? ⟨b, off + i, none⟩ = some (.bool (l.getD i false)) := by
  rcases h with ⟨hv, _⟩ | ⟨b', off', cap', hv, q0, q1, q2, q3⟩
  · cases hv
  · simp only [Value.slice.injEq, Option.some.injEq, Addr.mk.injEq, and_true] at hv
    obtain ⟨⟨rfl, rfl⟩, _, rfl⟩ := hv
    exact ⟨q0, q1, q2, q3⟩
theorem RdB.some {w : World} {a : Option Addr} {n cap : Nat} {l : List Bool} (h : RdB w (.slice a n cap) l) (hp : 0 < l.length) : ∃ b off, a = some ⟨b, off, none⟩ := by
  rcases h with ⟨hv, rfl⟩ | ⟨b', off', cap', hv, q0, q1, q2, q3⟩
  · simp at hp
  · simp only [Value.slice.injEq] at hv
    exact ⟨b', off', hv.1⟩
def lenOf : Value → Nat
  | .slice _ n _ => n
  | _ => 0
set_option maxRecDepth 100000 in
set_option maxHeartbeats 6400000 in
theorem treeshrinks_w (a0 : Option Addr) (len0 cap0 : Nat) (z0 : List Int) (a1 : Option Addr) (len1 cap1 : Nat) (z1 : List Int) (W : World) (r0 : IsRow .i64 W a0 len0 cap0 z0) (r1 : IsRow .i64 W a1 len1 cap1 z1) (hL : LaidFact W) :
    Calls Tryd.prog 4 #[.slice a0 len0 cap0, .slice a1 len1 cap1] W fun e w' => e = .returned (.bool true) ∧ Below W.heap.size W w' := by
  obtain ⟨i0, hi, hz0, hz1, hz2⟩ := info_parts infoB
  have hrd := RdI.of_row r0
  have hr1 := RdI.of_row r1
  have hlc : len1 ≤ cap1 ∧ cap1 ≤ maxLen := by
    rcases r1 with ⟨_, rfl, rfl, _⟩ | ⟨_, _, h1, h2, _⟩
    · exact ⟨Nat.le_refl _, by decide⟩
    · exact ⟨h1, h2⟩
  have hkk := room_int hlc.1 hlc.2
  have HR1 := Lib.hid hr1.2
  have HT := Lib.hid hL.tab
  have hW0 := hL.pos
  have key := bits_more a0 len0 cap0 1200 W hrd (by decide)
  clear r0 r1 hL hrd hr1 hlc
  go_enter Tryd.func4, Tryd.ntmps4
  go_wp2_with fail
  refine key.mono ?_
  rintro e w1 ⟨v, m, rfl, hown, hLL, hb1⟩
  obtain ⟨av, cv, rfl, _, _⟩ := own_form hown
  clear key
  go_wp2_with fail
  go_loopw [5] (fun m wr => ∃ (L : List Bool) (a : Option Addr) (c : Nat), m = .slice a L.length c ∧ OwnB W.heap.size wr (.slice a L.length c) L ∧ L.length ≤ 1200 ∧ Below W.heap.size W wr) (fun m _ => 1200 - lenOf m)
  case atStart => exact ⟨m, _, _, rfl, hown, hLL, hb1⟩
  case round =>
    obtain ⟨L, aL, cL, rfl, hO, hlen, hbw⟩ := hrel
    clear hown hLL hb1
    obtain ⟨_, _, hform, hcv, hcm⟩ := own_form hO
    simp only [Value.slice.injEq, true_and] at hform
    obtain ⟨rfl, rfl⟩ := hform
    have hcc := room_int hcv hcm
    by_cases hdo : 0 < L.length ∧ L.length < 300
    · have d1 : (0 : Int) < L.length := by omega
      have d2 : (L.length : Int) < 300 := by omega
      obtain ⟨b, cap, h1, h2, h3, h4, h5, h6, _⟩ := OwnB.opens hO hdo.1
      injection h1 with h1
      subst h1
      have HO := Lib.hid hO
      have HC : Hid (∀ j u, (L.map Value.bool)[j]? = some u → wr.cell? ((⟨b, 0, none⟩ : Addr).add j) = some u) := Lib.hid (by
        have := take_cells (w := wr) (l := L) (b := b) (off := 0) (fun i hi => by rw [Nat.zero_add]; exact h6 i hi) L.length (Nat.le_refl _)
        rw [List.take_length] at this
        exact this)
      have hsz := hbw.size
      clear hO h6
      go_wp2_with (first
        | (at_builtin; (refine wpList_append_own _ rfl (.tmp 23) (.tmp 24) 24 rfl W.heap.size 4 i0 (.bool false) 1 1 Tryd.underlying24 hi hz0 hz1 hz2 rfl (by decide) _ _ _ rfl HO.out ⟨b, 0, none⟩ L.length _ (L.map Value.bool) rfl (by rw [List.length_map]; omega) HC.out (bools_one _) (by unfold maxLen; omega) (by omega) hsz ?_); intro v' w3 hown3 hgrow3 hnil3))
      have hb3 : Below W.heap.size W w3 := hbw.grown hgrow3 hsz (fun q hq => (HO.out.lt q hq).1)
      have hr : OwnB W.heap.size w3 v' (L ++ L) := OwnB.app hown3
      obtain ⟨M, hM⟩ : ∃ M, L ++ L = M := ⟨_, rfl⟩
      have hMl : M.length = L.length + L.length := by rw [← hM, List.length_append]
      rw [hM] at hr
      obtain ⟨a3, c3, rfl, _, _⟩ := own_form hr
      clear hown3 hgrow3 hnil3 hM
      go_wp2_with fail
      go_roundw
      case rel => exact ⟨M, _, _, rfl, hr, by omega, hb3⟩
      case measure => simp only [lenOf]; omega
    · have hor : ¬ (0 : Int) < L.length ∨ ((0 : Int) < L.length ∧ ¬ (L.length : Int) < 300) := by omega
      have hRD := OwnB.rd hO
      have key := tnew wr hRD (by omega)
      have hlow := hO.lt
      have hml : (L.length : Int) ≤ 1200 := by omega
      obtain ⟨n0, hn0⟩ : ∃ n0, L.length = n0 := ⟨_, rfl⟩
      have hn0b : n0 ≤ 1200 := by omega
      have HN0 := Lib.hid hn0
      have HRD := Lib.hid hRD
      have HLOW := Lib.hid hlow
      have hsz := hbw.size
      clear hO hRD hdo hn0 hlow
      rcases hor with d1 | ⟨d1, d2⟩
      all_goals
        go_wp2_with fail
        (with_reducible refine key.mono ?_); rintro e w2 ⟨S0, rfl, hN⟩
        have hP : PlT W wr.heap.size wr.heap.size w2 S0 (.slice aL L.length cL) L := by
          refine ⟨hN.tre, HRD.out.below (hN.below), fun q hq => ?_, hbw.trans (hN.below.mono hsz), hsz⟩
          have h1 := (HLOW.out q hq).2
          cases e : S0.own q with
          | none => rfl
          | some x =>
            obtain ⟨⟨g, a, c, hx⟩, _⟩ := hN.tre
            have := (hx.lab q x e).1
            omega
        have hlv := hN.tre.1.live_le
        have hmd := hN.made
        obtain ⟨q0, hq0⟩ : ∃ q0, S0.live = q0 := ⟨_, rfl⟩
        have keyL := klive (q0 : Int) w2 hN.tre (by rw [hq0])
        have HQ0 := Lib.hid (And.intro (hmd.trans hq0) (hq0 ▸ hlv))
        clear hN key hlv hmd hq0
        go_wp2_with fail
        (with_reducible refine keyL.mono ?_); rintro e w3 ⟨rfl, nd, hw3⟩
        have hP3 := hP.drewN nd
        rw [← hw3] at hP3
        clear hw3 keyL hP
        go_wp2_with fail
        generalize wr.heap.size = B at *
        go_loopw [5, 7, 8, 9, 10, 11, 12] (fun m ms i _ _ _ _ wr => ∃ (L : List Bool) (a : Option Addr) (c q j : Nat) (S : St), m = .slice a L.length c ∧ ms = .int .i64 q ∧ i = .int .i64 j ∧ j + L.length = n0 ∧ S.T.length ≤ q ∧ q ≤ 268435456 ∧ PlT W B B wr S (.slice a L.length c) L) (fun _ _ i _ _ _ _ _ => n0 - (intOf i).toNat)
        case atStart => exact ⟨L, _, _, q0, 0, S0, rfl, rfl, rfl, by rw [HN0.out, Nat.zero_add], by rw [HQ0.out.1]; exact Nat.le_refl _, HQ0.out.2, hP3⟩
        case round =>
          obtain ⟨L, aL, cL, q, j, S, rfl, rfl, rfl, hj, hqT, hq2, h⟩ := hrel
          clear hP3 HQ0 HRD HLOW HN0 d1 hml
          try clear d2
          have hqi : (q : Int) ≤ 268435456 := by omega
          have hll : L.length ≤ 1200 := by omega
          have hml : (L.length : Int) ≤ 1200 := by omega
          have hjb : (j : Int) ≤ 1200 := by omega
          by_cases hpos : 0 < L.length
          · have d3 : (0 : Int) < L.length := by omega
            obtain ⟨b, off, rfl⟩ := h.rd.some hpos
            obtain ⟨hbs, hle, hmx, hcl⟩ := h.rd.cells
            have hcc := room_int hle hmx
            obtain ⟨n1, hn1⟩ : ∃ n1, L.length - 1 = n1 := ⟨_, rfl⟩
            have hn1i : (L.length : Int) - 1 = n1 := by omega
            have hn1b : (n1 : Int) ≤ 1200 := by omega
            have HN1 := Lib.hid hn1
            have H := Lib.hid h
            clear h hcl hn1
            go_upto_if 42 with fail
            go_cut [9] (fun k wx => ∃ p : Nat, k = .int .i64 p ∧ p < L.length ∧ wr = wx)
            case first =>
              by_cases hl1 : 0 < len1
              · have e1 : (0 : Int) < len1 := by omega
                have e2 : ¬ (len1 : Int) = 0 := by omega
                obtain ⟨r, hr⟩ : ∃ r, j % len1 = r := ⟨_, rfl⟩
                have hrl : r < len1 := by rw [← hr]; exact Nat.mod_lt _ hl1
                have hri : (j : Int).tmod len1 = r := by
                  rw [Int.tmod_eq_emod_of_nonneg (by omega), ← hr, Int.natCast_emod]
                have hrli : (r : Int) < len1 := by omega
                have hrci : (r : Int) < cap1 := by omega
                obtain ⟨bb, off1, rfl, hbb, hc⟩ := HR1.out hl1
                obtain ⟨z, hz, _⟩ := hc r hrl
                have hz' := (H.out.bel.cell (p := ⟨bb, off1 + r, none⟩) hbb).trans hz
                have key := near_any z n1 wr (by have := HN1.out; omega)
                clear hc hz hr
                go_wp2_with fail
                (with_reducible refine key.mono ?_); rintro e w3 ⟨rfl, p, hp, rfl⟩
                clear key hz' hri
                go_wp2_with fail
                go_meet
                case rel => exact ⟨p, rfl, by have := HN1.out; omega, rfl⟩
              · have e1 : ¬ (0 : Int) < len1 := by omega
                go_wp2_with fail
                go_meet
                case rel => exact ⟨n1, rfl, by have := HN1.out; omega, rfl⟩
            case rest =>
            obtain ⟨p, rfl, hp, rfl⟩ := hcut
            obtain ⟨ln, ht, lv, nd', keyS, _, hsh⟩ := H.out.tre.shp (by omega)
            have hfd : ∀ w : World, (Instr.field 35 (.agg #[.int .i64 ln, .int .i64 ht, .int .i64 lv, .int .i64 nd']) 1).run Tryd.prog w = .ok (.int .i64 ht) w := fun _ => by kernel_rfl
            go_wp2_with fail
            (with_reducible refine keyS.mono ?_); rintro e w3 ⟨rfl, hb3⟩
            have h3 := H.out.step hb3
            obtain ⟨x, hx⟩ : ∃ x, L.getD p false = x := ⟨_, rfl⟩
            obtain ⟨M, hM⟩ : ∃ M, Blk.del L p = M := ⟨_, rfl⟩
            have hMl : M.length = L.length - 1 := by rw [← hM]; exact Blk.del_len hp
            have keyD := kdel M (p : Int) p x w3 h3.tre rfl hp (by omega) hx hM
            have H3 := Lib.hid h3
            have HX := Lib.hid (And.intro hx hM)
            have HML := Lib.hid hMl
            clear keyS hb3 h3 hx hM hMl
            go_wp2_with fail
            (with_reducible refine keyD.mono ?_); rintro e w4 ⟨rfl, S4, hD, hb4⟩
            obtain ⟨hrd4, hap4, hbel4⟩ := H3.out.turn hD.mv hb4
            obtain ⟨hbs4, _, _, hcl4⟩ := hrd4.cells
            have c4 : w4.cell? ⟨b, off + p, none⟩ = some (.bool x) := by rw [hcl4 p hp, HX.out.1]
            have hpi : (p : Int) < L.length := by omega
            have hpi1 : (p : Int) + 1 ≤ L.length := by omega
            have hpi2 : (p : Int) + 1 ≤ cL := by omega
            have hpi3 : (p : Int) ≤ cL := by omega
            obtain ⟨p1, hp1⟩ : ∃ p1, p1 = p + 1 := ⟨_, rfl⟩
            have zp1 : IntKind.i64.wrap ((p : Int) + 1) = (p1 : Int) := by rw [hp1]; exact IntWalk.i64_in _ (by omega)
            have dp1 : (p1 : Int) ≤ L.length := by omega
            have dp2 : (p1 : Int) ≤ cL := by omega
            obtain ⟨ad, had, hadc⟩ := tail_addr b off cL p1 L w4 hle hcl4
            have HP1 := Lib.hid hp1
            clear hp1
            have HA : Hid (∀ j u, ((L.drop p1).map Value.bool)[j]? = some u → w4.drew.cell? (ad.add j) = some u) := Lib.hid hadc
            have HC4 : Hid (∀ i, i < L.length → w4.drew.cell? ⟨b, off + i, none⟩ = some (.bool (L.getD i false))) := Lib.hid hcl4
            have hbs5 : b < w4.drew.heap.size := hbs4
            have hl6 : L.length ≤ 1000000 := by omega
            have HV := Lib.hid hD.vis
            have HMD := Lib.hid hD.made
            have H4 := Lib.hid (And.intro hD.tre (And.intro hbel4 (hap4 b rfl)))
            clear hcl4 hadc hD hb4 hrd4 hap4 hbel4 keyD
            go_wp2_with fail
            go_cut [5] (fun m wx => ∃ (a : Option Addr) (c : Nat), m = .slice a M.length c ∧ PlT W B B wx S4 (.slice a M.length c) M)
            case first =>
              go_region_law (first
                | (refine step_append_cut w4.drew rfl (.tmp 76) (.tmp 80) 24 rfl i0 Tryd.underlying24 hi hz0 hz1 hz2 L p p1 b off (cL - p1) ad HP1.out (by kernel_rfl) (by kernel_rfl) hp hl6 hbs5 HC4.out HA.out ?_; intro v' w5 hrd5 hb5 hq5; (rw [HX.out.2] at hrd5); (have hP5 := PlT.rdd H4.out.1 H4.out.2.1 H.out.le hrd5 (Below.drewed hb5) hq5 H4.out.2.2); (obtain ⟨a5, c5, rfl, _, _⟩ := hrd5.open)))
              all_goals
                go_wp2_with fail
                go_meet
                case rel => exact ⟨_, _, rfl, hP5⟩
            case rest =>
            obtain ⟨a5, c5, rfl, h5⟩ := hcut
            obtain ⟨lv4, hlv4⟩ : ∃ lv4, S4.live = lv4 := ⟨_, rfl⟩
            have keyL := klive (lv4 : Int) wc h5.tre (by rw [hlv4])
            have hmax : ¬ (q : Int) < lv4 := by
              have := S4.live_le
              have := HMD.out
              omega
            have H5 := Lib.hid h5
            clear h5 hlv4 had
            go_wp2_with fail
            (with_reducible refine keyL.mono ?_); rintro e w6 ⟨rfl, nd6, hw6⟩
            have h6 := H5.out.drewN nd6
            rw [← hw6] at h6
            have keyF := fine_any ht w6 h6.tre (by have := HML.out; omega) (by have := H.out.tre.2.ht; have := hsh.out.1; omega) (by have := HV.out; have := hsh.out.1; omega)
            have H6 := Lib.hid h6
            clear hw6 keyL h6
            by_cases h16 : (j : Int) % 16 = 0
            · go_wp2_with fail
              (with_reducible refine keyF.mono ?_); rintro e w7 ⟨rfl, hT7, hb7⟩
              have h7 := Lib.hid (H6.out.step hb7)
              clear hT7 hb7 keyF
              go_wp2_with fail
              go_roundw
              case rel => exact ⟨M, _, _, q, j + 1, S4, rfl, rfl, by go_num, by have := HML.out; omega, by rw [HMD.out]; exact hqT, hq2, h7.out⟩
              case measure => simp [intOf]; omega
            · clear keyF
              go_wp2_with fail
              go_roundw
              case rel => exact ⟨M, _, _, q, j + 1, S4, rfl, rfl, by go_num, by have := HML.out; omega, by rw [HMD.out]; exact hqT, hq2, H6.out⟩
              case measure => simp [intOf]; omega
          · obtain rfl : L = [] := List.eq_nil_of_length_eq_zero (by omega)
            obtain ⟨hsh, hlv, _⟩ := h.tre.2.none
            have keyT := told_any wr (HT.out.below h.bel hW0) (by have := h.bel.size; omega)
            obtain ⟨mm, hmm⟩ : ∃ mm, S.T.length = mm := ⟨_, rfl⟩
            have hmi : (mm : Int) ≤ (q : Int) + 4 := by omega
            have H := Lib.hid h
            have HSH := Lib.hid hsh
            have HLV := Lib.hid hlv
            have HMM := Lib.hid hmm
            clear h hsh hlv hmm
            go_wp2_with fail
            (with_reducible refine keyT.mono ?_); rintro e w3 ⟨rfl, hb3⟩
            have h3 := H.out.step hb3
            have keyN := klen (0 : Int) w3 h3.tre rfl
            have keyL := klive (0 : Int) w3 h3.tre (by rw [HLV.out]; rfl)
            clear hb3 keyT
            go_wp2_with fail
            (with_reducible refine keyN.mono ?_); rintro e w3' ⟨rfl, rfl⟩
            go_wp2_with fail
            (with_reducible refine keyL.mono ?_); rintro e w4 ⟨rfl, nd, hw4⟩
            have h4 := h3.drewN nd
            rw [← hw4] at h4
            have keyS := kshape _ w4 h4.tre (by simp) HSH.out
            clear hw4 keyN keyL h3
            go_wp2_with fail
            (with_reducible refine keyS.mono ?_); rintro e w5 ⟨rfl, hb5⟩
            have h5 := h4.step hb5
            have keyM : Calls Tryd.prog 28 #[.pointer (some ⟨B, 0, none⟩)] w5 fun e w' => e = .returned (.int .i64 mm) ∧ w5 = w' := by rw [← HMM.out]; exact tmade w5 h5.tre.1
            clear keyS hb5 h4
            go_wp2_with fail
            (with_reducible refine keyM.mono ?_); rintro e w5' ⟨rfl, rfl⟩
            go_wp2_with fail
            go_ret
            exact ⟨rfl, h5.bel⟩
end Go.Proofs.YtfbhcbcpeocmcaaDoor
