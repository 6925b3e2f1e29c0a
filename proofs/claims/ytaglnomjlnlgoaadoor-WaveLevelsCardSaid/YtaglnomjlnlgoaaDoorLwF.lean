/- Stage 7's statements as walks, over the contracts that are asked of waves: WaveLevels. -/
import Derived.Test.YtaglnomjlnlgoaaDoorLwE
import Derived.Deep.DeepCutAuto
namespace Go.Proofs.YtaglnomjlnlgoaaDoor
open Go Go.RowKit Go.ChangeAt

theorem RdS.stay {w w' : World} {S : Nat → Prop} {a : Option Addr} {l : List Sh} (h : RdS w a l) (hb : Stay S w w') (hs : 0 < l.length → ∀ ad, a = some ad → ¬ S ad.block) : RdS w' a l := by
  refine ⟨h.1, fun hp => ?_⟩
  obtain ⟨b, off, rfl, hlt, hc⟩ := h.2 hp
  have hn := hs hp _ rfl
  refine ⟨b, off, rfl, Nat.lt_of_lt_of_le hlt hb.size, fun i hi => ?_⟩
  obtain ⟨L, H, V, N, h1, h2, h3, h4, c0, c1, c2, c3⟩ := hc i hi
  have hk : ∀ o, w'.cell? ⟨b, o, none⟩ = w.cell? ⟨b, o, none⟩ := fun o => hb.cell (p := ⟨b, o, none⟩) hlt hn
  exact ⟨L, H, V, N, h1, h2, h3, h4, (hk _).trans c0, (hk _).trans c1, (hk _).trans c2, (hk _).trans c3⟩
/-- A wave beside the shapes that were told of it. -/
structure Shd (O : WOps) (B : Nat) (W wr : World) (t : Nat) (x : O.X) (m : List Int) (a : Option Addr) (l : List Sh) : Prop where
  w : Wst O B W wr t x m
  rd : RdS wr a l
  off : 0 < l.length → ∀ ad, a = some ad → ¬ O.own x ad.block
theorem Shd.beside {O : WOps} {B : Nat} {W w w' : World} {t : Nat} {x : O.X} {m : List Int} {a : Option Addr} {l : List Sh} (h : Shd O B W w t x m a l) (hb : Below w.heap.size w w') : Shd O B W w' t x m a l := ⟨h.w.beside hb, h.rd.below hb, h.off⟩
theorem Shd.next {O : WOps} {B : Nat} {W w w' : World} {t : Nat} {x x' : O.X} {m m' : List Int} {a : Option Addr} {l : List Sh} (h : Shd O B W w t x m a l) (hw : Wst O B W w' t x' m') (hn : O.Nxt w w' x x') : Shd O B W w' t x' m' a l := by
  refine ⟨hw, h.rd.stay hn.1 h.off, fun hp ad ha e => ?_⟩
  rcases hn.2 _ e with e | e
  · exact h.off hp ad ha e
  · obtain ⟨b, off, hb, hlt, _⟩ := h.rd.2 hp
    rw [ha] at hb
    injection hb with hb
    subst hb
    have : b < w.heap.size := hlt
    have e' : w.heap.size ≤ b := e
    omega
theorem Shd.cell {O : WOps} {B : Nat} {W w : World} {t : Nat} {x : O.X} {m : List Int} {a : Option Addr} {l : List Sh} (h : Shd O B W w t x m a l) {k : Nat} (hk : k < l.length) : ∃ b off, a = some ⟨b, off, none⟩ ∧ w.cell? ⟨b, off + k * 4, none⟩ = some (.int .i64 (l.getD k (0, 0, 0, 0)).1) := by
  obtain ⟨b, off, ha, hlt, hc⟩ := h.rd.2 (by omega)
  obtain ⟨L, H, V, N, h1, h2, h3, h4, c0, c1, c2, c3⟩ := hc k hk
  exact ⟨b, off, ha, by rw [h1]; exact c0⟩
theorem Wst.level {O : WOps} {B : Nat} {W w : World} {t : Nat} {x : O.X} {m : List Int} (h : Wst O B W w t x m) (hm : m.length ≤ 1000000) (l p : Int) (hp : -9223372036854775808 ≤ p ∧ p ≤ 9223372036854775807) (M : List Bool) (hM : (if 0 ≤ l ∧ l ≤ 8 then Wv.bits m l.toNat p else []) = M) :
    Calls Tryd.prog 13 #[.pointer (some ⟨t, 0, none⟩), .int .i64 l, .int .i64 p] w fun e w' => ∃ v x', e = .returned v ∧ RdB w' v M ∧ Wst O B W w' t x' m ∧ O.Nxt w w' x x' := by
  subst hM
  exact (O.level l p h.E h.wav hm hp).mono fun _ _ ⟨v, x', he, h1, h2, h3, h4, _⟩ => ⟨v, x', he, h1, h.next h2 h3 h4, h3, h4⟩
theorem shp_at {O : WOps} {B : Nat} {W w : World} {t : Nat} {x : O.X} {m : List Int} (h : Wst O B W w t x m) (hm : m.length ≤ 1000000) (k : Nat) (hk : k < (Wv.lens m).length) : ((O.shp x).getD k (0, 0, 0, 0)).1 = ((Wv.lens m).getD k 0 : Int) := by
  have e := (O.shapes_are h.wav hm).1
  have hl := h.shlen hm
  have e2 := congrArg (fun l => l[k]?) e
  simp only [List.getElem?_map] at e2
  rw [List.getElem?_eq_getElem (by rw [hl]; exact hk), List.getElem?_eq_getElem hk] at e2
  rw [List.getD_eq_getElem?_getD, List.getD_eq_getElem?_getD, List.getElem?_eq_getElem (by rw [hl]; exact hk), List.getElem?_eq_getElem hk]
  simpa using e2

set_option maxRecDepth 100000 in
set_option maxHeartbeats 6400000 in
theorem wavelevels_o (O : WOps) (a : Option Addr) (n cap : Nat) (few : Bool) (lv0 p0 : Int) (W : World) (hz : RdZ W a n) (hp0 : -9223372036854775808 ≤ p0 ∧ p0 ≤ 9223372036854775807) (hE : O.E W) (hpos : 0 < W.heap.size) :
    Calls Tryd.prog 3 #[.slice a n cap, .bool few, .int .i64 lv0, .int .i64 p0] W fun e w' => e = .returned (.bool true) ∧ Below W.heap.size W w' := by
  have keyS := syms7 a n cap 150 few W hz (by omega)
  have HP0 := Lib.hid hp0
  clear hp0
  go_enter Tryd.func3, Tryd.ntmps3
  go_wp2_with fail
  (with_reducible refine keyS.mono ?_)
  rintro e w1 ⟨v, m, rfl, hown, hg, hmin, hb1⟩
  obtain ⟨a', cap', n', rfl, hB⟩ := beg hE hpos hown hg hb1
  have hlen := hB.len
  have hn : (n' : Int) ≤ 150 := by omega
  have hm6 : m.length ≤ 1000000 := by omega
  have keyN := hB.new (by omega)
  have HB := Lib.hid hB
  have HM := Lib.hid hm6
  have HLN := Lib.hid hlen
  clear keyS hown hg hmin hb1 hB hm6 hlen hz hE hpos
  go_wp2_with fail
  (with_reducible refine keyN.mono ?_)
  rintro e w2 ⟨t, x, rfl, hW⟩
  obtain ⟨L, hL⟩ : ∃ L, (Wv.lens m).length = L := ⟨_, rfl⟩
  have keySh := hW.shapes HM.out L hL
  have hat := fun k hk => shp_at hW HM.out k hk
  have hsl := hW.shlen HM.out
  obtain ⟨l, hl⟩ : ∃ l, O.shp x = l := ⟨_, rfl⟩
  rw [hl] at keySh hat hsl
  have HL := Lib.hid hL
  have HAT := Lib.hid hat
  have HSL := Lib.hid (hsl.trans hL)
  clear keyN hW hL hat hsl hl
  go_wp2_with fail
  (with_reducible refine keySh.mono ?_)
  rintro e w3 ⟨aS, cS, x3, rfl, hr3, hW3, _, ho3, _⟩
  have hS3 : Shd O w1.heap.size w1 w3 t x3 m aS l := ⟨hW3, hr3, fun _ => ho3⟩
  clear keySh hr3 hW3 ho3
  go_wp2_with fail
  go_loopw [13, 14] (fun at0 i wr => ∃ (lv : Nat) (x : O.X), lv ≤ 9 ∧ i = .int .i64 lv ∧ at0 = .int .i64 (Wv.pre m lv 0).length ∧ Shd O w1.heap.size w1 wr t x m aS l) (fun _ i _ => 9 - (intOf i).toNat)
  case atStart => exact ⟨0, x3, Nat.zero_le _, rfl, rfl, hS3⟩
  case round =>
    clear hS3
    obtain ⟨lv, x, hlv, rfl, rfl, hS⟩ := hrel
    by_cases hlt : lv < 9
    · have hlt' : (lv : Int) < 9 := by omega
      obtain ⟨wo, hwo⟩ : ∃ wo : World, wo = wr := ⟨_, rfl⟩
      subst hwo
      obtain ⟨P, hP⟩ : ∃ P, 2 ^ lv = P := ⟨_, rfl⟩
      have hP2 : P ≤ 256 := by
        rw [← hP]
        exact Nat.le_trans (Nat.pow_le_pow_right (by decide) (show lv ≤ 8 by omega)) (by decide)
      have hpow : RowKit.wrap64 (2 ^ lv) = (P : Int) := by
        have e : ((2 : Int) ^ lv) = ((2 ^ lv : Nat) : Int) := by simp
        rw [e, hP]
        unfold RowKit.wrap64
        omega
      have HP := Lib.hid hP
      have HPW := Lib.hid hpow
      clear hP hpow
      go_wp2_with fail
      go_loopw [13, 15] (fun at0 i wr => ∃ (p : Nat) (x : O.X), p ≤ P ∧ i = .int .i64 p ∧ at0 = .int .i64 (Wv.pre m lv p).length ∧ Shd O w1.heap.size w1 wr t x m aS l) (fun _ i _ => P - (intOf i).toNat)
      case atStart => exact ⟨0, x, Nat.zero_le _, rfl, rfl, hS⟩
      case round =>
        clear hS
        obtain ⟨p, x, hp, rfl, rfl, hS⟩ := hrel
        have hpow := HPW.out
        by_cases hpP : p < P
        · have hpP' : (p : Int) < P := by omega
          have keyW := r6level_in lv p wr (HB.out.rdl hS.w.below) HLN.out (by omega) (by omega)
          have hble : (Wv.bits m lv p).length ≤ 150 := by
            have := Wv.bits_le m lv p m.length
            rw [List.take_length] at this
            have := HLN.out
            omega
          obtain ⟨M, hM⟩ : ∃ M, Wv.bits m lv p = M := ⟨_, rfl⟩
          obtain ⟨N, hN⟩ : ∃ N, M.length = N := ⟨_, rfl⟩
          rw [hM] at keyW hble
          rw [hN] at hble
          obtain ⟨A, hA⟩ : ∃ A, (Wv.pre m lv p).length = A := ⟨_, rfl⟩
          rw [hA]
          have HS := Lib.hid hS
          have hN0 : N = 0 → Hid ((Wv.pre m lv (p + 1)).length = A) := fun e => Lib.hid (by rw [Wv.pre_none (by rw [hM, hN]; omega), hA])
          have hN1 : 0 < N → Hid ((Wv.pre m lv (p + 1)).length = A + 1) ∧ A < L ∧ (l.getD A (0, 0, 0, 0)).1 = N := fun e => by
            have hpos : 0 < (Wv.bits m lv p).length := by rw [hM, hN]; exact e
            obtain ⟨q1, q2⟩ := Wv.lens_at hlt (show p < 2 ^ lv by rw [HP.out]; exact hpP) hpos
            rw [hA] at q1 q2
            rw [hM, hN] at q2
            refine ⟨Lib.hid (by rw [Wv.pre_has hpos, List.length_append, hA]; rfl), by rw [← HL.out]; exact q1, ?_⟩
            rw [HAT.out A q1, q2]
          have HM2 := Lib.hid hM
          have HNN := Lib.hid hN
          clear hS hM hN hA
          go_wp2_with fail
          (with_reducible refine keyW.mono ?_)
          rintro e w4 ⟨v, rfl, hown, hb4⟩
          have hS4 := HS.out.beside hb4
          obtain ⟨va, vc, rfl, _, _⟩ := own_form hown
          have hown' := hown
          unfold OwnB at hown'
          rw [HNN.out] at hown' ⊢
          clear keyW
          by_cases hz : N = 0
          · subst hz
            have HH := hN0 rfl
            have HS4 := Lib.hid hS4
            clear hS4 hown hown' hb4 hN0 hN1
            go_wp2_with fail
            go_roundw
            case rel => exact ⟨p + 1, x, by omega, by go_num, by rw [HH.out], HS4.out⟩
            case measure => simp [intOf]; omega
          · obtain ⟨HH, hAL, hlen⟩ := hN1 (by omega)
            have hzi : ¬ (N : Int) = 0 := by omega
            have keyL := hS4.w.level HM.out lv p (by omega) M (by rw [if_pos (by omega), Int.toNat_natCast]; exact HM2.out)
            have HS4 := Lib.hid hS4
            clear hS4 hN0 hN1 hb4
            go_wp2_with fail
            (with_reducible refine keyL.mono ?_)
            rintro e w5 ⟨v5, x5, rfl, hr5, hW5, hN5⟩
            have hS5 := HS4.out.next hW5 hN5
            have hoff : ∀ k, (Value.slice va N vc).ownBlock = some k → ¬ O.own x k := fun k hk e => by
              have h1 := (World.ownsRow.lt hown' k hk).1
              have h2 := HS.out.w.lt k e
              omega
            have hrv : RdB w5 (.slice va N vc) M := by
              have h1 : OwnB wr.heap.size w5 (.slice va N vc) M := by
                unfold OwnB
                rw [HNN.out]
                exact ownsRow_stay hown' hN5.1 hoff
              exact OwnB.rd h1
            have keyM := rsame_eq w5 hr5 hrv
            clear keyL hW5 hN5 hr5 hrv hoff hown hown'
            go_wp2_with fail
            (with_reducible refine keyM.mono ?_)
            rintro e w6 ⟨rfl, hb6⟩
            have hS6 := hS5.beside hb6
            obtain ⟨b, off, rfl, hc6⟩ := hS6.cell (k := A) (by rw [HSL.out]; exact hAL)
            rw [hlen] at hc6
            have hAL' : (A : Int) < L := by omega
            have hA6 : (A : Int) ≤ 1000000 := by have := hS6.rd.1; have := HSL.out; omega
            have HS6 := Lib.hid hS6
            clear keyM hS5 hb6 hS6 hlen
            go_wp2_with fail
            go_roundw
            case rel => exact ⟨p + 1, x5, by omega, by go_num, by rw [HH.out]; go_num, HS6.out⟩
            case measure => simp [intOf]; omega
        · obtain rfl : p = P := by omega
          have hpP' : ¬ (p : Int) < p := by omega
          have hnext : Hid (Wv.pre m (lv + 1) 0 = Wv.pre m lv p) := Lib.hid (by rw [Wv.pre_next, HP.out])
          go_wp2_with fail
          go_roundw
          case rel => exact ⟨lv + 1, x, by omega, by go_num, by rw [hnext.out], hS⟩
          case measure => simp [intOf]; omega
    · obtain rfl : lv = 9 := by omega
      have hpre : (Wv.pre m 9 0).length = L := HL.out
      rw [hpre]
      have keyT := O.told hS.w.E (Nat.lt_of_lt_of_le hS.w.pos hS.w.le)
      have hlt' : ¬ ((9 : Nat) : Int) < 9 := by omega
      have HS := Lib.hid hS
      clear hS hpre
      go_wp2_with fail
      (with_reducible refine keyT.mono ?_)
      rintro e w4 ⟨rfl, hb4⟩
      have hS4 := HS.out.beside hb4
      obtain ⟨M, hM⟩ : ∃ M, (if 0 ≤ lv0 ∧ lv0 ≤ 8 then Wv.bits m lv0.toNat p0 else []) = M := ⟨_, rfl⟩
      have keyL := hS4.w.level HM.out lv0 p0 HP0.out M hM
      have HS4 := Lib.hid hS4
      have HMM := Lib.hid hM
      clear keyT hb4 hS4 hM
      go_wp2_with fail
      (with_reducible refine keyL.mono ?_)
      rintro e w5 ⟨v5, x5, rfl, hr5, hW5, hN5⟩
      have hS5 := HS4.out.next hW5 hN5
      clear keyL hW5 hN5
      have keyR : Calls Tryd.prog 11 #[.slice a' n' cap', .int .i64 lv0, .int .i64 p0] w5 fun e w' => ∃ v, e = .returned v ∧ RdB w' v M ∧ Below w5.heap.size w5 w' := by
        by_cases hv : 0 ≤ lv0 ∧ lv0 ≤ 8
        · have e1 := HMM.out
          rw [if_pos hv] at e1
          obtain ⟨V, rfl⟩ := Int.eq_ofNat_of_zero_le hv.1
          rw [Int.toNat_natCast] at e1
          refine (r6level_in V p0 w5 (HB.out.rdl hS5.w.below) HLN.out (by omega) (by omega)).mono ?_
          rintro _ w' ⟨v, rfl, ho, hb⟩
          exact ⟨v, rfl, e1 ▸ OwnB.rd ho, hb⟩
        · have e1 := HMM.out
          rw [if_neg hv] at e1
          subst e1
          refine (r6level_out lv0 p0 w5 (by omega) hv).mono ?_
          rintro _ w' ⟨rfl, rfl⟩
          exact ⟨_, rfl, .inl ⟨rfl, rfl⟩, Below.refl _ _⟩
      have HS5 := Lib.hid hS5
      have HR5 := Lib.hid hr5
      clear hS5 hr5
      go_wp2_with fail
      (with_reducible refine keyR.mono ?_)
      rintro e w6 ⟨v6, rfl, hr6, hb6⟩
      have hS6 := HS5.out.beside hb6
      have keyM := rsame_eq w6 (HR5.out.below hb6) hr6
      clear keyR hb6 hr6
      go_wp2_with fail
      (with_reducible refine keyM.mono ?_)
      rintro e w7 ⟨rfl, hb7⟩
      have HS7 := Lib.hid (hS6.beside hb7)
      clear keyM hb7 hS6
      go_wp2_with fail
      go_ret
      exact ⟨rfl, HB.out.back HS7.out.w⟩
end Go.Proofs.YtaglnomjlnlgoaaDoor
