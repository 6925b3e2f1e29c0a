/- Stage 7's statements as walks, over the contracts that are asked of waves: WaveBuilds. -/
import Derived.Test.YtaglnomjlnlgoaaDoorLwC
namespace Go.Proofs.YtaglnomjlnlgoaaDoor
open Go Go.RowKit Go.ChangeAt

/-- Three waves side by side. -/
structure Tri (O : WOps) (B : Nat) (W wr : World) (ta tb tc : Nat) (xa xb xc : O.X) (ma mb mc : List Int) : Prop where
  a : Wst O B W wr ta xa ma
  b : Wst O B W wr tb xb mb
  c : Wst O B W wr tc xc mc
  ab : ∀ i, O.own xa i → ¬ O.own xb i
  ac : ∀ i, O.own xa i → ¬ O.own xc i
  bc : ∀ i, O.own xb i → ¬ O.own xc i
theorem Wst.lt {O : WOps} {B : Nat} {W w : World} {t : Nat} {x : O.X} {m : List Int} (h : Wst O B W w t x m) : ∀ i, O.own x i → i < w.heap.size := O.lt h.wav
theorem Wst.byside {O : WOps} {B : Nat} {W w w' : World} {t t' : Nat} {x y y' : O.X} {m m' : List Int} (h : Wst O B W w t x m) (k : Wst O B W w t' y m') (hn : O.Nxt w w' y y') (hd : ∀ i, O.own x i → ¬ O.own y i) : Wst O B W w' t x m ∧ ∀ i, O.own x i → ¬ O.own y' i :=
  ⟨h.aside hn.1 hd (fun i _ e => k.own i e), fun i hi e => (hn.2 i e).elim (hd i hi) (fun e => by have := h.lt i hi; omega)⟩
theorem Tri.onA {O : WOps} {B : Nat} {W w w' : World} {ta tb tc : Nat} {xa xb xc xa' : O.X} {ma mb mc ma' : List Int} (h : Tri O B W w ta tb tc xa xb xc ma mb mc) (ha : Wst O B W w' ta xa' ma') (hn : O.Nxt w w' xa xa') : Tri O B W w' ta tb tc xa' xb xc ma' mb mc := by
  obtain ⟨h1, h2⟩ := h.b.byside h.a hn (fun i hi e => h.ab i e hi)
  obtain ⟨h3, h4⟩ := h.c.byside h.a hn (fun i hi e => h.ac i e hi)
  exact ⟨ha, h1, h3, fun i hi e => h2 i e hi, fun i hi e => h4 i e hi, h.bc⟩
theorem Tri.onB {O : WOps} {B : Nat} {W w w' : World} {ta tb tc : Nat} {xa xb xc xb' : O.X} {ma mb mc mb' : List Int} (h : Tri O B W w ta tb tc xa xb xc ma mb mc) (hb : Wst O B W w' tb xb' mb') (hn : O.Nxt w w' xb xb') : Tri O B W w' ta tb tc xa xb' xc ma mb' mc := by
  obtain ⟨h1, h2⟩ := h.a.byside h.b hn h.ab
  obtain ⟨h3, h4⟩ := h.c.byside h.b hn (fun i hi e => h.bc i e hi)
  exact ⟨h1, hb, h3, h2, h.ac, fun i hi e => h4 i e hi⟩
theorem Tri.onC {O : WOps} {B : Nat} {W w w' : World} {ta tb tc : Nat} {xa xb xc xc' : O.X} {ma mb mc mc' : List Int} (h : Tri O B W w ta tb tc xa xb xc ma mb mc) (hc : Wst O B W w' tc xc' mc') (hn : O.Nxt w w' xc xc') : Tri O B W w' ta tb tc xa xb xc' ma mb mc' := by
  obtain ⟨h1, h2⟩ := h.a.byside h.c hn h.ac
  obtain ⟨h3, h4⟩ := h.b.byside h.c hn h.bc
  exact ⟨h1, h3, hc, h.ab, h2, h4⟩
theorem Tri.beside {O : WOps} {B : Nat} {W w w' : World} {ta tb tc : Nat} {xa xb xc : O.X} {ma mb mc : List Int} (h : Tri O B W w ta tb tc xa xb xc ma mb mc) (hb : Below w.heap.size w w') : Tri O B W w' ta tb tc xa xb xc ma mb mc :=
  ⟨h.a.beside hb, h.b.beside hb, h.c.beside hb, h.ab, h.ac, h.bc⟩
/-- A new one, of none. -/
theorem Wst.fresh {O : WOps} {B : Nat} {W w : World} {t : Nat} {x : O.X} {m : List Int} (h : Wst O B W w t x m) :
    Calls Tryd.prog 9 #[.slice none 0 0] w fun e w' => ∃ t' x', e = .returned (.tuple #[.pointer (some ⟨t', 0, none⟩), .int .i64 0]) ∧ Wst O B W w' t' x' [] ∧ (∀ i, O.own x' i → w.heap.size ≤ i) ∧ Below w.heap.size w w' :=
  (O.new h.E (Nat.lt_of_lt_of_le h.pos h.le) (RdL.nil w) rfl (Nat.zero_le _) Wv.Good.nil).mono fun _ _ ⟨t', x', he, hw, ho, hb⟩ =>
    ⟨t', x', he, ⟨hw, fun i hi => Nat.le_trans h.le (ho i hi), h.below.trans (hb.mono h.le), O.E_below h.E (Nat.lt_of_lt_of_le h.pos h.le) hb, h.pos, Nat.le_trans h.le hb.size⟩, ho, hb⟩
/-- All of one, in a slice that none of those that were there has. -/
theorem Wst.alls {O : WOps} {B : Nat} {W w : World} {t : Nat} {x : O.X} {m : List Int} (h : Wst O B W w t x m) (hm : m.length ≤ 1000000) (n : Nat) (hn : m.length = n) :
    Calls Tryd.prog 21 #[.pointer (some ⟨t, 0, none⟩)] w fun e w' => ∃ a cap x', e = .returned (.slice a n cap) ∧ RdL w' a cap m ∧ (0 < m.length → ∀ ad, a = some ad → w.heap.size ≤ ad.block) ∧ Wst O B W w' t x' m ∧ O.Nxt w w' x x' := by
  refine (O.all h.E h.wav hm).mono ?_
  rintro _ w' ⟨v, x', rfl, h1, h2, h3, h4, _, _⟩
  obtain ⟨a, cap, rfl, hr⟩ := OwnI.form n h1 hn
  refine ⟨a, cap, x', rfl, hr, fun hp ad ha => ?_, h.next h2 h3 h4, h3, h4⟩
  obtain ⟨b, off, hb, _⟩ := hr.2.2.2 hp
  rw [ha] at hb
  injection hb with hb
  subst hb ha
  exact (h1.lt b rfl).1
theorem RdL.asideX {O : WOps} {B : Nat} {W w w1 w' : World} {t : Nat} {x x' : O.X} {m l : List Int} {a : Option Addr} {cap : Nat} (h : RdL w a cap l) (hw : Wst O B W w1 t x m) (hn : 0 < l.length → ∀ ad, a = some ad → w1.heap.size ≤ ad.block) (hs : O.Nxt w w' x x') : RdL w' a cap l :=
  h.stay hs.1 (fun hp ad ha _ e => by have := hn hp ad ha; have := hw.lt _ e; omega)

set_option maxRecDepth 100000 in
set_option maxHeartbeats 6400000 in
theorem wavebuilds_o (O : WOps) (a : Option Addr) (n cap : Nat) (few : Bool) (W : World) (hz : RdZ W a n) (hE : O.E W) (hpos : 0 < W.heap.size) :
    Calls Tryd.prog 6 #[.slice a n cap, .bool few] W fun e w' => e = .returned (.bool true) ∧ Below W.heap.size W w' := by
  have keyS := syms7 a n cap 100 few W hz (by omega)
  go_enter Tryd.func6, Tryd.ntmps6
  go_wp2_with fail
  (with_reducible refine keyS.mono ?_)
  rintro e w1 ⟨v, m, rfl, hown, hg, hmin, hb1⟩
  obtain ⟨a', cap', n', rfl, hB⟩ := beg hE hpos hown hg hb1
  have hlen := hB.len
  have hn : (n' : Int) ≤ 100 := by omega
  have hm6 : m.length ≤ 1000000 := by omega
  have keyN := hB.new (by omega)
  have HB := Lib.hid hB
  have HM := Lib.hid hm6
  have HLN := Lib.hid hlen
  have HG := Lib.hid hg
  clear keyS hown hg hmin hb1 hB hm6 hlen hz hE hpos
  go_wp2_with fail
  (with_reducible refine keyN.mono ?_)
  rintro e w2 ⟨ta, xa, rfl, hA⟩
  have keyF := hA.fresh
  clear keyN
  go_wp2_with fail
  (with_reducible refine keyF.mono ?_)
  rintro e w3 ⟨tb, xb, rfl, hb, hob, hbb⟩
  have hA3 := hA.beside hbb
  have hab : ∀ i, O.own xa i → ¬ O.own xb i := fun i hi e => by have := hA.lt i hi; have := hob i e; omega
  have keyF2 := hb.fresh
  clear keyF hA hbb hob
  go_wp2_with fail
  (with_reducible refine keyF2.mono ?_)
  rintro e w4 ⟨tc, xc, rfl, hc, hoc, hbc⟩
  have hT : Tri O w1.heap.size w1 w4 ta tb tc xa xb xc m [] [] := ⟨hA3.beside hbc, hb.beside hbc, hc, hab, fun i hi e => by have := hA3.lt i hi; have := hoc i e; omega, fun i hi e => by have := hb.lt i hi; have := hoc i e; omega⟩
  clear keyF2 hA3 hbc hab hoc hc hb
  go_wp2_with fail
  go_loopw [12] (fun i wr => ∃ (k : Nat) (xa xb xc : O.X), k ≤ n' ∧ i = .int .i64 k ∧ Tri O w1.heap.size w1 wr ta tb tc xa xb xc m (m.take k) (m.drop (n' - k))) (fun i _ => n' - (intOf i).toNat)
  case atStart => exact ⟨0, xa, xb, xc, Nat.zero_le _, rfl, by rw [List.take_zero, List.drop_of_length_le (by rw [HLN.out]; omega)]; exact hT⟩
  case round =>
    clear hT
    obtain ⟨k, xa, xb, xc, hk, rfl, hT⟩ := hrel
    by_cases hlt : k < n'
    · have hlt' : (k : Int) < n' := by omega
      have hkm : k < m.length := by rw [HLN.out]; exact hlt
      obtain ⟨j, hj⟩ : ∃ j, n' - 1 - k = j := ⟨_, rfl⟩
      have hjn : j < n' := by omega
      have hjm : j < m.length := by rw [HLN.out]; exact hjn
      have ej : (n' : Int) - 1 - k = j := by omega
      obtain ⟨b, off, ha, -⟩ := HB.out.cell hT.a.below hlt
      subst ha
      have hcell : ∀ (k : Nat) w, k < n' → Below w1.heap.size w1 w → w.cell? ⟨b, off + k, none⟩ = some (.int .i64 (m.getD k 0)) := fun k w hk hb => by
        obtain ⟨b', off', h1, h2⟩ := HB.out.cell hb hk
        injection h1 with h1
        injection h1 with h1 h3 h4
        subst h1 h3
        exact h2
      have HC := Lib.hid hcell
      have hgk := HG.out.at hkm
      have hgj := HG.out.at hjm
      have hie := Wv.ins_end hkm
      have hif := Wv.ins_front hjm
      rw [show j + 1 = n' - k by omega] at hif
      have c0 := hcell k _ hlt hT.a.below
      obtain ⟨s, hs⟩ : ∃ s, m.getD k 0 = s := ⟨_, rfl⟩
      obtain ⟨u, hu⟩ : ∃ u, m.getD j 0 = u := ⟨_, rfl⟩
      rw [hs] at c0 hgk hie
      rw [hu] at hgj hif
      have keyB := hT.b.insert _ (by rw [List.length_take]; have := HM.out; omega) k s (by rw [List.length_take]; omega) hgk hie
      have HT := Lib.hid hT
      have HU := Lib.hid hu
      have HIF := Lib.hid hif
      have EJ : n' - (k + 1) = j := by omega
      have HEJ := Lib.hid EJ
      have hj0 : (0 : Int) ≤ j := by omega
      have hjn' : (j : Int) < n' := by omega
      clear hcell hkm hs hu hie hif hT EJ hj
      go_wp2_with fail
      (with_reducible refine keyB.mono ?_)
      rintro e w5 ⟨rfl, xb', hB5, hN5, _⟩
      have hT5 := HT.out.onB hB5 hN5
      have c1 := HC.out j _ hjn hT5.a.below
      rw [HU.out] at c1
      have keyC := hT5.c.insert _ (by rw [List.length_drop]; have := HM.out; omega) 0 u (Nat.zero_le _) hgj HIF.out
      have HT5 := Lib.hid hT5
      clear keyB hB5 hN5 hT5 c0
      go_wp2_with fail
      refine keyC.mono ?_
      rintro e w6 ⟨rfl, xc', hC6, hN6, _⟩
      have HT6 := Lib.hid (HT5.out.onC hC6 hN6)
      clear keyC hC6 hN6
      go_wp2_with fail
      go_roundw
      case rel => exact ⟨k + 1, xa, xb', xc', by omega, by go_num, by rw [HEJ.out]; exact HT6.out⟩
      case measure => simp [intOf]; omega
    · obtain rfl : k = n' := by omega
      rw [List.take_of_length_le (by rw [HLN.out]; exact Nat.le_refl _), Nat.sub_self, List.drop_zero] at hT
      obtain ⟨L, hL⟩ : ∃ L, (Wv.lens m).length = L := ⟨_, rfl⟩
      have HL := Lib.hid hL
      have hlt' : ¬ (k : Int) < k := by omega
      have keyT := O.told hT.a.E (Nat.lt_of_lt_of_le hT.a.pos hT.a.le)
      have HT := Lib.hid hT
      clear hT hL
      go_wp2_with fail
      (with_reducible refine keyT.mono ?_)
      rintro e w5 ⟨rfl, hb5⟩
      have hT5 := HT.out.beside hb5
      have k1 := hT5.a.alls HM.out k HLN.out
      clear keyT hb5
      go_wp2_with fail
      (with_reducible refine k1.mono ?_)
      rintro e w6 ⟨a6, c6, xa6, rfl, hr6, hf6, hA6, hN6⟩
      have hT6 := hT5.onA hA6 hN6
      have k2 := hT6.b.alls HM.out k HLN.out
      clear k1 hA6 hN6
      go_wp2_with fail
      (with_reducible refine k2.mono ?_)
      rintro e w7 ⟨a7, c7, xb7, rfl, hr7, hf7, hB7, hN7⟩
      have hT7 := hT6.onB hB7 hN7
      have hr67 := hr6.asideX hT5.b hf6 hN7
      have k3 := rsame6 w7 hr67 hr7 HLN.out
      clear k2 hT5 hT6 hB7 hN7 hr6 hr67 hr7 hf6 hf7
      go_wp2_with fail
      (with_reducible refine k3.mono ?_)
      rintro e w8 ⟨rfl, hb8⟩
      have hT8 := hT7.beside hb8
      have k1 := hT8.a.alls HM.out k HLN.out
      clear k3 hb8 hT7
      go_wp2_with fail
      (with_reducible refine k1.mono ?_)
      rintro e w9 ⟨a9, c9, xa9, rfl, hr9, hf9, hA9, hN9⟩
      have hT9 := hT8.onA hA9 hN9
      have k2 := hT9.c.alls HM.out k HLN.out
      clear k1 hA9 hN9
      go_wp2_with fail
      (with_reducible refine k2.mono ?_)
      rintro e w10 ⟨aX, cX, xcX, rfl, hrX, hfX, hCX, hNX⟩
      have hT10 := hT9.onC hCX hNX
      have hr9X := hr9.asideX hT8.c hf9 hNX
      have k3 := rsame6 w10 hr9X hrX HLN.out
      clear k2 hT8 hT9 hCX hNX hr9 hr9X hrX hf9 hfX
      go_wp2_with fail
      (with_reducible refine k3.mono ?_)
      rintro e w11 ⟨rfl, hb11⟩
      have hT11 := hT10.beside hb11
      have k1 := hT11.a.shapes HM.out L HL.out
      clear k3 hb11 hT10
      go_wp2_with fail
      (with_reducible refine k1.mono ?_)
      rintro e w12 ⟨aS, cS, x12, rfl, _, hA12, hN12, _, _⟩
      have hT12 := hT11.onA hA12 hN12
      have k2 := hT12.b.shapes HM.out L HL.out
      clear k1 hT11 hA12 hN12
      go_wp2_with fail
      (with_reducible refine k2.mono ?_)
      rintro e w13 ⟨aS2, cS2, x13, rfl, _, hB13, hN13, _, _⟩
      have hT13 := hT12.onB hB13 hN13
      have k1 := hT13.a.shapes HM.out L HL.out
      clear k2 hT12 hB13 hN13
      go_wp2_with fail
      (with_reducible refine k1.mono ?_)
      rintro e w14 ⟨aS3, cS3, x14, rfl, _, hA14, hN14, _, _⟩
      have hT14 := hT13.onA hA14 hN14
      have k2 := hT14.c.shapes HM.out L HL.out
      clear k1 hT13 hA14 hN14
      go_wp2_with fail
      (with_reducible refine k2.mono ?_)
      rintro e w15 ⟨aS4, cS4, x15, rfl, _, hC15, hN15, _, _⟩
      have HW := Lib.hid hC15
      clear k2 hT14 hC15 hN15
      go_wp2_with fail
      go_ret
      exact ⟨rfl, HB.out.back HW.out⟩
end Go.Proofs.YtaglnomjlnlgoaaDoor
