/- Stage 7's statements as walks, over the contracts that are asked of waves: WaveUndo, WaveCounts. -/
import Derived.Test.YtaglnomjlnlgoaaDoorLwA
namespace Go.Proofs.YtaglnomjlnlgoaaDoor
open Go Go.RowKit Go.ChangeAt

theorem Wst.insert {O : WOps} {B : Nat} {W w : World} {t : Nat} {x : O.X} {m : List Int} (m' : List Int) (h : Wst O B W w t x m) (hm : m.length ≤ 1000000) (n : Nat) (s : Int) (hn : n ≤ m.length) (hs : 0 ≤ s ∧ s ≤ 256) (hi : Wv.ins m n s = m') :
    Calls Tryd.prog 18 #[.pointer (some ⟨t, 0, none⟩), .int .i64 n, .int .i64 s] w fun e w' => e = .returned (.int .i64 0) ∧ ∃ x', Wst O B W w' t x' m' ∧ O.Nxt w w' x x' ∧ O.vis x' ≤ 72 * (max (hiS 0 (O.shp x)) (hiS 0 (O.shp x')) + 2) := by
  subst hi
  exact (O.insert n s n h.E h.wav rfl hn hm hs).mono fun _ _ ⟨he, x', h1, h2, h3, h4⟩ => ⟨he, x', h.next h1 h2 h3, ⟨h2, h3⟩, h4⟩
theorem Wst.delete {O : WOps} {B : Nat} {W w : World} {t : Nat} {x : O.X} {m : List Int} (m' : List Int) (h : Wst O B W w t x m) (hm : m.length ≤ 1000000) (n : Nat) (s : Int) (hn : n < m.length) (hs : m.getD n 0 = s) (hi : Wv.del m n = m') :
    Calls Tryd.prog 19 #[.pointer (some ⟨t, 0, none⟩), .int .i64 n] w fun e w' => e = .returned (.tuple #[.int .i64 s, .int .i64 0]) ∧ ∃ x', Wst O B W w' t x' m' ∧ O.Nxt w w' x x' ∧ O.vis x' ≤ 72 * (max (hiS 0 (O.shp x)) (hiS 0 (O.shp x')) + 2) := by
  subst hs hi
  exact (O.delete n n h.E h.wav rfl hn hm).mono fun _ _ ⟨he, x', h1, h2, h3, h4⟩ => ⟨he, x', h.next h1 h2 h3, ⟨h2, h3⟩, h4⟩
theorem Wst.shlen {O : WOps} {B : Nat} {W w : World} {t : Nat} {x : O.X} {m : List Int} (h : Wst O B W w t x m) (hm : m.length ≤ 1000000) : (O.shp x).length = (Wv.lens m).length := by
  have := congrArg List.length (O.shapes_are h.wav hm).1
  simpa using this
theorem Wst.shapes {O : WOps} {B : Nat} {W w : World} {t : Nat} {x : O.X} {m : List Int} (h : Wst O B W w t x m) (hm : m.length ≤ 1000000) (L : Nat) (hL : (Wv.lens m).length = L) :
    Calls Tryd.prog 10 #[.pointer (some ⟨t, 0, none⟩)] w fun e w' => ∃ a cap x', e = .returned (.slice a L cap) ∧ RdS w' a (O.shp x) ∧ Wst O B W w' t x' m ∧ O.Nxt w w' x x' ∧ (∀ ad, a = some ad → ¬ O.own x' ad.block) ∧ O.shp x' = O.shp x := by
  have e := (h.shlen hm).trans hL
  refine (O.shapes h.E h.wav hm).mono ?_
  rintro _ w' ⟨a, cap, x', rfl, h1, h2, h3, h4, h5, h6, _⟩
  rw [e]
  exact ⟨a, cap, x', rfl, h1, h.next h2 h3 h4, ⟨h3, h4⟩, h5, h6⟩
theorem Wst.all {O : WOps} {B : Nat} {W w : World} {t : Nat} {x : O.X} {m : List Int} (h : Wst O B W w t x m) (hm : m.length ≤ 1000000) (n : Nat) (hn : m.length = n) :
    Calls Tryd.prog 21 #[.pointer (some ⟨t, 0, none⟩)] w fun e w' => ∃ a cap x', e = .returned (.slice a n cap) ∧ RdL w' a cap m ∧ Wst O B W w' t x' m ∧ O.Nxt w w' x x' := by
  refine (O.all h.E h.wav hm).mono ?_
  rintro _ w' ⟨v, x', rfl, h1, h2, h3, h4, _, _⟩
  obtain ⟨a, cap, rfl, hr⟩ := OwnI.form n h1 hn
  exact ⟨a, cap, x', rfl, hr, h.next h2 h3 h4, h3, h4⟩
/-- The list beside the wave. -/
theorem Beg.rdl {O : WOps} {W w1 wr : World} {a : Option Addr} {cap n : Nat} {m : List Int} (h : Beg O W w1 a cap n m) (hb : Below w1.heap.size w1 wr) : RdL wr a cap m := h.rd.below hb
theorem mod_len (z : Int) (N : Nat) (hN : N ≤ 999999) : ∃ q : Nat, q ≤ N ∧ RowKit.wrap64 ((IntKind.u64.wrap z).tmod ((N : Int) + 1)) = (q : Int) := by
  obtain ⟨q, hq, e⟩ := mod_any z (N + 1) (by omega) (by omega)
  exact ⟨q, by omega, by rw [← e]; congr 1⟩

set_option maxHeartbeats 3200000 in
theorem waveundo_o (O : WOps) (a : Option Addr) (n cap : Nat) (few : Bool) (a2 : Option Addr) (n2 cap2 : Nat) (s : Int) (W : World) (hz : RdZ W a n) (hz2 : RdZ W a2 n2) (hE : O.E W) (hpos : 0 < W.heap.size) :
    Calls Tryd.prog 5 #[.slice a n cap, .bool few, .slice a2 n2 cap2, .int .i64 s] W fun e w' => e = .returned (.bool true) ∧ Below W.heap.size W w' := by
  have keyS := syms7 a n cap 150 few W hz (by omega)
  obtain ⟨c, hc, en1⟩ := mod_any s 257 (by decide) (by decide)
  change RowKit.wrap64 ((IntKind.u64.wrap s).tmod 257) = _ at en1
  have hn2 := hz2.1
  unfold maxLen at hn2
  have HZ := Lib.hid hz2.2
  go_enter Tryd.func5, Tryd.ntmps5
  go_wp2_with fail
  (with_reducible refine keyS.mono ?_)
  rintro e w1 ⟨v, m, rfl, hown, hg, hmin, hb1⟩
  obtain ⟨a', cap', n', rfl, hB⟩ := beg hE hpos hown hg hb1
  have hlen := hB.len
  have hn : (n' : Int) ≤ 150 := by omega
  have hm6 : m.length ≤ 1000000 := by omega
  have keyN := hB.new (by omega)
  have HB := Lib.hid hB
  have HM := Lib.hid hm6
  have HLN := Lib.hid hlen
  clear keyS hown hg hmin hb1 hB hm6 hlen hz hz2 hE hpos
  go_wp2_with fail
  (with_reducible refine keyN.mono ?_)
  rintro e w2 ⟨t, x, rfl, hW⟩
  obtain ⟨L, hL⟩ : ∃ L, (Wv.lens m).length = L := ⟨_, rfl⟩
  have HLL := Lib.hid hL
  have keySh := hW.shapes HM.out L hL
  clear keyN hL hW
  go_wp2_with fail
  rw [en1]
  clear en1
  (with_reducible refine keySh.mono ?_)
  rintro e w3 ⟨aS, cS, x3, rfl, _, hW3, _, _, _⟩
  clear keySh
  go_wp2_with fail
  go_loopw [14] (fun i wr => ∃ (k : Nat) (x : O.X), k ≤ n2 ∧ k ≤ 15 ∧ i = .int .i64 k ∧ Wst O w1.heap.size w1 wr t x m) (fun i _ => n2 - (intOf i).toNat)
  case atStart => exact ⟨0, x3, Nat.zero_le _, Nat.zero_le _, rfl, hW3⟩
  case round =>
    clear hW3
    obtain ⟨k, x, hk, hk15, rfl, hW⟩ := hrel
    by_cases hlt : k < n2 ∧ k < 15
    · have h1 : (k : Int) < n2 := by omega
      have h2 : (k : Int) < 15 := by omega
      obtain ⟨b, off, rfl, hbb, hcz⟩ := HZ.out (by omega)
      obtain ⟨z, hzc⟩ := hcz k hlt.1
      have c0 := ((HB.out.back hW).cell (p := ⟨b, off + k, none⟩) hbb).trans hzc
      obtain ⟨q, hq, en2⟩ := mod_len z n' (by omega)
      have hqm : q ≤ m.length := by rw [HLN.out]; exact hq
      have keyI := hW.insert (Wv.ins m q c) HM.out q c hqm (by omega) rfl
      have HQ := Lib.hid hqm
      have HLT := Lib.hid hlt
      clear hcz hzc hW hqm hlt
      go_wp2_with fail
      (with_reducible refine keyI.mono ?_)
      rintro e w4 ⟨rfl, x4, hW4, _, _⟩
      have keyD := hW4.delete m (by rw [Wv.ins_len HQ.out]; have := HLN.out; omega) q c (by rw [Wv.ins_len HQ.out]; have := HQ.out; omega) (Wv.ins_at HQ.out) (Wv.del_ins HQ.out)
      clear keyI hW4
      go_wp2_with fail
      (with_reducible refine keyD.mono ?_)
      rintro e w5 ⟨rfl, x5, hW5, _, _⟩
      have HW5 := Lib.hid hW5
      clear keyD hW5
      go_wp2_with fail
      go_roundw
      case rel => exact ⟨k + 1, x5, by have := HLT.out; omega, by have := HLT.out; omega, by go_num, HW5.out⟩
      case measure => simp [intOf]; have := HLT.out; omega
    · have keyT := hW.told
      clear hW
      by_cases h1 : (k : Int) < n2
      · have h2 : ¬ (k : Int) < 15 := by omega
        clear hlt
        go_wp2_with fail
        (with_reducible refine keyT.mono ?_)
        rintro e w3 ⟨rfl, hW3⟩
        have keyA := hW3.all HM.out n' HLN.out
        clear keyT hW3
        go_wp2_with fail
        (with_reducible refine keyA.mono ?_)
        rintro e w4 ⟨aA, cA, x4, rfl, hrA, hW4, _⟩
        have keyM := rsame6 w4 hrA (HB.out.rdl hW4.below) HLN.out
        clear keyA
        go_wp2_with fail
        (with_reducible refine keyM.mono ?_)
        rintro e w5 ⟨rfl, hb5⟩
        have keySh := (hW4.beside hb5).shapes HM.out L HLL.out
        clear keyM hrA hW4 hb5
        go_wp2_with fail
        (with_reducible refine keySh.mono ?_)
        rintro e w6 ⟨aS, cS, x6, rfl, _, hW6, _, _, _⟩
        have HW6 := Lib.hid hW6
        clear keySh hW6
        go_wp2_with fail
        go_ret
        exact ⟨rfl, HB.out.back HW6.out⟩
      · clear hlt
        go_wp2_with fail
        (with_reducible refine keyT.mono ?_)
        rintro e w3 ⟨rfl, hW3⟩
        have keyA := hW3.all HM.out n' HLN.out
        clear keyT hW3
        go_wp2_with fail
        (with_reducible refine keyA.mono ?_)
        rintro e w4 ⟨aA, cA, x4, rfl, hrA, hW4, _⟩
        have keyM := rsame6 w4 hrA (HB.out.rdl hW4.below) HLN.out
        clear keyA
        go_wp2_with fail
        (with_reducible refine keyM.mono ?_)
        rintro e w5 ⟨rfl, hb5⟩
        have keySh := (hW4.beside hb5).shapes HM.out L HLL.out
        clear keyM hrA hW4 hb5
        go_wp2_with fail
        (with_reducible refine keySh.mono ?_)
        rintro e w6 ⟨aS, cS, x6, rfl, _, hW6, _, _, _⟩
        have HW6 := Lib.hid hW6
        clear keySh hW6
        go_wp2_with fail
        go_ret
        exact ⟨rfl, HB.out.back HW6.out⟩
end Go.Proofs.YtaglnomjlnlgoaaDoor
