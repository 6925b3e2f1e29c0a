/- Stage 7's statements as walks, over the contracts that are asked of waves: WaveRanks. -/
import Derived.Test.YtaglnomjlnlgoaaDoorLw
namespace Go.Proofs.YtaglnomjlnlgoaaDoor
open Go Go.RowKit Go.ChangeAt

/-- The laws' beginning: the symbols and the wave of them. -/
structure Beg (O : WOps) (W w1 : World) (a : Option Addr) (cap n : Nat) (m : List Int) : Prop where
  rd : RdL w1 a cap m
  len : m.length = n
  good : Wv.Good m
  below : Below W.heap.size W w1
  E : O.E w1
  pos : 0 < w1.heap.size
theorem beg {O : WOps} {W w1 : World} {v : Value} {m : List Int} (hE : O.E W) (hpos : 0 < W.heap.size) (hown : OwnI W.heap.size w1 v m) (hg : Wv.Good m) (hb : Below W.heap.size W w1) : ∃ a cap n, v = .slice a n cap ∧ Beg O W w1 a cap n m := by
  obtain ⟨a, cap, rfl, hr⟩ := OwnI.form m.length hown rfl
  exact ⟨a, cap, m.length, rfl, hr, rfl, hg, hb, O.E_below hE hpos hb, Nat.lt_of_lt_of_le hpos hb.size⟩
theorem Beg.new {O : WOps} {W w1 : World} {a : Option Addr} {cap n : Nat} {m : List Int} (h : Beg O W w1 a cap n m) (hn : n ≤ 1000000) :
    Calls Tryd.prog 9 #[.slice a n cap] w1 fun e w' => ∃ t x, e = .returned (.tuple #[.pointer (some ⟨t, 0, none⟩), .int .i64 0]) ∧ Wst O w1.heap.size w1 w' t x m :=
  (O.new h.E h.pos h.rd h.len hn h.good).mono fun _ _ ⟨t, x, he, hw, ho, hb⟩ => ⟨t, x, he, hw, ho, hb, O.E_below h.E h.pos hb, h.pos, hb.size⟩
/-- The list is as it was, whatever the wave did. -/
theorem Beg.cell {O : WOps} {W w1 wr : World} {a : Option Addr} {cap n : Nat} {m : List Int} (h : Beg O W w1 a cap n m) (hb : Below w1.heap.size w1 wr) {k : Nat} (hk : k < n) : ∃ b off, a = some ⟨b, off, none⟩ ∧ wr.cell? ⟨b, off + k, none⟩ = some (.int .i64 (m.getD k 0)) := by
  obtain ⟨b, off, ha, hlt, hc⟩ := h.rd.2.2.2 (by rw [h.len]; omega)
  exact ⟨b, off, ha, (hb.cell (p := ⟨b, off + k, none⟩) hlt).trans (hc k (by rw [h.len]; exact hk))⟩
theorem Wst.told {O : WOps} {B : Nat} {w1 wr : World} {t : Nat} {x : O.X} {m' : List Int} (hw : Wst O B w1 wr t x m') :
    Calls Tryd.prog 14 #[] wr fun e w' => e = .returned (.bool true) ∧ Wst O B w1 w' t x m' :=
  (O.told hw.E (Nat.lt_of_lt_of_le hw.pos hw.le)).mono fun _ _ ⟨he, hb⟩ => ⟨he, hw.beside hb⟩
theorem Beg.back {O : WOps} {W w1 wr : World} {t : Nat} {x : O.X} {m' : List Int} {a : Option Addr} {cap n : Nat} {m : List Int} (h : Beg O W w1 a cap n m) (hw : Wst O w1.heap.size w1 wr t x m') : Below W.heap.size W wr :=
  h.below.trans (hw.below.mono h.below.size)
/-- The contracts, of a wave of the law's own. -/
theorem Wst.get {O : WOps} {B : Nat} {W w : World} {t : Nat} {x : O.X} {m : List Int} (h : Wst O B W w t x m) (hm : m.length ≤ 1000000) (n : Nat) (s : Int) (hn : n < m.length) (hs : m.getD n 0 = s) :
    Calls Tryd.prog 15 #[.pointer (some ⟨t, 0, none⟩), .int .i64 n] w fun e w' => e = .returned (.tuple #[.int .i64 s, .int .i64 0]) ∧ ∃ x', Wst O B W w' t x' m ∧ O.Nxt w w' x x' ∧ O.shp x' = O.shp x ∧ O.vis x' ≤ 72 * (hiS 0 (O.shp x) + 2) := by
  subst hs
  exact (O.get n n h.E h.wav rfl hn hm).mono fun _ _ ⟨he, x', h1, h2, h3, h4, h5⟩ => ⟨he, x', h.next h1 h2 h3, ⟨h2, h3⟩, h4, h5⟩
theorem Wst.rank {O : WOps} {B : Nat} {W w : World} {t : Nat} {x : O.X} {m : List Int} (h : Wst O B W w t x m) (hm : m.length ≤ 1000000) (k s r : Int) (hr : (Wv.rk m k.toNat s : Int) = r) :
    Calls Tryd.prog 16 #[.pointer (some ⟨t, 0, none⟩), .int .i64 k, .int .i64 s] w fun e w' => e = .returned (.int .i64 r) ∧ ∃ x', Wst O B W w' t x' m ∧ O.Nxt w w' x x' ∧ O.shp x' = O.shp x := by
  subst hr
  exact (O.rank k s h.E h.wav hm).mono fun _ _ ⟨he, x', h1, h2, h3, h4⟩ => ⟨he, x', h.next h1 h2 h3, ⟨h2, h3⟩, h4⟩
theorem Wst.select {O : WOps} {B : Nat} {W w : World} {t : Nat} {x : O.X} {m : List Int} (h : Wst O B W w t x m) (hm : m.length ≤ 1000000) (j s r : Int) (hr : Wv.sl m j s = r) :
    Calls Tryd.prog 17 #[.pointer (some ⟨t, 0, none⟩), .int .i64 j, .int .i64 s] w fun e w' => e = .returned (.int .i64 r) ∧ ∃ x', Wst O B W w' t x' m ∧ O.Nxt w w' x x' ∧ O.shp x' = O.shp x := by
  subst hr
  exact (O.select j s h.E h.wav hm).mono fun _ _ ⟨he, x', h1, h2, h3, h4⟩ => ⟨he, x', h.next h1 h2 h3, ⟨h2, h3⟩, h4⟩

set_option maxHeartbeats 1600000 in
theorem waveranks_o (O : WOps) (a : Option Addr) (n cap : Nat) (few : Bool) (W : World) (hz : RdZ W a n) (hE : O.E W) (hpos : 0 < W.heap.size) :
    Calls Tryd.prog 4 #[.slice a n cap, .bool few] W fun e w' => e = .returned (.bool true) ∧ Below W.heap.size W w' := by
  have keyS := syms7 a n cap 120 few W hz (by omega)
  go_enter Tryd.func4, Tryd.ntmps4
  go_wp2_with fail
  (with_reducible refine keyS.mono ?_)
  rintro e w1 ⟨v, m, rfl, hown, hg, hmin, hb1⟩
  obtain ⟨a', cap', n', rfl, hB⟩ := beg hE hpos hown hg hb1
  have hlen := hB.len
  have hn : (n' : Int) ≤ 120 := by omega
  have hm6 : m.length ≤ 1000000 := by omega
  have keyN := hB.new (by omega)
  have HB := Lib.hid hB
  have HM := Lib.hid hm6
  have HLN := Lib.hid hlen
  clear keyS hown hg hmin hb1 hB hm6 hlen hz hE hpos
  go_wp2_with fail
  (with_reducible refine keyN.mono ?_)
  rintro e w2 ⟨t, x, rfl, hW⟩
  clear keyN
  go_wp2_with fail
  go_loopw [8] (fun i wr => ∃ (k : Nat) (x : O.X), k ≤ n' ∧ i = .int .i64 k ∧ Wst O w1.heap.size w1 wr t x m) (fun i _ => n' - (intOf i).toNat)
  case atStart => exact ⟨0, x, Nat.zero_le _, rfl, hW⟩
  case round =>
    clear hW
    obtain ⟨k, x, hk, rfl, hW⟩ := hrel
    by_cases hlt : k < n'
    · have hlt' : (k : Int) < n' := by omega
      have hkm : k < m.length := by rw [HLN.out]; exact hlt
      obtain ⟨b, off, ha, -⟩ := HB.out.cell hW.below hlt
      subst ha
      have hcell : ∀ w, Below w1.heap.size w1 w → w.cell? ⟨b, off + k, none⟩ = some (.int .i64 (m.getD k 0)) := fun _ hb => by
        obtain ⟨b', off', h1, h2⟩ := HB.out.cell hb hlt
        injection h1 with h1
        injection h1 with h1 h3 h4
        subst h1 h3
        exact h2
      obtain ⟨s, hs⟩ : ∃ s, m.getD k 0 = s := ⟨_, rfl⟩
      rw [hs] at hcell
      have hsel := Wv.sl_of hkm hs rfl
      have hr1 := Wv.rk_succ s hkm
      rw [if_pos hs] at hr1
      have hrk := Wv.rk_le m k s
      obtain ⟨r, hr⟩ : ∃ r, Wv.rk m k s = r := ⟨_, rfl⟩
      rw [hr] at hsel hr1 hrk
      have hr0 : (Wv.rk m (k : Int).toNat s : Int) = r := by rw [Int.toNat_natCast, hr]
      have hr2 : (Wv.rk m ((k : Int) + 1).toNat s : Int) = (r : Int) + 1 := by rw [show ((k : Int) + 1).toNat = k + 1 by omega, hr1]; omega
      have HC := Lib.hid hcell
      have keyG := hW.get HM.out k s hkm hs
      clear hkm hs hr hr1 hcell hW
      go_wp2_with fail
      (with_reducible refine keyG.mono ?_)
      rintro e w3 ⟨rfl, x3, hW3, _, _, _⟩
      have c3 := HC.out _ hW3.below
      have keyR := hW3.rank HM.out k s r hr0
      clear keyG hW3 hr0
      go_wp2_with fail
      (with_reducible refine keyR.mono ?_)
      rintro e w4 ⟨rfl, x4, hW4, _, _⟩
      have c4 := HC.out _ hW4.below
      have keyL := hW4.select HM.out r s k hsel
      clear keyR hW4 hsel c3
      go_wp2_with fail
      (with_reducible refine keyL.mono ?_)
      rintro e w5 ⟨rfl, x5, hW5, _, _⟩
      have keyR := hW5.rank HM.out ((k : Int) + 1) s ((r : Int) + 1) hr2
      clear keyL hW5 hr2 c4
      go_wp2_with fail
      (with_reducible refine keyR.mono ?_)
      rintro e w6 ⟨rfl, x6, hW6, _, _⟩
      have HW6 := Lib.hid hW6
      clear keyR hW6
      go_wp2_with fail
      go_roundw
      case rel => exact ⟨k + 1, x6, by omega, by go_num, HW6.out⟩
      case measure => simp [intOf]; omega
    · have hlt' : ¬ (k : Int) < n' := by omega
      have keyT := hW.told
      clear hW
      go_wp2_with fail
      (with_reducible refine keyT.mono ?_)
      rintro e w3 ⟨rfl, hW3⟩
      have HW3 := Lib.hid hW3
      clear keyT hW3
      go_wp2_with fail
      go_ret
      exact ⟨rfl, HB.out.back HW3.out⟩
end Go.Proofs.YtaglnomjlnlgoaaDoor
