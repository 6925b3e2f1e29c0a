/- Stage 7's statements as walks, over the contracts that are asked of waves: WaveCounts. -/
import Derived.Test.YtaglnomjlnlgoaaDoorLwB
namespace Go.Proofs.YtaglnomjlnlgoaaDoor
open Go Go.RowKit Go.ChangeAt

set_option maxRecDepth 100000 in
set_option maxHeartbeats 6400000 in
theorem wavecounts_o (O : WOps) (a : Option Addr) (n cap : Nat) (few : Bool) (at0 : Int) (W : World) (hz : RdZ W a n) (hE : O.E W) (hpos : 0 < W.heap.size) :
    Calls Tryd.prog 7 #[.slice a n cap, .bool few, .int .i64 at0] W fun e w' => e = .returned (.bool true) ∧ Below W.heap.size W w' := by
  have keyS := syms7 a n cap 100 few W hz (by omega)
  go_enter Tryd.func7, Tryd.ntmps7
  go_wp2_with fail
  (with_reducible refine keyS.mono ?_)
  rintro e w1 ⟨v, m, rfl, hown, hg, hmin, hb1⟩
  obtain ⟨a', cap', n', rfl, hB⟩ := beg hE hpos hown hg hb1
  have hlen := hB.len
  have hn : (n' : Int) ≤ 100 := by omega
  have hm6 : m.length ≤ 1000000 := by omega
  have keyN := hB.new (by omega)
  obtain ⟨K, hK, en1⟩ := mod_len at0 n' (by omega)
  have hall := Wv.rsum_all hg (show K ≤ m.length by omega)
  have HALL := Lib.hid hall
  have HB := Lib.hid hB
  have HM := Lib.hid hm6
  have HLN := Lib.hid hlen
  clear keyS hown hg hmin hb1 hB hm6 hlen hz hE hpos hall
  go_wp2_with fail
  (with_reducible refine keyN.mono ?_)
  rintro e w2 ⟨t, x, rfl, hW⟩
  clear keyN
  go_wp2_with fail
  rw [en1]
  clear en1
  go_loopw [11, 12] (fun sm i wr => ∃ (k : Nat) (x : O.X), k ≤ 257 ∧ i = .int .i64 k ∧ sm = .int .i64 (Wv.rsum m K k) ∧ Wst O w1.heap.size w1 wr t x m) (fun _ i _ => 257 - (intOf i).toNat)
  case atStart => exact ⟨0, x, Nat.zero_le _, rfl, rfl, hW⟩
  case round =>
    clear hW
    obtain ⟨k, x, hk, rfl, rfl, hW⟩ := hrel
    by_cases hlt : k < 257
    · have h1 : (k : Int) < 257 := by omega
      have hsum : Hid (Wv.rsum m K (k + 1) = Wv.rsum m K k + Wv.rk m K (k : Int)) := Lib.hid rfl
      have hle := Wv.rsum_le m K k
      have hle2 : k * K ≤ 257 * 100 := Nat.mul_le_mul (by omega) (by omega)
      have hrk := Wv.rk_le m K (k : Int)
      have hbeh := Wv.sl_behind m K (k : Int)
      have hahead := Wv.sl_ahead (m := m) (k := K) (s := (k : Int))
      obtain ⟨sm, hsm⟩ : ∃ sm, Wv.rsum m K k = sm := ⟨_, rfl⟩
      obtain ⟨r, hr⟩ : ∃ r, Wv.rk m K (k : Int) = r := ⟨_, rfl⟩
      rw [hsm, hr] at hsum
      rw [hsm] at hle ⊢
      rw [hr] at hrk hbeh hahead
      have hr0 : (Wv.rk m (K : Int).toNat (k : Int) : Int) = r := by rw [Int.toNat_natCast, hr]
      have keyR := hW.rank HM.out K k r hr0
      obtain ⟨q, hq⟩ : ∃ q, Wv.sl m (r : Int) (k : Int) = q := ⟨_, rfl⟩
      rw [hq] at hbeh
      have hsb : (sm : Int) ≤ 1000000 := by omega
      have hrb : (r : Int) ≤ 100 := by omega
      have HQ := Lib.hid hq
      clear hW hle hle2 hsm hr hr0 hq
      by_cases hpz : 0 < r
      · obtain ⟨hp0, hp1⟩ := hahead hpz
        obtain ⟨p, hp⟩ : ∃ p, Wv.sl m ((r : Int) - 1) (k : Int) = p := ⟨_, rfl⟩
        rw [hp] at hp0 hp1
        have HP := Lib.hid hp
        have hpz' : (0 : Int) < r := by omega
        have hnge : ¬ (K : Int) ≤ p := by omega
        clear hp hahead
        rcases hbeh with rfl | hbeh
        · skip
          go_wp2_with fail
          (with_reducible refine keyR.mono ?_)
          rintro e w3 ⟨rfl, x3, hW3, _, _⟩
          clear keyR
          have keyL4 := hW3.select HM.out ((r : Int) - 1) k p HP.out
          clear hW3
          go_wp2_with fail
          (with_reducible refine keyL4.mono ?_)
          rintro e w4 ⟨rfl, x4, hW4, _, _⟩
          clear keyL4
          have keyL5 := hW4.select HM.out r k (-1) HQ.out
          clear hW4
          go_wp2_with fail
          (with_reducible refine keyL5.mono ?_)
          rintro e w5 ⟨rfl, x5, hW5, _, _⟩
          clear keyL5
          have HW := Lib.hid hW5
          clear hW5
          go_wp2_with fail
          go_roundw
          case rel => exact ⟨k + 1, x5, by omega, by go_num, by rw [hsum.out]; go_num, HW.out⟩
          case measure => simp [intOf]; omega
        · have hq0 : (0 : Int) ≤ q := by omega
          have hq1 : ¬ q < (K : Int) := by omega
          go_wp2_with fail
          (with_reducible refine keyR.mono ?_)
          rintro e w3 ⟨rfl, x3, hW3, _, _⟩
          clear keyR
          have keyL4 := hW3.select HM.out ((r : Int) - 1) k p HP.out
          clear hW3
          go_wp2_with fail
          (with_reducible refine keyL4.mono ?_)
          rintro e w4 ⟨rfl, x4, hW4, _, _⟩
          clear keyL4
          have keyL5 := hW4.select HM.out r k q HQ.out
          clear hW4
          go_wp2_with fail
          (with_reducible refine keyL5.mono ?_)
          rintro e w5 ⟨rfl, x5, hW5, _, _⟩
          clear keyL5
          have keyL6 := hW5.select HM.out r k q HQ.out
          clear hW5
          go_wp2_with fail
          (with_reducible refine keyL6.mono ?_)
          rintro e w6 ⟨rfl, x6, hW6, _, _⟩
          clear keyL6
          have HW := Lib.hid hW6
          clear hW6
          go_wp2_with fail
          go_roundw
          case rel => exact ⟨k + 1, x6, by omega, by go_num, by rw [hsum.out]; go_num, HW.out⟩
          case measure => simp [intOf]; omega
      · have hpz' : ¬ (0 : Int) < r := by omega
        clear hahead hpz
        rcases hbeh with rfl | hbeh
        · skip
          go_wp2_with fail
          (with_reducible refine keyR.mono ?_)
          rintro e w3 ⟨rfl, x3, hW3, _, _⟩
          clear keyR
          have keyL4 := hW3.select HM.out r k (-1) HQ.out
          clear hW3
          go_wp2_with fail
          (with_reducible refine keyL4.mono ?_)
          rintro e w4 ⟨rfl, x4, hW4, _, _⟩
          clear keyL4
          have HW := Lib.hid hW4
          clear hW4
          go_wp2_with fail
          go_roundw
          case rel => exact ⟨k + 1, x4, by omega, by go_num, by rw [hsum.out]; go_num, HW.out⟩
          case measure => simp [intOf]; omega
        · have hq0 : (0 : Int) ≤ q := by omega
          have hq1 : ¬ q < (K : Int) := by omega
          go_wp2_with fail
          (with_reducible refine keyR.mono ?_)
          rintro e w3 ⟨rfl, x3, hW3, _, _⟩
          clear keyR
          have keyL4 := hW3.select HM.out r k q HQ.out
          clear hW3
          go_wp2_with fail
          (with_reducible refine keyL4.mono ?_)
          rintro e w4 ⟨rfl, x4, hW4, _, _⟩
          clear keyL4
          have keyL5 := hW4.select HM.out r k q HQ.out
          clear hW4
          go_wp2_with fail
          (with_reducible refine keyL5.mono ?_)
          rintro e w5 ⟨rfl, x5, hW5, _, _⟩
          clear keyL5
          have HW := Lib.hid hW5
          clear hW5
          go_wp2_with fail
          go_roundw
          case rel => exact ⟨k + 1, x5, by omega, by go_num, by rw [hsum.out]; go_num, HW.out⟩
          case measure => simp [intOf]; omega
    · have hk7 : k = 257 := by omega
      subst hk7
      rw [HALL.out]
      have keyT := hW.told
      clear hW
      have h1 : ¬ ((257 : Nat) : Int) < 257 := by omega
      go_wp2_with fail
      (with_reducible refine keyT.mono ?_)
      rintro e w3 ⟨rfl, hW3⟩
      have HW := Lib.hid hW3
      clear keyT hW3
      go_wp2_with fail
      go_ret
      exact ⟨rfl, HB.out.back HW.out⟩
end Go.Proofs.YtaglnomjlnlgoaaDoor
