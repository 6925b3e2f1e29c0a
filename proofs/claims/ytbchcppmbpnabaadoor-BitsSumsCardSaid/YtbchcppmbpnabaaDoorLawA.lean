/- Layer 1's statements as walks: BitsBack, BitsSums, BitsChain. -/
import Derived.Test.YtbchcppmbpnabaaDoorTold
namespace Go.Proofs.YtbchcppmbpnabaaDoor
open Go.RowKit

theorem one_any (b : Bool) (w : World) :
    Calls Tryd.prog 20 #[.bool b] w fun e w' => e = .returned (.int .i64 b.toNat) ∧ w = w' := by
  cases b
  all_goals
    go_enter Tryd.func20, Tryd.ntmps20
    go_wp2
    go_ret
    exact ⟨rfl, rfl⟩

set_option maxHeartbeats 400000 in
theorem back_walk (x : Nat) (k : Int) (b : Bool) (w : World) (hx : x < 18446744073709551616) (hT : TabAt w) (hw0 : 0 < w.heap.size) :
    Calls Tryd.prog 5 #[.int .u64 x, .int .i64 k, .bool b] w fun e w' => e = .returned (.bool true) ∧ Below w.heap.size w w' := by
  obtain ⟨n, hn, en⟩ := Wd.mod_key k 64 (Or.inl rfl)
  change RowKit.wrap64 ((IntKind.u64.wrap k).tmod 64) = _ at en
  have e1 := Wd.cut_put hx hn b
  have e2 := Wd.put_cut hx hn b
  have e3 := Wd.bit_put (x := x) hn b
  have e4 := Wd.bit_cut hx hn b
  have e5 := Wd.pop_put (x := x) hn b
  have hp1 := Wd.pop_le x
  have hp2 := Wd.pop_le (Wd.put x n b)
  have hb1 := Bool.toNat_le b
  have hb2 := Bool.toNat_le (x.testBit 63)
  have E1 := Lib.hid e1
  have E2 := Lib.hid e2
  have E3 := Lib.hid e3
  have E4 := Lib.hid e4
  have E5 : ((Wd.pop (Wd.put x n b) : Int) == (Wd.pop x : Int) + (b.toNat : Int) - ((x.testBit 63).toNat : Int)) = true := by simp; omega
  clear e1 e2 e3 e4 e5
  go_enter Tryd.func5, Tryd.ntmps5
  go_wp2_with fail
  refine (put_yes _ _ _ _ hx (by omega) (by omega)).mono ?_
  rintro e w' ⟨rfl, n1, rfl⟩
  rw [Int.toNat_natCast]
  go_wp2_with fail
  refine (cut_yes _ _ _ _ (Wd.put_lt _ _ _) (by omega) (by omega)).mono ?_
  rintro e w' ⟨rfl, rfl⟩
  rw [Int.toNat_natCast, E1.out, E3.out]
  go_wp2_with fail
  refine (cut_yes _ _ _ _ hx (by omega) (by omega)).mono ?_
  rintro e w' ⟨rfl, rfl⟩
  rw [Int.toNat_natCast]
  go_wp2_with fail
  refine (put_yes _ _ _ _ (Wd.cut_lt _ _ _) (by omega) (by omega)).mono ?_
  rintro e w' ⟨rfl, n2, rfl⟩
  rw [Int.toNat_natCast, E2.out, E4.out]
  go_wp2_with fail
  refine (told_any _ (by exact hT) (by exact hw0)).mono ?_
  rintro e w1 ⟨rfl, hb⟩
  go_wp2_with fail
  refine (count_one _ _ _ (Wd.put_lt _ _ _) (new_cell rfl rfl)).mono ?_
  rintro e w' ⟨rfl, rfl⟩
  go_wp2_with fail
  refine (count_one _ _ _ hx (new_cell (by simp) rfl)).mono ?_
  rintro e w' ⟨rfl, rfl⟩
  go_wp2_with (go_at_call 20; refine (one_any _ _).mono ?_; rintro e w' ⟨rfl, rfl⟩)
  go_ret
  have hb' : Below w.heap.size w w1 := (((Below.refl w.heap.size w).drewN (n1 + n2)).trans hb)
  exact ⟨rfl, (hb'.alloc (by have := hb'.size; simpa using this) _).alloc (by have := hb'.size; simp; omega) _⟩

set_option maxHeartbeats 400000 in
theorem chain_walk (x y : Nat) (k : Int) (b : Bool) (w : World) (hx : x < 18446744073709551616) (hy : y < 18446744073709551616) (hT : TabAt w) (hw0 : 0 < w.heap.size) :
    Calls Tryd.prog 8 #[.int .u64 x, .int .u64 y, .int .i64 k, .bool b] w fun e w' => e = .returned (.bool true) ∧ Below w.heap.size w w' := by
  obtain ⟨n, hn, en⟩ := Wd.mod_key k 64 (Or.inl rfl)
  change RowKit.wrap64 ((IntKind.u64.wrap k).tmod 64) = _ at en
  have E1 := Lib.hid (Wd.cut_put hx hn b)
  have E2 := Lib.hid (Wd.cut_put hy (k := 0) (by decide) (x.testBit 63))
  have E3 := Lib.hid (Wd.bit_put (x := x) hn b)
  have E4 := Lib.hid (Wd.bit_put (x := y) (k := 0) (by decide) (x.testBit 63))
  have e5 := Wd.pop_put (x := x) hn b
  have e6 := Wd.pop_put (x := y) (k := 0) (by decide) (x.testBit 63)
  have hp1 := Wd.pop_le x
  have hp2 := Wd.pop_le (Wd.put x n b)
  have hp3 := Wd.pop_le y
  have hp4 := Wd.pop_le (Wd.put y 0 (x.testBit 63))
  have hb1 := Bool.toNat_le b
  have hb2 := Bool.toNat_le (x.testBit 63)
  have hb3 := Bool.toNat_le (y.testBit 63)
  have E5 : ((Wd.pop x : Int) + (Wd.pop y : Int) == (Wd.pop (Wd.put x n b) : Int) + (Wd.pop (Wd.put y 0 (x.testBit 63)) : Int) - (b.toNat : Int) + ((y.testBit 63).toNat : Int)) = true := by simp; omega
  clear e5 e6
  go_enter Tryd.func8, Tryd.ntmps8
  go_wp2_with fail
  refine (put_yes _ _ _ _ hx (by omega) (by omega)).mono ?_
  rintro e w' ⟨rfl, n1, rfl⟩
  rw [Int.toNat_natCast]
  go_wp2_with fail
  refine (put_yes _ _ _ _ hy (by omega) (by omega)).mono ?_
  rintro e w' ⟨rfl, n2, rfl⟩
  rw [show Int.toNat 0 = 0 from rfl]
  go_wp2_with fail
  refine (cut_yes _ _ _ _ (Wd.put_lt _ _ _) (by omega) (by omega)).mono ?_
  rintro e w' ⟨rfl, rfl⟩
  rw [show Int.toNat 0 = 0 from rfl, E2.out, E4.out]
  go_wp2_with fail
  refine (cut_yes _ _ _ _ (Wd.put_lt _ _ _) (by omega) (by omega)).mono ?_
  rintro e w' ⟨rfl, rfl⟩
  rw [Int.toNat_natCast, E1.out, E3.out]
  go_wp2_with fail
  refine (told_any _ (by exact hT) (by exact hw0)).mono ?_
  rintro e w1 ⟨rfl, hb⟩
  go_wp2_with fail
  refine (count_two _ _ _ _ hx hy (new_cell rfl rfl) (new_cell rfl rfl)).mono ?_
  rintro e w' ⟨rfl, rfl⟩
  go_wp2_with fail
  refine (count_two _ _ _ _ (Wd.put_lt _ _ _) (Wd.put_lt _ _ _) (new_cell (by simp) rfl) (new_cell (by simp) rfl)).mono ?_
  rintro e w' ⟨rfl, rfl⟩
  go_wp2_with (go_at_call 20; refine (one_any _ _).mono ?_; rintro e w' ⟨rfl, rfl⟩)
  go_ret
  have hb' : Below w.heap.size w w1 := (((Below.refl w.heap.size w).drewN (n1 + n2)).trans hb)
  exact ⟨rfl, (hb'.alloc (by have := hb'.size; simpa using this) _).alloc (by have := hb'.size; simp; omega) _⟩

theorem extra_64 (x : Nat) (w : World) (hx : x < 18446744073709551616) :
    Calls Tryd.prog 21 #[.int .u64 x, .int .i64 64] w fun e w' => e = .returned (.int .i64 (Wd.pop x)) ∧ Below w.heap.size w w' := by
  go_enter Tryd.func21, Tryd.ntmps21
  go_wp2_with fail
  refine (count_one _ _ _ hx (new_cell rfl rfl)).mono ?_
  rintro e w' ⟨rfl, rfl⟩
  go_wp2_with fail
  go_ret
  exact ⟨rfl, (Below.refl _ _).alloc (Nat.le_refl _) _⟩
theorem extra_lt (x : Nat) (n : Nat) (w : World) (hn : n < 64) :
    Calls Tryd.prog 21 #[.int .u64 x, .int .i64 n] w fun e w' => e = .returned (.int .i64 0) ∧ Below w.heap.size w w' := by
  have h : ((n : Int) == 64) = false := by simp; omega
  go_enter Tryd.func21, Tryd.ntmps21
  go_wp2_with fail
  go_ret
  exact ⟨rfl, Below.refl _ _⟩

set_option maxHeartbeats 400000 in
theorem sums_walk (x : Nat) (k : Int) (w : World) (hx : x < 18446744073709551616) (hT : TabAt w) (hw0 : 0 < w.heap.size) :
    Calls Tryd.prog 7 #[.int .u64 x, .int .i64 k] w fun e w' => e = .returned (.bool true) ∧ Below w.heap.size w w' := by
  obtain ⟨n, hn, en⟩ := Wd.mod_key k 65 (Or.inr rfl)
  change RowKit.wrap64 ((IntKind.u64.wrap k).tmod 65) = _ at en
  have hxn := Wd.xor_neg x hx
  have hneg := Wd.neg_lt x
  have hp := Wd.pop_le x
  by_cases h64 : n = 64
  · subst h64
    have r1 := Wd.cnt_le x.testBit 64
    have r2 := Wd.cnt_le (Wd.neg x).testBit 64
    have r3 := Wd.pop_neg hx
    have E1 : ((Wd.cnt x.testBit 64 : Int) + (Wd.cnt (Wd.neg x).testBit 64 : Int) == 64) = true := by unfold Wd.pop at r3; simp; omega
    have E2 : ((Wd.pop x : Int) == (Wd.cnt x.testBit 64 : Int)) = true := by unfold Wd.pop; simp
    clear r3
    go_enter Tryd.func7, Tryd.ntmps7
    go_wp2_with fail
    refine (rank_any _ _ _ hx).mono ?_
    rintro e w' ⟨rfl, rfl⟩
    go_wp2_with fail
    refine (rank_any _ _ _ hneg).mono ?_
    rintro e w' ⟨rfl, rfl⟩
    go_wp2_with fail
    refine (told_any _ (by exact hT) (by exact hw0)).mono ?_
    rintro e w1 ⟨rfl, hb⟩
    go_wp2_with fail
    refine (count_one _ _ _ hx (new_cell rfl rfl)).mono ?_
    rintro e w' ⟨rfl, rfl⟩
    go_wp2_with fail
    refine (rank_any _ _ _ hx).mono ?_
    rintro e w' ⟨rfl, rfl⟩
    go_wp2_with fail
    refine (count_one _ _ _ hx (new_cell (by simp) rfl)).mono ?_
    rintro e w' ⟨rfl, rfl⟩
    go_wp2_with fail
    refine (extra_64 _ _ hx).mono ?_
    rintro e w2 ⟨rfl, hb2⟩
    go_wp2_with fail
    go_ret
    exact ⟨rfl, ((hb.alloc hb.size _).alloc (by have := hb.size; simp; omega) _).trans (hb2.mono (by have := hb.size; simp; omega))⟩
  · have hn' : n < 64 := by omega
    have hmin : min (Int.toNat n) 64 = n := by omega
    have r1 := Wd.cnt_le x.testBit n
    have r2 := Wd.cnt_le (Wd.neg x).testBit n
    have r3 : Wd.cnt x.testBit n + Wd.cnt (Wd.neg x).testBit n = n := by
      have h1 := Wd.cnt_not x.testBit n
      have h2 : Wd.cnt (Wd.neg x).testBit n = Wd.cnt (fun i => !x.testBit i) n := Wd.cnt_congr fun i hi => Wd.testBit_neg_lt hx (by omega)
      omega
    have r4 := Wd.pop_shift hx (k := n) (by omega)
    have r5 := Wd.pop_le (x / 2 ^ n)
    have E1 : ((Wd.cnt x.testBit n : Int) + (Wd.cnt (Wd.neg x).testBit n : Int) == (n : Int)) = true := by simp; omega
    have E2 : ((Wd.pop x : Int) == (Wd.cnt x.testBit n : Int) + (Wd.pop (x / 2 ^ n) : Int)) = true := by simp; omega
    have ed : ((x : Int) / 2 ^ n) = ((x / 2 ^ n : Nat) : Int) := by simp
    have hlt : x / 2 ^ n < 18446744073709551616 := Nat.lt_of_le_of_lt (Nat.div_le_self _ _) hx
    have em : ((n : Int) % 64) = n := by omega
    have HM := Lib.hid hmin
    have ED := Lib.hid ed
    clear r3 r4 hmin ed
    go_enter Tryd.func7, Tryd.ntmps7
    go_wp2_with fail
    refine (rank_any _ _ _ hx).mono ?_
    rintro e w' ⟨rfl, rfl⟩
    rw [HM.out]
    go_wp2_with fail
    refine (rank_any _ _ _ hneg).mono ?_
    rintro e w' ⟨rfl, rfl⟩
    rw [HM.out]
    go_wp2_with fail
    refine (told_any _ (by exact hT) (by exact hw0)).mono ?_
    rintro e w1 ⟨rfl, hb⟩
    go_wp2_with fail
    refine (count_one _ _ _ hx (new_cell rfl rfl)).mono ?_
    rintro e w' ⟨rfl, rfl⟩
    go_wp2_with fail
    refine (rank_any _ _ _ hx).mono ?_
    rintro e w' ⟨rfl, rfl⟩
    rw [HM.out]
    go_wp2_with fail
    rw [ED.out]
    refine (count_one _ _ _ hlt (new_cell (by simp) rfl)).mono ?_
    rintro e w' ⟨rfl, rfl⟩
    go_wp2_with fail
    refine (extra_lt _ _ _ hn').mono ?_
    rintro e w2 ⟨rfl, hb2⟩
    go_wp2_with fail
    go_ret
    exact ⟨rfl, ((hb.alloc hb.size _).alloc (by have := hb.size; simp; omega) _).trans (hb2.mono (by have := hb.size; simp; omega))⟩
end Go.Proofs.YtbchcppmbpnabaaDoor
