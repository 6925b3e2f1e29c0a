/- What each function of package bits (and what it calls of math/bits) does: contracts of the walk. -/
import Derived.Test.YthbbokoeiifjdaaGreatDoorBas
import Derived.Test.YthbbokoeiifjdaaGreatDoorChecked
import Derived.WalkKit
import Derived.Deep.QuietTactic
import Derived.BigQuiet
import Derived.Lib.Hide
namespace Go.Proofs.YthbbokoeiifjdaaGreatDoor
open Go.RowKit


theorem ret_two {k : IntKind} {a b : Int} {c d : Bool} (h : a = b) (h2 : c = d) : Ending.returned (.tuple #[.int k a, .bool c]) = .returned (.tuple #[.int k b, .bool d]) := by rw [h, h2]

theorem ones_any (x : Nat) (w : World) (hx : x < 18446744073709551616) :
    Calls Tryz.prog 98 #[.int .u64 x] w fun e w' => e = .returned (.int .i64 (Wd.pop x)) ∧ w = w' := by
  obtain ⟨x4, x5, x6, h6, hp, e4, e5, e6⟩ := Wd.w456 x
  have e1 := Wd.w1 x hx
  have e2 := Wd.w2 _ (Wd.comb64 Wd.g1 Wd.g1_lt x)
  have e3 := Wd.w3 x
  have he : 0 ≤ (x6 : Int) := by omega
  go_enter Tryz.func98, Tryz.ntmps98
  go_wp2
  go_ret
  exact ⟨ret_int (by rw [Wd.and127 x6 h6, hp]), rfl⟩

theorem wrap_pow (k : Nat) (hk : k ≤ 64) : IntKind.u64.wrap (IntKind.u64.wrap (2 ^ k) - 1) = ((Wd.low k : Nat) : Int) := by
  have h1 : (2 : Int) ^ k = ((2 ^ k : Nat) : Int) := by simp
  have h2 : 2 ^ k ≤ 2 ^ 64 := Nat.pow_le_pow_right (by decide) hk
  have h3 : 0 < 2 ^ k := Nat.pow_pos (by decide)
  have h4 : Wd.low k = 2 ^ k - 1 := by unfold Wd.low; rw [show min k 64 = k from by omega]
  rw [h1, h4, IntKind.wrap_u64, IntKind.wrap_u64]
  generalize 2 ^ k = p at *
  omega
theorem lowest_any (k : Int) (w : World) :
    Calls Tryz.prog 104 #[.int .i64 k] w fun e w' => e = .returned (.int .u64 (Wd.low k.toNat)) ∧ w = w' := by
  by_cases h0 : k < 0
  · have hk : k.toNat = 0 := by omega
    rw [hk]
    have e := wrap_pow 0 (by omega)
    simp only [Int.pow_zero] at e
    go_enter Tryz.func104, Tryz.ntmps104
    go_wp2
    go_ret
    exact ⟨ret_int e, rfl⟩
  · by_cases h1 : k ≤ 64
    · have e := wrap_pow k.toNat (by omega)
      go_enter Tryz.func104, Tryz.ntmps104
      go_wp2
      go_ret
      exact ⟨rfl, rfl⟩
    · have e : IntKind.u64.wrap (IntKind.u64.wrap 18446744073709551616 - 1) = ((Wd.low k.toNat : Nat) : Int) := by
        have h4 : Wd.low k.toNat = 18446744073709551615 := by unfold Wd.low; rw [show min k.toNat 64 = 64 from by omega]
        rw [h4]; decide
      go_enter Tryz.func104, Tryz.ntmps104
      go_wp2
      go_ret
      exact ⟨rfl, rfl⟩

theorem rank_any (x : Nat) (k : Int) (w : World) (hx : x < 18446744073709551616) :
    Calls Tryz.prog 97 #[.int .u64 x, .int .i64 k] w fun e w' => e = .returned (.int .i64 (Wd.cnt x.testBit (min k.toNat 64))) ∧ w = w' := by
  rw [← Wd.pop_low]
  have e := Wd.and64 x hx (Wd.low k.toNat) (Wd.low_lt _)
  go_enter Tryz.func97, Tryz.ntmps97
  go_wp2_with (first
    | (go_at_call 104; refine (lowest_any _ _).mono ?_; rintro e w' ⟨rfl, rfl⟩)
    | (go_at_call 98; refine (ones_any _ _ (Wd.and_lt _ (Wd.low_lt _))).mono ?_; rintro e w' ⟨rfl, rfl⟩))
  go_ret
  exact ⟨rfl, rfl⟩
/-- The library's table, in its variable. -/
def TabAt (w : World) : Prop := ∀ j, j < 64 → w.cell? ⟨0, j, none⟩ = some (.int .u8 (Lib.deBruijn64tab.getD j 0 : Nat))
theorem tz_core (x k idx : Nat) (w : World) (hx0 : ((x : Int) == 0) = false)
    (key : IntKind.u64.wrap (bits BinOp.and IntKind.u64 (x : Int) (IntKind.u64.wrap (-(x : Int))) * 285870213051353865) / 288230376151711744 = (idx : Int))
    (hi : idx < 64) (hcell : w.cell? ⟨0, idx, none⟩ = some (.int .u8 k)) (hk : k < 64) :
    Calls Tryz.prog 99 #[.int .u64 x] w fun e w' => e = .returned (.int .i64 k) ∧ w = w' := by
  go_enter Tryz.func99, Tryz.ntmps99
  go_wp2
  go_ret
  exact ⟨rfl, rfl⟩
theorem tz_any (x : Nat) (w : World) (hx : x < 18446744073709551616) (h0 : x ≠ 0) (hT : TabAt w) :
    Calls Tryz.prog 99 #[.int .u64 x] w fun e w' => e = .returned (.int .i64 (Lib.ctz 64 x)) ∧ w = w' := by
  obtain ⟨_, hk⟩ := Lib.lowest_bit 64 x h0 hx
  obtain ⟨hi, htab⟩ := Lib.deBruijn64_at _ hk
  have hcell := hT _ hi
  rw [htab] at hcell
  exact tz_core x _ _ w (by simp; omega) (Wd.tz_key x hx h0) hi hcell hk

theorem select_no (x : Nat) (j : Int) (w : World) (hx : x < 18446744073709551616) (h : j < 0 ∨ (Wd.pop x : Int) ≤ j) :
    Calls Tryz.prog 94 #[.int .u64 x, .int .i64 j] w fun e w' => e = .returned (.int .i64 (-1)) ∧ w = w' := by
  by_cases h0 : j < 0
  · go_enter Tryz.func94, Tryz.ntmps94
    go_wp2_with (go_at_call 98; refine (ones_any _ _ hx).mono ?_; rintro e w' ⟨rfl, rfl⟩)
    go_ret
    exact ⟨rfl, rfl⟩
  · have h1 : (Wd.pop x : Int) ≤ j := by omega
    have h0' : 0 ≤ j := by omega
    go_enter Tryz.func94, Tryz.ntmps94
    go_wp2_with (go_at_call 98; refine (ones_any _ _ hx).mono ?_; rintro e w' ⟨rfl, rfl⟩)
    go_ret
    exact ⟨rfl, rfl⟩
theorem select_yes (x : Nat) (j : Int) (w : World) (hx : x < 18446744073709551616) (h0 : 0 ≤ j) (h1 : j < (Wd.pop x : Int)) (hT : TabAt w) :
    Calls Tryz.prog 94 #[.int .u64 x, .int .i64 j] w fun e w' => e = .returned (.int .i64 (Wd.sel j.toNat x)) ∧ w = w' := by
  have hp := Wd.pop_le x
  go_enter Tryz.func94, Tryz.ntmps94
  go_wp2_with (go_at_call 98; refine (ones_any _ _ hx).mono ?_; rintro e w' ⟨rfl, rfl⟩)
  go_loop [0, 14] (fun y i => ∃ (k y' : Nat), (k : Int) ≤ j ∧ i = .int .i64 k ∧ y = .int .u64 y' ∧ y' < 18446744073709551616 ∧ j.toNat - k < Wd.pop y' ∧ Wd.sel (j.toNat - k) y' = Wd.sel j.toNat x) (fun _ i => (j - intOf i).toNat)
  case atStart => exact ⟨0, x, by omega, rfl, rfl, hx, by omega, rfl⟩
  case round =>
    obtain ⟨k, y, hk, rfl, rfl, hy, hlt, hsel⟩ := hrel
    by_cases hkj : (k : Int) < j
    · have ek := Wd.clr_key y hy
      go_wp2
      go_round
      case rel =>
        have hpc := Wd.pop_clr hy (by omega)
        refine ⟨k + 1, Wd.clr y, by omega, by go_num, rfl, Wd.clr_lt hy, by omega, ?_⟩
        rw [← hsel, show j.toNat - k = (j.toNat - (k + 1)) + 1 from by omega]
        rfl
      case measure => simp [intOf]; omega
    · have hkj' : (k : Int) = j := by omega
      have hz : j.toNat - k = 0 := by omega
      rw [hz] at hlt hsel
      have HS := Lib.hid hsel
      have y0 := Wd.pop_pos hlt
      clear hsel hz hkj' hlt
      go_wp2_with (go_at_call 99; refine (tz_any _ _ hy y0 hT).mono ?_; rintro e w' ⟨rfl, rfl⟩)
      go_ret
      exact ⟨ret_int (by rw [← HS.out]; rfl), rfl⟩
theorem select_any (x : Nat) (j : Int) (w : World) (hx : x < 18446744073709551616) (hT : TabAt w) :
    Calls Tryz.prog 94 #[.int .u64 x, .int .i64 j] w fun e w' => e = .returned (.int .i64 (Wd.selI x j)) ∧ w = w' := by
  unfold Wd.selI
  by_cases h : 0 ≤ j ∧ j < Wd.pop x
  · rw [if_pos h]; exact select_yes x j w hx h.1 h.2 hT
  · rw [if_neg h]; exact select_no x j w hx (by omega)

/-- The sum of the counts. -/
def pops (l : List Nat) : Nat := (l.map Wd.pop).sum
theorem pops_snoc (l : List Nat) (k : Nat) (h : k < l.length) : pops (l.take (k + 1)) = pops (l.take k) + Wd.pop (l.getD k 0) := by
  unfold pops
  rw [List.take_succ_eq_append_getElem h, List.map_append, List.sum_append]
  simp [h]
theorem pops_le (l : List Nat) : ∀ k, pops (l.take k) ≤ 64 * k
  | 0 => by simp [pops]
  | k + 1 => by
    have ih := pops_le l k
    by_cases h : k < l.length
    · rw [pops_snoc l k h]
      have := Wd.pop_le (l.getD k 0)
      omega
    · rw [List.take_of_length_le (by omega)]
      rw [List.take_of_length_le (by omega)] at ih
      omega
theorem count_nil (a : Option Addr) (cap : Nat) (w : World) :
    Calls Tryz.prog 92 #[.slice a 0 cap] w fun e w' => e = .returned (.int .i64 0) ∧ w = w' := by
  go_enter Tryz.func92, Tryz.ntmps92
  go_wp2
  go_loop [3, 8] (fun n i => n = .int .i64 0 ∧ i = .int .i64 0) (fun _ _ => 0)
  case atStart => exact ⟨rfl, rfl⟩
  case round =>
    obtain ⟨rfl, rfl⟩ := hrel
    go_wp2
    go_ret
    exact ⟨rfl, rfl⟩
theorem count_any (l : List Nat) (b off cap : Nat) (w : World) (hl : ∀ x ∈ l, x < 18446744073709551616) (hlen : (l.length : Int) ≤ 17592186044416)
    (hc : ∀ i, i < l.length → w.cell? ⟨b, off + i, none⟩ = some (.int .u64 (l.getD i 0))) :
    Calls Tryz.prog 92 #[.slice (some ⟨b, off, none⟩) l.length cap] w fun e w' => e = .returned (.int .i64 (pops l)) ∧ w = w' := by
  go_enter Tryz.func92, Tryz.ntmps92
  go_wp2
  go_loop [3, 8] (fun n i => ∃ k : Nat, k ≤ l.length ∧ i = .int .i64 k ∧ n = .int .i64 (pops (l.take k))) (fun _ i => l.length - (intOf i).toNat)
  case atStart => exact ⟨0, Nat.zero_le _, rfl, rfl⟩
  case round =>
    obtain ⟨k, hk, rfl, rfl⟩ := hrel
    have hp := pops_le l k
    by_cases hlt : k < l.length
    · have hcell := hc k hlt
      have hx : l.getD k 0 < 18446744073709551616 := hl _ (by rw [List.getD_eq_getElem?_getD, List.getElem?_eq_getElem hlt]; simp)
      have hs := pops_snoc l k hlt
      have hple := Wd.pop_le (l.getD k 0)
      have HS := Lib.hid hs
      clear hs hc
      generalize l.getD k 0 = x at *
      go_wp2_with (go_at_call 98; refine (ones_any _ _ hx).mono ?_; rintro e w' ⟨rfl, rfl⟩)
      go_round
      case rel => exact ⟨k + 1, by omega, by go_num, by rw [HS.out]; go_num⟩
      case measure => simp [intOf]; omega
    · have hkl : k = l.length := by omega
      subst hkl
      rw [List.take_length] at *
      go_wp2
      go_ret
      exact ⟨rfl, rfl⟩
end Go.Proofs.YthbbokoeiifjdaaGreatDoor
