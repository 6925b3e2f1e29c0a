/- The document's own answer for words (scrimshawref1): contracts of the walk. -/
import Derived.Test.YtbchcppmbpnabaaDoorTold
import Derived.Deep.RegionHeld3
import Derived.Deep.AppendLies
import Derived.Laws.OwnMore
namespace Go.Proofs.YtbchcppmbpnabaaDoor
open Go.RowKit

theorem infoB : (Tryd.prog.info? 4).map (fun i => (i.zero, i.size, i.bytes)) = some (some (.bool false), 1, 1) := by kernel_rfl

theorem rbit_any (x : Nat) (k : Int) (w : World) (hx : x < 18446744073709551616) (h1 : 0 ≤ k) (h2 : k ≤ 63) :
    Calls Tryd.prog 31 #[.int .u64 x, .int .i64 k] w fun e w' => e = .returned (.bool (x.testBit k.toNat)) ∧ w = w' := by
  have e := Wd.bit_at x k.toNat hx
  go_enter Tryd.func31, Tryd.ntmps31
  go_wp2
  go_ret
  exact ⟨rfl, rfl⟩

theorem rrank_any (x : Nat) (k : Int) (w : World) (hx : x < 18446744073709551616) :
    Calls Tryd.prog 18 #[.int .u64 x, .int .i64 k] w fun e w' => e = .returned (.int .i64 (Wd.cnt x.testBit (min k.toNat 64))) ∧ w = w' := by
  go_enter Tryd.func18, Tryd.ntmps18
  go_wp2_with fail
  go_loop [5, 6] (fun n i => ∃ m : Nat, m ≤ min k.toNat 64 ∧ i = .int .i64 m ∧ n = .int .i64 (Wd.cnt x.testBit m)) (fun _ i => 64 - (intOf i).toNat)
  case atStart => exact ⟨0, Nat.zero_le _, rfl, rfl⟩
  case round =>
    obtain ⟨m, hm, rfl, rfl⟩ := hrel
    have hc := Wd.cnt_le x.testBit m
    by_cases hlt : m < min k.toNat 64
    · have hs := Wd.cnt_succ x.testBit m
      have h1 : (m : Int) < k := by omega
      have h2 : (m : Int) < 64 := by omega
      have HL := Lib.hid hlt
      have HM := Lib.hid hm
      clear hlt hm
      cases hb : x.testBit m with
      | true =>
        rw [hb] at hs
        have HS := Lib.hid hs
        clear hs
        go_wp2_with (go_at_call 31; refine (rbit_any _ _ _ hx (by omega) (by omega)).mono ?_; rintro e w' ⟨rfl, rfl⟩)
        all_goals
          go_round
          case rel => exact ⟨m + 1, by have := HL.out; omega, by go_num, by rw [HS.out]; go_num⟩
          case measure => simp [intOf]; omega
      | false =>
        rw [hb] at hs
        have HS := Lib.hid hs
        clear hs
        go_wp2_with (go_at_call 31; refine (rbit_any _ _ _ hx (by omega) (by omega)).mono ?_; rintro e w' ⟨rfl, rfl⟩)
        all_goals
          go_round
          case rel => exact ⟨m + 1, by have := HL.out; omega, by go_num, by rw [HS.out]; go_num⟩
          case measure => simp [intOf]; omega
    · have he : m = min k.toNat 64 := by omega
      have HE := Lib.hid he
      have h1 : ¬ (m : Int) < min k 64 := by omega
      clear hlt he hm
      by_cases hk : k ≤ 64
      · have h3 : ¬ (m : Int) < k := by omega
        clear h1
        go_wp2
        all_goals
          go_ret
          exact ⟨ret_int (by have he := HE.out; first | rw [← he] | rw [show k.toNat = m from by omega] | rw [show m = 64 from by omega]), rfl⟩
      · have h3 : ¬ (m : Int) < 64 := by omega
        have h4 : 64 < k := by omega
        clear h1 hk
        go_wp2
        all_goals
          go_ret
          exact ⟨ret_int (by have he := HE.out; first | rw [← he] | rw [show k.toNat = m from by omega] | rw [show m = 64 from by omega]), rfl⟩

theorem sel_found {x m j : Nat} (hx : x < 18446744073709551616) (hm : m < 64) (hb : x.testBit m = true) (hc : Wd.cnt x.testBit m = j) : j < Wd.pop x ∧ Wd.sel j x = m := by
  have hs := Wd.cnt_succ x.testBit m
  rw [hb, hc] at hs
  have hmono := Wd.cnt_mono x.testBit (show m + 1 ≤ 64 by omega)
  have hlt : j < Wd.pop x := by unfold Wd.pop; simp at hs; omega
  obtain ⟨a1, a2, a3⟩ := Wd.sel_spec j x hx hlt
  refine ⟨hlt, ?_⟩
  have hs2 := Wd.cnt_succ x.testBit (Wd.sel j x)
  rw [a2, a3] at hs2
  simp at hs hs2
  apply Nat.le_antisymm
  · apply Nat.le_of_not_lt
    intro h
    have := Wd.cnt_mono x.testBit (show m + 1 ≤ Wd.sel j x by omega)
    omega
  · apply Nat.le_of_not_lt
    intro h
    have := Wd.cnt_mono x.testBit (show Wd.sel j x + 1 ≤ m by omega)
    omega

theorem rselect_any (x : Nat) (j : Int) (w : World) (hx : x < 18446744073709551616) :
    Calls Tryd.prog 19 #[.int .u64 x, .int .i64 j] w fun e w' => e = .returned (.int .i64 (Wd.selI x j)) ∧ w = w' := by
  go_enter Tryd.func19, Tryd.ntmps19
  go_wp2_with fail
  go_loop [5] (fun i => ∃ m : Nat, m ≤ 64 ∧ i = .int .i64 m ∧ ∀ i, i < m → ¬ (x.testBit i = true ∧ (Wd.cnt x.testBit i : Int) = j)) (fun i => 64 - (intOf i).toNat)
  case atStart => exact ⟨0, Nat.zero_le _, rfl, fun i hi => by omega⟩
  case round =>
    obtain ⟨m, hm, rfl, hno⟩ := hrel
    have hc := Wd.cnt_le x.testBit m
    have HNO := Lib.hid hno
    clear hno
    by_cases hlt : m < 64
    · have h2 : (m : Int) < 64 := by omega
      have hmin : min m 64 = m := by omega
      have HMIN := Lib.hid hmin
      clear hmin
      cases hb : x.testBit m with
      | true =>
        by_cases hj : (Wd.cnt x.testBit m : Int) = j
        · have hf := sel_found hx hlt hb rfl
          have hsel : Wd.selI x j = m := by rw [← hj, Wd.selI_of hf.1, hf.2]
          have HS := Lib.hid hsel
          have hj2 : ((Wd.cnt x.testBit m : Int) == j) = true := by simpa using hj
          clear hf hsel hj
          go_wp2_with (first
            | (go_at_call 31; refine (rbit_any _ _ _ hx (by omega) (by omega)).mono ?_; rintro e w' ⟨rfl, rfl⟩)
            | (go_at_call 18; refine (rrank_any _ _ _ hx).mono ?_; rintro e w' ⟨rfl, rfl⟩; rw [Int.toNat_natCast, HMIN.out]))
          go_ret
          exact ⟨ret_int (by rw [HS.out]), rfl⟩
        · have hj2 : ((Wd.cnt x.testBit m : Int) == j) = false := by simpa using hj
          have HJ := Lib.hid hj
          clear hj
          go_wp2_with (first
            | (go_at_call 31; refine (rbit_any _ _ _ hx (by omega) (by omega)).mono ?_; rintro e w' ⟨rfl, rfl⟩)
            | (go_at_call 18; refine (rrank_any _ _ _ hx).mono ?_; rintro e w' ⟨rfl, rfl⟩; rw [Int.toNat_natCast, HMIN.out]))
          go_round
          case rel =>
            refine ⟨m + 1, by omega, by go_num, fun i hi h => ?_⟩
            by_cases e : i = m
            · subst e; exact HJ.out h.2
            · exact HNO.out i (by omega) h
          case measure => simp [intOf]; omega
      | false =>
        go_wp2_with (first
            | (go_at_call 31; refine (rbit_any _ _ _ hx (by omega) (by omega)).mono ?_; rintro e w' ⟨rfl, rfl⟩))
        go_round
        case rel =>
          refine ⟨m + 1, by omega, by go_num, fun i hi h => ?_⟩
          by_cases e : i = m
          · subst e; rw [hb] at h; exact absurd h.1 (by decide)
          · exact HNO.out i (by omega) h
        case measure => simp [intOf]; omega
    · have he : m = 64 := by omega
      have hsel : Wd.selI x j = -1 := by
        unfold Wd.selI
        by_cases h : 0 ≤ j ∧ j < Wd.pop x
        · exfalso
          obtain ⟨a1, a2, a3⟩ := Wd.sel_spec j.toNat x hx (by omega)
          exact HNO.out _ (by omega) ⟨a2, by omega⟩
        · rw [if_neg h]
      have HS := Lib.hid hsel
      have h2 : ¬ (m : Int) < 64 := by omega
      clear he hsel
      go_wp2
      go_ret
      exact ⟨ret_int (by rw [HS.out]), rfl⟩

theorem rcount_any (l : List Nat) (b off cap : Nat) (w : World) (hl : ∀ x ∈ l, x < 18446744073709551616) (hlen : (l.length : Int) ≤ 17592186044416)
    (hc : ∀ i, i < l.length → w.cell? ⟨b, off + i, none⟩ = some (.int .u64 (l.getD i 0))) :
    Calls Tryd.prog 16 #[.slice (some ⟨b, off, none⟩) l.length cap] w fun e w' => e = .returned (.int .i64 (pops l)) ∧ w = w' := by
  go_enter Tryd.func16, Tryd.ntmps16
  go_wp2_with fail
  go_loop [3, 4] (fun n i => ∃ k : Nat, k ≤ l.length ∧ i = .int .i64 k ∧ n = .int .i64 (pops (l.take k))) (fun _ i => l.length - (intOf i).toNat)
  case atStart => exact ⟨0, Nat.zero_le _, rfl, rfl⟩
  case round =>
    obtain ⟨k, hk, rfl, rfl⟩ := hrel
    have hp := pops_le l k
    by_cases hlt : k < l.length
    · have hcell := hc k hlt
      have hx : l.getD k 0 < 18446744073709551616 := hl _ (by rw [List.getD_eq_getElem?_getD, List.getElem?_eq_getElem hlt]; simp)
      have hs := pops_snoc l k hlt
      have hple := Wd.pop_le (l.getD k 0)
      have HS := Lib.hid hs
      clear hs hc
      generalize l.getD k 0 = x at *
      go_wp2_with (go_at_call 18; refine (rrank_any _ _ _ hx).mono ?_; rintro e w' ⟨rfl, rfl⟩; rw [show Wd.cnt x.testBit (min (Int.toNat 64) 64) = Wd.pop x from rfl])
      go_round
      case rel => exact ⟨k + 1, by omega, by go_num, by rw [HS.out]; go_num⟩
      case measure => simp [intOf]; omega
    · have hkl : k = l.length := by omega
      subst hkl
      rw [List.take_length] at *
      go_wp2
      go_ret
      exact ⟨rfl, rfl⟩
theorem rcount_nil (a : Option Addr) (cap : Nat) (w : World) :
    Calls Tryd.prog 16 #[.slice a 0 cap] w fun e w' => e = .returned (.int .i64 0) ∧ w = w' := by
  go_enter Tryd.func16, Tryd.ntmps16
  go_wp2_with fail
  go_loop [3, 4] (fun n i => n = .int .i64 0 ∧ i = .int .i64 0) (fun _ _ => 0)
  case atStart => exact ⟨rfl, rfl⟩
  case round =>
    obtain ⟨rfl, rfl⟩ := hrel
    go_wp2
    go_ret
    exact ⟨rfl, rfl⟩

end Go.Proofs.YtbchcppmbpnabaaDoor
