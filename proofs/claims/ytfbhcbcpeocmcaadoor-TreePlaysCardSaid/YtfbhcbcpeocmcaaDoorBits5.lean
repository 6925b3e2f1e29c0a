/- Bits of layer 2's statements: contracts of the walk. -/
import Derived.Test.YtfbhcbcpeocmcaaDoorBlkE
import Derived.Test.YtfbhcbcpeocmcaaDoorLstB
import Derived.Test.YtfbhcbcpeocmcaaDoorOpen
namespace Go.Proofs.YtfbhcbcpeocmcaaDoor
open Go Go.ChangeShapes Go.WideShapes Go.ChangeAt Go.RowKit

/-- A slice of integers, as it is read: its address is known where it has elements. -/
def RdI (w : World) (a : Option Addr) (len : Nat) : Prop :=
  len ≤ maxLen ∧ (0 < len → ∃ b off, a = some ⟨b, off, none⟩ ∧ b < w.heap.size ∧ ∀ i, i < len → ∃ z : Int, w.cell? ⟨b, off + i, none⟩ = some (.int .i64 z) ∧ -9223372036854775808 ≤ z ∧ z ≤ 9223372036854775807)
theorem RdI.of_row {w : World} {a : Option Addr} {len cap : Nat} {zs : List Int} (h : IsRow .i64 w a len cap zs) : RdI w a len := by
  rcases h with ⟨rfl, rfl, rfl, rfl⟩ | ⟨x, rfl, hlc, hm, hz, hcell, hwf⟩
  · exact ⟨by decide, fun h => by omega⟩
  · refine ⟨by omega, fun hpos => ?_⟩
    obtain ⟨b, off, rfl, hc⟩ := ints_at hcell (by omega)
    refine ⟨b, off, rfl, block_lt_of_cell (hc 0 (by omega)), fun i hi => ⟨_, hc i (by omega), ?_⟩⟩
    have hmem : zs.getD i 0 ∈ zs := by rw [List.getD_eq_getElem?_getD, List.getElem?_eq_getElem (by omega)]; simp
    have := bounds_i64 (hwf _ hmem)
    exact ⟨this.1, this.2⟩
theorem RdI.below {w w' : World} {a : Option Addr} {len : Nat} (h : RdI w a len) (hb : Below w.heap.size w w') : RdI w' a len := by
  refine ⟨h.1, fun hp => ?_⟩
  obtain ⟨b, off, ha, hlt, hc⟩ := h.2 hp
  refine ⟨b, off, ha, Nat.lt_of_lt_of_le hlt hb.size, fun i hi => ?_⟩
  obtain ⟨z, hz, h1⟩ := hc i hi
  exact ⟨z, (hb.cell (p := ⟨b, off + i, none⟩) hlt).trans hz, h1⟩

theorem twelve (z : Int) : ∃ n : Nat, (IntKind.u64.wrap ((IntKind.u64.wrap z).tdiv 2)).tmod 12 = (n : Int) ∧ n < 12 := by
  rw [IntKind.wrap_u64 z]
  have h0 : 0 ≤ z % 18446744073709551616 := Int.emod_nonneg _ (by decide)
  have h1 : z % 18446744073709551616 < 18446744073709551616 := Int.emod_lt_of_pos _ (by decide)
  generalize z % 18446744073709551616 = u at *
  rw [Int.tdiv_eq_ediv_of_nonneg h0, IntKind.wrap_u64, Int.tmod_eq_emod_of_nonneg (by omega)]
  exact ⟨(u / 2 % 18446744073709551616 % 12).toNat, by omega, by omega⟩
def BitsPost (w : World) (most : Nat) (e : Ending) (w' : World) : Prop := ∃ v L, e = .returned v ∧ OwnB w.heap.size w' v L ∧ L.length ≤ most ∧ Below w.heap.size w w'
set_option maxRecDepth 100000 in
set_option maxHeartbeats 800000 in
theorem bits_any (a : Option Addr) (len cap most : Nat) (w : World) (h : RdI w a len) (hm : most ≤ 1000) :
    Calls Tryd.prog 11 #[.slice a len cap, .int .i64 most] w (BitsPost w most) := by
  obtain ⟨i0, hi, hz0, hz1, hz2⟩ := info_parts infoB
  obtain ⟨hmax, hrd⟩ := h
  unfold maxLen at hmax
  have HRD := Lib.hid hrd
  clear hrd
  go_enter Tryd.func11, Tryd.ntmps11
  go_wp2_with fail
  go_loopw [5, 6] (fun v i wr => ∃ (m : Nat) (L : List Bool), m ≤ len ∧ i = .int .i64 m ∧ OwnB w.heap.size wr v L ∧ L.length ≤ most ∧ Below w.heap.size w wr) (fun _ i _ => len - (intOf i).toNat)
  case atStart => exact ⟨0, [], Nat.zero_le _, rfl, World.ownsRow_nil _ _ _ _, Nat.zero_le _, Below.refl _ _⟩
  case round =>
    obtain ⟨m, L, hml, rfl, hown, hL, hb⟩ := hrel
    by_cases hlt : m < len
    · obtain ⟨b, off, rfl, hbb, hc⟩ := HRD.out (by omega)
      obtain ⟨z, hz, hzb⟩ := hc m hlt
      have hz' := (hb.cell (p := ⟨b, off + m, none⟩) hbb).trans hz
      have HZ := Lib.hid hz
      clear hc hz
      have h1 : (m : Int) < len := by omega
      obtain ⟨n0, HN0, hn0⟩ : ∃ n : Nat, Hid ((IntKind.u64.wrap ((IntKind.u64.wrap z).tdiv 2)).tmod 12 = (n : Int)) ∧ n < 12 := by
        obtain ⟨n, h1, h2⟩ := twelve z
        exact ⟨n, Lib.hid h1, h2⟩
      go_wp2_with fail
      obtain ⟨wo, rfl⟩ : ∃ wo : World, wo = wr := ⟨_, rfl⟩
      have HM := Lib.hid (And.intro hlt hml)
      clear hlt hml
      go_loopw [5, 7] (fun v t wr => ∃ (n : Nat) (L : List Bool), n < 12 ∧ t = .int .u64 n ∧ OwnB w.heap.size wr v L ∧ L.length ≤ most ∧ Below w.heap.size w wr) (fun _ t _ => (intOf t).toNat)
      case atStart => exact ⟨n0, L, hn0, by rw [HN0.out], hown, hL, hb⟩
      case round =>
        obtain ⟨n, L', hn, rfl, hown', hL', hb'⟩ := hrel
        clear hown hL hb hz' HN0 hn0
        obtain ⟨aa, cc, rfl, _, _⟩ := (OwnB.rd hown').open
        by_cases hn1 : n = 0
        · subst hn1
          have HOWN := Lib.hid hown'
          go_wp2_with fail
          go_roundw
          case rel => exact ⟨m + 1, L', by have := HM.out; omega, by go_num, HOWN.out, hL', hb'⟩
          case measure => have := HM.out; simp [intOf]; omega
        · by_cases hLm : L'.length < most
          · have hzc := (hb'.cell (p := ⟨b, off + m, none⟩) hbb).trans HZ.out
            have hlm' : (L'.length : Int) < most := by omega
            have hnpos : (0 : Int) < n := by omega
            have hsz := hb'.size
            obtain ⟨d, HD⟩ : ∃ d : Bool, Hid ((bits BinOp.and IntKind.i64 z 1 == 1) = d) := ⟨_, Lib.hid rfl⟩
            have HOWN := Lib.hid hown'
            clear hown'
            go_wp2_with (first
              | (at_builtin; (refine wpList_append_own _ rfl (.tmp 31) (.tmp 38) 24 rfl w.heap.size 4 i0 (.bool false) 1 1 Tryd.underlying24 hi hz0 hz1 hz2 rfl (by decide) _ _ _ rfl (World.ownsRow.alloc HOWN.out _) ⟨wr.heap.size, 0, none⟩ 1 1 [.bool (bits BinOp.and IntKind.i64 z 1 == 1)] rfl rfl (cell_one_new _ _ _) (fun u hu => by simp at hu; subst hu; rfl) (by unfold maxLen; omega) (by omega) (by simp; omega) ?_); intro v' w3 hown3 hgrow3 hnil3))
            have hb3 : Below w.heap.size w w3 := (hb'.alloc hsz _).grown hgrow3 (by simp; omega) (fun q hq => (HOWN.out.lt q hq).1)
            have hr : OwnB w.heap.size w3 v' (L' ++ [_]) := OwnB.push hown3
            have HL := Lib.hid (show (L' ++ [(bits BinOp.and IntKind.i64 z 1 == 1)]).length ≤ most by simp; omega)
            clear hown3 hgrow3 hnil3
            go_wp2_with fail
            go_roundw
            case rel => exact ⟨n - 1, _, by omega, by go_num, hr, HL.out, hb3⟩
            case measure => simp [intOf]; omega
          · have hlm' : ¬ (L'.length : Int) < most := by omega
            have hnpos : (0 : Int) < n := by omega
            have HOWN := Lib.hid hown'
            go_wp2_with fail
            go_roundw
            case rel => exact ⟨m + 1, L', by have := HM.out; omega, by go_num, HOWN.out, hL', hb'⟩
            case measure => have := HM.out; simp [intOf]; omega
    · have h1 : ¬ (m : Int) < len := by omega
      go_wp2_with fail
      go_ret
      exact ⟨_, L, rfl, hown, hL, hb⟩
end Go.Proofs.YtfbhcbcpeocmcaaDoor
