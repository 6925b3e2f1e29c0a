/- The statements' Bits, with a larger bound. -/
import Derived.Test.YtfbhcbcpeocmcaaDoorBits5

namespace Go.Proofs.YtfbhcbcpeocmcaaDoor
open Go Go.ChangeShapes Go.WideShapes Go.ChangeAt Go.RowKit
set_option maxRecDepth 100000 in
set_option maxHeartbeats 800000 in
theorem bits_more (a : Option Addr) (len cap most : Nat) (w : World) (h : RdI w a len) (hm : most ≤ 100000) :
    Calls Tryd.prog 11 #[.slice a len cap, .int .i64 most] w (BitsPost w most) := by
  obtain ⟨i0, hi, hz0, hz1, hz2⟩ := info_parts infoB
  obtain ⟨hmax, hrd⟩ := h
  unfold maxLen at hmax
  have HRD := Lib.hid hrd
  clear hrd
  go_enter Tryd.func11, Tryd.ntmps11
  go_wp2_with fail
  go_loopw [5, 6] (fun v i wr => ∃ (m : Nat) (L : List Bool), m ≤ len ∧ i = .int .i64 m ∧ OwnB w.heap.size wr v L ∧ L.length ≤ most ∧ Below w.heap.size w wr) (fun _ i _ => len - (intOf i).toNat)
  case atStart => exact ⟨0, [], Nat.zero_le _, rfl, World.ownsRow_nil _ _ _ _, Nat.zero_le _, Below.refl _ _⟩
  case round =>
    obtain ⟨m, L, hml, rfl, hown, hL, hb⟩ := hrel
    by_cases hlt : m < len
    · obtain ⟨b, off, rfl, hbb, hc⟩ := HRD.out (by omega)
      obtain ⟨z, hz, hzb⟩ := hc m hlt
      have hz' := (hb.cell (p := ⟨b, off + m, none⟩) hbb).trans hz
      have HZ := Lib.hid hz
      clear hc hz
      have h1 : (m : Int) < len := by omega
      obtain ⟨n0, HN0, hn0⟩ : ∃ n : Nat, Hid ((IntKind.u64.wrap ((IntKind.u64.wrap z).tdiv 2)).tmod 12 = (n : Int)) ∧ n < 12 := by
        obtain ⟨n, h1, h2⟩ := twelve z
        exact ⟨n, Lib.hid h1, h2⟩
      go_wp2_with fail
      obtain ⟨wo, rfl⟩ : ∃ wo : World, wo = wr := ⟨_, rfl⟩
      have HM := Lib.hid (And.intro hlt hml)
      clear hlt hml
      go_loopw [5, 7] (fun v t wr => ∃ (n : Nat) (L : List Bool), n < 12 ∧ t = .int .u64 n ∧ OwnB w.heap.size wr v L ∧ L.length ≤ most ∧ Below w.heap.size w wr) (fun _ t _ => (intOf t).toNat)
      case atStart => exact ⟨n0, L, hn0, by rw [HN0.out], hown, hL, hb⟩
      case round =>
        obtain ⟨n, L', hn, rfl, hown', hL', hb'⟩ := hrel
        clear hown hL hb hz' HN0 hn0
        obtain ⟨aa, cc, rfl, _, _⟩ := (OwnB.rd hown').open
        by_cases hn1 : n = 0
        · subst hn1
          have HOWN := Lib.hid hown'
          go_wp2_with fail
          go_roundw
          case rel => exact ⟨m + 1, L', by have := HM.out; omega, by go_num, HOWN.out, hL', hb'⟩
          case measure => have := HM.out; simp [intOf]; omega
        · by_cases hLm : L'.length < most
          · have hzc := (hb'.cell (p := ⟨b, off + m, none⟩) hbb).trans HZ.out
            have hlm' : (L'.length : Int) < most := by omega
            have hnpos : (0 : Int) < n := by omega
            have hsz := hb'.size
            obtain ⟨d, HD⟩ : ∃ d : Bool, Hid ((bits BinOp.and IntKind.i64 z 1 == 1) = d) := ⟨_, Lib.hid rfl⟩
            have HOWN := Lib.hid hown'
            clear hown'
            go_wp2_with (first
              | (at_builtin; (refine wpList_append_own _ rfl (.tmp 31) (.tmp 38) 24 rfl w.heap.size 4 i0 (.bool false) 1 1 Tryd.underlying24 hi hz0 hz1 hz2 rfl (by decide) _ _ _ rfl (World.ownsRow.alloc HOWN.out _) ⟨wr.heap.size, 0, none⟩ 1 1 [.bool (bits BinOp.and IntKind.i64 z 1 == 1)] rfl rfl (cell_one_new _ _ _) (fun u hu => by simp at hu; subst hu; rfl) (by unfold maxLen; omega) (by omega) (by simp; omega) ?_); intro v' w3 hown3 hgrow3 hnil3))
            have hb3 : Below w.heap.size w w3 := (hb'.alloc hsz _).grown hgrow3 (by simp; omega) (fun q hq => (HOWN.out.lt q hq).1)
            have hr : OwnB w.heap.size w3 v' (L' ++ [_]) := OwnB.push hown3
            have HL := Lib.hid (show (L' ++ [(bits BinOp.and IntKind.i64 z 1 == 1)]).length ≤ most by simp; omega)
            clear hown3 hgrow3 hnil3
            go_wp2_with fail
            go_roundw
            case rel => exact ⟨n - 1, _, by omega, by go_num, hr, HL.out, hb3⟩
            case measure => simp [intOf]; omega
          · have hlm' : ¬ (L'.length : Int) < most := by omega
            have hnpos : (0 : Int) < n := by omega
            have HOWN := Lib.hid hown'
            go_wp2_with fail
            go_roundw
            case rel => exact ⟨m + 1, L', by have := HM.out; omega, by go_num, HOWN.out, hL', hb'⟩
            case measure => have := HM.out; simp [intOf]; omega
    · have h1 : ¬ (m : Int) < len := by omega
      go_wp2_with fail
      go_ret
      exact ⟨_, L, rfl, hown, hL, hb⟩
end Go.Proofs.YtfbhcbcpeocmcaaDoor
