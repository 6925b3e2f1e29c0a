/- The document's own lists of symbols (scrimshawref6): Syms: a contract of the walk. -/
import Derived.Test.YthbbokoeiifjdaaGreatDoorSyg
import Derived.Test.YthbbokoeiifjdaaGreatDoorSm6
import Derived.BigQuiet
namespace Go.Proofs.YthbbokoeiifjdaaGreatDoor
open Go Go.RowKit Go.ChangeAt

set_option maxHeartbeats 800000 in
theorem rsyms {z : List UInt8} {s : ByteArray} (N : Nat) (w : World) (hs : str z = s) (hN : z.length = N) (hm : N ≤ 1000000000) :
    Calls Tryz.prog 39 #[.string s] w fun e w' => ∃ v, e = .returned v ∧ OwnI w.heap.size w' v (Sy.of z ++ [0]) ∧ Below w.heap.size w w' := by
  obtain ⟨i0, hi, hz0, hz1, hz2⟩ := info_parts infoI
  have hsz : s.size = N := by rw [← hs, str_size, hN]
  have HS := Lib.hid hs
  have HN := Lib.hid hN
  clear hs hN
  go_enter Tryz.func39, Tryz.ntmps39
  go_wp2_with fail
  go_loopw [3, 4] (fun v i wr => ∃ k : Nat, k ≤ N ∧ i = .int .i64 k ∧ OwnI w.heap.size wr v (Sy.of (z.take k)) ∧ Below w.heap.size w wr) (fun _ i _ => N - (intOf i).toNat)
  case atStart => exact ⟨0, Nat.zero_le _, rfl, World.ownsRow_nil _ _ _ _, Below.refl _ _⟩
  case round =>
    obtain ⟨k, hk1, rfl, hown, hb⟩ := hrel
    by_cases hlt : k < N
    · have h2 : (k : Int) < N := by omega
      have hbs := hb.size
      have hr := u8_rng (z.getD k 0)
      have hlz : k < z.length := by rw [HN.out]; exact hlt
      have htk := Sy.take_of z hlz
      have hks : k < s.size := by omega
      have hidx : ((s[k]'hks).toNat : Int) = ((z.getD k 0).toNat : Int) := by
        have hs := HS.out
        subst hs
        show (((str z).data[k]).toNat : Int) = _
        simp [str, List.getD_eq_getElem?_getD, List.getElem?_eq_getElem hlz]
      obtain ⟨M, hM⟩ : ∃ M, Sy.of (z.take k) = M := ⟨_, rfl⟩
      have hMl : M.length = k := by rw [← hM, Sy.of_len, List.length_take]; omega
      rw [hM] at hown htk
      obtain ⟨y, hy⟩ : ∃ y : Int, ((z.getD k 0).toNat : Int) = y := ⟨_, rfl⟩
      rw [hy] at hr htk hidx
      have hown' := hown
      unfold OwnI at hown'
      rw [hMl] at hown'
      have HTK := Lib.hid htk
      have HML := Lib.hid hMl
      have HY := Lib.hid hy
      clear htk hM hMl
      go_wp2_with (first
        | (at_builtin; (refine wpList_append_own _ rfl (.tmp 11) (.tmp 17) 22 rfl w.heap.size 3 i0 (.int .i64 0) 1 8 Tryz.underlying22 hi hz0 hz1 hz2 rfl (by decide) _ _ _ rfl (World.ownsRow.alloc hown' _) ⟨wr.heap.size, 0, none⟩ 1 1 [.int .i64 (y + 1)] rfl rfl (cell_one_new _ _ _) (fun u hu => by simp at hu; subst hu; rfl) (by unfold maxLen; omega) (by omega) (by simp; omega) ?_); intro v3 w3 hown3 hgrow3 hnil3))
      have hb3 : Below w.heap.size w w3 := (hb.alloc hbs _).grown hgrow3 (by simp; omega) (fun q hq => (hown.lt q hq).1)
      go_wp2_with fail
      go_roundw
      case rel => exact ⟨k + 1, by omega, by go_num, by rw [HTK.out]; exact OwnI.push HML.out hown3, hb3⟩
      case measure => simp [intOf]; omega
    · have h2 : ¬ (k : Int) < N := by omega
      rw [List.take_of_length_le (by rw [HN.out]; omega)] at hown
      have hL : (Sy.of z).length = N := by rw [Sy.of_len, HN.out]
      have hown' := hown
      unfold OwnI at hown'
      rw [hL] at hown'
      have hbs := hb.size
      have HL := Lib.hid hL
      clear hL
      go_wp2_with (first
        | (at_builtin; (refine wpList_append_own _ rfl (.tmp 19) (.tmp 20) 22 rfl w.heap.size 3 i0 (.int .i64 0) 1 8 Tryz.underlying22 hi hz0 hz1 hz2 rfl (by decide) _ _ _ rfl (World.ownsRow.alloc hown' _) ⟨wr.heap.size, 0, none⟩ 1 1 [.int .i64 0] rfl rfl (cell_one_new _ _ _) (fun u hu => by simp at hu; subst hu; rfl) (by unfold maxLen; omega) (by omega) (by simp; omega) ?_); intro v3 w3 hown3 hgrow3 hnil3))
      have hb3 : Below w.heap.size w w3 := (hb.alloc hbs _).grown hgrow3 (by simp; omega) (fun q hq => (hown.lt q hq).1)
      go_wp2_with fail
      go_ret
      exact ⟨_, rfl, OwnI.push HL.out hown3, hb3⟩
end Go.Proofs.YthbbokoeiifjdaaGreatDoor
