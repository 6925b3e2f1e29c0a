/- Stage 6's statement as a walk: SymParts. -/
import Derived.Test.YthnfjagoknjbfaaSyS
namespace Go.Proofs.Ythnfjagoknjbfaa
open Go Go.RowKit Go.ChangeAt

set_option maxHeartbeats 1600000 in
theorem symparts_r {a0 a1 : Option Addr} {c0 c1 : Nat} {x y : List UInt8} (n m : Nat) (W : World) (r0 : RdU W a0 c0 x) (r1 : RdU W a1 c1 y) (hn : x.length = n) (hm : y.length = m) :
    Calls Try.prog 7 #[.slice a0 n c0, .slice a1 m c1] W fun e w' => e = .returned (.bool true) ∧ Below W.heap.size W w' := by
  by_cases hx : (n : Int) ≤ 60
  · by_cases hy : (m : Int) ≤ 60
    · have hp := RdP.two (g := W.heap.size) rfl r0 r1 hn hm
      have key := sall _ hp (by simp; omega)
      have hfl : [x, y].flatten = x ++ y := by simp
      rw [hfl] at key
      obtain ⟨z, hz⟩ : ∃ z, x ++ y = z := ⟨_, rfl⟩
      obtain ⟨N, hN⟩ : ∃ N, n + m = N := ⟨_, rfl⟩
      have hzl : z.length = N := by rw [← hz, List.length_append, hn, hm]; exact hN
      rw [hz] at key
      have HZ := Lib.hid hz
      have HZL := Lib.hid hzl
      have R0 := Lib.hid r0
      have R1 := Lib.hid r1
      have HX := Lib.hid hn
      have HY := Lib.hid hm
      clear hp hfl hz hzl r0 r1 hn hm
      go_enter Try.func7, Try.ntmps7
      go_wp2_with fail
      (with_reducible refine key.mono ?_); rintro e w1 ⟨v, rfl, hown, hb1⟩
      clear key
      obtain ⟨g, cap, rfl, hg, hlt, hc⟩ := OwnI.cells hown (by simp)
      have hlen : (Sy.of z ++ [0]).length = N + 1 := by rw [List.length_append, Sy.of_len, HZL.out]; rfl
      rw [hlen] at hc ⊢
      have hcN : w1.cell? ⟨g, N, none⟩ = some (.int .i64 0) := by
        rw [hc N (by omega), List.getD_eq_getElem?_getD, List.getElem?_append_right (by rw [Sy.of_len, HZL.out]; omega), Sy.of_len, HZL.out]
        simp
      have hcc : ∀ i, i < N → w1.cell? ⟨g, i, none⟩ = some (.int .i64 (((z.getD i 0).toNat : Int) + 1)) := fun i hi => by
        have hi2 : i < z.length := by rw [HZL.out]; exact hi
        rw [hc i (by omega), List.getD_eq_getElem?_getD, List.getElem?_append_left (by rw [Sy.of_len]; exact hi2)]
        unfold Sy.of
        rw [List.getElem?_map, List.getD_eq_getElem?_getD, List.getElem?_eq_getElem hi2]
        rfl
      have HCC := Lib.hid hcc
      have hbW : Below W.heap.size W w1 := ((Below.refl _ _).alloc (Nat.le_refl _) _).trans (hb1.mono (by simp))
      have HBW := Lib.hid hbW
      have eN : (n : Int) + m = N := by omega
      clear hc hcc hbW hb1 hown hlen hg
      go_wp2_with fail
      go_loopw [6, 7] (fun s i wr => ∃ k : Nat, k ≤ N ∧ i = .int .i64 k ∧ s = .string (str (z.take k)) ∧ Below w1.heap.size w1 wr) (fun _ i _ => N - (intOf i).toNat)
      case atStart => exact ⟨0, Nat.zero_le _, rfl, rfl, Below.refl _ _⟩
      case round =>
        obtain ⟨k, hk, rfl, rfl, hb⟩ := hrel
        have HB := Lib.hid hb
        by_cases hkN : k < N
        · have hkN' : (k : Int) < N := by omega
          have hcell := (hb.cell (p := ⟨g, k, none⟩) hlt).trans (HCC.out k hkN)
          obtain ⟨u, hu⟩ : ∃ u, z.getD k 0 = u := ⟨_, rfl⟩
          rw [hu] at hcell
          have hnx : str (z.take k) ++ str [u] = str (z.take (k + 1)) := by
            rw [str_app, List.take_succ_eq_append_getElem (by rw [HZL.out]; exact hkN), ← hu, List.getD_eq_getElem?_getD, List.getElem?_eq_getElem (by rw [HZL.out]; exact hkN)]
            rfl
          obtain ⟨c, hcu⟩ : ∃ c : Int, (u.toNat : Int) = c := ⟨_, rfl⟩
          have hcr := u8_rng u
          rw [hcu] at hcell hcr
          have kY := sbyte (c + 1) wr (by omega)
          rw [show c + 1 - 1 = c by omega] at kY
          have hr := RdU.lit wr rfl u (0, 0)
          rw [hcu] at hr
          have hcv := conv_str hr (n := 1) rfl
          have hb2 : Below w1.heap.size w1 (wr.alloc (.cells #[.int .u8 c] 5)) := hb.alloc hb.size _
          have HB2 := Lib.hid hb2
          have HNX := Lib.hid hnx
          obtain ⟨s1, hs1⟩ : ∃ s, str (z.take k) = s := ⟨_, rfl⟩
          obtain ⟨s2, hs2⟩ : ∃ s, str [u] = s := ⟨_, rfl⟩
          have hz1 : (s1.size : Int) ≤ 1000 := by rw [← hs1, str_size, List.length_take, HZL.out]; omega
          have hz2 : (s2.size : Int) ≤ 1000 := by rw [← hs2, str_size]; simp
          rw [hs1] at hnx ⊢
          rw [hs2] at hnx hcv
          clear hb hb2 hr hu hcu hs1 hs2 HNX
          have HNX := Lib.hid hnx
          clear hnx
          go_wp2_with fail
          (with_reducible refine kY.mono ?_); rintro e w' ⟨rfl, rfl⟩
          clear kY
          go_wp2_with fail
          go_roundw
          case rel => exact ⟨k + 1, by omega, by go_num, by rw [← HNX.out], HB2.out⟩
          case measure => simp [intOf]; omega
        · have hkN' : ¬ (k : Int) < N := by omega
          obtain rfl : k = N := by omega
          rw [List.take_of_length_le (by rw [HZL.out]; exact Nat.le_refl _)]
          obtain ⟨cp, C, fr, hcv, hrz⟩ := conv_back wr z (by rw [HZL.out]; omega)
          have hcv := hcv k HZL.out.symm
          have hp1 := RdP.one (g := wr.heap.size + 1) (by simp) hrz (n := k) HZL.out
          have hp2 : RdP ((wr.alloc (.cells C 5 fr)).alloc (.cells #[.slice (some ⟨wr.heap.size, 0, none⟩) k cp] 27)).drew (.slice (some ⟨wr.heap.size + 1, 0, none⟩) 1 1) [z] := hp1
          have keyA := sall _ hp2 (by simp [HZL.out]; omega)
          have hbz : Below w1.heap.size w1 ((wr.alloc (.cells C 5 fr)).alloc (.cells #[.slice (some ⟨wr.heap.size, 0, none⟩) k cp] 27)).drew := ((hb.alloc hb.size _).alloc (by simp; have := hb.size; omega) _).drew
          have HBZ := Lib.hid hbz
          obtain ⟨s1, hs1⟩ : ∃ s, str z = s := ⟨_, rfl⟩
          rw [hs1] at hcv ⊢
          have HS1 := Lib.hid hs1
          clear hb hrz hp1 hp2 hbz hs1
          go_wp2_with fail
          (with_reducible refine keyA.mono ?_); rintro e w2 ⟨v2, rfl, hown2, hb2⟩
          obtain ⟨va, vc, rfl, _, _⟩ := own_form hown2
          have hlen2 : (Sy.of ([z].flatten) ++ [0]).length = k + 1 := by rw [List.length_append, Sy.of_len]; simp [HZL.out]
          rw [hlen2]
          have hb3 : Below W.heap.size W w2 := (HBW.out.trans (HBZ.out.mono HBW.out.size)).trans (hb2.mono (by have := HBZ.out.size; have := HBW.out.size; omega))
          have HB3 := Lib.hid hb3
          clear keyA hcv hown2 hlen2 hb2 hb3
          go_wp2_with fail
          refine (told_any _).mono ?_; rintro e w3 ⟨rfl, h3⟩
          have hb4 : Below W.heap.size W w3 := HB3.out.trans (h3.mono HB3.out.size)
          have cx := conv_str (R0.out.below hb4) HX.out
          have cy := conv_str (R1.out.below hb4) HY.out
          have hxy : str x ++ str y = s1 := by rw [str_app, HZ.out, HS1.out]
          have HXY := Lib.hid hxy
          have HB4 := Lib.hid hb4
          have hz1 : ((str x).size : Int) ≤ 60 := by rw [str_size, HX.out]; exact hx
          have hz2 : ((str y).size : Int) ≤ 60 := by rw [str_size, HY.out]; exact hy
          obtain ⟨sx, hsx⟩ : ∃ s, str x = s := ⟨_, rfl⟩
          obtain ⟨sy, hsy⟩ : ∃ s, str y = s := ⟨_, rfl⟩
          rw [hsx] at cx hz1 hxy
          rw [hsy] at cy hz2 hxy
          clear hsx hsy h3 hb4
          go_wp2_with fail
          go_ret
          exact ⟨rfl, HB4.out⟩
    · have hy' : ¬ (m : Int) ≤ 60 := hy
      go_enter Try.func7, Try.ntmps7
      go_wp2_with fail
      refine (told_any _).mono ?_; rintro e w1 ⟨rfl, h1⟩
      go_wp2_with fail
      go_ret
      exact ⟨rfl, h1⟩
  · go_enter Try.func7, Try.ntmps7
    go_wp2_with fail
    refine (told_any _).mono ?_; rintro e w1 ⟨rfl, h1⟩
    go_wp2_with fail
    go_ret
    exact ⟨rfl, h1⟩
theorem symparts_w (a0 : Option Addr) (len0 cap0 : Nat) (z0 : List Int) (a1 : Option Addr) (len1 cap1 : Nat) (z1 : List Int) (W : World) (w0 : IsRow .u8 W a0 len0 cap0 z0) (w1 : IsRow .u8 W a1 len1 cap1 z1) :
    Calls Try.prog 7 #[.slice a0 len0 cap0, .slice a1 len1 cap1] W fun e w' => e = .returned (.bool true) ∧ Below W.heap.size W w' := by
  obtain ⟨x, hx, r0⟩ := RdU.of_row w0
  obtain ⟨y, hy, r1⟩ := RdU.of_row w1
  exact symparts_r len0 len1 W r0 r1 hx hy
end Go.Proofs.Ythnfjagoknjbfaa
