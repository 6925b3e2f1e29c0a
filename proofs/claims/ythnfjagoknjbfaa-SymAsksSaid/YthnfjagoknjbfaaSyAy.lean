/- Stage 6's statement as a walk: SymAsks, where the number is a symbol of a byte; and the statement's walk. -/
import Derived.Test.YthnfjagoknjbfaaSyA
namespace Go.Proofs.Ythnfjagoknjbfaa
open Go Go.RowKit Go.ChangeAt

set_option maxHeartbeats 4000000 in
theorem symasks_yes {a0 a1 : Option Addr} {c0 c1 : Nat} {x y : List UInt8} (b s level : Int) (n m : Nat) (W : World) (hb : 0 ≤ b ∧ b ≤ 255) (hs : 1 ≤ s ∧ s ≤ 256) (hx : (n : Int) ≤ 100) (hy : (m : Int) ≤ 100)
    (r0 : RdU W a0 c0 x) (r1 : RdU W a1 c1 y) (hn : x.length = n) (hm : y.length = m) :
    Calls Try.prog 4 #[.int .u8 b, .int .i64 s, .int .i64 level, .slice a0 n c0, .slice a1 m c1] W fun e w' => e = .returned (.bool true) ∧ Below W.heap.size W w' := by
  obtain ⟨C, hC⟩ : ∃ C, s - 1 = C := ⟨_, rfl⟩
  have kY : Calls Try.prog 12 #[.int .i64 s] W fun e w' => e = .returned (.tuple #[.int .u8 C, .bool true]) ∧ W = w' := hC ▸ sbyte s W hs
  have hC0 : 0 ≤ C ∧ C ≤ 255 := by omega
  have zC : IntKind.i64.wrap (s - 1) = C := by rw [hC]; exact IntWalk.i64_in _ (by omega)
  have zC2 : IntKind.i64.wrap C = C := IntWalk.i64_in _ (by omega)
  have hs1 : (1 : Int) ≤ s := hs.1
  have hs2 : s ≤ 256 := hs.2
  clear hC hs
  obtain ⟨B, hB⟩ : ∃ B, b + 1 = B := ⟨_, rfl⟩
  have kO := fun w => sof_is w hb hB
  have zB : IntKind.i64.wrap (b + 1) = B := by rw [hB]; exact IntWalk.i64_in _ (by omega)
  have zb : IntKind.i64.wrap b = b := IntWalk.i64_in _ (by omega)
  obtain ⟨t, ht⟩ : ∃ t, Sy.bit s level = t := ⟨_, rfl⟩
  obtain ⟨p, hp⟩ : ∃ p, Sy.path s level = p := ⟨_, rfl⟩
  have kT := fun w => sbit_is s level t w ht
  have kT2 := fun w => rbit_is s level t w ht
  have kP := fun w => spath_is s level p w hp
  have kP2 := fun w => rpath_is s level p w hp
  obtain ⟨z, hz⟩ : ∃ z, x ++ y = z := ⟨_, rfl⟩
  obtain ⟨N, hN⟩ : ∃ N, n + m = N := ⟨_, rfl⟩
  have hzl : z.length = N := by rw [← hz, List.length_append, hn, hm]; exact hN
  have hN2 : N ≤ 1000000000 := by omega
  have hsz : str x ++ str y = str z := by rw [str_app, hz]
  have hz1 : ((str x).size : Int) ≤ 100 := by rw [str_size, hn]; exact hx
  have hz2 : ((str y).size : Int) ≤ 100 := by rw [str_size, hm]; exact hy
  have cvx : ∀ w', Below W.heap.size W w' → (convert 27 9 (.slice a0 n c0)).run Try.prog w' = .ok (.string (str x)) w' := fun w' hb => conv_str (r0.below hb) hn
  have cvy : ∀ w', Below W.heap.size W w' → (convert 27 9 (.slice a1 m c1)).run Try.prog w' = .ok (.string (str y)) w' := fun w' hb => conv_str (r1.below hb) hm
  have kA : ∀ w', Below W.heap.size W w' → Calls Try.prog 15 #[.slice (some ⟨w'.heap.size, 0, none⟩) 2 2] (w'.alloc (.cells #[.slice a0 n c0, .slice a1 m c1] 27)) fun e w2 => ∃ a cap, e = .returned (.slice a (N + 1) cap) ∧ RdL w2 a cap (Sy.of z ++ [0]) ∧ Below w'.heap.size w' w2 :=
    fun w' hb => sall_two n m N w' (r0.below hb) (r1.below hb) hn hm hz hzl hN2
  have kS := fun w (s : ByteArray) (hs : str z = s) => rsyms_to N w hs hzl hN2
  have KA := Lib.hid kA
  have KS := Lib.hid kS
  have CX := Lib.hid cvx
  have CY := Lib.hid cvy
  have hL : (Sy.of z ++ [0]).length = N + 1 := by rw [List.length_append, Sy.of_len, hzl]; rfl
  have HL := Lib.hid hL
  obtain ⟨sx, hsx⟩ : ∃ s, str x = s := ⟨_, rfl⟩
  obtain ⟨sy, hsy⟩ : ∃ s, str y = s := ⟨_, rfl⟩
  obtain ⟨sz, hsz'⟩ : ∃ s, str z = s := ⟨_, rfl⟩
  rw [hsx] at hz1 hsz CX
  rw [hsy] at hz2 hsz CY
  rw [hsz'] at hsz
  have hcc : ¬ (sx.size + sy.size > 9223372036854775807) := by omega
  have hcc2 : ¬ (9223372036854775807 < sx.size + sy.size) := by omega
  have HSZ := Lib.hid hsz'
  have hpp : (p == p) = true := by simp
  have htt : (t == t) = true := by simp
  clear kA kS cvx cvy hL hsx hsy hsz' hz hzl r0 r1 hn hm ht hp hB
  go_enter Try.func4, Try.ntmps4
  go_wp2_with fail
  (with_reducible refine kY.mono ?_); rintro e w' ⟨rfl, rfl⟩
  clear kY
  go_wp2_with fail
  first | (go_region_held3 (fun w' => (convert 27 9 (.slice a0 n c0)).run Try.prog w' = .ok (.string sx) w' ∧ (convert 27 9 (.slice a1 m c1)).run Try.prog w' = .ok (.string sy) w')
      (first | exact ⟨CX.out _ hbA, CY.out _ hbA⟩ | exact ⟨CX.out _ (hbA.alloc hbA.size _), CY.out _ (hbA.alloc hbA.size _)⟩ | exact ⟨CX.out _ hbB, CY.out _ hbB⟩ | exact ⟨CX.out _ hbC, CY.out _ hbC⟩ | exact ⟨CX.out _ hbD, CY.out _ hbD⟩ | exact ⟨CX.out _ (Below.refl _ _), CY.out _ (Below.refl _ _)⟩ | exact ⟨CX.out _ ((Below.refl _ _).drew), CY.out _ ((Below.refl _ _).drew)⟩ | go_keep)
      (first
       | (go_at_call 10; refine (told_any _).mono ?_; rintro e w1 ⟨rfl, hb1⟩; (have hbA : Below W.heap.size W w1 := ((Below.refl _ W).drew).trans hb1); clear hb1)
       | (go_at_call 13; (with_reducible refine (kO _).mono ?_); rintro e w' ⟨rfl, rfl⟩)
       | (go_at_call 15; (with_reducible refine (KA.out _ hbA).mono ?_); rintro e w2 ⟨va, vc, rfl, hr2, hb2⟩; (have hbB := hbA.trans (hb2.mono hbA.size)); clear hb2)
       | (go_at_call 16; (with_reducible refine (KS.out _ _ HSZ.out).mono ?_); rintro e w3 ⟨ua, uc, rfl, hr3, hb3⟩; (have hbC := hbB.trans (hb3.mono hbB.size)); (have hr4 := hr2.below hb3); clear hb3)
       | (go_at_call 14; (with_reducible refine (rsame6 _ hr4 hr3 HL.out).mono ?_); rintro e w4 ⟨rfl, hb4⟩; (have hbD := hbC.trans (hb4.mono hbC.size)); clear hb4)
       | (go_at_call 11; (with_reducible refine (kT _).mono ?_); rintro e w' ⟨rfl, rfl⟩)
       | (go_at_call 17; (with_reducible refine (kT2 _).mono ?_); rintro e w' ⟨rfl, rfl⟩)
       | (go_at_call 9; (with_reducible refine (kP _).mono ?_); rintro e w' ⟨rfl, rfl⟩)
       | (go_at_call 18; (with_reducible refine (kP2 _).mono ?_); rintro e w' ⟨rfl, rfl⟩))) | fail "the region"
  all_goals
    go_wp2_with fail
    go_ret
    exact ⟨rfl, hbD⟩

theorem symasks_w (a0 : Int) (a1 : Int) (a2 : Int) (a3 : Option Addr) (len3 cap3 : Nat) (z3 : List Int) (a4 : Option Addr) (len4 cap4 : Nat) (z4 : List Int) (W : World) (w0 : (Lit.int .u8 a0).wf = true) (_ : (Lit.int .i64 a1).wf = true) (_ : (Lit.int .i64 a2).wf = true) (w3 : IsRow .u8 W a3 len3 cap3 z3) (w4 : IsRow .u8 W a4 len4 cap4 z4) :
    Calls Try.prog 4 #[.int .u8 a0, .int .i64 a1, .int .i64 a2, .slice a3 len3 cap3, .slice a4 len4 cap4] W fun e w' => e = .returned (.bool true) ∧ Below W.heap.size W w' := by
  obtain ⟨x, hx, r0⟩ := RdU.of_row w3
  obtain ⟨y, hy, r1⟩ := RdU.of_row w4
  by_cases h3 : (len3 : Int) ≤ 100
  · by_cases h4 : (len4 : Int) ≤ 100
    · have hb := bounds_u8 w0
      by_cases h : 1 ≤ a1 ∧ a1 ≤ 256
      · exact symasks_yes a0 a1 a2 len3 len4 W ⟨hb.1, hb.2⟩ h h3 h4 r0 r1 hx hy
      · exact symasks_no a0 a1 a2 len3 len4 W ⟨hb.1, hb.2⟩ h h3 h4 r0 r1 hx hy
    · clear w3 w4
      go_enter Try.func4, Try.ntmps4
      go_wp2_with fail
      refine (told_any _).mono ?_; rintro e w1 ⟨rfl, h1⟩
      go_wp2_with fail
      go_ret
      exact ⟨rfl, h1⟩
  · clear w3 w4
    go_enter Try.func4, Try.ntmps4
    go_wp2_with fail
    refine (told_any _).mono ?_; rintro e w1 ⟨rfl, h1⟩
    go_wp2_with fail
    go_ret
    exact ⟨rfl, h1⟩
end Go.Proofs.Ythnfjagoknjbfaa
