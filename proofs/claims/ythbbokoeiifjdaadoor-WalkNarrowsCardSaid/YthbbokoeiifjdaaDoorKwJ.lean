/- Layer 10's statements as walks: WalkNarrows. -/
import Derived.Test.YthbbokoeiifjdaaDoorKwH
namespace Go.Proofs.YthbbokoeiifjdaaDoor
open Go Go.RowKit Go.ChangeAt

theorem nsm_rng {t : List UInt8} {a b : Nat} (s : Int) (ha : a ≤ 100) (hb : b ≤ 100) : -100 ≤ nsm t a b s ∧ nsm t a b s ≤ 100 := by
  unfold nsm
  have h1 : Bw.low ((Lx t).take b) s ≤ b := Nat.le_trans List.countP_le_length (List.length_take_le _ _)
  have h2 : Bw.low ((Lx t).take a) s ≤ a := Nat.le_trans List.countP_le_length (List.length_take_le _ _)
  omega
theorem i64_wrapJ (x : Int) : IntKind.i64.wrap x = RowKit.wrap64 x := (IntKind.wrap_i64 x).trans (by unfold RowKit.wrap64; rfl)
set_option maxHeartbeats 3200000 in
set_option maxRecDepth 100000 in
theorem walknarrows_w (a : Option Addr) (n cap : Nat) (zs : List Int) (few : Bool) (k1 k2 : Int) (W : World) (hrow : IsRow .i64 W a n cap zs) (_ : (Lit.int .i64 k1).wf = true) (_ : (Lit.int .i64 k2).wf = true) (hL : LaidFact W) :
    Calls Tryd.prog 3 #[.slice a n cap, .bool few, .int .i64 k1, .int .i64 k2] W fun e w' => e = .returned (.bool true) ∧ Below W.heap.size W w' := by
  have key := ktext_r (a := a) (n := n) (cap := cap) 60 60 few W (RdZ.of_row hrow) (by decide) rfl
  have HL := Lib.hid hL
  clear hrow hL
  go_enter Tryd.func3, Tryd.ntmps3
  go_wp2_with fail
  (with_reducible refine key.mono ?_); rintro e w1 ⟨a1, cap1, m, t, rfl, htl, hm, hr, -, hb1⟩
  clear key
  have hm60 : m ≤ 60 := by omega
  have hs1 := hb1.size
  have key := wnew_t w1 (HL.out.tab.below hb1 HL.out.pos) (by have := HL.out.pos; omega) hr htl (by omega)
  have HB1 := Lib.hid hb1
  have HTL := Lib.hid htl
  clear hm hr hb1 htl
  go_wp2_with fail
  (with_reducible refine key.mono ?_); rintro e w2 ⟨b, rfl, hX, hb2⟩
  clear key
  obtain ⟨lo, hlo⟩ : ∃ lo, w1.heap.size = lo := ⟨_, rfl⟩
  obtain ⟨hi, hhi⟩ : ∃ hi, w2.heap.size = hi := ⟨_, rfl⟩
  rw [hlo, hhi] at hX
  have hO2 : Ow W w2 b lo hi t := ⟨hX, HB1.out.trans (hb2.mono hs1), by omega⟩
  have HO := Lib.hid hO2
  obtain ⟨M, hM⟩ : ∃ M, m + 2 = M := ⟨_, rfl⟩
  have hmM : (m : Int) + 2 = M := by omega
  have hM0 : 0 < M := by omega
  have hM62 : M ≤ 62 := by omega
  have z1 : IntKind.i64.wrap ((m : Int) + 2) = M := by rw [IntKind.wrap_i64]; omega
  have z2 : IntKind.u64.wrap (M : Int) = M := by rw [IntKind.wrap_u64]; omega
  have hMne : ((M : Int) == 0) = false := by simpa using (show ¬ M = 0 by omega)
  have hMne2 : ¬ M = 0 := by omega
  obtain ⟨p, hp, en1⟩ := mod_anyZ k1 M hM0 (by omega)
  obtain ⟨q, hq, en2⟩ := mod_anyZ k2 M hM0 (by omega)
  have e1 : IntKind.i64.wrap ((IntKind.u64.wrap k1).tmod (M : Int)) = (p : Int) := by rw [← en1]; exact i64_wrapJ _
  have e2 : IntKind.i64.wrap ((IntKind.u64.wrap k2).tmod (M : Int)) = (q : Int) := by rw [← en2]; exact i64_wrapJ _
  have HPQ := Lib.hid (And.intro hp hq)
  have HM := Lib.hid hM
  clear hX hb2 hO2 hlo hhi hs1 hM HB1 en1 en2 hp hq
  go_wp2_with fail
  go_quiet (fail)
  (try rw [e1]); (try rw [e2])
  clear e1 e2 z1 z2 hMne hMne2
  have HO := Lib.hid (HO.out.drewN nq)
  generalize w2.drewN nq = w3 at *
  have hpq := HPQ.out
  go_upto_if 45 with fail
  go_cut [11, 12] (fun l h wx => ∃ x y : Nat, l = .int .i64 x ∧ h = .int .i64 y ∧ x ≤ y ∧ y < M ∧ wx = w3)
  case first =>
    by_cases h : (q : Int) < p
    · go_wp2_with fail
      go_meet
      case rel => exact ⟨q, p, rfl, rfl, by omega, by omega, rfl⟩
    · go_wp2_with fail
      go_meet
      case rel => exact ⟨p, q, rfl, rfl, by omega, by omega, rfl⟩
  case rest =>
  obtain ⟨x, y, rfl, rfl, hxy, hyM, rfl⟩ := hcut
  clear hpq HPQ
  have HXY := Lib.hid (And.intro hxy (And.intro (show x ≤ t.length + 1 by have := HTL.out; have := HM.out; omega) (show y ≤ t.length + 1 by have := HTL.out; have := HM.out; omega)))
  clear hxy hyM hM0 hM62 hmM
  go_wp2_with fail
  go_loopw [13, 14, 15] (fun sm en s wr => ∃ (k E : Nat) (A : Int), k ≤ 257 ∧ s = .int .i64 k ∧ en = .int .i64 E ∧ sm = .int .i64 A ∧ nsm t x y k = A ∧ (k < 257 → E ≤ nrx t x k) ∧ Ow W wr b lo hi t) (fun _ _ s _ => 257 - (intOf s).toNat)
  case atStart => exact ⟨0, 0, 0, by decide, rfl, rfl, rfl, nsm_zero t x y, fun _ => Nat.zero_le _, HO.out⟩
  case round =>
    clear HO
    obtain ⟨k, E, A, hk, rfl, rfl, rfl, hA, hE, hO⟩ := hrel
    by_cases hlt : k < 257
    · have hlt' : (k : Int) < 257 := by omega
      have hE' := hE hlt
      have r1 := nsm_rng (t := t) (a := x) (b := y) k (by have := HXY.out; have := HTL.out; omega) (by have := HXY.out; have := HTL.out; omega)
      have hnx := nsm_next t x y k
      have hm1 : nrx t x k ≤ nrx t y k := Bw.nar_mono _ HXY.out.1 _
      have hle := nrx_le t y k
      have hnn : nrx t y k ≤ nrx t x (k + 1) := Bw.nar_next _ _ _ _
      rw [HTL.out] at hle
      obtain ⟨X, hX⟩ : ∃ X, nrx t x k = X := ⟨_, rfl⟩
      obtain ⟨Y, hY⟩ : ∃ Y, nrx t y k = Y := ⟨_, rfl⟩
      have key := hO.a.narrow x y k X Y (by omega) (by rw [Int.toNat_natCast, hX]) (by rw [show (max (x : Int) y).toNat = y by have := HXY.out; omega, hY])
      rw [hX] at hE' hm1 hnx
      rw [hY] at hm1 hle hnx hnn
      rw [hA] at r1 hnx
      have r11 := r1.1
      have r12 := r1.2
      have hY61 : (Y : Int) ≤ 61 := by omega
      have d1 : decide ((X : Int) < E) = false := decide_eq_false (by omega)
      have d2 : decide ((Y : Int) < X) = false := decide_eq_false (by omega)
      have d3 : decide ((m : Int) + 1 < Y) = false := decide_eq_false (by omega)
      have d4 : ¬ ((X : Int) < E) := by omega
      have d5 : ¬ ((Y : Int) < X) := by omega
      have d6 : ¬ ((m : Int) + 1 < Y) := by omega
      have HO := Lib.hid hO
      have HN := Lib.hid (And.intro hnx hnn)
      clear hO hE hE' hnx hnn hX hY r1
      go_wp2_with fail
      (with_reducible refine key.mono ?_); rintro e w5 ⟨rfl, hX5, hs5⟩
      clear key
      have HO := Lib.hid (HO.out.next hX5 hs5)
      clear hX5 hs5
      go_wp2_with fail
      go_roundw
      case rel => exact ⟨k + 1, Y, A + Y - X, by omega, by go_num, rfl, by go_num, by rw [show ((k + 1 : Nat) : Int) = (k : Int) + 1 by omega, HN.out.1]; omega, fun _ => by rw [show ((k + 1 : Nat) : Int) = (k : Int) + 1 by omega]; exact HN.out.2, HO.out⟩
      case measure => simp [intOf]; omega
    · have hlt' : ¬ (k : Int) < 257 := by omega
      obtain rfl : k = 257 := by omega
      have hA2 : A = (y : Int) - x := by rw [← hA]; exact nsm_top HXY.out.2.1 HXY.out.2.2
      subst hA2
      have key := hO.a.narrow x x 98 _ _ (by decide) rfl (by rw [show max (x : Int) x = x by omega])
      have HO := Lib.hid hO
      clear hO hA hE
      go_wp2_with fail
      (with_reducible refine key.mono ?_); rintro e w5 ⟨rfl, hX5, hs5⟩
      clear key
      have HO := Lib.hid (HO.out.next hX5 hs5)
      have key := HO.out.told
      clear hX5 hs5
      go_wp2_with fail
      (with_reducible refine key.mono ?_); rintro e w6 ⟨rfl, hb6⟩
      clear key
      have HO := Lib.hid (HO.out.below hb6)
      have hx61 : (x : Int) ≤ 100 := by have := HXY.out; have := HTL.out; omega
      have hy61 : (y : Int) ≤ 100 := by have := HXY.out; have := HTL.out; omega
      have hyx : (x : Int) ≤ y := by have := HXY.out; omega
      clear hb6
      go_wp2_with fail
      go_ret
      exact ⟨rfl, HO.out.bw⟩
end Go.Proofs.YthbbokoeiifjdaaDoor
