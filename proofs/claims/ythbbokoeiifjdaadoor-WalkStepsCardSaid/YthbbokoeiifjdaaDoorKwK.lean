/- Layer 10's statements as walks: WalkSteps. -/
import Derived.Test.YthbbokoeiifjdaaDoorKwH
import Derived.Test.YthbbokoeiifjdaaDoorSoi
import Derived.IntWalk
import Derived.Deep.DeepCutAuto
namespace Go.Proofs.YthbbokoeiifjdaaDoor
open Go Go.RowKit Go.ChangeAt

set_option maxHeartbeats 6400000 in
set_option maxRecDepth 100000 in
theorem walksteps_w (a : Option Addr) (n cap : Nat) (zs : List Int) (few : Bool) (W : World) (hrow : IsRow .i64 W a n cap zs) (hL : LaidFact W) :
    Calls Tryd.prog 7 #[.slice a n cap, .bool few] W fun e w' => e = .returned (.bool true) ∧ Below W.heap.size W w' := by
  have key := ktext_r (a := a) (n := n) (cap := cap) 80 80 few W (RdZ.of_row hrow) (by decide) rfl
  have HL := Lib.hid hL
  clear hrow hL
  go_enter Tryd.func7, Tryd.ntmps7
  go_wp2_with fail
  (with_reducible refine key.mono ?_); rintro e w1 ⟨a1, cap1, m, t, rfl, htl, hm, hr, -, hb1⟩
  clear key
  have hm80 : m ≤ 80 := by omega
  have hs1 := hb1.size
  have key := wnew_t w1 (HL.out.tab.below hb1 HL.out.pos) (by have := HL.out.pos; omega) hr htl (by omega)
  have hts := hr.old
  have HR := Lib.hid hr
  have HB1 := Lib.hid hb1
  have HTL := Lib.hid htl
  clear hm hr hb1 htl
  go_wp2_with fail
  (with_reducible refine key.mono ?_); rintro e w2 ⟨b, rfl, hX, hb2⟩
  clear key
  obtain ⟨lo, hlo⟩ : ∃ lo, w1.heap.size = lo := ⟨_, rfl⟩
  obtain ⟨hi, hhi⟩ : ∃ hi, w2.heap.size = hi := ⟨_, rfl⟩
  rw [hlo, hhi] at hX
  rw [hlo] at hts
  have hO2 : Ow W w2 b lo hi t := ⟨hX, HB1.out.trans (hb2.mono hs1), by omega⟩
  have HO := Lib.hid hO2
  have HR := Lib.hid (HR.out.below hb2)
  have HTS := Lib.hid hts
  obtain ⟨N, hN⟩ : ∃ N, m + 1 = N := ⟨_, rfl⟩
  have htN : t.length + 1 = N := by rw [HTL.out, hN]
  have key := hX.all N htN
  have HTN := Lib.hid htN
  have hN9 : N ≤ 81 := by omega
  have HNM := Lib.hid hN
  have HHI := Lib.hid hhi
  clear hX hb2 hO2 hlo hhi hs1 htN hN HB1 hts
  go_wp2_with fail
  (with_reducible refine key.mono ?_); rintro e w4 ⟨B, cB, rfl, hB, -, hLx, hb4⟩
  clear key
  have hB' : hi ≤ B := by rw [← HHI.out]; exact hB
  have HO := Lib.hid (HO.out.below hb4)
  have HR := Lib.hid (HR.out.below hb4)
  have HLX := Lib.hid hLx
  have HBB := Lib.hid hB'
  clear hLx hb4 hB hB'
  go_wp2_with fail
  go_loopw [7, 9] (fun row i wr => ∃ (k : Nat) (j : Int), k ≤ m ∧ j + 1 + k = m ∧ i = .int .i64 j ∧ row = .int .i64 (stx t k) ∧ Ow W wr b lo hi t ∧ RdL wr (some ⟨B, 0, none⟩) cB (Lx t) ∧ RdU wr a1 cap1 t) (fun _ i _ => ((intOf i) + 1).toNat)
  case atStart => exact ⟨0, m - 1, Nat.zero_le _, by omega, rfl, rfl, HO.out, HLX.out, HR.out⟩
  case round =>
    clear HO HLX HR
    obtain ⟨k, j, hk, hj, rfl, rfl, hO, hLx, hr⟩ := hrel
    have hpl := stx_lt (t := t) k
    by_cases hlt : k < m
    · obtain ⟨i0, rfl⟩ : ∃ i0 : Nat, j = i0 := ⟨j.toNat, by omega⟩
      have hrd := stx_read (t := t) (k := k) (i := i0) (by rw [HTL.out]; omega)
      have hrs := stx_succ t k
      obtain ⟨p, hp⟩ : ∃ p, stx t k = p := ⟨_, rfl⟩
      rw [hp] at hpl hrd hrs
      rw [hp]
      obtain ⟨bb, off, e1, _, c0⟩ := hLx.cell (k := p) (by rw [Lx_len]; exact hpl)
      simp only [Option.some.injEq, Addr.mk.injEq, and_true] at e1
      obtain ⟨rfl, rfl⟩ := e1
      rw [Nat.zero_add, hrd] at c0
      obtain ⟨tb, toff, rfl, htb, htc⟩ := hr.2.2 (by rw [HTL.out]; omega)
      have c1 := htc i0 (by rw [HTL.out]; omega)
      have hbr := u8_rng (t.getD i0 0)
      obtain ⟨y, hy⟩ : ∃ y : Int, ((t.getD i0 0).toNat : Int) = y := ⟨_, rfl⟩
      rw [hy] at c0 c1 hbr
      have hpN : (p : Int) < N := by have := HTN.out; omega
      have d1 : decide ((p : Int) < 0) = false := decide_eq_false (by omega)
      have d2 : decide ((N : Int) ≤ p) = false := decide_eq_false (by omega)
      have d3 : decide (N ≤ p) = false := decide_eq_false (by omega)
      have d4 : ¬ N ≤ p := by omega
      have z1 : IntKind.i64.wrap y = y := IntWalk.i64_in _ (by omega)
      have z2 : IntKind.i64.wrap (y + 1) = y + 1 := IntWalk.i64_in _ (by omega)
      have hne : ((y + 1 : Int) != y + 1) = false := by simp
      have hil : (i0 : Int) < m := by omega
      have hi0 : (0 : Int) ≤ i0 := by omega
      have hi0' : decide ((0 : Int) ≤ i0) = true := decide_eq_true hi0
      have HO := Lib.hid hO
      have HX := Lib.hid (And.intro hLx hr)
      have HK := Lib.hid (And.intro hk (And.intro hj (And.intro hpl hrs)))
      clear hO hLx hr hk hj hpl hrs hrd hp hy htc htb
      go_wp2_with fail
      go_quiet (fail)
      clear c0 c1 d1 d2 d3 d4 z1 z2 hne hi0'
      have key := (HO.out.drewN nq).a.back p p _ rfl HK.out.2.2.1 rfl
      go_wp2_with fail
      (with_reducible refine key.mono ?_); rintro e w5 ⟨rfl, hX5, hs5⟩
      clear key
      have hL5 := Rd.outL (HX.out.1.drewN nq) hs5 (.inr HBB.out)
      have hr5 := Rd.out (HX.out.2.drewN nq) hs5 (fun h1 ad h2 => .inl (HTS.out h1 ad h2))
      have HO := Lib.hid ((HO.out.drewN nq).next hX5 hs5)
      have HX := Lib.hid (And.intro hL5 hr5)
      clear hX5 hs5 hL5 hr5
      go_wp2_with fail
      go_roundw
      case rel => exact ⟨k + 1, (i0 : Int) - 1, by omega, by have := HK.out.2.1; omega, rfl, by rw [HK.out.2.2.2], HO.out, HX.out.1, HX.out.2⟩
      case measure => simp [intOf]
    · have hkm : k = m := by omega
      obtain rfl : j = -1 := by omega
      have hrd := stx_end t
      rw [HTL.out, ← hkm] at hrd
      obtain ⟨p, hp⟩ : ∃ p, stx t k = p := ⟨_, rfl⟩
      rw [hp] at hpl hrd
      rw [hp]
      obtain ⟨ss, hss⟩ : ∃ ss, str t = ss := ⟨_, rfl⟩
      have hkeep : ∀ w', Below wr.heap.size wr w' → w'.cell? ⟨B, p, none⟩ = some (.int .i64 0) ∧ (convert 23 9 (.slice a1 m cap1)).run Tryd.prog w' = .ok (.string ss) w' := fun w' hw => by
        obtain ⟨bb, off, e1, _, c0⟩ := (hLx.below hw).cell (k := p) (by rw [Lx_len]; exact hpl)
        simp only [Option.some.injEq, Addr.mk.injEq, and_true] at e1
        obtain ⟨rfl, rfl⟩ := e1
        rw [Nat.zero_add, hrd] at c0
        rw [← hss]
        exact ⟨c0, conv_str (hr.below hw) HTL.out⟩
      have hpN : (p : Int) < N := by have := HTN.out; omega
      have d1 : decide ((0 : Int) ≤ p) = true := decide_eq_true (by omega)
      have d2 : decide ((p : Int) < N) = true := decide_eq_true hpN
      have hp0 : (0 : Int) ≤ p := by omega
      have d3 : decide (p < N) = true := decide_eq_true (by omega)
      have d4 : p < N := by omega
      have HKEEP := Lib.hid hkeep
      have HO := Lib.hid hO
      have HR := Lib.hid hr
      have HSS := Lib.hid hss
      clear hkeep hO hr hLx hss hrd hp hpl hkm hj hk hlt
      go_wp2_with fail
      refine wp_region_noPanic ?_
      refine wp_region_held_drew (S := (fun w' => w'.cell? ⟨B, p, none⟩ = some (.int .i64 0) ∧ (convert 23 9 (.slice a1 m cap1)).run Tryd.prog w' = .ok (.string ss) w')) (by kernel_rfl) (HKEEP.out _ ((Below.refl _ wr).drew)) (fun hHeld => ?_)
      refine wpAnyH_ready (rs := [0]) (by kernel_rfl) (by simp) ?_
      refine AllReadyH.cons rfl (fun K hK => ?_) AllReadyH.nil
      clear hHeld
      go_simp
      go_at_call 11; (with_reducible refine (HO.out.below (w' := wr.drew) ((Below.refl _ wr).drew)).told.mono ?_); rintro e w9 ⟨rfl, hb9⟩; (have hbA : Below wr.heap.size wr w9 := ((Below.refl _ wr).drew).trans hb9); clear hb9
      (try go_wp2_with fail)
      refine hK.out _ _ (HKEEP.out _ hbA) (fun hHeld => ?_)
      clear hK K
      try simp only [Act.put, List.getElem_toArray, List.getElem_cons_succ, List.getElem_cons_zero, List.setIfInBounds_toArray, List.set_cons_zero, List.set_cons_succ]
      refine wpAnyH_take (i := 1) (v := ?su1) rfl (by kernel_rfl) (by kernel_rfl) (by kernel_rfl) (fun _ _ _ h => h) (Or.inl ⟨by rfl, ?shy1⟩) hHeld ?srest1
      case shy1 => (intro w hSw; (try dsimp only at hSw); obtain ⟨q1, q2⟩ := hSw; go_simp; (try with_reducible rfl))
      try simp only [Act.put, List.getElem_toArray, List.getElem_cons_succ, List.getElem_cons_zero, List.setIfInBounds_toArray, List.set_cons_zero, List.set_cons_succ]
      refine wpAnyH_take (i := 2) (v := ?su2) rfl (by kernel_rfl) (by kernel_rfl) (by kernel_rfl) (fun _ _ _ h => h) (Or.inl ⟨by rfl, ?shy2⟩) hHeld ?srest2
      case shy2 => (intro w hSw; (try dsimp only at hSw); obtain ⟨q1, q2⟩ := hSw; go_simp; (try with_reducible rfl))
      try simp only [Act.put, List.getElem_toArray, List.getElem_cons_succ, List.getElem_cons_zero, List.setIfInBounds_toArray, List.set_cons_zero, List.set_cons_succ]
      refine wpAnyH_take (i := 3) (v := ?su3) rfl (by kernel_rfl) (by kernel_rfl) (by kernel_rfl) (fun _ _ _ h => h) (Or.inl ⟨by rfl, ?shy3⟩) hHeld ?srest3
      case shy3 => (intro w hSw; (try dsimp only at hSw); obtain ⟨q1, q2⟩ := hSw; go_simp; (try with_reducible rfl))
      try simp only [Act.put, List.getElem_toArray, List.getElem_cons_succ, List.getElem_cons_zero, List.setIfInBounds_toArray, List.set_cons_zero, List.set_cons_succ]
      refine wpAnyH_take (i := 4) (v := ?su4) rfl (by kernel_rfl) (by kernel_rfl) (by kernel_rfl) (fun _ _ _ h => h) (Or.inl ⟨by rfl, ?shy4⟩) hHeld ?srest4
      case shy4 => (intro w hSw; (try dsimp only at hSw); obtain ⟨q1, q2⟩ := hSw; go_simp; (try with_reducible rfl))
      try simp only [Act.put, List.getElem_toArray, List.getElem_cons_succ, List.getElem_cons_zero, List.setIfInBounds_toArray, List.set_cons_zero, List.set_cons_succ]
      refine wpAnyH_take (i := 5) (v := ?su5) rfl (by kernel_rfl) (by kernel_rfl) (by kernel_rfl) (fun _ _ _ h => h) (Or.inl ⟨by rfl, ?shy5⟩) hHeld ?srest5
      case shy5 => (intro w hSw; (try dsimp only at hSw); obtain ⟨q1, q2⟩ := hSw; go_simp; (try with_reducible rfl))
      try simp only [Act.put, List.getElem_toArray, List.getElem_cons_succ, List.getElem_cons_zero, List.setIfInBounds_toArray, List.set_cons_zero, List.set_cons_succ]
      refine wpAnyH_take (i := 6) (v := ?su6) rfl (by kernel_rfl) (by kernel_rfl) (by kernel_rfl) (fun _ _ _ h => h) (Or.inl ⟨by rfl, ?shy6⟩) hHeld ?srest6
      case shy6 => (intro w hSw; (try dsimp only at hSw); obtain ⟨q1, q2⟩ := hSw; go_simp; (try with_reducible rfl))
      try simp only [Act.put, List.getElem_toArray, List.getElem_cons_succ, List.getElem_cons_zero, List.setIfInBounds_toArray, List.set_cons_zero, List.set_cons_succ]
      refine wpAnyH_take (i := 7) (v := ?su7) rfl (by kernel_rfl) (by kernel_rfl) (by kernel_rfl) (fun _ _ _ h => h) (Or.inl ⟨by rfl, ?shy7⟩) hHeld ?srest7
      case shy7 => (intro w hSw; (try dsimp only at hSw); obtain ⟨q1, q2⟩ := hSw; go_simp; (try with_reducible rfl))
      try simp only [Act.put, List.getElem_toArray, List.getElem_cons_succ, List.getElem_cons_zero, List.setIfInBounds_toArray, List.set_cons_zero, List.set_cons_succ]
      refine wpAnyH_take (i := 8) (v := ?su8) rfl (by kernel_rfl) (by kernel_rfl) (by kernel_rfl) (fun _ _ _ h => h) (Or.inl ⟨by rfl, ?shy8⟩) hHeld ?srest8
      case shy8 => (intro w hSw; (try dsimp only at hSw); obtain ⟨q1, q2⟩ := hSw; go_simp; (try with_reducible rfl))
      try simp only [Act.put, List.getElem_toArray, List.getElem_cons_succ, List.getElem_cons_zero, List.setIfInBounds_toArray, List.set_cons_zero, List.set_cons_succ]
      refine wpAnyH_take (i := 9) (v := ?su9) rfl (by kernel_rfl) (by kernel_rfl) (by kernel_rfl) (fun _ _ _ h => h) (Or.inl ⟨by rfl, ?shy9⟩) hHeld ?srest9
      case shy9 => (intro w hSw; (try dsimp only at hSw); obtain ⟨q1, q2⟩ := hSw; go_simp; (try with_reducible rfl))
      try simp only [Act.put, List.getElem_toArray, List.getElem_cons_succ, List.getElem_cons_zero, List.setIfInBounds_toArray, List.set_cons_zero, List.set_cons_succ]
      refine wpAnyH_take (i := 10) (v := ?su10) rfl (by kernel_rfl) (by kernel_rfl) (by kernel_rfl) (fun _ _ _ h => h) (Or.inl ⟨by rfl, ?shy10⟩) hHeld ?srest10
      case shy10 => (intro w hSw; (try dsimp only at hSw); obtain ⟨q1, q2⟩ := hSw; go_simp; (try with_reducible rfl))
      try simp only [Act.put, List.getElem_toArray, List.getElem_cons_succ, List.getElem_cons_zero, List.setIfInBounds_toArray, List.set_cons_zero, List.set_cons_succ]
      refine wpAnyH_take (i := 11) (v := ?su11) rfl (by kernel_rfl) (by kernel_rfl) (by kernel_rfl) (fun _ _ _ h => h) (Or.inl ⟨by rfl, ?shy11⟩) hHeld ?srest11
      case shy11 => (intro w hSw; (try dsimp only at hSw); obtain ⟨q1, q2⟩ := hSw; go_simp; (try with_reducible rfl))
      try simp only [Act.put, List.getElem_toArray, List.getElem_cons_succ, List.getElem_cons_zero, List.setIfInBounds_toArray, List.set_cons_zero, List.set_cons_succ]
      refine wpAnyH_take (i := 12) (v := ?su12) rfl (by kernel_rfl) (by kernel_rfl) (by kernel_rfl) (fun _ _ _ h => h) (Or.inl ⟨by rfl, ?shy12⟩) hHeld ?srest12
      case shy12 => (intro w hSw; (try dsimp only at hSw); obtain ⟨q1, q2⟩ := hSw; go_simp; (try with_reducible rfl))
      try simp only [Act.put, List.getElem_toArray, List.getElem_cons_succ, List.getElem_cons_zero, List.setIfInBounds_toArray, List.set_cons_zero, List.set_cons_succ]
      refine wpAnyH_take (i := 13) (v := ?su13) rfl (by kernel_rfl) (by kernel_rfl) (by kernel_rfl) (fun _ _ _ h => h) (Or.inl ⟨by rfl, ?shy13⟩) hHeld ?srest13
      case shy13 => (intro w hSw; (try dsimp only at hSw); obtain ⟨q1, q2⟩ := hSw; go_simp; (try with_reducible rfl))
      try simp only [Act.put, List.getElem_toArray, List.getElem_cons_succ, List.getElem_cons_zero, List.setIfInBounds_toArray, List.set_cons_zero, List.set_cons_succ]
      refine wpAnyH_take (i := 14) (v := ?su14) rfl (by kernel_rfl) (by kernel_rfl) (by kernel_rfl) (fun _ _ _ h => h) (Or.inl ⟨by rfl, ?shy14⟩) hHeld ?srest14
      case shy14 => (intro w hSw; (try dsimp only at hSw); obtain ⟨q1, q2⟩ := hSw; go_simp; (try with_reducible rfl))
      try simp only [Act.put, List.getElem_toArray, List.getElem_cons_succ, List.getElem_cons_zero, List.setIfInBounds_toArray, List.set_cons_zero, List.set_cons_succ]
      refine wpAnyH_take (i := 15) (v := ?su15) rfl (by kernel_rfl) (by kernel_rfl) (by kernel_rfl) (fun _ _ _ h => h) (Or.inl ⟨by rfl, ?shy15⟩) hHeld ?srest15
      case shy15 => (intro w hSw; (try dsimp only at hSw); obtain ⟨q1, q2⟩ := hSw; go_simp; (try with_reducible rfl))
      try simp only [Act.put, List.getElem_toArray, List.getElem_cons_succ, List.getElem_cons_zero, List.setIfInBounds_toArray, List.set_cons_zero, List.set_cons_succ]
      refine wpAnyH_take (i := 16) (v := ?su16) rfl (by kernel_rfl) (by kernel_rfl) (by kernel_rfl) (fun _ _ _ h => h) (Or.inl ⟨by rfl, ?shy16⟩) hHeld ?srest16
      case shy16 => (intro w hSw; (try dsimp only at hSw); obtain ⟨q1, q2⟩ := hSw; go_simp; (try with_reducible rfl))
      try simp only [Act.put, List.getElem_toArray, List.getElem_cons_succ, List.getElem_cons_zero, List.setIfInBounds_toArray, List.set_cons_zero, List.set_cons_succ]
      refine wpAnyH_take (i := 17) (v := ?su17) rfl (by kernel_rfl) (by kernel_rfl) (by kernel_rfl) (fun _ _ _ h => h) (Or.inl ⟨by rfl, ?shy17⟩) hHeld ?srest17
      case shy17 => (intro w hSw; (try dsimp only at hSw); obtain ⟨q1, q2⟩ := hSw; go_simp; (try with_reducible rfl))
      try simp only [Act.put, List.getElem_toArray, List.getElem_cons_succ, List.getElem_cons_zero, List.setIfInBounds_toArray, List.set_cons_zero, List.set_cons_succ]
      refine wpAnyH_take (i := 18) (v := ?su18) rfl (by kernel_rfl) (by kernel_rfl) (by kernel_rfl) (fun _ _ _ h => h) (Or.inl ⟨by rfl, ?shy18⟩) hHeld ?srest18
      case shy18 => (intro w hSw; (try dsimp only at hSw); obtain ⟨q1, q2⟩ := hSw; go_simp; (try with_reducible rfl))
      try simp only [Act.put, List.getElem_toArray, List.getElem_cons_succ, List.getElem_cons_zero, List.setIfInBounds_toArray, List.set_cons_zero, List.set_cons_succ]
      refine wpAnyH_take (i := 19) (v := ?su19) rfl (by kernel_rfl) (by kernel_rfl) (by kernel_rfl) (fun _ _ _ h => h) (Or.inl ⟨by rfl, ?shy19⟩) hHeld ?srest19
      case shy19 => (intro w hSw; (try dsimp only at hSw); obtain ⟨q1, q2⟩ := hSw; go_simp; (try with_reducible rfl))
      try simp only [Act.put, List.getElem_toArray, List.getElem_cons_succ, List.getElem_cons_zero, List.setIfInBounds_toArray, List.set_cons_zero, List.set_cons_succ]
      refine wpAnyH_take (i := 22) (v := ?su22) rfl (by kernel_rfl) (by kernel_rfl) (by kernel_rfl) (fun _ _ _ h => h) (Or.inl ⟨by rfl, ?shy22⟩) hHeld ?srest22
      case shy22 => (intro w hSw; (try dsimp only at hSw); obtain ⟨q1, q2⟩ := hSw; go_simp; (try with_reducible rfl))
      try simp only [Act.put, List.getElem_toArray, List.getElem_cons_succ, List.getElem_cons_zero, List.setIfInBounds_toArray, List.set_cons_zero, List.set_cons_succ]
      refine wpAnyH_take (i := 23) (v := ?su23) rfl (by kernel_rfl) (by kernel_rfl) (by kernel_rfl) (fun _ _ _ h => h) (Or.inl ⟨by rfl, ?shy23⟩) hHeld ?srest23
      case shy23 => (intro w hSw; (try dsimp only at hSw); obtain ⟨q1, q2⟩ := hSw; go_simp; (try with_reducible rfl))
      try simp only [Act.put, List.getElem_toArray, List.getElem_cons_succ, List.getElem_cons_zero, List.setIfInBounds_toArray, List.set_cons_zero, List.set_cons_succ]
      refine wpAnyH_ready (rs := [20]) (by kernel_rfl) (by simp) ?_
      refine AllReadyH.cons rfl (fun K hK => ?_) AllReadyH.nil
      clear hHeld
      go_simp
      go_at_call 18; (with_reducible refine ((HO.out.below hbA).a.text m HTL.out).mono ?_); rintro e w10 ⟨xb, rfl, -, hx, hb10⟩; (have hbA := hbA.trans (hb10.mono hbA.size)); (have hcv := conv_str hx HTL.out); (rw [HSS.out] at hcv); clear hb10 hx
      (try go_wp2_with fail)
      refine hK.out _ _ (HKEEP.out _ hbA) (fun hHeld => ?_)
      clear hK K
      try simp only [Act.put, List.getElem_toArray, List.getElem_cons_succ, List.getElem_cons_zero, List.setIfInBounds_toArray, List.set_cons_zero, List.set_cons_succ]
      refine wpAnyH_ready (rs := [21]) (by kernel_rfl) (by simp) ?_
      refine AllReadyH.cons rfl (fun K hK => ?_) AllReadyH.nil
      clear hHeld
      go_simp
      (try go_wp2_with fail)
      refine hK.out _ _ (HKEEP.out _ hbA) (fun hHeld => ?_)
      clear hK K
      try simp only [Act.put, List.getElem_toArray, List.getElem_cons_succ, List.getElem_cons_zero, List.setIfInBounds_toArray, List.set_cons_zero, List.set_cons_succ]
      refine wpAnyH_take (i := 24) (v := ?su24) rfl (by kernel_rfl) (by kernel_rfl) (by kernel_rfl) (fun _ _ _ h => h) (Or.inl ⟨by rfl, ?shy24⟩) hHeld ?srest24
      case shy24 => (intro w hSw; (try dsimp only at hSw); obtain ⟨q1, q2⟩ := hSw; go_simp; (try with_reducible rfl))
      try simp only [Act.put, List.getElem_toArray, List.getElem_cons_succ, List.getElem_cons_zero, List.setIfInBounds_toArray, List.set_cons_zero, List.set_cons_succ]
      refine wpAnyH_take (i := 25) (v := ?su25) rfl (by kernel_rfl) (by kernel_rfl) (by kernel_rfl) (fun _ _ _ h => h) (Or.inl ⟨by rfl, ?shy25⟩) hHeld ?srest25
      case shy25 => (intro w hSw; (try dsimp only at hSw); obtain ⟨q1, q2⟩ := hSw; go_simp; (try with_reducible rfl))
      try simp only [Act.put, List.getElem_toArray, List.getElem_cons_succ, List.getElem_cons_zero, List.setIfInBounds_toArray, List.set_cons_zero, List.set_cons_succ]
      refine wpAnyH_take (i := 26) (v := ?su26) rfl (by kernel_rfl) (by kernel_rfl) (by kernel_rfl) (fun _ _ _ h => h) (Or.inl ⟨by rfl, ?shy26⟩) hHeld ?srest26
      case shy26 => (intro w hSw; (try dsimp only at hSw); obtain ⟨q1, q2⟩ := hSw; go_simp; (try with_reducible rfl))
      try simp only [Act.put, List.getElem_toArray, List.getElem_cons_succ, List.getElem_cons_zero, List.setIfInBounds_toArray, List.set_cons_zero, List.set_cons_succ]
      refine wpAnyH_take (i := 27) (v := ?su27) rfl (by kernel_rfl) (by kernel_rfl) (by kernel_rfl) (fun _ _ _ h => h) (Or.inl ⟨by rfl, ?shy27⟩) hHeld ?srest27
      case shy27 => (intro w hSw; (try dsimp only at hSw); obtain ⟨q1, q2⟩ := hSw; go_simp; (try with_reducible rfl))
      try simp only [Act.put, List.getElem_toArray, List.getElem_cons_succ, List.getElem_cons_zero, List.setIfInBounds_toArray, List.set_cons_zero, List.set_cons_succ]
      refine wpAnyH_take (i := 29) (v := ?su29) rfl (by kernel_rfl) (by kernel_rfl) (by kernel_rfl) (fun _ _ _ h => h) (Or.inl ⟨by rfl, ?shy29⟩) hHeld ?srest29
      case shy29 => (intro w hSw; (try dsimp only at hSw); obtain ⟨q1, q2⟩ := hSw; go_simp; (try with_reducible rfl))
      try simp only [Act.put, List.getElem_toArray, List.getElem_cons_succ, List.getElem_cons_zero, List.setIfInBounds_toArray, List.set_cons_zero, List.set_cons_succ]
      refine wpAnyH_take (i := 30) (v := ?su30) rfl (by kernel_rfl) (by kernel_rfl) (by kernel_rfl) (fun _ _ _ h => h) (Or.inl ⟨by rfl, ?shy30⟩) hHeld ?srest30
      case shy30 => (intro w hSw; (try dsimp only at hSw); obtain ⟨q1, q2⟩ := hSw; go_simp; (try with_reducible rfl))
      try simp only [Act.put, List.getElem_toArray, List.getElem_cons_succ, List.getElem_cons_zero, List.setIfInBounds_toArray, List.set_cons_zero, List.set_cons_succ]
      refine wpAnyH_ready (rs := [28]) (by kernel_rfl) (by simp) ?_
      refine AllReadyH.cons rfl (fun K hK => ?_) AllReadyH.nil
      clear hHeld
      go_simp
      clear hcv
      go_at_call 16; (with_reducible refine ((HO.out.below hbA).a.all N HTN.out).mono ?_); rintro e w11 ⟨yb, yc, rfl, -, -, hY, hb11⟩; (have hbA := hbA.trans (hb11.mono hbA.size)); clear hb11
      (try go_wp2_with fail)
      refine hK.out _ _ (HKEEP.out _ hbA) (fun hHeld => ?_)
      clear hK K
      try simp only [Act.put, List.getElem_toArray, List.getElem_cons_succ, List.getElem_cons_zero, List.setIfInBounds_toArray, List.set_cons_zero, List.set_cons_succ]
      refine wpAnyH_ready (rs := [31]) (by kernel_rfl) (by simp) ?_
      refine AllReadyH.cons rfl (fun K hK => ?_) AllReadyH.nil
      clear hHeld
      go_simp
      go_at_call 20; (with_reducible refine (r6last m _ HSS.out HTL.out (by omega)).mono ?_); rintro e w14 ⟨v14, rfl, hown14, hb14⟩; (obtain ⟨ua, uc, rfl, hZ⟩ := Lr.form N hown14 ((Lx_len t).trans HTN.out)); (have hY := hY.below hb14); (have hbA := hbA.trans (hb14.mono hbA.size)); clear hown14 hb14
      (try go_wp2_with fail)
      refine hK.out _ _ (HKEEP.out _ hbA) (fun hHeld => ?_)
      clear hK K
      try simp only [Act.put, List.getElem_toArray, List.getElem_cons_succ, List.getElem_cons_zero, List.setIfInBounds_toArray, List.set_cons_zero, List.set_cons_succ]
      refine wpAnyH_ready (rs := [32]) (by kernel_rfl) (by simp) ?_
      refine AllReadyH.cons rfl (fun K hK => ?_) AllReadyH.nil
      clear hHeld
      go_simp
      go_at_call 19; (with_reducible refine (r6same_is true _ hY hZ ((Lx_len t).trans HTN.out) ((Lx_len t).trans HTN.out) (decide_eq_true rfl)).mono ?_); rintro e w15 ⟨rfl, hd15⟩; (have hbA := hbA.drawn hd15); clear hd15 hY hZ
      (try go_wp2_with fail)
      refine hK.out _ _ (HKEEP.out _ hbA) (fun hHeld => ?_)
      clear hK K
      try simp only [Act.put, List.getElem_toArray, List.getElem_cons_succ, List.getElem_cons_zero, List.setIfInBounds_toArray, List.set_cons_zero, List.set_cons_succ]
      refine wpAnyH_take (i := 33) (v := ?su33) rfl (by kernel_rfl) (by kernel_rfl) (by kernel_rfl) (fun _ _ _ h => h) (Or.inl ⟨by rfl, ?shy33⟩) hHeld ?srest33
      case shy33 => (intro w hSw; (try dsimp only at hSw); obtain ⟨q1, q2⟩ := hSw; go_simp; (try with_reducible rfl))
      try simp only [Act.put, List.getElem_toArray, List.getElem_cons_succ, List.getElem_cons_zero, List.setIfInBounds_toArray, List.set_cons_zero, List.set_cons_succ]
      refine wpAnyH_take (i := 34) (v := ?su34) rfl (by kernel_rfl) (by kernel_rfl) (by kernel_rfl) (fun _ _ _ h => h) (Or.inl ⟨by rfl, ?shy34⟩) hHeld ?srest34
      case shy34 => (intro w hSw; (try dsimp only at hSw); obtain ⟨q1, q2⟩ := hSw; go_simp; (try with_reducible rfl))
      try simp only [Act.put, List.getElem_toArray, List.getElem_cons_succ, List.getElem_cons_zero, List.setIfInBounds_toArray, List.set_cons_zero, List.set_cons_succ]
      refine wpAnyH_done (by kernel_rfl) ?_ _
      refine NoPanic.normal ?_
      go_wp2_with fail
      go_ret
      exact ⟨rfl, HO.out.bw.trans (hbA.mono HO.out.bw.size)⟩
end Go.Proofs.YthbbokoeiifjdaaDoor
