/- Layer 9's statements as walks: SortedRuns, SortedAhead. -/
import Derived.Test.YtfncjkkdemeclaaSoH
namespace Go.Proofs.Ytfncjkkdemeclaa
open Go Go.RowKit Go.ChangeAt

theorem Lx_runs (k : Nat) (u : UInt8) : Lx (List.replicate k u) = List.replicate k ((u.toNat : Int) + 1) ++ [0] := by
  unfold Lx ub
  rw [List.map_replicate]
  exact Bw.lastT_runs _ k (u8_rng u)
theorem Lx_runs_end (k : Nat) (u : UInt8) : (Lx (List.replicate k u)).getD k 0 = 0 := by
  rw [Lx_runs, List.getD_eq_getElem?_getD, List.getElem?_append_right (by rw [List.length_replicate]; exact Nat.le_refl _), List.length_replicate, Nat.sub_self]
  rfl
theorem Lx_runs_at {k i : Nat} (u : UInt8) (h : i < k) : (Lx (List.replicate k u)).getD i 0 = (u.toNat : Int) + 1 := by
  rw [Lx_runs, List.getD_eq_getElem?_getD, List.getElem?_append_left (by rw [List.length_replicate]; exact h), List.getElem?_replicate, if_pos h]
  rfl
set_option maxHeartbeats 1600000 in
theorem sortedruns_w (c n0 : Int) (W : World) (hc : (Lit.int .u8 c).wf = true) (_ : (Lit.int .i64 n0).wf = true) :
    Calls Try.prog 8 #[.int .u8 c, .int .i64 n0] W fun e w' => e = .returned (.bool true) ∧ Below W.heap.size W w' := by
  obtain ⟨i0, hi, hz0, hz1, hz2⟩ := info_parts infoU
  have hcb := bounds_u8 hc
  obtain ⟨u, hu⟩ := u8_mod c
  rw [Int.emod_eq_of_lt (by omega) (by omega)] at hu
  subst hu
  obtain ⟨k, hk, en1⟩ := mod_any n0 61 (by decide) (by decide)
  change RowKit.wrap64 ((IntKind.u64.wrap n0).tmod 61) = _ at en1
  obtain ⟨y, hy⟩ : ∃ y : Int, (u.toNat : Int) = y := ⟨_, rfl⟩
  have HY := Lib.hid hy
  rw [hy] at hcb ⊢
  clear hc hy
  go_enter Try.func8, Try.ntmps8
  go_wp2_with fail
  rw [en1]
  clear en1
  go_loopw [6, 7] (fun v i wr => ∃ j : Nat, j ≤ k ∧ i = .int .i64 j ∧ OwnU W.heap.size wr v (List.replicate j u) ∧ Below W.heap.size W wr) (fun _ i _ => k - (intOf i).toNat)
  case atStart => exact ⟨0, Nat.zero_le _, rfl, World.ownsRow_nil _ _ _ _, Below.refl _ _⟩
  case round =>
    obtain ⟨j, hj, rfl, hown, hb⟩ := hrel
    by_cases hlt : j < k
    · have hlt' : (j : Int) < k := by omega
      have hown' := hown
      unfold OwnU at hown'
      rw [List.length_replicate] at hown'
      have hbs := hb.size
      go_wp2_with (first
        | (at_builtin; (refine wpList_append_own _ rfl (.tmp 21) (.tmp 23) 23 rfl W.heap.size 5 i0 (.int .u8 0) 1 1 Try.underlying23 hi hz0 hz1 hz2 rfl (by decide) _ _ _ rfl (World.ownsRow.alloc hown' _) ⟨wr.heap.size, 0, none⟩ 1 1 [.int .u8 y] rfl rfl (cell_one_new _ _ _) (fun u hu => by simp at hu; subst hu; rfl) (by unfold maxLen; omega) (by omega) (by simp; omega) ?_); intro v3 w3 hown3 hgrow3 hnil3))
      have hb3 : Below W.heap.size W w3 := (hb.alloc hbs _).grown hgrow3 (by simp; omega) (fun q hq => (hown.lt q hq).1)
      rw [← HY.out] at hown3
      have hnx := OwnU.push (List.length_replicate (n := j) (a := u)) hown3
      have HX := Lib.hid (And.intro hnx hb3)
      clear hown hown' hb hown3 hgrow3 hnil3 hb3 hnx
      go_wp2_with fail
      go_roundw
      case rel => exact ⟨j + 1, by omega, by go_num, by rw [List.replicate_succ']; exact HX.out.1, HX.out.2⟩
      case measure => simp [intOf]; omega
    · have hlt' : ¬ (j : Int) < k := by omega
      obtain rfl : j = k := by omega
      obtain ⟨a, cap, rfl, hr⟩ := OwnU.form j hown List.length_replicate
      have key := klast wr hr List.length_replicate (by omega)
      have HR := Lib.hid hr
      have HB := Lib.hid hb
      clear hown hr hb
      go_wp2_with fail
      (with_reducible refine key.mono ?_); rintro e w1 ⟨lb, lc, rfl, -, hL, hb1⟩
      clear key
      obtain ⟨N, hN⟩ : ∃ N, j + 1 = N := ⟨_, rfl⟩
      have hjN : (j : Int) + 1 = N := by omega
      have hjN' : (j : Int) < N := by omega
      rw [hN] at hL ⊢
      have hlc := hL.list ((Lx_len _).trans (by rw [List.length_replicate, hN]))
      have key := kback_of (List.replicate j u) w1 hlc ((Lx_len _).trans (by rw [List.length_replicate, hN])) (by omega) rfl
      rw [List.length_replicate] at key
      have c0 := hL.cell (i := j) (by omega)
      rw [Lx_runs_end] at c0
      have hcs : ∀ i, i < j → w1.cell? ⟨lb, i, none⟩ = some (.int .i64 (y + 1)) := fun i hi => by
        have := hL.cell (i := i) (by omega)
        rwa [Lx_runs_at u hi, HY.out] at this
      have HCS := Lib.hid hcs
      have HRD := Lib.hid (HR.out.below (hb1.mono (Nat.le_refl _)))
      have HBW := Lib.hid (HB.out.trans (hb1.mono HB.out.size))
      have hne : ((N : Int) != N) = false := by simp
      clear hL hlc hcs hb1 HR HB hN
      go_wp2_with fail
      clear c0 hne
      go_loop [9] (fun i => ∃ m : Nat, m ≤ j ∧ i = .int .i64 m) (fun i => j - (intOf i).toNat)
      case atStart => exact ⟨0, Nat.zero_le _, rfl⟩
      case round =>
        obtain ⟨m, hm, rfl⟩ := hrel
        by_cases hlt : m < j
        · have hlt2 : (m : Int) < j := by omega
          have hlt3 : (m : Int) < N := by omega
          have c0 := HCS.out m hlt
          have hne : ((y + 1) != (y + 1)) = false := by simp
          clear key
          go_wp2_with fail
          go_round
          case rel => exact ⟨m + 1, by omega, by go_num⟩
          case measure => simp [intOf]; omega
        · have hlt2 : ¬ (m : Int) < j := by omega
          go_wp2_with fail
          (with_reducible refine key.mono ?_); rintro e w2 ⟨tb, rfl, -, hT, hb2⟩
          clear key
          have hbw := HBW.out.trans (hb2.mono HBW.out.size)
          have HT := Lib.hid hT
          have HRD := Lib.hid (HRD.out.below hb2)
          have HBW := Lib.hid hbw
          clear hT hb2 hbw
          go_wp2_with fail
          refine (told9 _).mono ?_; rintro e w3 ⟨rfl, hb3⟩
          have cx := conv_str (HT.out.below hb3) (n := j) List.length_replicate
          have cy := conv_str (HRD.out.below hb3) (n := j) List.length_replicate
          have HBW := Lib.hid (HBW.out.trans (hb3.mono HBW.out.size))
          obtain ⟨s, hs⟩ : ∃ s, str (List.replicate j u) = s := ⟨_, rfl⟩
          rw [hs] at cx cy
          clear hb3 hs
          go_wp2_with fail
          go_ret
          exact ⟨rfl, HBW.out⟩
end Go.Proofs.Ytfncjkkdemeclaa
