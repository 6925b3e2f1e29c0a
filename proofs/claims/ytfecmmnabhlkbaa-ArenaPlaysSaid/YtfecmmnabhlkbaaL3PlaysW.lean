/- ArenaPlays: the walk. -/
import Derived.Test.YtfecmmnabhlkbaaL3Plays
namespace Go.Proofs.Ytfecmmnabhlkbaa
open Go Go.RowKit Go.ChangeAt

set_option maxRecDepth 100000 in
set_option maxHeartbeats 3200000 in
theorem plays_w (a0 : Int) (a1 : Option Addr) (len1 cap1 : Nat) (W : World) (wf0 : (Lit.int .i64 a0).wf = true) (hops : RdOps W a1 len1) :
    Calls Try.prog 4 #[.int .i64 a0, .slice a1 len1 cap1] W fun e w' => e = .returned (.bool true) ∧ Below W.heap.size W w' := by
  have hb0 := bounds_i64 wf0
  by_cases hbad : a0 < 0 ∨ 268435456 < a0
  · have HB := Lib.hid hbad
    clear hbad
    go_enter Try.func4, Try.ntmps4
    go_wp2_with (first
      | (go_at_call 8; (have c := anew_no a0 W HB.out); (with_reducible refine c.mono ?_); clear c; rintro e w1 ⟨rfl, rfl⟩)
      | (go_at_call 14; (have c := rnew_no a0 W HB.out); (with_reducible refine c.mono ?_); clear c; rintro e w1 ⟨rfl, rfl⟩)
      | (go_at_call 12; refine (told_any _).mono ?_; rintro e w9 ⟨rfl, hb9⟩))
    go_ret
    exact ⟨rfl, hb9⟩
  · obtain ⟨most, rfl⟩ := Int.eq_ofNat_of_zero_le (show 0 ≤ a0 by omega)
    have hmost : most ≤ 268435456 := by omega
    clear hbad
    have hlen := hops.1
    unfold maxLen at hlen
    have HOPS := Lib.hid hops.2
    clear hops
    go_enter Try.func4, Try.ntmps4
    go_wp2_with (first
      | (go_at_call 8; (have c := knew most W W hmost (Below.refl _ _)); (with_reducible refine c.mono ?_); clear c; rintro e w1 ⟨rfl, h1, _⟩))
    obtain ⟨g, hg⟩ : ∃ g, W.heap.size = g := ⟨_, rfl⟩
    rw [hg] at h1 ⊢
    have HG := Lib.hid hg
    clear hg
    by_cases hlong : 100 < len1
    · have hl1 : (100 : Int) < len1 := by omega
      go_wp2_with (first
        | (go_at_call 14; (have c := rnew_ok most w1 hmost); (with_reducible refine c.mono ?_); clear c; rintro e w2 ⟨rfl, h2, hb2⟩))
      have hside : ∃ A B, Side W w2 A B g w1.heap.size most [] [] := ⟨_, _, h1.below hb2, h2.base h1.2.2.size, fun k hk hB => by
        have e1 : k = g := hk
        have e2 : k = w1.heap.size := hB
        have := (h1.1.lt g rfl).2
        omega⟩
      have HSIDE := Lib.hid hside
      obtain ⟨h, hh⟩ : ∃ h, w1.heap.size = h := ⟨_, rfl⟩
      rw [hh] at HSIDE ⊢
      clear hside h1 h2 hb2 hh
      go_wp2_with (first
        | (go_at_call 12; refine (told_any _).mono ?_; rintro e w9 ⟨rfl, hb9⟩))
      go_ret
      obtain ⟨A, B, hs⟩ := HSIDE.out
      exact ⟨rfl, (hs.1.below hb9).2.2⟩
    · have hl1 : ¬ (100 : Int) < len1 := by omega
      go_wp2_with (first
        | (go_at_call 14; (have c := rnew_ok most w1 hmost); (with_reducible refine c.mono ?_); clear c; rintro e w2 ⟨rfl, h2, hb2⟩))
      have hside : ∃ A B, Side W w2 A B g w1.heap.size most [] [] := ⟨_, _, h1.below hb2, h2.base h1.2.2.size, fun k hk hB => by
        have e1 : k = g := hk
        have e2 : k = w1.heap.size := hB
        have := (h1.1.lt g rfl).2
        omega⟩
      have HSIDE := Lib.hid hside
      obtain ⟨h, hh⟩ : ∃ h, w1.heap.size = h := ⟨_, rfl⟩
      rw [hh] at HSIDE ⊢
      clear hside h1 h2 hb2 hh
      go_loopw [7, 8, 9, 10, 11, 12, 13] (fun i _ _ _ _ _ _ wr => ∃ (m : Nat) (A B : Nat → Prop) (T : List Bool) (F : List Int), m ≤ len1 ∧ i = .int .i64 m ∧ Side W wr A B g h most T F) (fun i _ _ _ _ _ _ _ => len1 - (intOf i).toNat)
      case atStart => obtain ⟨A, B, hs⟩ := HSIDE.out; exact ⟨0, A, B, [], [], Nat.zero_le _, rfl, hs⟩
      case round =>
        obtain ⟨m, A, B, T, F, hml, rfl, hs⟩ := hrel
        clear HSIDE
        have HS := Lib.hid hs
        by_cases hlt : m < len1
        · have h1' : (m : Int) < len1 := by omega
          obtain ⟨b, off, rfl, hbb, hc⟩ := HOPS.out (by omega)
          obtain ⟨z, la, lc, l, hz, hla, hrd, hzb⟩ := hc m hlt
          have hz' := (hs.1.2.2.cell (p := ⟨b, off + m * 2, none⟩) hbb).trans hz
          have hla' := (hs.1.2.2.cell (p := ⟨b, off + m * 2 + 1, none⟩) hbb).trans hla
          have hlw : 0 < l.length → ∀ ad, la = some ad → ad.block < W.heap.size := fun hp ad e => by
            obtain ⟨b', off', e', h3, _⟩ := hrd.2.2.2 hp
            rw [e] at e'
            cases e'
            exact h3
          have hrd' : RdL wr la lc l := by
            have hbel := hs.1.2.2
            exact hrd.stay (S := fun k => W.heap.size ≤ k) ⟨hbel.os, hbel.tape, hbel.output, hbel.size, fun k hk hs => hbel.block k (by omega)⟩ (fun hp ad e _ h => by have := hlw hp ad e; omega)
          have hbx : Below wr.heap.size wr (wr.alloc (.cells #[.int .i64 z, .slice la l.length lc] 36)) := (Below.refl _ _).alloc (Nat.le_refl _) _
          have hsx := hs.below hbx
          have hrx := hrd'.below hbx
          have hll : (l.length : Int) ≤ 9223372036854775807 := by have h1 := hrd'.1; have h2 := hrd'.2.1; unfold maxLen at h2; omega
          have hoA : ¬ A wr.heap.size := fun hA => by have := (hs.1.1.lt _ hA).2; omega
          have HSX := Lib.hid hsx
          have HRX := Lib.hid hrx
          clear hc hz hla hrd hs hsx hrx hrd' hbx
          by_cases hlong6 : 6 < l.length
          · have hl6 : (6 : Int) < l.length := by omega
            go_wp2_with (first
              | (go_at_call 12; refine (told_any _).mono ?_; rintro e w9 ⟨rfl, hb9⟩))
            go_ret
            exact ⟨rfl, (HSX.out.1.below hb9).2.2⟩
          · have hl6 : ¬ (6 : Int) < l.length := by omega
            by_cases hkind : (wrap64 (z.tmod 5 + 5)).tmod 5 < 3
            · obtain ⟨k, e, T', F', htk⟩ : ∃ k e T' F', Ar.tk most T F = (k, e, T', F') := ⟨_, _, _, _, rfl⟩
              have c := side_take HSX.out htk
              clear htk
              go_wp2_with (first
                | (go_at_call 9; (with_reducible refine c.mono ?_); rintro e3 w3 ⟨rfl, ⟨A3, hk3, _, _⟩, c3⟩)
                | (go_at_call 15; (with_reducible refine c3.mono ?_); rintro e4 w4 ⟨rfl, A4, B4, hside4, _, _⟩; clear c3 hk3))
              clear c
              have HSD := Lib.hid hside4
              obtain ⟨lv, hlv⟩ : ∃ lv, T'.length - F'.length = lv := ⟨_, rfl⟩
              obtain ⟨t, ht⟩ : ∃ t, T'.length = t := ⟨_, rfl⟩
              have HLV := Lib.hid hlv
              have HTL := Lib.hid ht
              have htm : t ≤ 268435456 := by have h1 := hside4.1.2.1.tm; have h2 := hside4.1.2.1.mx; omega
              obtain ⟨ta, tc, tb, td, htc, _⟩ := hside4.2.1.tlen
              rw [ht] at htc
              clear hlv ht hside4
              go_wp2_with fail
              go_quiet ((first
                | (go_at_call 13; exact Calls.quiet_of (klive (n := lv) (HSD.out.1.drewN _) HLV.out))
                | (go_at_call 17; exact Calls.quiet_of (rlive_n (n := lv) _ (HSD.out.2.1.drewN _) HSD.out.1.2.1 HLV.out))
                | (go_at_call 18; exact Calls.quiet_of_same ((kmade (n := t) (HSD.out.1.drewN _) HTL.out).mono fun _ _ ⟨he, hw⟩ => ⟨he, hw.symm⟩))))
              have HSE := Lib.hid (HSD.out.drewN nq)
              have htc' : (w4.drewN nq).cell? ⟨h, 1, none⟩ = some (.slice ta t tc) := htc
              clear htc HSD
              generalize w4.drewN nq = w5 at *
              go_wp2_with fail
              go_loopw [13] (fun i wr => ∃ j : Nat, j ≤ t + 3 ∧ i = .int .i64 ((j : Int) - 1) ∧ wr = w5) (fun i _ => t + 3 - ((intOf i) + 1).toNat)
              case atStart => exact ⟨0, Nat.zero_le _, rfl, rfl⟩
              case round =>
                obtain ⟨j, hjt, rfl, rfl⟩ := hrel
                by_cases hj : j < t + 3
                · have hj1 : (j : Int) - 1 < t + 2 := by omega
                  have hj2 : (j : Int) ≤ 268435460 := by omega
                  obtain ⟨k, hk⟩ : ∃ k, (j : Int) - 1 = k := ⟨_, rfl⟩
                  have HKJ := Lib.hid hk
                  rw [hk]
                  rw [hk] at hj1
                  have hk0 : -1 ≤ k := by omega
                  have hk1 : k ≤ 268435460 := by omega
                  clear hk
                  cases hx : Ar.is T' k with
                  | true =>
                    have c1 := kis HSE.out.1 k hx
                    have c2 := ris_n k _ HSE.out.2.1 HSE.out.1.2.1 hx
                    clear hx
                    go_wp2_with (first
                      | (go_at_call 11; (with_reducible refine c1.mono ?_); rintro e w6 ⟨rfl, rfl⟩)
                      | (go_at_call 19; (with_reducible refine c2.mono ?_); rintro e w6 ⟨rfl, rfl⟩))
                    go_roundw
                    case rel => exact ⟨j + 1, by omega, by have := HKJ.out; (first | (congr 1; omega) | go_num), (by first | rfl | trivial)⟩
                    case measure => simp [intOf]; have := HKJ.out; omega
                  | false =>
                    have c1 := kis HSE.out.1 k hx
                    have c2 := ris_n k _ HSE.out.2.1 HSE.out.1.2.1 hx
                    clear hx
                    go_wp2_with (first
                      | (go_at_call 11; (with_reducible refine c1.mono ?_); rintro e w6 ⟨rfl, rfl⟩)
                      | (go_at_call 19; (with_reducible refine c2.mono ?_); rintro e w6 ⟨rfl, rfl⟩))
                    go_roundw
                    case rel => exact ⟨j + 1, by omega, by have := HKJ.out; (first | (congr 1; omega) | go_num), (by first | rfl | trivial)⟩
                    case measure => simp [intOf]; have := HKJ.out; omega
                · have hj1 : ¬ (j : Int) - 1 < t + 2 := by omega
                  have hj2 : (j : Int) ≤ 268435460 := by omega
                  go_wp2_with fail
                  go_roundw
                  case rel => exact ⟨m + 1, _, _, T', F', by omega, by go_num, HSE.out⟩
                  case measure => simp [intOf]; omega
            · have hkind' : 3 ≤ (wrap64 (z.tmod 5 + 5)).tmod 5 := by omega
              obtain ⟨e, T', F', hfr⟩ : ∃ e T' F', Ar.fr T F l = (e, T', F') := ⟨_, _, _, rfl⟩
              have hd0 : Below (wr.alloc (.cells #[.int .i64 z, .slice la l.length lc] 36)).heap.size (wr.alloc (.cells #[.int .i64 z, .slice la l.length lc] 36)) (wr.alloc (.cells #[.int .i64 z, .slice la l.length lc] 36)).drew := (Below.refl _ _).drew
              have c := side_free (HSX.out.below hd0) la lc l (HRX.out.below hd0) hlw hfr
              clear hd0
              clear hfr
              go_wp2_with fail
              go_region_law (first
                | (go_simp; (go_at_call 10; (with_reducible refine c.mono ?_); rintro e3 w3 ⟨rfl, hst3, c3⟩);
                   (have c4 := c3 0); (rw [show w3.drewN 0 = w3 from rfl] at c4); clear c3;
                   (have hcell3 : w3.cell? ⟨wr.heap.size, 1, none⟩ = some (.slice la l.length lc) := (hst3.cell (p := ⟨wr.heap.size, 1, none⟩) (by simp) hoA).trans ((cell_of (alloc_of (w := wr))).trans rfl)))
                | (go_simp; (go_at_call 16; (with_reducible refine c4.mono ?_); rintro e4 w4 ⟨rfl, A4, B4, hside4, _, _⟩)))
              all_goals
                clear c c4 hcell3 hst3
                have HSD := Lib.hid hside4
                obtain ⟨lv, hlv⟩ : ∃ lv, T'.length - F'.length = lv := ⟨_, rfl⟩
                obtain ⟨t, ht⟩ : ∃ t, T'.length = t := ⟨_, rfl⟩
                have HLV := Lib.hid hlv
                have HTL := Lib.hid ht
                have htm : t ≤ 268435456 := by have h1 := hside4.1.2.1.tm; have h2 := hside4.1.2.1.mx; omega
                obtain ⟨ta, tc, tb, td, htc, _⟩ := hside4.2.1.tlen
                rw [ht] at htc
                clear hlv ht hside4
                go_wp2_with fail
                go_quiet ((first
                  | (go_at_call 13; exact Calls.quiet_of (klive (n := lv) (HSD.out.1.drewN _) HLV.out))
                  | (go_at_call 17; exact Calls.quiet_of (rlive_n (n := lv) _ (HSD.out.2.1.drewN _) HSD.out.1.2.1 HLV.out))
                  | (go_at_call 18; exact Calls.quiet_of_same ((kmade (n := t) (HSD.out.1.drewN _) HTL.out).mono fun _ _ ⟨he, hw⟩ => ⟨he, hw.symm⟩))))
                have HSE := Lib.hid (HSD.out.drewN nq)
                have htc' : (w4.drewN nq).cell? ⟨h, 1, none⟩ = some (.slice ta t tc) := htc
                clear htc HSD
                generalize w4.drewN nq = w5 at *
                go_wp2_with fail
                go_loopw [13] (fun i wr => ∃ j : Nat, j ≤ t + 3 ∧ i = .int .i64 ((j : Int) - 1) ∧ wr = w5) (fun i _ => t + 3 - ((intOf i) + 1).toNat)
                case atStart => exact ⟨0, Nat.zero_le _, rfl, rfl⟩
                case round =>
                  obtain ⟨j, hjt, rfl, rfl⟩ := hrel
                  by_cases hj : j < t + 3
                  · have hj1 : (j : Int) - 1 < t + 2 := by omega
                    have hj2 : (j : Int) ≤ 268435460 := by omega
                    obtain ⟨k, hk⟩ : ∃ k, (j : Int) - 1 = k := ⟨_, rfl⟩
                    have HKJ := Lib.hid hk
                    rw [hk]
                    rw [hk] at hj1
                    have hk0 : -1 ≤ k := by omega
                    have hk1 : k ≤ 268435460 := by omega
                    clear hk
                    cases hx : Ar.is T' k with
                    | true =>
                      have c1 := kis HSE.out.1 k hx
                      have c2 := ris_n k _ HSE.out.2.1 HSE.out.1.2.1 hx
                      clear hx
                      go_wp2_with (first
                        | (go_at_call 11; (with_reducible refine c1.mono ?_); rintro e w6 ⟨rfl, rfl⟩)
                        | (go_at_call 19; (with_reducible refine c2.mono ?_); rintro e w6 ⟨rfl, rfl⟩))
                      go_roundw
                      case rel => exact ⟨j + 1, by omega, by have := HKJ.out; (first | (congr 1; omega) | go_num), (by first | rfl | trivial)⟩
                      case measure => simp [intOf]; have := HKJ.out; omega
                    | false =>
                      have c1 := kis HSE.out.1 k hx
                      have c2 := ris_n k _ HSE.out.2.1 HSE.out.1.2.1 hx
                      clear hx
                      go_wp2_with (first
                        | (go_at_call 11; (with_reducible refine c1.mono ?_); rintro e w6 ⟨rfl, rfl⟩)
                        | (go_at_call 19; (with_reducible refine c2.mono ?_); rintro e w6 ⟨rfl, rfl⟩))
                      go_roundw
                      case rel => exact ⟨j + 1, by omega, by have := HKJ.out; (first | (congr 1; omega) | go_num), (by first | rfl | trivial)⟩
                      case measure => simp [intOf]; have := HKJ.out; omega
                  · have hj1 : ¬ (j : Int) - 1 < t + 2 := by omega
                    have hj2 : (j : Int) ≤ 268435460 := by omega
                    go_wp2_with fail
                    go_roundw
                    case rel => exact ⟨m + 1, _, _, T', F', by omega, by go_num, HSE.out⟩
                    case measure => simp [intOf]; omega
        · have h1' : ¬ (m : Int) < len1 := by omega
          clear hs
          go_wp2_with (first
            | (go_at_call 12; refine (told_any _).mono ?_; rintro e w9 ⟨rfl, hb9⟩))
          go_ret
          exact ⟨rfl, (HS.out.1.below hb9).2.2⟩
end Go.Proofs.Ytfecmmnabhlkbaa
