/- ArenaFull: a contract of the walk. -/
import Derived.Test.YtfecmmnabhlkbaaL3Told
namespace Go.Proofs.Ytfecmmnabhlkbaa
open Go Go.RowKit Go.ChangeAt

theorem key_mod (k : Int) (m : Nat) (h0 : 0 < m) (hm : m < 9223372036854775808) : ∃ n : Nat, n < m ∧ RowKit.wrap64 ((IntKind.u64.wrap k).tmod m) = (n : Int) := by
  have h0' : 0 ≤ k % 18446744073709551616 := Int.emod_nonneg _ (by decide)
  have h2 : (k % 18446744073709551616).tmod m = k % 18446744073709551616 % m := Int.tmod_eq_emod_of_nonneg h0'
  rw [IntKind.wrap_u64, h2]
  have h3 : 0 ≤ k % 18446744073709551616 % m := Int.emod_nonneg _ (by omega)
  have h4 : k % 18446744073709551616 % m < m := Int.emod_lt_of_pos _ (by omega)
  refine ⟨(k % 18446744073709551616 % m).toNat, by omega, ?_⟩
  unfold RowKit.wrap64
  omega
/-- All of the first n numbers, taken one after the other. -/
def allT (n : Nat) : List Bool := List.replicate n true
theorem allT_len (n : Nat) : (allT n).length = n := List.length_replicate
theorem tk_all {n i : Nat} (h : i < n) : Ar.tk n (allT i) [] = ((i : Int), 0, allT (i + 1), []) := by
  rw [Ar.tk_new n (allT i) (by rw [allT_len]; exact h), allT_len]
  unfold allT
  rw [List.replicate_succ']
theorem tk_end (n : Nat) : Ar.tk n (allT n) [] = (-1, 3, allT n, []) := Ar.tk_full n (allT n) (by rw [allT_len]; omega)
theorem is_all {n : Nat} {k : Int} (h0 : 0 ≤ k) (h : k < n) : Ar.is (allT n) k = true := by
  refine Ar.is_of h0 ?_
  unfold allT
  rw [List.getD_eq_getElem?_getD, List.getElem?_replicate, if_pos (by omega)]
  rfl
theorem fr_one {T : List Bool} {F : List Int} {k : Int} (h : Ar.is T k = true) : Ar.fr T F [k] = (0, T.set k.toNat false, F ++ [k]) := by
  unfold Ar.fr
  rw [if_pos (by show (Ar.is T k && true) = true; rw [h]; rfl)]
  rfl

set_option maxRecDepth 100000 in
set_option maxHeartbeats 1600000 in
theorem full_w (most which : Int) (W : World) (_ : (Lit.int .i64 most).wf = true) (_ : (Lit.int .i64 which).wf = true) : Calls Try.prog 6 #[.int .i64 most, .int .i64 which] W fun e w' => e = .returned (.bool true) ∧ Below W.heap.size W w' := by
  obtain ⟨n, hn, hkey⟩ := key_mod most 301 (by decide) (by decide)
  have HKEY := Lib.hid hkey
  clear hkey
  go_enter Try.func6, Try.ntmps6
  go_wp2_with fail
  have e0 : (301 : Int) = ((301 : Nat) : Int) := rfl
  rw [e0, HKEY.out]
  clear HKEY e0
  have cnew := knew n W W (by omega) (Below.refl _ _)
  (with_reducible refine cnew.mono ?_)
  clear cnew
  rintro e w1 ⟨rfl, h1, _⟩
  obtain ⟨g, hg⟩ : ∃ g, W.heap.size = g := ⟨_, rfl⟩
  rw [hg] at h1 ⊢
  have HG := Lib.hid hg
  clear hg
  have H1 := Lib.hid h1
  clear h1
  go_wp2_with fail
  go_loopw [7, 8, 9] (fun i _ _ wr => ∃ (m : Nat) (A : Nat → Prop), m ≤ n ∧ i = .int .i64 m ∧ Kp W wr A g n (allT m) []) (fun i _ _ _ => n - (intOf i).toNat)
  case atStart => exact ⟨0, _, Nat.zero_le _, rfl, H1.out⟩
  case round =>
    obtain ⟨m, A, hmn, rfl, hk⟩ := hrel
    clear H1
    by_cases hlt : m < n
    · have h1' : (m : Int) < n := by omega
      have c := ktake hk (tk_all hlt)
      go_wp2_with (first
        | (go_at_call 9; (with_reducible refine c.mono ?_); rintro e w2 ⟨rfl, A2, h2, _, _⟩))
      clear c
      go_roundw
      case rel => exact ⟨m + 1, A2, hlt, by go_num, h2⟩
      case measure => simp [intOf]; omega
    · have hmn' : m = n := by omega
      subst hmn'
      have h1' : ¬ (m : Int) < m := by omega
      have c := ktake hk (tk_end m)
      by_cases h0 : m = 0
      · subst h0
        go_wp2_with (first
          | (go_at_call 9; (with_reducible refine c.mono ?_); clear c; rintro e w2 ⟨rfl, A2, h2, _, _⟩)
          | (go_at_call 12; (have c := told_any w2); (with_reducible refine c.mono ?_); clear c; rintro e w3 ⟨rfl, hb3⟩; (have h3 := h2.below hb3); clear h2 hb3)
          | (go_at_call 18; (have c := kmade (n := 0) h3 rfl); (with_reducible refine c.mono ?_); clear c; rintro e w4 ⟨rfl, rfl⟩))
        go_ret
        exact ⟨rfl, h3.2.2⟩
      · have hm0 : ¬ (m : Int) = 0 := by omega
        obtain ⟨q, hq, hkey⟩ := key_mod which m (by omega) (by omega)
        have HKEY := Lib.hid hkey
        clear hkey
        have hfr := fr_one (T := allT m) (F := []) (is_all (n := m) (k := (q : Int)) (by omega) (by omega))
        obtain ⟨T2, hT2⟩ : ∃ T2, (allT m).set ((q : Int)).toNat false = T2 := ⟨_, rfl⟩
        have hl2 : T2.length = m := by rw [← hT2, List.length_set, allT_len]
        rw [hT2] at hfr
        have htk := Ar.tk_snoc m T2 [] (q : Int)
        obtain ⟨T3, hT3⟩ : ∃ T3, T2.set ((q : Int)).toNat true = T3 := ⟨_, rfl⟩
        have hl3 : T3.length = m := by rw [← hT3, List.length_set, hl2]
        rw [hT3] at htk
        have HFR := Lib.hid hfr
        have HTK := Lib.hid htk
        have HL3 := Lib.hid hl3
        clear hT2 hT3 hl2 hl3 hfr htk
        go_wp2_with (first
          | (go_at_call 9; (with_reducible refine c.mono ?_); clear c; rintro e w2 ⟨rfl, A2, h2, _, _⟩))
        rw [HKEY.out]
        have c := kfree_new (n := 1) h2 [(q : Int)] #[.int .i64 q] rfl rfl (by simp [maxLen]) HFR.out
        (with_reducible refine c.mono ?_)
        clear c h2
        rintro e w3 ⟨rfl, A3, h3, _, _⟩
        go_wp2_with (first
          | (go_at_call 9; (have c := ktake h3 HTK.out); (with_reducible refine c.mono ?_); clear c; rintro e w4 ⟨rfl, A4, h4, _, _⟩; clear h3)
          | (go_at_call 12; (have c := told_any w4); (with_reducible refine c.mono ?_); clear c; rintro e w5 ⟨rfl, hb5⟩; (have h5 := h4.below hb5); clear h4 hb5)
          | (go_at_call 13; (have c := klive (n := m) h5 (by rw [HL3.out]; rfl)); (with_reducible refine c.mono ?_); clear c; rintro e w6 ⟨rfl, n6, hw6⟩; (have h6 := h5.drewN n6); (rw [← hw6] at h6); clear hw6 h5)
          | (go_at_call 18; (have c := kmade (n := m) h6 HL3.out); (with_reducible refine c.mono ?_); clear c; rintro e w7 ⟨rfl, rfl⟩))
        go_ret
        exact ⟨rfl, h6.2.2⟩
end Go.Proofs.Ytfecmmnabhlkbaa
