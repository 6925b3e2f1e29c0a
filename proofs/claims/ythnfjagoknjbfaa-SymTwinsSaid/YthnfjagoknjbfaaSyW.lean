/- Stage 6's statements as walks: SymLevels, SymPaths, SymTwins. -/
import Derived.Test.YthnfjagoknjbfaaSyT
namespace Go.Proofs.Ythnfjagoknjbfaa
open Go Go.RowKit Go.ChangeAt

theorem mod_any (k : Int) (m : Nat) (h0 : 0 < m) (h1 : m ≤ 1000000) : ∃ n : Nat, n < m ∧ RowKit.wrap64 ((IntKind.u64.wrap k).tmod m) = (n : Int) := by
  rw [IntKind.wrap_u64]
  have h2 : 0 ≤ k % 18446744073709551616 := Int.emod_nonneg _ (by decide)
  rw [Int.tmod_eq_emod_of_nonneg h2]
  generalize k % 18446744073709551616 = x at h2 ⊢
  have h3 : 0 ≤ x % (m : Int) := Int.emod_nonneg _ (by omega)
  have h4 : x % (m : Int) < m := Int.emod_lt_of_pos _ (by omega)
  refine ⟨(x % m).toNat, by omega, ?_⟩
  unfold RowKit.wrap64
  omega
theorem Sy.half {s l : Int} (h : 0 ≤ s ∧ s ≤ 256) (h' : 0 ≤ l ∧ l ≤ 8) : Sy.path s l = Sy.path s (l + 1) / 2 := by
  have := Sy.path_succ h h'
  split at this <;> omega
/-- Paths that are one at a level are one above it. -/
theorem Sy.above {x y : Nat} (hx : x ≤ 256) (hy : y ≤ 256) : ∀ {l : Nat}, l ≤ 9 → Sy.path x l = Sy.path y l → ∀ k, k ≤ l → Sy.path x k = Sy.path y k
  | 0, _, h, k, hk => by have : k = 0 := by omega
                         subst this; exact h
  | l + 1, hl, h, k, hk => by
    by_cases he : k = l + 1
    · subst he; exact h
    · refine Sy.above hx hy (l := l) (by omega) ?_ k (by omega)
      rw [Sy.half (by omega) (by omega), Sy.half (s := (y : Int)) (by omega) (by omega)]
      have e : ((l + 1 : Nat) : Int) = (l : Int) + 1 := by omega
      rw [e] at h
      rw [h]
theorem Sy.bit_eq {x y l : Nat} (hx : x ≤ 256) (hy : y ≤ 256) (hl : l ≤ 8) (h : Sy.path x (l + 1 : Nat) = Sy.path y (l + 1 : Nat)) : Sy.bit x l = Sy.bit y l := by
  rw [Sy.bit_of (by omega) (by omega), Sy.bit_of (by omega) (by omega)]
  have e : ((l + 1 : Nat) : Int) = (l : Int) + 1 := by omega
  rw [e] at h
  rw [h]
/-- Where the paths part first the greater one has the 1. -/
theorem Sy.part {x y l : Nat} (hx : x ≤ 256) (hy : y ≤ 256) (hl : l ≤ 8) (h : Sy.path x l = Sy.path y l) (hb : Sy.bit x l ≠ Sy.bit y l) : Sy.bit x l = decide (y < x) := by
  have h1 := Sy.path_succ (s := x) (l := l) (by omega) (by omega)
  have h2 := Sy.path_succ (s := y) (l := l) (by omega) (by omega)
  rw [Sy.path_of (by omega) (by omega)] at h1 h2
  have key : ∀ a b : Nat, a ≤ b → (a : Int) / 2 ^ (9 - ((l : Int) + 1)).toNat ≤ (b : Int) / 2 ^ (9 - ((l : Int) + 1)).toNat := fun a b hab =>
    Int.ediv_le_ediv (Int.pow_pos (by decide)) (by omega)
  by_cases hlt : y < x
  · have := key y x (by omega)
    rw [decide_eq_true hlt]
    cases hbx : Sy.bit x l
    · have hby : Sy.bit y l = true := by
        cases hy : Sy.bit y l
        · rw [hbx, hy] at hb; exact absurd rfl hb
        · rfl
      rw [hbx] at h1; rw [hby] at h2
      simp at h1 h2
      omega
    · rfl
  · have := key x y (by omega)
    rw [decide_eq_false hlt]
    cases hbx : Sy.bit x l
    · rfl
    · have hby : Sy.bit y l = false := by
        cases hy : Sy.bit y l
        · rfl
        · rw [hbx, hy] at hb; exact absurd rfl hb
      rw [hbx] at h1; rw [hby] at h2
      simp at h1 h2
      omega
theorem Sy.path_succ' {x l : Nat} (hx : x ≤ 256) (hl : l ≤ 8) (b : Bool) (hb : Sy.bit x l = b) : Sy.path x (l + 1 : Nat) = 2 * Sy.path x l + (if b = true then 1 else 0) := by
  have := Sy.path_succ (s := x) (l := l) (by omega) (by omega)
  rw [hb] at this
  rw [← this]
  rfl
theorem Sy.nine {x : Nat} (hx : x ≤ 256) : Sy.path x (9 : Nat) = x := Sy.path_nine (s := x) (by omega)

set_option maxHeartbeats 800000 in
theorem symlevels_w (a b c : Int) (W : World) (_ : (Lit.int .i64 a).wf = true) (_ : (Lit.int .i64 b).wf = true) (_ : (Lit.int .i64 c).wf = true) :
    Calls Try.prog 3 #[.int .i64 a, .int .i64 b, .int .i64 c] W fun e w' => e = .returned (.bool true) ∧ Below W.heap.size W w' := by
  obtain ⟨x, hx, en1⟩ := mod_any a 257 (by decide) (by decide)
  change RowKit.wrap64 ((IntKind.u64.wrap a).tmod 257) = _ at en1
  obtain ⟨y, hy, en2⟩ := mod_any b 257 (by decide) (by decide)
  change RowKit.wrap64 ((IntKind.u64.wrap b).tmod 257) = _ at en2
  obtain ⟨l, hl, en3⟩ := mod_any c 10 (by decide) (by decide)
  change RowKit.wrap64 ((IntKind.u64.wrap c).tmod 10) = _ at en3
  by_cases hne : Sy.path x l = Sy.path y l
  · have hab := Lib.hid (Sy.above (x := x) (y := y) (by omega) (by omega) (l := l) (by omega) hne)
    have hbe := Lib.hid (fun k (hk : k < l) => Sy.bit_eq (x := x) (y := y) (l := k) (by omega) (by omega) (by omega) (hab.out (k + 1) (by omega)))
    have h9 : l < 9 ∨ x = y := by
      by_cases h : l < 9
      · exact .inl h
      · have : l = 9 := by omega
        subst this
        rw [Sy.nine (by omega), Sy.nine (by omega)] at hne
        right; omega
    obtain ⟨p, hp⟩ : ∃ p, Sy.path y l = p := ⟨_, rfl⟩
    have HP := Lib.hid hp
    have HN := Lib.hid (hne.trans hp)
    clear hp hne
    go_enter Try.func3, Try.ntmps3
    go_wp2_with fail
    refine (spath_is _ _ p _ (by exact HN.out)).mono ?_; rintro e w' ⟨rfl, rfl⟩
    go_wp2_with fail
    refine (spath_is _ _ p _ (by exact HP.out)).mono ?_; rintro e w' ⟨rfl, rfl⟩
    go_wp2_with fail
    go_loop [10] (fun i => ∃ k : Nat, k ≤ l ∧ i = .int .i64 k) (fun i => l - (intOf i).toNat)
    case atStart => exact ⟨0, Nat.zero_le _, rfl⟩
    case round =>
      obtain ⟨k, hk, rfl⟩ := hrel
      by_cases hlt : k < l
      · have hlt' : (k : Int) < l := by omega
        obtain ⟨q, hq⟩ : ∃ q, Sy.path y k = q := ⟨_, rfl⟩
        obtain ⟨t, ht⟩ : ∃ t, Sy.bit y k = t := ⟨_, rfl⟩
        have k1 := spath_is x k q W ((hab.out k (by omega)).trans hq)
        have k2 := spath_is y k q W hq
        have k3 := sbit_is x k t W ((hbe.out k hlt).trans ht)
        have k4 := sbit_is y k t W ht
        have ht2 : (t == t) = true := by cases t <;> rfl
        clear hq ht
        go_wp2_with fail
        (with_reducible refine k1.mono ?_); rintro e w' ⟨rfl, rfl⟩
        go_wp2_with fail
        (with_reducible refine k2.mono ?_); rintro e w' ⟨rfl, rfl⟩
        go_wp2_with fail
        (with_reducible refine k3.mono ?_); rintro e w' ⟨rfl, rfl⟩
        go_wp2_with fail
        (with_reducible refine k4.mono ?_); rintro e w' ⟨rfl, rfl⟩
        clear k1 k2 k3 k4
        go_wp2_with fail
        go_round
        case rel => exact ⟨k + 1, by omega, by go_num⟩
        case measure => simp [intOf]; omega
      · have hlt' : ¬ (k : Int) < l := by omega
        by_cases h8 : l < 9
        · have h8' : (l : Int) < 9 := by omega
          go_wp2_with fail
          refine (told_any _).mono ?_; rintro e w1 ⟨rfl, h1⟩
          go_wp2_with fail
          go_ret
          exact ⟨rfl, h1⟩
        · have hxy : x = y := by omega
          subst hxy
          have h8' : ¬ (l : Int) < 9 := by omega
          go_wp2_with fail
          refine (told_any _).mono ?_; rintro e w1 ⟨rfl, h1⟩
          go_wp2_with fail
          go_ret
          exact ⟨rfl, h1⟩
  · have hxy : ¬ (x : Int) = y := fun h => hne (by rw [h])
    have HP := Lib.hid hne
    go_enter Try.func3, Try.ntmps3
    go_wp2_with fail
    refine (spath _ _ _).mono ?_; rintro e w' ⟨rfl, rfl⟩
    go_wp2_with fail
    refine (spath _ _ _).mono ?_; rintro e w' ⟨rfl, rfl⟩
    go_wp2_with fail
    refine (told_any _).mono ?_; rintro e w1 ⟨rfl, h1⟩
    go_wp2_with fail
    go_ret
    exact ⟨congrArg (fun b => Ending.returned (Value.bool b)) (show ((x : Int) != (y : Int)) = true by simpa using hxy), h1⟩

theorem sympaths_w (a : Int) (W : World) (_ : (Lit.int .i64 a).wf = true) :
    Calls Try.prog 5 #[.int .i64 a] W fun e w' => e = .returned (.bool true) ∧ Below W.heap.size W w' := by
  obtain ⟨x, hx, en1⟩ := mod_any a 257 (by decide) (by decide)
  change RowKit.wrap64 ((IntKind.u64.wrap a).tmod 257) = _ at en1
  have h9 := Lib.hid (Sy.nine (x := x) (by omega))
  have h10 := Lib.hid (Sy.path_none (s := x) (l := 10) (by omega))
  have hb9 := Lib.hid (Sy.bit_none (s := x) (l := 9) (by omega))
  go_enter Try.func5, Try.ntmps5
  go_wp2_with fail
  rw [en1]
  clear en1
  go_loop [4, 5] (fun p i => ∃ k : Nat, k ≤ 9 ∧ i = .int .i64 k ∧ p = .int .i64 (Sy.path x k)) (fun _ i => 9 - (intOf i).toNat)
  case atStart => exact ⟨0, Nat.zero_le _, rfl, by rw [show Sy.path x (0 : Nat) = 0 from Sy.path_zero (by omega)]⟩
  case round =>
    obtain ⟨k, hk, rfl, rfl⟩ := hrel
    obtain ⟨p, hp⟩ : ∃ p, Sy.path x k = p := ⟨_, rfl⟩
    by_cases hlt : k < 9
    · have hlt' : (k : Int) < 9 := by omega
      obtain ⟨t, ht⟩ : ∃ t, Sy.bit x k = t := ⟨_, rfl⟩
      have k1 := spath_is x k p W hp
      have k2 := sbit_is x k t W ht
      have hs := Lib.hid (Sy.path_succ' (x := x) (l := k) (by omega) (by omega) t ht)
      have HP := Lib.hid hp
      have hr := Sy.path_rng x k
      rw [hp] at hr ⊢
      clear hp ht
      cases t
      all_goals
        go_wp2_with fail
        (with_reducible refine k1.mono ?_); rintro e w' ⟨rfl, rfl⟩
        go_wp2_with fail
        (with_reducible refine k2.mono ?_); rintro e w' ⟨rfl, rfl⟩
        clear k1 k2
        go_wp2_with fail
        go_round
        case rel => exact ⟨k + 1, by omega, by go_num, by rw [hs.out, HP.out]; simp⟩
        case measure => simp [intOf]; omega
    · have h : k = 9 := by omega
      subst h
      rw [h9.out]
      have hlt' : ¬ ((9 : Nat) : Int) < 9 := by omega
      clear hp
      go_wp2_with fail
      refine (told_any _).mono ?_; rintro e w1 ⟨rfl, h1⟩
      go_wp2_with fail
      refine (spath_is x 9 x _ (by exact h9.out)).mono ?_; rintro e w' ⟨rfl, rfl⟩
      go_wp2_with fail
      refine (spath_is x 10 (-1) _ (by exact h10.out)).mono ?_; rintro e w' ⟨rfl, rfl⟩
      go_wp2_with fail
      refine (sbit_is x 9 false _ (by exact hb9.out)).mono ?_; rintro e w' ⟨rfl, rfl⟩
      go_wp2_with fail
      go_ret
      exact ⟨rfl, h1⟩

set_option maxHeartbeats 800000 in
theorem symtwins_w (a b : Int) (W : World) (_ : (Lit.int .i64 a).wf = true) (_ : (Lit.int .i64 b).wf = true) :
    Calls Try.prog 8 #[.int .i64 a, .int .i64 b] W fun e w' => e = .returned (.bool true) ∧ Below W.heap.size W w' := by
  obtain ⟨x, hx, en1⟩ := mod_any a 257 (by decide) (by decide)
  change RowKit.wrap64 ((IntKind.u64.wrap a).tmod 257) = _ at en1
  obtain ⟨y, hy, en2⟩ := mod_any b 257 (by decide) (by decide)
  change RowKit.wrap64 ((IntKind.u64.wrap b).tmod 257) = _ at en2
  go_enter Try.func8, Try.ntmps8
  go_wp2_with fail
  rw [en1, en2]
  clear en1 en2
  go_loop [7] (fun i => ∃ k : Nat, k ≤ 9 ∧ i = .int .i64 k ∧ Sy.path x k = Sy.path y k) (fun i => 9 - (intOf i).toNat)
  case atStart => exact ⟨0, Nat.zero_le _, rfl, by rw [show Sy.path x (0 : Nat) = 0 from Sy.path_zero (by omega), show Sy.path y (0 : Nat) = 0 from Sy.path_zero (by omega)]⟩
  case round =>
    obtain ⟨k, hk, rfl, hpp⟩ := hrel
    by_cases hlt : k < 9
    · have hlt' : (k : Int) < 9 := by omega
      obtain ⟨p, hp⟩ : ∃ p, Sy.path x k = p := ⟨_, rfl⟩
      have k1 := spath_is x k p W hp
      have k2 := spath_is y k p W (hpp ▸ hp)
      by_cases hbb : Sy.bit x k = Sy.bit y k
      · obtain ⟨t, ht⟩ : ∃ t, Sy.bit x k = t := ⟨_, rfl⟩
        have k3 := sbit_is x k t W ht
        have k4 := sbit_is y k t W (hbb ▸ ht)
        have hnx : Hid (Sy.path x (k + 1 : Nat) = Sy.path y (k + 1 : Nat)) := Lib.hid (by
          rw [Sy.path_succ' (by omega) (by omega) t ht, Sy.path_succ' (by omega) (by omega) t (hbb ▸ ht), hpp])
        have ht2 : (t == t) = true := by cases t <;> rfl
        clear hp ht hbb hpp
        go_wp2_with fail
        (with_reducible refine k1.mono ?_); rintro e w' ⟨rfl, rfl⟩
        go_wp2_with fail
        (with_reducible refine k2.mono ?_); rintro e w' ⟨rfl, rfl⟩
        go_wp2_with fail
        (with_reducible refine k3.mono ?_); rintro e w' ⟨rfl, rfl⟩
        go_wp2_with fail
        (with_reducible refine k4.mono ?_); rintro e w' ⟨rfl, rfl⟩
        clear k1 k2 k3 k4
        go_wp2_with fail
        go_round
        case rel => exact ⟨k + 1, by omega, by go_num, hnx.out⟩
        case measure => simp [intOf]; omega
      · have hpart := Sy.part (x := x) (y := y) (l := k) (by omega) (by omega) (by omega) hpp hbb
        obtain ⟨t, ht⟩ : ∃ t, decide (y < x) = t := ⟨_, rfl⟩
        rw [ht] at hpart
        have hy2 : Sy.bit y k = !t := by
          rw [hpart] at hbb
          cases t <;> cases hq : Sy.bit y k <;> simp_all
        have k3 := sbit_is x k t W hpart
        have k4 := sbit_is y k (!t) W hy2
        have k5 := fun w => sbit_is x k t w hpart
        have hlt2 : decide ((y : Int) < x) = t := by rw [← ht]; simp
        have hlt3 := ht
        clear hp ht hbb hpp hpart hy2
        cases t
        all_goals
          simp only [decide_eq_true_eq, decide_eq_false_iff_not] at hlt2 hlt3
          go_wp2_with fail
          (with_reducible refine k1.mono ?_); rintro e w' ⟨rfl, rfl⟩
          go_wp2_with fail
          (with_reducible refine k2.mono ?_); rintro e w' ⟨rfl, rfl⟩
          go_wp2_with fail
          (with_reducible refine k3.mono ?_); rintro e w' ⟨rfl, rfl⟩
          go_wp2_with fail
          (with_reducible refine k4.mono ?_); rintro e w' ⟨rfl, rfl⟩
          clear k1 k2 k3 k4
          go_wp2_with fail
          refine (told_any _).mono ?_; rintro e w1 ⟨rfl, h1⟩
          go_wp2_with fail
          refine (k5 _).mono ?_; rintro e w' ⟨rfl, rfl⟩
          go_wp2_with fail
          go_ret
          exact ⟨congrArg (fun b => Ending.returned (Value.bool b)) (by first | simp | simp [hlt3]), h1⟩
    · have h : k = 9 := by omega
      subst h
      rw [Sy.nine (by omega), Sy.nine (by omega)] at hpp
      have hxy : x = y := by omega
      subst hxy
      clear hpp
      have hlt' : ¬ ((9 : Nat) : Int) < 9 := by omega
      go_wp2_with fail
      refine (told_any _).mono ?_; rintro e w1 ⟨rfl, h1⟩
      go_wp2_with fail
      go_ret
      exact ⟨rfl, h1⟩
end Go.Proofs.Ythnfjagoknjbfaa
