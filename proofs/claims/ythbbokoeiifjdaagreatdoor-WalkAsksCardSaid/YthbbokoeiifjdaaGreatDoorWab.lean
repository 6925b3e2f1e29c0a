/- Get of a wave: down the nodes of the symbol that stands there. Rank of a wave: down the nodes of a symbol. Select of a wave: down the nodes of a symbol, and up again. -/
import Derived.Test.YthbbokoeiifjdaaGreatDoorWaa
import Derived.Deep.QuietTactic
import Derived.BigQuiet
namespace Go.Proofs.YthbbokoeiifjdaaGreatDoor
open Go Go.RowKit Go.ChangeAt Tr

theorem key_nine {w : World} {x : Wx} {m : List Int} (h : Wav w x m) (s : Int) : x.N (Wk.key s 9) = none :=
  (h.stands_not (Wk.wq_out m (by unfold Wk.key; omega))).2
set_option maxHeartbeats 3200000 in
set_option maxRecDepth 100000 in
theorem Wav.get {w : World} {x : Wx} {m : List Int} (h : Wav w x m) (n : Nat) (hn : n < m.length) (hm : m.length ≤ 1000000) :
    Calls Tryz.prog 34 #[.pointer (some ⟨x.t, 0, none⟩), .int .i64 n] w fun e w' => e = .returned (.tuple #[.int .i64 (m.getD n 0), .int .i64 0]) ∧ ∃ F' v', Red w w' x m F' v' ∧ v' ≤ 9 * (2 * hiF x.F + 2) := by
  have hg := h.good.at hn
  obtain ⟨s0, hs0⟩ : ∃ s, m.getD n 0 = s := ⟨_, rfl⟩
  rw [hs0] at hg ⊢
  obtain ⟨hZ, hR⟩ := h.zero
  have f1 : w.frozen? ⟨x.t, 1, none⟩ = false := free_of h.web.top
  have c1 : w.cell? ⟨x.t, 1, none⟩ = some (.int .i64 x.v) := (cell_of h.web.top).trans rfl
  have key := hZ.len
  have hni : (n : Int) < m.length := by omega
  have hne : Wk.wb m 1 ≠ [] := fun e => by have := Wk.wb_top h.good; rw [e] at this; simp at this; omega
  obtain ⟨e1, b1, he1, _, hb1⟩ := hZ.stands (k := 1) (by decide) hne
  have q0 : (w.setCell ⟨x.t, 1, none⟩ (.int .i64 0)).cell? ⟨x.t, 0, none⟩ = some (.pointer (some ⟨b1, 0, none⟩)) := ((cell_of hZ.web.top).trans rfl).trans (by show some (pn (x.N 1)) = _; rw [show x.N 1 = some b1 from hb1]; rfl)
  have hmi : (m.length : Int) ≤ 1000000 := by omega
  have d1 : decide ((n : Int) < 0) = false := decide_eq_false (by omega)
  have d2 : decide (m.length ≤ n) = false := decide_eq_false (by omega)
  have d3 : decide ((m.length : Int) ≤ (n : Int)) = false := decide_eq_false (by omega)
  have HB1 := Lib.hid (show x.N 1 = some b1 from hb1)
  have HH := Lib.hid h
  have HR := Lib.hid hR
  have HS0 := Lib.hid hs0
  have HN := Lib.hid hn
  have HHI := Lib.hid (Nat.le_trans h.hi_le hm)
  clear hZ hR h hb1 he1 hne hs0
  go_enter Tryz.func34, Tryz.ntmps34
  go_wp2_with fail
  (with_reducible refine key.mono ?_); rintro e w1 ⟨rfl, hw1⟩
  rw [hw1] at q0 HR
  clear key hw1 f1 c1
  go_wp2_with fail
  go_loopg [1, 6, 7] 9 (fun g s1 s6 s7 wr => ∃ (v : Nat) (F' : For) (v' : Nat), g = 9 - v ∧ v ≤ 9 ∧ s1 = .int .i64 (Wv.pos m v (Sy.path s0 v) n : Nat) ∧ s6 = .int .i64 (Sy.path s0 v) ∧ s7 = pn (x.N (Wk.key s0 v)) ∧ Rdw w x wr F' v' ∧ v' ≤ v * (2 * hiF x.F + 2))
  case atStart =>
    refine ⟨0, x.F, 0, rfl, by omega, ?_, ?_, ?_, HR.out, Nat.zero_le _⟩
    · rw [show ((0 : Nat) : Int) = 0 from rfl, Sy.path_zero hg, Wv.pos_zero HH.out.good (by omega)]
    · rw [show ((0 : Nat) : Int) = 0 from rfl, Sy.path_zero hg]
    · rw [Wk.key_zero hg, HB1.out]; rfl
  case round =>
    clear HR
    obtain ⟨v, F', v', rfl, hv9, rfl, rfl, rfl, hR, hvv⟩ := hrel
    by_cases h9 : v = 9
    · subst h9
      rw [key_nine HH.out, pn_none]
      have hp9 : Sy.path s0 (9 : Nat) = s0 := Sy.path_nine hg
      rw [hp9]
      have HR := Lib.hid hR
      have HV := Lib.hid hvv
      clear hR hvv
      go_wp2_with fail
      go_ret2
      exact ⟨rfl, F', v', HH.out.red HR.out, HV.out⟩
    · have hv8 : v ≤ 8 := by omega
      have hkr := Wk.key_rng hg hv8
      have hba := Wv.bits_at (v := v) HN.out
      rw [HS0.out, ← Wk.wb_key m hg (by omega)] at hba
      have hne : Wk.wb m (Wk.key s0 v) ≠ [] := fun e => by rw [e] at hba; exact absurd hba.1 (by simp)
      obtain ⟨b, f, hN⟩ := hR.node HH.out hkr hne
      have hrk : Blk.rk (Sy.bit s0 v) (Wk.wb m (Wk.key s0 v)) (Wv.pos m v (Sy.path s0 v) n) = Wv.pos m (v + 1) (Sy.path s0 (v + 1 : Nat)) n := by
        rw [Wk.wb_key m hg (by omega), Wv.rk_pos HH.out.good hv8, Wv.path_nxt hg hv8]
      have hks := Wk.key_succ hg hv8
      have hpn := Wv.path_nxt hg hv8
      have hp0 := Wk.path_nn hg (v := v) (by omega)
      have hp1 := (Sy.path_rng s0 v).2
      obtain ⟨y2, hy2⟩ : ∃ y, Sy.path s0 (v + 1 : Nat) = y := ⟨_, rfl⟩
      rw [hy2] at hpn hrk
      obtain ⟨y, hy⟩ : ∃ y, Sy.path s0 (v : Nat) = y := ⟨_, rfl⟩
      rw [hy] at hba hrk hpn hp0 hp1 ⊢
      obtain ⟨p, hp⟩ : ∃ p, Wv.pos m v y n = p := ⟨_, rfl⟩
      obtain ⟨p2, hp2⟩ : ∃ p2, Wv.pos m (v + 1) y2 n = p2 := ⟨_, rfl⟩
      rw [hp] at hba hrk ⊢
      rw [hp2] at hrk
      obtain ⟨c, hc⟩ : ∃ c, Sy.bit s0 v = c := ⟨_, rfl⟩
      rw [hc] at hba hrk hks hpn
      obtain ⟨kk, hkk⟩ : ∃ k, Wk.key s0 v = k := ⟨_, rfl⟩
      rw [hkk] at hba hrk hks hkr hN ⊢
      rw [hN.N, pn_some]
      have hml := Wk.wb_len m kk
      rw [← hN.m] at hba hrk hml
      have hpl : place f.m.length p = p := by unfold place; omega
      have keyG := kget_at (p : Int) c 0 wr hN.nd.tre (by omega) (by unfold Blk.getB; rw [if_pos (by omega), Int.toNat_natCast]; exact hba.2) (by unfold Blk.getE; rw [if_pos (by omega)])
      have hfht := hN.nd.tre.2.ht
      have hhi := hN.ht
      have c0 := hN.nd.c0
      have hvb : v' ≤ 40000000 := by
        have h9' : v * (2 * hiF x.F + 2) ≤ 9 * (2 * hiF x.F + 2) := Nat.mul_le_mul_right _ hv9
        have := HHI.out
        omega
      have HR := Lib.hid hR
      have HV := Lib.hid hvv
      have HAT := Lib.hid hN.at'
      have HNb := Lib.hid hN.N
      obtain ⟨e0, he0⟩ := hN.F
      have HF := Lib.hid he0
      have HRK := Lib.hid (show (Blk.rk c f.m (place f.m.length (p : Int)) : Int) = p2 by rw [hpl, hrk])
      have HKS := Lib.hid hks
      have HP := Lib.hid hp2
      have HY := Lib.hid hy2
      clear hR hvv hks hN he0 hrk hba hpl hp hp2 hy hy2 hc hne hkr
      rcases c with _ | _
      · go_wp2_with fail
        (with_reducible refine keyG.mono ?_); rintro e w2 ⟨rfl, u1, hT, _, hu1, hs1⟩
        have hR1 := HR.out.read HF.out HAT.out hT hs1
        have keyL := wlook (e := f.see u1) hR1.web HNb.out (For.put_at _ _ _) (by omega) (by show u1 ≤ _; omega)
        have HR1 := Lib.hid hR1
        clear hT hs1 hR1 keyG c0
        go_wp2_with fail
        (with_reducible refine keyL.mono ?_); rintro e w3 ⟨rfl, hW, hs⟩
        have hR2 := HR1.out.look hW hs
        have keyR := wrank (e := f.see u1) p false p2 hR2.web HNb.out (For.put_at _ _ _) (by show f.m.length ≤ _; omega) (by show v' + u1 ≤ _; omega) HRK.out
        have HR2 := Lib.hid hR2
        clear hW hs hR2 keyL
        go_wp2_with fail
        (with_reducible refine keyR.mono ?_); rintro e w4 ⟨rfl, u2, hu2, hW, hs⟩
        have hR3 := HR2.out.rank HF.out (For.put_at _ _ _) hW hs
        have hc := (hR3.web.nods.nd HNb.out (For.put_at _ _ _)).c1
        have HR3 := Lib.hid hR3
        clear hW hs hR3 keyR
        go_wp2_with (first | (go_at_call 53; (refine (wside_f _).mono ?_); rintro e w5 ⟨rfl, rfl⟩))
        go_quiet (first | (go_at_call 53; refine Calls.quiet_of_same (qside_f _)))
        go_wp2_with fail
        go_roundg (8 - v)
        case measure => omega
        case rel => exact ⟨v + 1, _, _, by omega, by omega, by rw [HY.out, HP.out], by rw [HY.out, hpn]; unfold Wv.nxt; simp, by rw [HKS.out]; rfl, HR3.out.drewN _, by have := HV.out; have e2 : u2 ≤ f.S.rt.ht + 1 := hu2; show v' + u1 + u2 ≤ _; rw [Nat.succ_mul]; omega⟩
      · go_wp2_with fail
        (with_reducible refine keyG.mono ?_); rintro e w2 ⟨rfl, u1, hT, _, hu1, hs1⟩
        have hR1 := HR.out.read HF.out HAT.out hT hs1
        have keyL := wlook (e := f.see u1) hR1.web HNb.out (For.put_at _ _ _) (by omega) (by show u1 ≤ _; omega)
        have HR1 := Lib.hid hR1
        clear hT hs1 hR1 keyG c0
        go_wp2_with fail
        (with_reducible refine keyL.mono ?_); rintro e w3 ⟨rfl, hW, hs⟩
        have hR2 := HR1.out.look hW hs
        have keyR := wrank (e := f.see u1) p true p2 hR2.web HNb.out (For.put_at _ _ _) (by show f.m.length ≤ _; omega) (by show v' + u1 ≤ _; omega) HRK.out
        have HR2 := Lib.hid hR2
        clear hW hs hR2 keyL
        go_wp2_with fail
        (with_reducible refine keyR.mono ?_); rintro e w4 ⟨rfl, u2, hu2, hW, hs⟩
        have hR3 := HR2.out.rank HF.out (For.put_at _ _ _) hW hs
        have hc := (hR3.web.nods.nd HNb.out (For.put_at _ _ _)).c2
        have HR3 := Lib.hid hR3
        clear hW hs hR3 keyR
        go_wp2_with (first | (go_at_call 53; (refine (wside_t _).mono ?_); rintro e w5 ⟨rfl, rfl⟩))
        go_quiet (first | (go_at_call 53; refine Calls.quiet_of_same (qside_t _)))
        go_wp2_with fail
        go_roundg (8 - v)
        case measure => omega
        case rel => exact ⟨v + 1, _, _, by omega, by omega, by rw [HY.out, HP.out], by rw [HY.out, hpn]; unfold Wv.nxt; simp, by rw [HKS.out]; rfl, HR3.out.drewN _, by have := HV.out; have e2 : u2 ≤ f.S.rt.ht + 1 := hu2; show v' + u1 + u2 ≤ _; rw [Nat.succ_mul]; omega⟩
end Go.Proofs.YthbbokoeiifjdaaGreatDoor
namespace Go.Proofs.YthbbokoeiifjdaaGreatDoor
open Go Go.RowKit Go.ChangeAt Tr

namespace Wk
/-- Of a place on a level no more are left further down. -/
theorem pos_down {m : List Int} (h : Wv.Good m) {s : Int} (hs : 0 ≤ s ∧ s ≤ 256) (n : Nat) : ∀ (d v : Nat), v + d = 9 → Wv.rk m n s ≤ Wv.pos m v (Sy.path s v) n
  | 0, v, e => by
    obtain rfl : v = 9 := by omega
    have hp9 : Sy.path s (9 : Nat) = s := Sy.path_nine hs
    rw [Wv.rk_nine h, hp9]
    exact Nat.le_refl _
  | d + 1, v, e => by
    have h1 := pos_down h hs n d (v + 1) (by omega)
    have h2 := Wv.path_nxt hs (v := v) (by omega)
    rw [h2] at h1
    have h3 := Wv.rk_pos h (v := v) (by omega) (Sy.path s v) (Sy.bit s v) n
    have h4 : Blk.rk (Sy.bit s v) (Wv.bits m v (Sy.path s v)) (Wv.pos m v (Sy.path s v) n) ≤ Wv.pos m v (Sy.path s v) n := by
      unfold Blk.rk
      exact Nat.le_trans List.count_le_length (List.length_take_le _ _)
    omega
theorem rk_none {m : List Int} (h : Wv.Good m) {s : Int} (hs : ¬ (0 ≤ s ∧ s ≤ 256)) (n : Nat) : Wv.rk m n s = 0 := by
  unfold Wv.rk
  exact List.count_eq_zero.2 fun hm => hs (h s (List.mem_of_mem_take hm))
theorem rk_min (m : List Int) (n : Nat) (s : Int) : Wv.rk m (min n m.length) s = Wv.rk m n s := by
  unfold Wv.rk
  congr 1
  by_cases h : n ≤ m.length
  · rw [Nat.min_eq_left h]
  · rw [Nat.min_eq_right (by omega), List.take_length, List.take_of_length_le (by omega)]
end Wk
/-- The parts of Rank: no symbol; a place that isn't above 0; a place. -/
theorem Wav.rank_none {w : World} {x : Wx} {m : List Int} (h : Wav w x m) (k s : Int) (hs : ¬ (0 ≤ s ∧ s ≤ 256)) :
    Calls Tryz.prog 46 #[.pointer (some ⟨x.t, 0, none⟩), .int .i64 k, .int .i64 s] w fun e w' => e = .returned (.int .i64 (Wv.rk m k.toNat s)) ∧ ∃ F' v', Red w w' x m F' v' := by
  rw [Wk.rk_none h.good hs]
  obtain ⟨hZ, hR⟩ := h.zero
  have f1 : w.frozen? ⟨x.t, 1, none⟩ = false := free_of h.web.top
  have c1 : w.cell? ⟨x.t, 1, none⟩ = some (.int .i64 x.v) := (cell_of h.web.top).trans rfl
  have key := wsym_no (w.setCell ⟨x.t, 1, none⟩ (.int .i64 0)) hs
  have HZ := Lib.hid h
  have HR := Lib.hid hR
  clear h hZ hR
  go_enter Tryz.func46, Tryz.ntmps46
  go_wp2_with fail
  (with_reducible refine key.mono ?_); rintro e w1 ⟨rfl, rfl⟩
  go_wp2_with fail
  go_ret
  exact ⟨rfl, x.F, 0, HZ.out.red HR.out⟩
theorem Wav.rank_low {w : World} {x : Wx} {m : List Int} (h : Wav w x m) (k s : Int) (hs : 0 ≤ s ∧ s ≤ 256) (hk : k ≤ 0) :
    Calls Tryz.prog 46 #[.pointer (some ⟨x.t, 0, none⟩), .int .i64 k, .int .i64 s] w fun e w' => e = .returned (.int .i64 (Wv.rk m k.toNat s)) ∧ ∃ F' v', Red w w' x m F' v' := by
  have e0 : Wv.rk m k.toNat s = 0 := by
    rw [show k.toNat = 0 by omega]
    unfold Wv.rk; rw [List.take_zero]; rfl
  rw [e0]
  obtain ⟨hZ, hR⟩ := h.zero
  have f1 : w.frozen? ⟨x.t, 1, none⟩ = false := free_of h.web.top
  have c1 : w.cell? ⟨x.t, 1, none⟩ = some (.int .i64 x.v) := (cell_of h.web.top).trans rfl
  have key := wsym_yes (w.setCell ⟨x.t, 1, none⟩ (.int .i64 0)) hs
  have keyL := hZ.len
  have q0 : (w.setCell ⟨x.t, 1, none⟩ (.int .i64 0)).cell? ⟨x.t, 0, none⟩ = some (pn (x.N 1)) := (cell_of hZ.web.top).trans rfl
  have hmn : min k (m.length : Int) = k := by omega
  have hgt : ¬ (0 : Int) < k := by omega
  have dgt : decide ((0 : Int) < k) = false := decide_eq_false hgt
  have hmx : max k (0 : Int) = 0 := by omega
  have HZ := Lib.hid h
  have HR := Lib.hid hR
  clear h hZ hR e0
  go_enter Tryz.func46, Tryz.ntmps46
  go_wp2_with fail
  (with_reducible refine key.mono ?_); rintro e w1 ⟨rfl, hw1⟩
  rw [hw1] at keyL q0 HR
  clear hw1
  go_wp2_with fail
  (with_reducible refine keyL.mono ?_); rintro e w2 ⟨rfl, rfl⟩
  go_wp2_with fail
  go_loopg [1, 7, 8] 0 (fun g s1 _ s8 wr => g = 0 ∧ s1 = .int .i64 k ∧ s8 = .int .i64 0 ∧ Rdw w x wr x.F 0)
  case atStart => exact ⟨rfl, rfl, rfl, HR.out⟩
  case round =>
    clear HR
    obtain ⟨rfl, rfl, rfl, hR⟩ := hrel
    have HR := Lib.hid hR
    clear hR
    go_wp2_with fail
    all_goals
      go_ret
      exact ⟨ret_int (by omega), x.F, 0, HZ.out.red HR.out⟩
set_option maxHeartbeats 3200000 in
set_option maxRecDepth 100000 in
theorem Wav.rank_le {w : World} {x : Wx} {m : List Int} (h : Wav w x m) (n : Nat) (s : Int) (hs : 0 ≤ s ∧ s ≤ 256) (hnl : n ≤ m.length) (hm : m.length ≤ 1000000) :
    Calls Tryz.prog 46 #[.pointer (some ⟨x.t, 0, none⟩), .int .i64 n, .int .i64 s] w fun e w' => e = .returned (.int .i64 (Wv.rk m n s)) ∧ ∃ F' v', Red w w' x m F' v' := by
  obtain ⟨hZ, hR⟩ := h.zero
  have f1 : w.frozen? ⟨x.t, 1, none⟩ = false := free_of h.web.top
  have c1 : w.cell? ⟨x.t, 1, none⟩ = some (.int .i64 x.v) := (cell_of h.web.top).trans rfl
  have key := wsym_yes (w.setCell ⟨x.t, 1, none⟩ (.int .i64 0)) hs
  have keyL := hZ.len
  have q0 : (w.setCell ⟨x.t, 1, none⟩ (.int .i64 0)).cell? ⟨x.t, 0, none⟩ = some (pn (x.N 1)) := (cell_of hZ.web.top).trans rfl
  have hle : (n : Int) ≤ (m.length : Int) := by omega
  have HH := Lib.hid h
  have HR := Lib.hid hR
  have HHI := Lib.hid (Nat.le_trans h.hi_le hm)
  have HNL := Lib.hid hnl
  have hdn := Wk.pos_down h.good hs n
  have HDN := Lib.hid hdn
  clear h hZ hR hdn
  go_enter Tryz.func46, Tryz.ntmps46
  go_wp2_with fail
  (with_reducible refine key.mono ?_); rintro e w1 ⟨rfl, hw1⟩
  rw [hw1] at keyL q0 HR
  clear hw1 key f1 c1
  go_wp2_with fail
  (with_reducible refine keyL.mono ?_); rintro e w2 ⟨rfl, rfl⟩
  clear keyL
  go_wp2_with fail
  go_loopg [1, 7, 8] 9 (fun g s1 s7 s8 wr => ∃ (v : Nat) (F' : For) (v' : Nat), g = 9 - v ∧ v ≤ 9 ∧ s1 = .int .i64 (Wv.pos m v (Sy.path s v) n : Nat) ∧ s8 = .int .i64 v ∧ s7 = pn (x.N (Wk.key s v)) ∧ Rdw w x wr F' v' ∧ v' ≤ v * (2 * hiF x.F + 2))
  case atStart =>
    refine ⟨0, x.F, 0, rfl, by omega, ?_, rfl, ?_, HR.out, Nat.zero_le _⟩
    · rw [show ((0 : Nat) : Int) = 0 from rfl, Sy.path_zero hs, Wv.pos_zero HH.out.good HNL.out]
    · rw [Wk.key_zero hs]
  case round =>
    clear HR
    obtain ⟨v, F', v', rfl, hv9, rfl, rfl, rfl, hR, hvv⟩ := hrel
    have hend := HDN.out (9 - v) v (by omega)
    by_cases h9 : v = 9 ∨ Wv.pos m v (Sy.path s v) n = 0
    · have hfin : Wv.rk m n s = Wv.pos m v (Sy.path s v) n := by
        rcases h9 with h9 | h9
        · subst h9
          have hp9 : Sy.path s (9 : Nat) = s := Sy.path_nine hs
          rw [Wv.rk_nine HH.out.good, hp9]
        · omega
      obtain ⟨p, hp⟩ : ∃ p, Wv.pos m v (Sy.path s v) n = p := ⟨_, rfl⟩
      rw [hp] at h9 hfin ⊢
      have HFIN := Lib.hid hfin
      have hmx : max (p : Int) 0 = p := by omega
      have HR := Lib.hid hR
      clear hR hvv hp hend hfin
      rcases h9 with h9 | h9
      · subst h9
        go_wp2_with fail
        all_goals
          go_ret
          exact ⟨ret_int (by have := HFIN.out; omega), F', v', HH.out.red HR.out⟩
      · subst h9
        have hvi : (v : Int) ≤ 9 := by omega
        by_cases hv : (v : Int) < 9
        · go_wp2_with fail
          all_goals
            go_ret
            exact ⟨ret_int (by have := HFIN.out; omega), F', v', HH.out.red HR.out⟩
        · go_wp2_with fail
          all_goals
            go_ret
            exact ⟨ret_int (by have := HFIN.out; omega), F', v', HH.out.red HR.out⟩
    · have hv8 : v ≤ 8 := by omega
      have hkr := Wk.key_rng hs hv8
      have hple := Wv.pos_le m v (Sy.path s v) n
      rw [← Wv.bits_len, ← Wk.wb_key m hs (by omega)] at hple
      have hne : Wk.wb m (Wk.key s v) ≠ [] := fun e => by rw [e] at hple; simp at hple; omega
      obtain ⟨b, f, hN⟩ := hR.node HH.out hkr hne
      have hrk : Blk.rk (Sy.bit s v) (Wk.wb m (Wk.key s v)) (Wv.pos m v (Sy.path s v) n) = Wv.pos m (v + 1) (Sy.path s (v + 1 : Nat)) n := by
        rw [Wk.wb_key m hs (by omega), Wv.rk_pos HH.out.good hv8, Wv.path_nxt hs hv8]
      have hks := Wk.key_succ hs hv8
      obtain ⟨p, hp⟩ : ∃ p, Wv.pos m v (Sy.path s v) n = p := ⟨_, rfl⟩
      obtain ⟨p2, hp2⟩ : ∃ p2, Wv.pos m (v + 1) (Sy.path s (v + 1 : Nat)) n = p2 := ⟨_, rfl⟩
      rw [hp] at hrk hple h9 ⊢
      rw [hp2] at hrk
      have hp0 : (0 : Int) < p := by omega
      obtain ⟨kk, hkk⟩ : ∃ k, Wk.key s v = k := ⟨_, rfl⟩
      rw [hkk] at hrk hks hple hN ⊢
      rw [hN.N, pn_some]
      have hml := Wk.wb_len m kk
      rw [← hN.m] at hrk hml hple
      have hpl : place f.m.length p = p := by unfold place; omega
      have hfht := hN.nd.tre.2.ht
      have hhi := hN.ht
      have hvb : v' ≤ 40000000 := by
        have h9' : v * (2 * hiF x.F + 2) ≤ 9 * (2 * hiF x.F + 2) := Nat.mul_le_mul_right _ hv9
        have := HHI.out
        omega
      have hvi : (v : Int) < 9 := by omega
      have keyB := sbit s v wr
      obtain ⟨c, hc⟩ : ∃ c, Sy.bit s v = c := ⟨_, rfl⟩
      rw [hc] at hrk hks keyB
      have HR := Lib.hid hR
      have HV := Lib.hid hvv
      have HAT := Lib.hid hN.at'
      have HNb := Lib.hid hN.N
      obtain ⟨e0, he0⟩ := hN.F
      have HF := Lib.hid he0
      have HRK := Lib.hid (show (Blk.rk c f.m (place f.m.length (p : Int)) : Int) = p2 by rw [hpl, hrk])
      have HKS := Lib.hid hks
      have HP := Lib.hid hp2
      have HML := Lib.hid hml
      clear hR hvv hks hN he0 hrk hpl hp hp2 hc hne hkr hend hple
      rcases c with _ | _
      · go_wp2_with fail
        (with_reducible refine keyB.mono ?_); rintro e w1' ⟨rfl, rfl⟩
        have keyR := wrank (e := f) p false p2 HR.out.web HNb.out HAT.out (by have := HML.out; omega) (by omega) HRK.out
        clear keyB
        go_wp2_with fail
        (with_reducible refine keyR.mono ?_); rintro e w4 ⟨rfl, u2, hu2, hW, hs4⟩
        have hR3 := HR.out.rank HF.out HAT.out hW hs4
        have hc := (hR3.web.nods.nd HNb.out (For.put_at _ _ _)).c1
        have HR3 := Lib.hid hR3
        clear hW hs4 hR3 keyR
        go_wp2_with fail
        go_quiet (first | (go_at_call 53; refine Calls.quiet_of_same (qside_f _)))
        go_wp2_with fail
        go_roundg (8 - v)
        case measure => omega
        case rel => exact ⟨v + 1, _, _, by omega, by omega, by rw [HP.out], by go_num, by rw [HKS.out]; rfl, HR3.out.drewN _, by have := HV.out; rw [Nat.succ_mul]; omega⟩
      · go_wp2_with fail
        (with_reducible refine keyB.mono ?_); rintro e w1' ⟨rfl, rfl⟩
        have keyR := wrank (e := f) p true p2 HR.out.web HNb.out HAT.out (by have := HML.out; omega) (by omega) HRK.out
        clear keyB
        go_wp2_with fail
        (with_reducible refine keyR.mono ?_); rintro e w4 ⟨rfl, u2, hu2, hW, hs4⟩
        have hR3 := HR.out.rank HF.out HAT.out hW hs4
        have hc := (hR3.web.nods.nd HNb.out (For.put_at _ _ _)).c2
        have HR3 := Lib.hid hR3
        clear hW hs4 hR3 keyR
        go_wp2_with fail
        go_quiet (first | (go_at_call 53; refine Calls.quiet_of_same (qside_t _)))
        go_wp2_with fail
        go_roundg (8 - v)
        case measure => omega
        case rel => exact ⟨v + 1, _, _, by omega, by omega, by rw [HP.out], by go_num, by rw [HKS.out]; rfl, HR3.out.drewN _, by have := HV.out; rw [Nat.succ_mul]; omega⟩
set_option maxHeartbeats 3200000 in
set_option maxRecDepth 100000 in
theorem Wav.rank_gt {w : World} {x : Wx} {m : List Int} (h : Wav w x m) (k s : Int) (n : Nat) (hs : 0 ≤ s ∧ s ≤ 256) (hnl : m.length = n) (hkl : (m.length : Int) < k) (hm : m.length ≤ 1000000) :
    Calls Tryz.prog 46 #[.pointer (some ⟨x.t, 0, none⟩), .int .i64 k, .int .i64 s] w fun e w' => e = .returned (.int .i64 (Wv.rk m n s)) ∧ ∃ F' v', Red w w' x m F' v' := by
  obtain ⟨hZ, hR⟩ := h.zero
  have f1 : w.frozen? ⟨x.t, 1, none⟩ = false := free_of h.web.top
  have c1 : w.cell? ⟨x.t, 1, none⟩ = some (.int .i64 x.v) := (cell_of h.web.top).trans rfl
  have key := wsym_yes (w.setCell ⟨x.t, 1, none⟩ (.int .i64 0)) hs
  have keyL := hZ.len
  have q0 : (w.setCell ⟨x.t, 1, none⟩ (.int .i64 0)).cell? ⟨x.t, 0, none⟩ = some (pn (x.N 1)) := (cell_of hZ.web.top).trans rfl
  have hle : ¬ k ≤ (n : Int) := by omega
  rw [hnl] at keyL
  have HH := Lib.hid h
  have HR := Lib.hid hR
  have HHI := Lib.hid (Nat.le_trans h.hi_le hm)
  have HNL := Lib.hid (Nat.le_of_eq hnl.symm)
  have hdn := Wk.pos_down h.good hs n
  have HDN := Lib.hid hdn
  clear h hZ hR hdn
  go_enter Tryz.func46, Tryz.ntmps46
  go_wp2_with fail
  (with_reducible refine key.mono ?_); rintro e w1 ⟨rfl, hw1⟩
  rw [hw1] at keyL q0 HR
  clear hw1 key f1 c1
  go_wp2_with fail
  (with_reducible refine keyL.mono ?_); rintro e w2 ⟨rfl, rfl⟩
  clear keyL
  go_wp2_with fail
  go_loopg [1, 7, 8] 9 (fun g s1 s7 s8 wr => ∃ (v : Nat) (F' : For) (v' : Nat), g = 9 - v ∧ v ≤ 9 ∧ s1 = .int .i64 (Wv.pos m v (Sy.path s v) n : Nat) ∧ s8 = .int .i64 v ∧ s7 = pn (x.N (Wk.key s v)) ∧ Rdw w x wr F' v' ∧ v' ≤ v * (2 * hiF x.F + 2))
  case atStart =>
    refine ⟨0, x.F, 0, rfl, by omega, ?_, rfl, ?_, HR.out, Nat.zero_le _⟩
    · rw [show ((0 : Nat) : Int) = 0 from rfl, Sy.path_zero hs, Wv.pos_zero HH.out.good HNL.out]
    · rw [Wk.key_zero hs]
  case round =>
    clear HR
    obtain ⟨v, F', v', rfl, hv9, rfl, rfl, rfl, hR, hvv⟩ := hrel
    have hend := HDN.out (9 - v) v (by omega)
    by_cases h9 : v = 9 ∨ Wv.pos m v (Sy.path s v) n = 0
    · have hfin : Wv.rk m n s = Wv.pos m v (Sy.path s v) n := by
        rcases h9 with h9 | h9
        · subst h9
          have hp9 : Sy.path s (9 : Nat) = s := Sy.path_nine hs
          rw [Wv.rk_nine HH.out.good, hp9]
        · omega
      obtain ⟨p, hp⟩ : ∃ p, Wv.pos m v (Sy.path s v) n = p := ⟨_, rfl⟩
      rw [hp] at h9 hfin ⊢
      have HFIN := Lib.hid hfin
      have hmx : max (p : Int) 0 = p := by omega
      have HR := Lib.hid hR
      clear hR hvv hp hend hfin
      rcases h9 with h9 | h9
      · subst h9
        go_wp2_with fail
        all_goals
          go_ret
          exact ⟨ret_int (by have := HFIN.out; omega), F', v', HH.out.red HR.out⟩
      · subst h9
        have hvi : (v : Int) ≤ 9 := by omega
        by_cases hv : (v : Int) < 9
        · go_wp2_with fail
          all_goals
            go_ret
            exact ⟨ret_int (by have := HFIN.out; omega), F', v', HH.out.red HR.out⟩
        · go_wp2_with fail
          all_goals
            go_ret
            exact ⟨ret_int (by have := HFIN.out; omega), F', v', HH.out.red HR.out⟩
    · have hv8 : v ≤ 8 := by omega
      have hkr := Wk.key_rng hs hv8
      have hple := Wv.pos_le m v (Sy.path s v) n
      rw [← Wv.bits_len, ← Wk.wb_key m hs (by omega)] at hple
      have hne : Wk.wb m (Wk.key s v) ≠ [] := fun e => by rw [e] at hple; simp at hple; omega
      obtain ⟨b, f, hN⟩ := hR.node HH.out hkr hne
      have hrk : Blk.rk (Sy.bit s v) (Wk.wb m (Wk.key s v)) (Wv.pos m v (Sy.path s v) n) = Wv.pos m (v + 1) (Sy.path s (v + 1 : Nat)) n := by
        rw [Wk.wb_key m hs (by omega), Wv.rk_pos HH.out.good hv8, Wv.path_nxt hs hv8]
      have hks := Wk.key_succ hs hv8
      obtain ⟨p, hp⟩ : ∃ p, Wv.pos m v (Sy.path s v) n = p := ⟨_, rfl⟩
      obtain ⟨p2, hp2⟩ : ∃ p2, Wv.pos m (v + 1) (Sy.path s (v + 1 : Nat)) n = p2 := ⟨_, rfl⟩
      rw [hp] at hrk hple h9 ⊢
      rw [hp2] at hrk
      have hp0 : (0 : Int) < p := by omega
      obtain ⟨kk, hkk⟩ : ∃ k, Wk.key s v = k := ⟨_, rfl⟩
      rw [hkk] at hrk hks hple hN ⊢
      rw [hN.N, pn_some]
      have hml := Wk.wb_len m kk
      rw [← hN.m] at hrk hml hple
      have hpl : place f.m.length p = p := by unfold place; omega
      have hfht := hN.nd.tre.2.ht
      have hhi := hN.ht
      have hvb : v' ≤ 40000000 := by
        have h9' : v * (2 * hiF x.F + 2) ≤ 9 * (2 * hiF x.F + 2) := Nat.mul_le_mul_right _ hv9
        have := HHI.out
        omega
      have hvi : (v : Int) < 9 := by omega
      have keyB := sbit s v wr
      obtain ⟨c, hc⟩ : ∃ c, Sy.bit s v = c := ⟨_, rfl⟩
      rw [hc] at hrk hks keyB
      have HR := Lib.hid hR
      have HV := Lib.hid hvv
      have HAT := Lib.hid hN.at'
      have HNb := Lib.hid hN.N
      obtain ⟨e0, he0⟩ := hN.F
      have HF := Lib.hid he0
      have HRK := Lib.hid (show (Blk.rk c f.m (place f.m.length (p : Int)) : Int) = p2 by rw [hpl, hrk])
      have HKS := Lib.hid hks
      have HP := Lib.hid hp2
      have HML := Lib.hid hml
      clear hR hvv hks hN he0 hrk hpl hp hp2 hc hne hkr hend hple
      rcases c with _ | _
      · go_wp2_with fail
        (with_reducible refine keyB.mono ?_); rintro e w1' ⟨rfl, rfl⟩
        have keyR := wrank (e := f) p false p2 HR.out.web HNb.out HAT.out (by have := HML.out; omega) (by omega) HRK.out
        clear keyB
        go_wp2_with fail
        (with_reducible refine keyR.mono ?_); rintro e w4 ⟨rfl, u2, hu2, hW, hs4⟩
        have hR3 := HR.out.rank HF.out HAT.out hW hs4
        have hc := (hR3.web.nods.nd HNb.out (For.put_at _ _ _)).c1
        have HR3 := Lib.hid hR3
        clear hW hs4 hR3 keyR
        go_wp2_with fail
        go_quiet (first | (go_at_call 53; refine Calls.quiet_of_same (qside_f _)))
        go_wp2_with fail
        go_roundg (8 - v)
        case measure => omega
        case rel => exact ⟨v + 1, _, _, by omega, by omega, by rw [HP.out], by go_num, by rw [HKS.out]; rfl, HR3.out.drewN _, by have := HV.out; rw [Nat.succ_mul]; omega⟩
      · go_wp2_with fail
        (with_reducible refine keyB.mono ?_); rintro e w1' ⟨rfl, rfl⟩
        have keyR := wrank (e := f) p true p2 HR.out.web HNb.out HAT.out (by have := HML.out; omega) (by omega) HRK.out
        clear keyB
        go_wp2_with fail
        (with_reducible refine keyR.mono ?_); rintro e w4 ⟨rfl, u2, hu2, hW, hs4⟩
        have hR3 := HR.out.rank HF.out HAT.out hW hs4
        have hc := (hR3.web.nods.nd HNb.out (For.put_at _ _ _)).c2
        have HR3 := Lib.hid hR3
        clear hW hs4 hR3 keyR
        go_wp2_with fail
        go_quiet (first | (go_at_call 53; refine Calls.quiet_of_same (qside_t _)))
        go_wp2_with fail
        go_roundg (8 - v)
        case measure => omega
        case rel => exact ⟨v + 1, _, _, by omega, by omega, by rw [HP.out], by go_num, by rw [HKS.out]; rfl, HR3.out.drewN _, by have := HV.out; rw [Nat.succ_mul]; omega⟩
theorem Wav.rank {w : World} {x : Wx} {m : List Int} (h : Wav w x m) (k s : Int) (hm : m.length ≤ 1000000) :
    Calls Tryz.prog 46 #[.pointer (some ⟨x.t, 0, none⟩), .int .i64 k, .int .i64 s] w fun e w' => e = .returned (.int .i64 (Wv.rk m k.toNat s)) ∧ ∃ F' v', Red w w' x m F' v' := by
  by_cases hs : 0 ≤ s ∧ s ≤ 256
  · by_cases hk : k ≤ 0
    · exact h.rank_low k s hs hk
    · by_cases hl : k ≤ (m.length : Int)
      · obtain ⟨n, rfl⟩ := Int.eq_ofNat_of_zero_le (show 0 ≤ k by omega)
        exact h.rank_le n s hs (by omega) hm
      · have := h.rank_gt k s m.length hs rfl (by omega) hm
        rw [← Wk.rk_min, Nat.min_eq_right (by omega)]
        exact this
  · exact h.rank_none k s hs
end Go.Proofs.YthbbokoeiifjdaaGreatDoor
namespace Go.Proofs.YthbbokoeiifjdaaGreatDoor
open Go Go.RowKit Go.ChangeAt Tr

namespace Wk
/-- The place d levels above the lowest one. -/
noncomputable def up (m : List Int) (j s : Int) : Nat → Int
  | 0 => j
  | d + 1 => if wb m (key s (8 - d)) = [] then -1 else Blk.sl (Sy.bit s (8 - d : Nat)) (wb m (key s (8 - d))) (up m j s d)
theorem up_is {m : List Int} (h : Wv.Good m) {s : Int} (hs : 0 ≤ s ∧ s ≤ 256) {k j : Nat} (hk : k < m.length) (he : m.getD k 0 = s) (hj : Wv.rk m k s = j) : ∀ (d v : Nat), v + d = 9 → up m j s d = (Wv.pos m v (Sy.path s v) k : Int)
  | 0, v, e => by
    obtain rfl : v = 9 := by omega
    have hp9 : Sy.path s (9 : Nat) = s := Sy.path_nine hs
    rw [hp9, ← Wv.rk_nine h, hj]
    rfl
  | d + 1, v, e => by
    have h1 := up_is h hs hk he hj d (v + 1) (by omega)
    have hv : 8 - d = v := by omega
    have h2 := Wv.bits_at (v := v) hk
    rw [he] at h2
    have h3 := Wv.sl_up h hk (v := v) (by omega)
    rw [he] at h3
    unfold up
    rw [hv, wb_key m hs (by omega), if_neg (fun e => by rw [e] at h2; simp at h2), h1, h3]
theorem up_low {m : List Int} (h : Wv.Good m) {s j : Int} (hs : 0 ≤ s ∧ s ≤ 256) (hj : j < 0 ∨ (m.count s : Int) ≤ j) : ∀ d : Nat, d ≤ 8 → up m j s (d + 1) = -1
  | 0, _ => by
    unfold up
    split
    · rfl
    · rw [wb_key m hs (by omega)]
      exact Wv.sl_low h hs hj
  | d + 1, hd => by
    have h1 := up_low h hs hj d (by omega)
    unfold up
    split
    · rfl
    · rw [h1]; exact Blk.sl_none (.inl (by omega))
theorem up_all {m : List Int} (h : Wv.Good m) {s : Int} (hs : 0 ≤ s ∧ s ≤ 256) (j : Int) : up m j s 9 = Wv.sl m j s := by
  by_cases hj : j < 0 ∨ (m.count s : Int) ≤ j
  · rw [up_low h hs hj 8 (by omega), Wv.sl_none hj]
  · obtain ⟨n, rfl⟩ := Int.eq_ofNat_of_zero_le (show 0 ≤ j by omega)
    obtain ⟨k, h0, h1, h2, h3⟩ := Wv.sl_is (l := m) (j := n) (s := s) (by omega)
    rw [h0]
    have h4 := up_is h hs h1 h2 h3 9 0 (by omega)
    have h5 : (↑(0 : Nat) : Int) = 0 := rfl
    rw [h5, Sy.path_zero hs, Wv.pos_zero h (by omega)] at h4
    exact h4
theorem sl_not {m : List Int} (h : Wv.Good m) {s : Int} (hs : ¬ (0 ≤ s ∧ s ≤ 256)) (j : Int) : Wv.sl m j s = -1 := by
  refine Wv.sl_none ?_
  have : m.count s = 0 := List.count_eq_zero.2 fun hm => hs (h s hm)
  omega
end Wk
theorem Rdw.below {w wr : World} {x : Wx} {m : List Int} {F' : For} {v : Nat} (hR : Rdw w x wr F' v) (h : Wav w x m) : Below x.B w wr :=
  hR.stay.below (by have := h.web.lo; have := h.web.lt; omega) (fun i _ ho => (h.own_lt ho).1)
set_option maxHeartbeats 3200000 in
set_option maxRecDepth 100000 in
theorem wsel {w : World} {x : Wx} {m : List Int} (h : Wav w x m) (hT : TabAt w) (j s : Int) (hs : 0 ≤ s ∧ s ≤ 256) (hm : m.length ≤ 1000000) : ∀ (d v : Nat), v + d = 9 → ∀ (lv : Int) (wr : World) (F' : For) (v' : Nat), lv = v → Rdw w x wr F' v' → v' ≤ 100000000 →
    Calls Tryz.prog 58 #[.pointer (some ⟨x.t, 0, none⟩), pn (x.N (Wk.key s v)), .int .i64 lv, .int .i64 j, .int .i64 s] wr fun e w2 => e = .returned (.int .i64 (Wk.up m j s d)) ∧ ∃ F2 v2, Rdw w x w2 F2 v2 ∧ v2 ≤ v' + d * (hiF x.F + 1)
  | 0, v, e, lv, wr, F', v', hlv, hR, hv' => by
    obtain rfl : v = 9 := by omega
    subst hlv
    rw [key_nine h, pn_none]
    have HR := Lib.hid hR
    clear h hR
    go_enter Tryz.func58, Tryz.ntmps58
    go_wp2_with fail
    go_ret
    exact ⟨rfl, F', v', HR.out, by omega⟩
  | d + 1, v, e, lv, wr, F', v', hlv, hR, hv' => by
    have hv8 : v ≤ 8 := by omega
    have hd : 8 - d = v := by omega
    have hlt : ¬ lv = 9 := by omega
    have hkr := Wk.key_rng hs hv8
    by_cases hne : Wk.wb m (Wk.key s v) = []
    · have hup : Wk.up m j s (d + 1) = -1 := by unfold Wk.up; rw [hd, if_pos hne]
      rw [hup, (h.stands_not (by rw [Wk.wq_in m hkr, hne]; rfl)).2, pn_none]
      have HR := Lib.hid hR
      clear h hR hne hup hT
      go_enter Tryz.func58, Tryz.ntmps58
      go_wp2_with fail
      go_ret
      exact ⟨rfl, F', v', HR.out, by omega⟩
    · have hup : Wk.up m j s (d + 1) = Blk.sl (Sy.bit s v) (Wk.wb m (Wk.key s v)) (Wk.up m j s d) := by
        conv => lhs; unfold Wk.up
        rw [hd, if_neg hne]
      rw [hup]
      obtain ⟨kk, hkk⟩ : ∃ k, Wk.key s v = k := ⟨_, rfl⟩
      have hks := Wk.key_succ hs hv8
      rw [hkk] at hks hkr hne ⊢
      have hne2 := hne
      obtain ⟨b, f, hN⟩ := hR.node h hkr hne
      rw [hN.N, pn_some]
      have keyB := sbit s lv wr
      rw [hlv] at keyB
      have key := wsel h hT j s hs hm d (v + 1) (by omega) (IntKind.i64.wrap (lv + 1)) wr.drew F' v' (by rw [IntWalk.i64_in _ (by omega)]; omega) (hR.drewN 1) hv'
      obtain ⟨c, hc⟩ : ∃ c, Sy.bit s (v : Int) = c := ⟨_, rfl⟩
      rw [hc] at hks keyB ⊢
      rw [hks] at key
      obtain ⟨U, hU⟩ : ∃ u, Wk.up m j s d = u := ⟨_, rfl⟩
      rw [hU] at key ⊢
      obtain ⟨q, hq⟩ : ∃ q, Blk.sl c (Wk.wb m kk) U = q := ⟨_, rfl⟩
      rw [hq]
      have HQ := Lib.hid hq
      have hlv2 : lv ≤ 8 := by omega
      have hlv0 : 0 ≤ lv := by omega
      have HB := Lib.hid hN.N
      have HK := Lib.hid hkr
      have HNE := Lib.hid hne2
      have HH := Lib.hid h
      have HT := Lib.hid hT
      have HHI := Lib.hid (Nat.le_trans h.hi_le hm)
      rw [← hlv] at keyB
      clear h hT hR hkk hks hc hU hq hup hkr hne hne2 hlv
      rcases c with _ | _
      · have hcl := hN.nd.c1
        rw [show 2 * kk + Wk.bi false = 2 * kk from rfl] at key
        have HN := Lib.hid hN
        clear hN
        go_enter Tryz.func58, Tryz.ntmps58
        go_wp2_with fail
        (with_reducible refine keyB.mono ?_); rintro e w1' ⟨rfl, rfl⟩
        clear keyB
        go_wp2_with fail
        go_region_law (first
          | (go_simp; (go_at_call 53; (refine (wside_f _).mono ?_); rintro e w5 ⟨rfl, rfl⟩))
          | (go_simp; (go_at_call 58; (with_reducible refine key.mono ?_); rintro e w6 ⟨rfl, F2, v2, hR2, hv2⟩)))
        all_goals
          obtain ⟨b2, f2, hN2⟩ := hR2.node HH.out HK.out HNE.out
          obtain rfl : b2 = b := by have := hN2.N.symm.trans HB.out; injection this
          have hfm := hN2.nd.tre.2.ht
          have hml := Wk.wb_len m kk
          rw [← hN2.m] at hml
          have hhi := hN2.ht
          have hTb := TabAt.below HT.out (hR2.below HH.out) HH.out.web.nods.pos
          have keyS := kselect U false q w6 hN2.nd.tre (by omega) hTb (Nat.lt_of_lt_of_le HH.out.web.nods.pos hN2.nd.base) (by rw [hN2.m]; exact HQ.out)
          have hc0 := hN2.nd.c0
          obtain ⟨e0, he0⟩ := hN2.F
          have hd9 : d * (hiF x.F + 1) ≤ 9 * (hiF x.F + 1) := Nat.mul_le_mul_right _ (by omega)
          have hv2b : v2 ≤ 200000000 := by have := HHI.out; omega
          have HN2 := Lib.hid hN2
          have HR2 := Lib.hid hR2
          have HF := Lib.hid he0
          clear hN2 hR2 he0 hTb key hcl hd9
          go_wp2_with fail
          (with_reducible refine keyS.mono ?_); rintro e w7 ⟨rfl, u, hT, _, hu, hs7⟩
          have hR3 := HR2.out.read HF.out HN2.out.at' hT hs7
          have keyL := wlook (e := f2.see u) hR3.web HB.out (For.put_at _ _ _) (by omega) (by show u ≤ _; omega)
          have HR3 := Lib.hid hR3
          clear hT hs7 hR3 keyS hc0
          go_wp2_with fail
          (with_reducible refine keyL.mono ?_); rintro e w8 ⟨rfl, hW, hs8⟩
          have hR4 := HR3.out.look hW hs8
          have HR4 := Lib.hid hR4
          clear hW hs8 hR4 keyL
          go_wp2_with fail
          go_ret
          exact ⟨rfl, _, _, HR4.out, by show v2 + u ≤ _; rw [Nat.succ_mul]; omega⟩
      · have hcl := hN.nd.c2
        rw [show 2 * kk + Wk.bi true = 2 * kk + 1 from rfl] at key
        have HN := Lib.hid hN
        clear hN
        go_enter Tryz.func58, Tryz.ntmps58
        go_wp2_with fail
        (with_reducible refine keyB.mono ?_); rintro e w1' ⟨rfl, rfl⟩
        clear keyB
        go_wp2_with fail
        go_region_law (first
          | (go_simp; (go_at_call 53; (refine (wside_t _).mono ?_); rintro e w5 ⟨rfl, rfl⟩))
          | (go_simp; (go_at_call 58; (with_reducible refine key.mono ?_); rintro e w6 ⟨rfl, F2, v2, hR2, hv2⟩)))
        all_goals
          obtain ⟨b2, f2, hN2⟩ := hR2.node HH.out HK.out HNE.out
          obtain rfl : b2 = b := by have := hN2.N.symm.trans HB.out; injection this
          have hfm := hN2.nd.tre.2.ht
          have hml := Wk.wb_len m kk
          rw [← hN2.m] at hml
          have hhi := hN2.ht
          have hTb := TabAt.below HT.out (hR2.below HH.out) HH.out.web.nods.pos
          have keyS := kselect U true q w6 hN2.nd.tre (by omega) hTb (Nat.lt_of_lt_of_le HH.out.web.nods.pos hN2.nd.base) (by rw [hN2.m]; exact HQ.out)
          have hc0 := hN2.nd.c0
          obtain ⟨e0, he0⟩ := hN2.F
          have hd9 : d * (hiF x.F + 1) ≤ 9 * (hiF x.F + 1) := Nat.mul_le_mul_right _ (by omega)
          have hv2b : v2 ≤ 200000000 := by have := HHI.out; omega
          have HN2 := Lib.hid hN2
          have HR2 := Lib.hid hR2
          have HF := Lib.hid he0
          clear hN2 hR2 he0 hTb key hcl hd9
          go_wp2_with fail
          (with_reducible refine keyS.mono ?_); rintro e w7 ⟨rfl, u, hT, _, hu, hs7⟩
          have hR3 := HR2.out.read HF.out HN2.out.at' hT hs7
          have keyL := wlook (e := f2.see u) hR3.web HB.out (For.put_at _ _ _) (by omega) (by show u ≤ _; omega)
          have HR3 := Lib.hid hR3
          clear hT hs7 hR3 keyS hc0
          go_wp2_with fail
          (with_reducible refine keyL.mono ?_); rintro e w8 ⟨rfl, hW, hs8⟩
          have hR4 := HR3.out.look hW hs8
          have HR4 := Lib.hid hR4
          clear hW hs8 hR4 keyL
          go_wp2_with fail
          go_ret
          exact ⟨rfl, _, _, HR4.out, by show v2 + u ≤ _; rw [Nat.succ_mul]; omega⟩
theorem Wav.select {w : World} {x : Wx} {m : List Int} (h : Wav w x m) (hT : TabAt w) (j s : Int) (hm : m.length ≤ 1000000) :
    Calls Tryz.prog 37 #[.pointer (some ⟨x.t, 0, none⟩), .int .i64 j, .int .i64 s] w fun e w' => e = .returned (.int .i64 (Wv.sl m j s)) ∧ ∃ F' v', Red w w' x m F' v' := by
  obtain ⟨hZ, hR⟩ := h.zero
  have f1 : w.frozen? ⟨x.t, 1, none⟩ = false := free_of h.web.top
  have c1 : w.cell? ⟨x.t, 1, none⟩ = some (.int .i64 x.v) := (cell_of h.web.top).trans rfl
  by_cases hs : 0 ≤ s ∧ s ≤ 256
  · have key := wsym_yes (w.setCell ⟨x.t, 1, none⟩ (.int .i64 0)) hs
    have q0 : (w.setCell ⟨x.t, 1, none⟩ (.int .i64 0)).cell? ⟨x.t, 0, none⟩ = some (pn (x.N 1)) := (cell_of hZ.web.top).trans rfl
    have keyS := wsel h hT j s hs hm 9 0 (by omega) 0 _ x.F 0 rfl hR (by omega)
    rw [Wk.key_zero hs, Wk.up_all h.good hs] at keyS
    have HH := Lib.hid h
    clear h hZ hR hT
    go_enter Tryz.func37, Tryz.ntmps37
    go_wp2_with fail
    (with_reducible refine key.mono ?_); rintro e w1 ⟨rfl, hw1⟩
    rw [hw1] at keyS q0
    clear hw1 key f1 c1
    go_wp2_with fail
    (with_reducible refine keyS.mono ?_); rintro e w2 ⟨rfl, F2, v2, hR2, _⟩
    have HR := Lib.hid hR2
    clear hR2 keyS
    go_wp2_with fail
    go_ret
    exact ⟨rfl, F2, v2, HH.out.red HR.out⟩
  · rw [Wk.sl_not h.good hs]
    have key := wsym_no (w.setCell ⟨x.t, 1, none⟩ (.int .i64 0)) hs
    have HH := Lib.hid h
    have HR := Lib.hid hR
    clear h hZ hR hT
    go_enter Tryz.func37, Tryz.ntmps37
    go_wp2_with fail
    (with_reducible refine key.mono ?_); rintro e w1 ⟨rfl, rfl⟩
    go_wp2_with fail
    go_ret
    exact ⟨rfl, x.F, 0, HH.out.red HR.out⟩
end Go.Proofs.YthbbokoeiifjdaaGreatDoor
