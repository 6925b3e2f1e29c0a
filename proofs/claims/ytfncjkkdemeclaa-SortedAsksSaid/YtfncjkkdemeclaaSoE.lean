/- Lists that are the same; the last column (package sorted): contracts of the walk. -/
import Derived.Test.YtfncjkkdemeclaaSoD
import Derived.Test.YtfncjkkdemeclaaBwT
namespace Go.Proofs.Ytfncjkkdemeclaa
open Go Go.RowKit Go.ChangeAt

theorem RdL.cell {w : World} {a : Option Addr} {cap : Nat} {l : List Int} (h : RdL w a cap l) {k : Nat} (hk : k < l.length) : ∃ b off, a = some ⟨b, off, none⟩ ∧ b < w.heap.size ∧ w.cell? ⟨b, off + k, none⟩ = some (.int .i64 (l.getD k 0)) := by
  obtain ⟨b, off, h1, h2, h3⟩ := h.2.2.2 (by omega)
  exact ⟨b, off, h1, h2, h3 k hk⟩
theorem RdL.drewN {w : World} {a : Option Addr} {cap : Nat} {l : List Int} (h : RdL w a cap l) (n : Nat) : RdL (w.drewN n) a cap l := h
theorem eq_of_take {l m : List Int} {n : Nat} (hl : l.length = n) (hm : m.length = n) (h : l.take n = m.take n) : l = m := by
  rwa [List.take_of_length_le (by omega), List.take_of_length_le (by omega)] at h
theorem ne_of_at {l m : List Int} {k : Nat} (h : l.getD k 0 ≠ m.getD k 0) : l ≠ m := fun e => h (by rw [e])
theorem take_eq_next {l m : List Int} {k : Nat} (h1 : k < l.length) (h2 : k < m.length) (h : l.take k = m.take k) (e : l.getD k 0 = m.getD k 0) : l.take (k + 1) = m.take (k + 1) := by
  rw [Bw.take_next h1, Bw.take_next h2, h, e]

theorem drew_more {w wr : World} (h : ∃ j, wr = w.drewN j) (n : Nat) : ∃ j, wr.drewN n = w.drewN j := by
  obtain ⟨j, rfl⟩ := h
  exact ⟨j + n, World.drewN_drewN _ _ _⟩
set_option maxHeartbeats 800000 in
theorem sequal {l m : List Int} {n n' : Nat} {a a' : Option Addr} {cap cap' : Nat} (w : World) (h : RdL w a cap l) (h' : RdL w a' cap' m) (hl : l.length = n) (hm : m.length = n') :
    Calls Try.prog 23 #[.slice a n cap, .slice a' n' cap'] w fun e w' => e = .returned (.bool (decide (l = m))) ∧ ∃ k, w' = w.drewN k := by
  have hf := h.2.1
  have hf1 := h.1
  unfold maxLen at hf
  by_cases hn : n = n'
  · subst hn
    have H := Lib.hid h
    have H' := Lib.hid h'
    have HL := Lib.hid hl
    have HM := Lib.hid hm
    have hn9 : (n : Int) ≤ 9223372036854775807 := by omega
    clear h h' hl hm hf hf1
    go_enter Try.func23, Try.ntmps23
    go_wp2_with fail
    go_loopw [5, 13] (fun _ i wr => ∃ k : Nat, k ≤ n ∧ i = .int .i64 k ∧ l.take k = m.take k ∧ ∃ j, wr = w.drewN j) (fun _ i _ => n - (intOf i).toNat)
    case atStart => exact ⟨0, Nat.zero_le _, rfl, rfl, 0, rfl⟩
    case round =>
      obtain ⟨k, hk, rfl, htk, hj⟩ := hrel
      have HJ := Lib.hid hj
      by_cases hlt : k < n
      · have hlt' : (k : Int) < n := by omega
        have hk1 : k < l.length := by rw [HL.out]; exact hlt
        have hk2 : k < m.length := by rw [HM.out]; exact hlt
        obtain ⟨b, off, rfl, -, c1⟩ := RdL.cell (w := wr) (a := a) (cap := cap) (by obtain ⟨j, rfl⟩ := hj; exact H.out.drewN j) hk1
        obtain ⟨b', off', rfl, -, c2⟩ := RdL.cell (w := wr) (a := a') (cap := cap') (by obtain ⟨j, rfl⟩ := hj; exact H'.out.drewN j) hk2
        by_cases he : l.getD k 0 = m.getD k 0
        · have hnx := Lib.hid (take_eq_next hk1 hk2 htk he)
          rw [← he] at c2
          obtain ⟨x, hx⟩ : ∃ x, l.getD k 0 = x := ⟨_, rfl⟩
          rw [hx] at c1 c2
          have hb : (x != x) = false := by simp
          clear htk he hx hk1 hk2 hj
          go_wp2_with fail
          go_quiet (fail)
          go_wp2_with fail
          go_roundw
          case rel => exact ⟨k + 1, by omega, by go_num, hnx.out, drew_more HJ.out nq⟩
          case measure => simp [intOf]; omega
        · have hne := Lib.hid (ne_of_at he)
          obtain ⟨x, hx⟩ : ∃ x, l.getD k 0 = x := ⟨_, rfl⟩
          obtain ⟨y, hy⟩ : ∃ y, m.getD k 0 = y := ⟨_, rfl⟩
          rw [hx] at c1 he
          rw [hy] at c2 he
          have hb : (x != y) = true := by simpa using he
          have hd : decide (x = y) = false := decide_eq_false he
          clear htk he hx hy hk1 hk2 hj
          go_wp2_with fail
          go_quiet (fail)
          go_wp2_with fail
          go_ret
          exact ⟨congrArg (fun b => Ending.returned (Value.bool b)) (decide_eq_false hne.out).symm, drew_more HJ.out nq⟩
      · have hlt' : ¬ (k : Int) < n := by omega
        obtain rfl : k = n := by omega
        have heq := Lib.hid (eq_of_take HL.out HM.out htk)
        clear htk hj
        go_wp2_with fail
        go_ret
        exact ⟨congrArg (fun b => Ending.returned (Value.bool b)) (decide_eq_true heq.out).symm, HJ.out⟩
  · have hn' : ¬ (n : Int) = n' := by omega
    have hb : ((n : Int) != n') = true := by simpa using hn'
    have hne : l ≠ m := fun e => hn (by rw [← hl, ← hm, e])
    clear h h' hl hm hf hf1 hn
    rw [decide_eq_false hne]
    go_enter Try.func23, Try.ntmps23
    go_wp2_with fail
    go_ret
    exact ⟨rfl, 0, rfl⟩
theorem ssame {l m : List Int} {n n' : Nat} {a a' : Option Addr} {cap cap' : Nat} (r : Bool) (w : World) (h : RdL w a cap l) (h' : RdL w a' cap' m) (hl : l.length = n) (hm : m.length = n') (hr : decide (l = m) = r) :
    Calls Try.prog 13 #[.slice a n cap, .slice a' n' cap'] w fun e w' => e = .returned (.bool r) ∧ ∃ k, w' = w.drewN k := by
  have key := sequal w h h' hl hm
  rw [hr] at key
  clear h h' hl hm hr
  go_enter Try.func13, Try.ntmps13
  go_wp2_with fail
  (with_reducible refine key.mono ?_); rintro e w1 ⟨rfl, k, rfl⟩
  go_wp2_with fail
  go_ret
  exact ⟨rfl, k, rfl⟩
set_option maxHeartbeats 800000 in
theorem r6same_is {l m : List Int} {n n' : Nat} {a a' : Option Addr} {cap cap' : Nat} (r : Bool) (w : World) (h : RdL w a cap l) (h' : RdL w a' cap' m) (hl : l.length = n) (hm : m.length = n') (hr : decide (l = m) = r) :
    Calls Try.prog 16 #[.slice a n cap, .slice a' n' cap'] w fun e w' => e = .returned (.bool r) ∧ ∃ k, w' = w.drewN k := by
  subst hr
  have hf := h.2.1
  have hf1 := h.1
  unfold maxLen at hf
  by_cases hn : n = n'
  · subst hn
    have H := Lib.hid h
    have H' := Lib.hid h'
    have HL := Lib.hid hl
    have HM := Lib.hid hm
    have hn9 : (n : Int) ≤ 9223372036854775807 := by omega
    clear h h' hl hm hf hf1
    go_enter Try.func16, Try.ntmps16
    go_wp2_with fail
    go_loopw [5] (fun i wr => ∃ k : Nat, k ≤ n ∧ i = .int .i64 k ∧ l.take k = m.take k ∧ ∃ j, wr = w.drewN j) (fun i _ => n - (intOf i).toNat)
    case atStart => exact ⟨0, Nat.zero_le _, rfl, rfl, 0, rfl⟩
    case round =>
      obtain ⟨k, hk, rfl, htk, hj⟩ := hrel
      have HJ := Lib.hid hj
      by_cases hlt : k < n
      · have hlt' : (k : Int) < n := by omega
        have hk1 : k < l.length := by rw [HL.out]; exact hlt
        have hk2 : k < m.length := by rw [HM.out]; exact hlt
        obtain ⟨b, off, rfl, -, c1⟩ := RdL.cell (w := wr) (a := a) (cap := cap) (by obtain ⟨j, rfl⟩ := hj; exact H.out.drewN j) hk1
        obtain ⟨b', off', rfl, -, c2⟩ := RdL.cell (w := wr) (a := a') (cap := cap') (by obtain ⟨j, rfl⟩ := hj; exact H'.out.drewN j) hk2
        by_cases he : l.getD k 0 = m.getD k 0
        · have hnx := Lib.hid (take_eq_next hk1 hk2 htk he)
          rw [← he] at c2
          obtain ⟨x, hx⟩ : ∃ x, l.getD k 0 = x := ⟨_, rfl⟩
          rw [hx] at c1 c2
          have hb : (x != x) = false := by simp
          clear htk he hx hk1 hk2 hj
          go_wp2_with fail
          go_quiet (fail)
          go_wp2_with fail
          go_roundw
          case rel => exact ⟨k + 1, by omega, by go_num, hnx.out, drew_more HJ.out nq⟩
          case measure => simp [intOf]; omega
        · have hne := Lib.hid (ne_of_at he)
          obtain ⟨x, hx⟩ : ∃ x, l.getD k 0 = x := ⟨_, rfl⟩
          obtain ⟨y, hy⟩ : ∃ y, m.getD k 0 = y := ⟨_, rfl⟩
          rw [hx] at c1 he
          rw [hy] at c2 he
          have hb : (x != y) = true := by simpa using he
          have hd : decide (x = y) = false := decide_eq_false he
          clear htk he hx hy hk1 hk2 hj
          go_wp2_with fail
          go_quiet (fail)
          go_wp2_with fail
          go_ret
          exact ⟨congrArg (fun b => Ending.returned (Value.bool b)) (decide_eq_false hne.out).symm, drew_more HJ.out nq⟩
      · have hlt' : ¬ (k : Int) < n := by omega
        obtain rfl : k = n := by omega
        have heq := Lib.hid (eq_of_take HL.out HM.out htk)
        clear htk hj
        go_wp2_with fail
        go_ret
        exact ⟨congrArg (fun b => Ending.returned (Value.bool b)) (decide_eq_true heq.out).symm, HJ.out⟩
  · have hn' : ¬ (n : Int) = n' := by omega
    have hb : ((n : Int) != n') = true := by simpa using hn'
    have hne : l ≠ m := fun e => hn (by rw [← hl, ← hm, e])
    clear h h' hl hm hf hf1 hn
    rw [decide_eq_false hne]
    go_enter Try.func16, Try.ntmps16
    go_wp2_with fail
    go_ret
    exact ⟨rfl, 0, rfl⟩

/-- A text's bytes as numbers; its symbols, rows, last column. -/
def ub (t : List UInt8) : List Int := t.map fun b => (b.toNat : Int)
theorem ub_len (t : List UInt8) : (ub t).length = t.length := List.length_map _
theorem ub_byt (t : List UInt8) : Bw.Byt (ub t) := fun b hb => by
  obtain ⟨c, _, rfl⟩ := List.mem_map.1 hb
  exact u8_rng c
theorem ub_inj {t u : List UInt8} (h : ub t = ub u) : t = u := by
  refine List.map_inj_right (fun a b e => ?_) |>.1 h
  exact UInt8.toNat_inj.1 (by omega)
theorem ub_app (t u : List UInt8) : ub (t ++ u) = ub t ++ ub u := List.map_append
theorem ub_drop (t : List UInt8) (k : Nat) : ub (t.drop k) = (ub t).drop k := by unfold ub; rw [List.map_drop]
theorem sy_ub (t : List UInt8) : Bw.sy (ub t) = Sy.of t ++ [0] := by
  unfold Bw.sy ub Sy.of
  rw [List.map_map]
  rfl
def Rx (t : List UInt8) : List Nat := Bw.rows (Bw.sy (ub t))
def Lx (t : List UInt8) : List Int := Bw.lastT (ub t)
theorem Rx_is (t : List UInt8) : Bw.IsRows (Bw.sy (ub t)) (Rx t) := Bw.rows_is _
theorem Rx_len (t : List UInt8) : (Rx t).length = t.length + 1 := by rw [(Rx_is t).len, Bw.sy_len, ub_len]
theorem Lx_len (t : List UInt8) : (Lx t).length = t.length + 1 := by unfold Lx; rw [Bw.lastT_len, ub_len]
theorem Lx_good (t : List UInt8) : ∀ s ∈ Lx t, 0 ≤ s ∧ s ≤ 256 := Bw.lastT_good (ub_byt t)
theorem Lx_inj {t u : List UInt8} (h : Lx t = Lx u) : t = u := ub_inj (Bw.lastT_inj (ub_byt t) (ub_byt u) h)
theorem Rx_lt {t : List UInt8} {k : Nat} (hk : k < t.length + 1) : (Rx t).getD k 0 < t.length + 1 := by
  have h1 : k < (Rx t).length := by rw [Rx_len]; exact hk
  have h2 := (Rx_is t).lt ((Rx t).getD k 0) (by rw [List.getD_eq_getElem?_getD, List.getElem?_eq_getElem h1]; exact List.getElem_mem h1)
  rwa [Bw.sy_len, ub_len] at h2
theorem Lx_at {t : List UInt8} {k : Nat} (hk : k < t.length + 1) : (Lx t).getD k 0 = (Sy.of t ++ [0]).getD (Bw.prd (t.length + 1) ((Rx t).getD k 0)) 0 := by
  have h1 : k < (Rx t).length := by rw [Rx_len]; exact hk
  have h2 := Bw.lst_at (T := Bw.sy (ub t)) h1
  rw [Bw.sy_len, ub_len, sy_ub] at h2
  show (Bw.lst (Bw.sy (ub t)) (Rx t)).getD k 0 = _
  rw [sy_ub, h2, List.getD_eq_getElem?_getD (l := Rx t), List.getElem?_eq_getElem h1]
  rfl
def rxi (t : List UInt8) : List Int := (Rx t).map fun p : Nat => (p : Int)
theorem rxi_len (t : List UInt8) : (rxi t).length = t.length + 1 := by unfold rxi; rw [List.length_map, Rx_len]
theorem rxi_at {t : List UInt8} {k : Nat} (hk : k < t.length + 1) : (rxi t).getD k 0 = ((Rx t).getD k 0 : Int) := by
  have h1 : k < (Rx t).length := by rw [Rx_len]; exact hk
  unfold rxi
  rw [List.getD_eq_getElem?_getD, List.getD_eq_getElem?_getD, List.getElem?_map, List.getElem?_eq_getElem h1]
  rfl
theorem krows {a : Option Addr} {n cap : Nat} {t : List UInt8} (w : World) (h : RdU w a cap t) (hn : t.length = n) (hm : n ≤ 100000000) :
    Calls Try.prog 11 #[.slice a n cap] w fun e w' => ∃ b c, e = .returned (.slice (some ⟨b, 0, none⟩) (n + 1) c) ∧ w.heap.size ≤ b ∧ Arr w' b c (n + 1) (fun i => ((Rx t).getD i 0 : Int)) ∧ Below w.heap.size w w' := by
  refine (srows w h hn hm).mono ?_
  rintro e w' ⟨b, c, R, rfl, hb, hA, hR, hbw⟩
  refine ⟨b, c, rfl, hb, hA.congr fun i hi => ?_, hbw⟩
  rw [← sy_ub] at hR
  have h1 := hR.unique (Rx_is t)
  rw [← h1, List.getD_eq_getElem?_getD, List.getElem?_map, List.getElem?_range hi]
  rfl

set_option maxHeartbeats 1600000 in
set_option maxRecDepth 100000 in
theorem klast {a : Option Addr} {n cap : Nat} {t : List UInt8} (w : World) (h : RdU w a cap t) (hn : t.length = n) (hm : n ≤ 100000000) :
    Calls Try.prog 18 #[.slice a n cap] w fun e w' => ∃ b c, e = .returned (.slice (some ⟨b, 0, none⟩) (n + 1) c) ∧ w.heap.size ≤ b ∧ Arr w' b c (n + 1) (fun i => (Lx t).getD i 0) ∧ Below w.heap.size w w' := by
  have hp := RdP.one (g := w.heap.size) rfl h hn
  have key := sall _ hp (by simp; omega)
  have hfl : [t].flatten = t := by simp
  rw [hfl] at key
  have hTl := Sy.all_len t
  rw [hn] at hTl
  have hLx : ∀ k, k < n + 1 → (Lx t).getD k 0 = (Sy.of t ++ [0]).getD (Bw.prd (n + 1) ((Rx t).getD k 0)) 0 := fun k hk => by
    have := Lx_at (t := t) (k := k) (by omega)
    rwa [hn] at this
  have hRx : ∀ k, k < n + 1 → (Rx t).getD k 0 < n + 1 := fun k hk => by
    have := Rx_lt (t := t) (k := k) (by omega)
    rwa [hn] at this
  obtain ⟨T, hT⟩ : ∃ T, Sy.of t ++ [0] = T := ⟨_, rfl⟩
  rw [hT] at key hTl hLx
  have HTL := Lib.hid hTl
  have HLX := Lib.hid hLx
  have HRX := Lib.hid hRx
  have HU := Lib.hid h
  have HNN := Lib.hid hn
  clear h hp hfl hTl hT hLx hRx hn
  go_enter Try.func18, Try.ntmps18
  go_wp2_with fail
  (with_reducible refine key.mono ?_); rintro e w1 ⟨v, rfl, hown, hb1⟩
  clear key
  obtain ⟨b, c, rfl, hbl, hA⟩ := Arr.of_own hown HTL.out (by omega)
  have hb1' : Below w.heap.size w w1 := ((Below.refl w.heap.size w).alloc (Nat.le_refl _) _).trans (hb1.mono (by simp))
  have key := krows w1 (HU.out.below hb1') HNN.out hm
  have HB1 := Lib.hid hb1'
  have HA1 := Lib.hid hA
  clear hown hb1 hA hb1' hbl
  go_wp2_with fail
  (with_reducible refine key.mono ?_); rintro e w2 ⟨rb, rc, rfl, hrl, hR, hb2⟩
  clear key
  obtain ⟨N, hN⟩ : ∃ N, n + 1 = N := ⟨_, rfl⟩
  have hA2 := HA1.out.below hb2
  have hsz := HB1.out.size
  have hbw := HB1.out.trans (hb2.mono hsz)
  have hbr : b < rb := by have := HA1.out.lt; omega
  rw [hN] at hA2 hR HLX HRX ⊢
  have hR0 : Arr w2 rb rc N (fun i => if i < 0 then (Lx t).getD i 0 else ((Rx t).getD i 0 : Int)) := hR.congr fun i _ => (if_neg (Nat.not_lt_zero _)).symm
  have HA2 := Lib.hid hA2
  have HR0 := Lib.hid hR0
  have HB2 := Lib.hid hbw
  have HN := Lib.hid hN
  have hN9 : N ≤ 100000001 := by omega
  have hN0 : 0 < N := by omega
  have hnN : (n : Int) + 1 = N := by omega
  have hwb : w.heap.size ≤ rb := by omega
  clear hA2 hR hR0 hbw hb2 HA1 HB1 hN hnN
  go_wp2_with fail
  go_loopw [5, 6, 14] (fun _ _ i wr => ∃ k : Nat, k ≤ N ∧ i = .int .i64 k ∧ Arr wr b c N (fun i => T.getD i 0) ∧ Arr wr rb rc N (fun i => if i < k then (Lx t).getD i 0 else ((Rx t).getD i 0 : Int)) ∧ Below w.heap.size w wr) (fun _ _ i _ => N - (intOf i).toNat)
  case atStart => exact ⟨0, Nat.zero_le _, rfl, HA2.out, HR0.out, HB2.out⟩
  case round =>
    clear HA2 HR0 HB2
    obtain ⟨k, hk, rfl, hA, hR, hbw⟩ := hrel
    by_cases hlt : k < N
    · have hlt' : (k : Int) < N := by omega
      have c0 := hR.cell hlt
      rw [if_neg (Nat.lt_irrefl k)] at c0
      have hlx := HLX.out k hlt
      have hrx := HRX.out k hlt
      have f0 := hR.free k
      obtain ⟨p, hp⟩ : ∃ p, (Rx t).getD k 0 = p := ⟨_, rfl⟩
      rw [hp] at c0 hlx hrx
      have hq := Bw.prd_lt hrx
      have hem : ((p : Int) + n).tmod N = (Bw.prd N p : Nat) := by
        rw [Int.tmod_eq_emod_of_nonneg (by omega)]
        have hNn := HN.out
        unfold Bw.prd
        by_cases e : p = 0
        · rw [if_pos e, Int.emod_eq_of_lt (by omega) (by omega)]
          omega
        · rw [if_neg e, show (p : Int) + n = ((p - 1 : Nat) : Int) + N by omega, Int.add_emod_right, Int.emod_eq_of_lt (by omega) (by omega)]
      obtain ⟨q, hqq⟩ : ∃ q, Bw.prd N p = q := ⟨_, rfl⟩
      rw [hqq] at hem hq hlx
      have c1 := hA.cell hq
      obtain ⟨x, hx⟩ : ∃ x, T.getD q 0 = x := ⟨_, rfl⟩
      rw [hx] at c1 hlx
      have hst : Stay (· = rb) wr (wr.setCell ⟨rb, k, none⟩ (.int .i64 x)) := (Stay.refl (· = rb) _).setCell (p := ⟨rb, k, none⟩) (.inr rfl) _
      have hA2 := hA.stay hst (by omega)
      have hR2 : Arr _ rb rc N (fun i => if i < k + 1 then (Lx t).getD i 0 else ((Rx t).getD i 0 : Int)) := (hR.set k x).congr fun j _ => by
        show (if j = k then x else if j < k then (Lx t).getD j 0 else ((Rx t).getD j 0 : Int)) = if j < k + 1 then (Lx t).getD j 0 else ((Rx t).getD j 0 : Int)
        by_cases e : j = k
        · subst e
          rw [if_pos rfl, if_pos (by omega), hlx]
        · rw [if_neg e]
          by_cases e2 : j < k
          · rw [if_pos e2, if_pos (by omega)]
          · rw [if_neg e2, if_neg (by omega)]
      have hb2 : Below w.heap.size w (wr.setCell ⟨rb, k, none⟩ (.int .i64 x)) := hbw.setCell (p := ⟨rb, k, none⟩) hwb _
      have HX := Lib.hid (And.intro hA2 (And.intro hR2 hb2))
      have hq' : (q : Int) < N := by omega
      have hN1 : ¬ (N : Int) = 0 := by omega
      have hn9 : (n : Int) ≤ 100000000 := by omega
      have hp9 : (p : Int) ≤ 100000001 := by omega
      clear hA hR hbw hst hA2 hR2 hb2 hlx hx hqq hp hrx
      go_wp2_with fail
      go_roundw
      case rel => exact ⟨k + 1, by omega, by go_num, HX.out.1, HX.out.2.1, HX.out.2.2⟩
      case measure => simp [intOf]; omega
    · have hlt' : ¬ (k : Int) < N := by omega
      obtain rfl : k = N := by omega
      have HR := Lib.hid (hR.congr fun i hi => if_pos hi)
      have HB := Lib.hid hbw
      clear hA hR hbw
      obtain rfl := HN.out
      go_wp2_with fail
      go_ret
      exact ⟨rb, rc, rfl, hwb, HR.out, HB.out⟩
end Go.Proofs.Ytfncjkkdemeclaa
