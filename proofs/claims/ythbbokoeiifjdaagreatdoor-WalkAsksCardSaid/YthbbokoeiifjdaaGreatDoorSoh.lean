/- Lists that are the same; the last column (package sorted): contracts of the walk. The text of a transform (package sorted): hasOneEnd, Back: contracts of the walk. What the laws of layer 9 lean on: told, Text: contracts of the walk. Numbers that came in, and a slice of integers, each element read. No function of the program stands in it. A text of numbers (the laws' Text): a contract of the walk. Layer 9's statements as walks: SortedRises. -/
import Derived.Test.YthbbokoeiifjdaaGreatDoorSog
import Derived.Test.YthbbokoeiifjdaaGreatDoorBwg
import Derived.Test.YthbbokoeiifjdaaGreatDoorSyg
import Derived.Test.YthbbokoeiifjdaaGreatDoorAre
namespace Go.Proofs.YthbbokoeiifjdaaGreatDoor
open Go Go.RowKit Go.ChangeAt

theorem RdL.cell {w : World} {a : Option Addr} {cap : Nat} {l : List Int} (h : RdL w a cap l) {k : Nat} (hk : k < l.length) : ∃ b off, a = some ⟨b, off, none⟩ ∧ b < w.heap.size ∧ w.cell? ⟨b, off + k, none⟩ = some (.int .i64 (l.getD k 0)) := by
  obtain ⟨b, off, h1, h2, h3⟩ := h.2.2.2 (by omega)
  exact ⟨b, off, h1, h2, h3 k hk⟩
theorem RdL.drewN {w : World} {a : Option Addr} {cap : Nat} {l : List Int} (h : RdL w a cap l) (n : Nat) : RdL (w.drewN n) a cap l := h
theorem eq_of_take {l m : List Int} {n : Nat} (hl : l.length = n) (hm : m.length = n) (h : l.take n = m.take n) : l = m := by
  rwa [List.take_of_length_le (by omega), List.take_of_length_le (by omega)] at h
theorem ne_of_at {l m : List Int} {k : Nat} (h : l.getD k 0 ≠ m.getD k 0) : l ≠ m := fun e => h (by rw [e])
theorem take_eq_next {l m : List Int} {k : Nat} (h1 : k < l.length) (h2 : k < m.length) (h : l.take k = m.take k) (e : l.getD k 0 = m.getD k 0) : l.take (k + 1) = m.take (k + 1) := by
  rw [Bw.take_next h1, Bw.take_next h2, h, e]

theorem drew_more {w wr : World} (h : ∃ j, wr = w.drewN j) (n : Nat) : ∃ j, wr.drewN n = w.drewN j := by
  obtain ⟨j, rfl⟩ := h
  exact ⟨j + n, World.drewN_drewN _ _ _⟩
set_option maxHeartbeats 800000 in
theorem r6same_is {l m : List Int} {n n' : Nat} {a a' : Option Addr} {cap cap' : Nat} (r : Bool) (w : World) (h : RdL w a cap l) (h' : RdL w a' cap' m) (hl : l.length = n) (hm : m.length = n') (hr : decide (l = m) = r) :
    Calls Tryz.prog 20 #[.slice a n cap, .slice a' n' cap'] w fun e w' => e = .returned (.bool r) ∧ ∃ k, w' = w.drewN k := by
  subst hr
  have hf := h.2.1
  have hf1 := h.1
  unfold maxLen at hf
  by_cases hn : n = n'
  · subst hn
    have H := Lib.hid h
    have H' := Lib.hid h'
    have HL := Lib.hid hl
    have HM := Lib.hid hm
    have hn9 : (n : Int) ≤ 9223372036854775807 := by omega
    clear h h' hl hm hf hf1
    go_enter Tryz.func20, Tryz.ntmps20
    go_wp2_with fail
    go_loopw [5] (fun i wr => ∃ k : Nat, k ≤ n ∧ i = .int .i64 k ∧ l.take k = m.take k ∧ ∃ j, wr = w.drewN j) (fun i _ => n - (intOf i).toNat)
    case atStart => exact ⟨0, Nat.zero_le _, rfl, rfl, 0, rfl⟩
    case round =>
      obtain ⟨k, hk, rfl, htk, hj⟩ := hrel
      have HJ := Lib.hid hj
      by_cases hlt : k < n
      · have hlt' : (k : Int) < n := by omega
        have hk1 : k < l.length := by rw [HL.out]; exact hlt
        have hk2 : k < m.length := by rw [HM.out]; exact hlt
        obtain ⟨b, off, rfl, -, c1⟩ := RdL.cell (w := wr) (a := a) (cap := cap) (by obtain ⟨j, rfl⟩ := hj; exact H.out.drewN j) hk1
        obtain ⟨b', off', rfl, -, c2⟩ := RdL.cell (w := wr) (a := a') (cap := cap') (by obtain ⟨j, rfl⟩ := hj; exact H'.out.drewN j) hk2
        by_cases he : l.getD k 0 = m.getD k 0
        · have hnx := Lib.hid (take_eq_next hk1 hk2 htk he)
          rw [← he] at c2
          obtain ⟨x, hx⟩ : ∃ x, l.getD k 0 = x := ⟨_, rfl⟩
          rw [hx] at c1 c2
          have hb : (x != x) = false := by simp
          clear htk he hx hk1 hk2 hj
          go_wp2_with fail
          go_quiet (fail)
          go_wp2_with fail
          go_roundw
          case rel => exact ⟨k + 1, by omega, by go_num, hnx.out, drew_more HJ.out nq⟩
          case measure => simp [intOf]; omega
        · have hne := Lib.hid (ne_of_at he)
          obtain ⟨x, hx⟩ : ∃ x, l.getD k 0 = x := ⟨_, rfl⟩
          obtain ⟨y, hy⟩ : ∃ y, m.getD k 0 = y := ⟨_, rfl⟩
          rw [hx] at c1 he
          rw [hy] at c2 he
          have hb : (x != y) = true := by simpa using he
          have hd : decide (x = y) = false := decide_eq_false he
          clear htk he hx hy hk1 hk2 hj
          go_wp2_with fail
          go_quiet (fail)
          go_wp2_with fail
          go_ret
          exact ⟨congrArg (fun b => Ending.returned (Value.bool b)) (decide_eq_false hne.out).symm, drew_more HJ.out nq⟩
      · have hlt' : ¬ (k : Int) < n := by omega
        obtain rfl : k = n := by omega
        have heq := Lib.hid (eq_of_take HL.out HM.out htk)
        clear htk hj
        go_wp2_with fail
        go_ret
        exact ⟨congrArg (fun b => Ending.returned (Value.bool b)) (decide_eq_true heq.out).symm, HJ.out⟩
  · have hn' : ¬ (n : Int) = n' := by omega
    have hb : ((n : Int) != n') = true := by simpa using hn'
    have hne : l ≠ m := fun e => hn (by rw [← hl, ← hm, e])
    clear h h' hl hm hf hf1 hn
    rw [decide_eq_false hne]
    go_enter Tryz.func20, Tryz.ntmps20
    go_wp2_with fail
    go_ret
    exact ⟨rfl, 0, rfl⟩

/-- A text's bytes as numbers; its symbols, rows, last column. -/
def ub (t : List UInt8) : List Int := t.map fun b => (b.toNat : Int)
theorem ub_len (t : List UInt8) : (ub t).length = t.length := List.length_map _
theorem ub_byt (t : List UInt8) : Bw.Byt (ub t) := fun b hb => by
  obtain ⟨c, _, rfl⟩ := List.mem_map.1 hb
  exact u8_rng c
theorem ub_inj {t u : List UInt8} (h : ub t = ub u) : t = u := by
  refine List.map_inj_right (fun a b e => ?_) |>.1 h
  exact UInt8.toNat_inj.1 (by omega)
theorem ub_app (t u : List UInt8) : ub (t ++ u) = ub t ++ ub u := List.map_append
theorem ub_drop (t : List UInt8) (k : Nat) : ub (t.drop k) = (ub t).drop k := by unfold ub; rw [List.map_drop]
theorem sy_ub (t : List UInt8) : Bw.sy (ub t) = Sy.of t ++ [0] := by
  unfold Bw.sy ub Sy.of
  rw [List.map_map]
  rfl
def Rx (t : List UInt8) : List Nat := Bw.rows (Bw.sy (ub t))
def Lx (t : List UInt8) : List Int := Bw.lastT (ub t)
theorem Rx_is (t : List UInt8) : Bw.IsRows (Bw.sy (ub t)) (Rx t) := Bw.rows_is _
theorem Rx_len (t : List UInt8) : (Rx t).length = t.length + 1 := by rw [(Rx_is t).len, Bw.sy_len, ub_len]
theorem Lx_len (t : List UInt8) : (Lx t).length = t.length + 1 := by unfold Lx; rw [Bw.lastT_len, ub_len]
theorem Lx_good (t : List UInt8) : ∀ s ∈ Lx t, 0 ≤ s ∧ s ≤ 256 := Bw.lastT_good (ub_byt t)
theorem Lx_inj {t u : List UInt8} (h : Lx t = Lx u) : t = u := ub_inj (Bw.lastT_inj (ub_byt t) (ub_byt u) h)
theorem Rx_lt {t : List UInt8} {k : Nat} (hk : k < t.length + 1) : (Rx t).getD k 0 < t.length + 1 := by
  have h1 : k < (Rx t).length := by rw [Rx_len]; exact hk
  have h2 := (Rx_is t).lt ((Rx t).getD k 0) (by rw [List.getD_eq_getElem?_getD, List.getElem?_eq_getElem h1]; exact List.getElem_mem h1)
  rwa [Bw.sy_len, ub_len] at h2
theorem Lx_at {t : List UInt8} {k : Nat} (hk : k < t.length + 1) : (Lx t).getD k 0 = (Sy.of t ++ [0]).getD (Bw.prd (t.length + 1) ((Rx t).getD k 0)) 0 := by
  have h1 : k < (Rx t).length := by rw [Rx_len]; exact hk
  have h2 := Bw.lst_at (T := Bw.sy (ub t)) h1
  rw [Bw.sy_len, ub_len, sy_ub] at h2
  show (Bw.lst (Bw.sy (ub t)) (Rx t)).getD k 0 = _
  rw [sy_ub, h2, List.getD_eq_getElem?_getD (l := Rx t), List.getElem?_eq_getElem h1]
  rfl
def rxi (t : List UInt8) : List Int := (Rx t).map fun p : Nat => (p : Int)
theorem rxi_len (t : List UInt8) : (rxi t).length = t.length + 1 := by unfold rxi; rw [List.length_map, Rx_len]
theorem rxi_at {t : List UInt8} {k : Nat} (hk : k < t.length + 1) : (rxi t).getD k 0 = ((Rx t).getD k 0 : Int) := by
  have h1 : k < (Rx t).length := by rw [Rx_len]; exact hk
  unfold rxi
  rw [List.getD_eq_getElem?_getD, List.getD_eq_getElem?_getD, List.getElem?_map, List.getElem?_eq_getElem h1]
  rfl
theorem krows {a : Option Addr} {n cap : Nat} {t : List UInt8} (w : World) (h : RdU w a cap t) (hn : t.length = n) (hm : n ≤ 100000000) :
    Calls Tryz.prog 45 #[.slice a n cap] w fun e w' => ∃ b c, e = .returned (.slice (some ⟨b, 0, none⟩) (n + 1) c) ∧ w.heap.size ≤ b ∧ Arr w' b c (n + 1) (fun i => ((Rx t).getD i 0 : Int)) ∧ Below w.heap.size w w' := by
  refine (srows w h hn hm).mono ?_
  rintro e w' ⟨b, c, R, rfl, hb, hA, hR, hbw⟩
  refine ⟨b, c, rfl, hb, hA.congr fun i hi => ?_, hbw⟩
  rw [← sy_ub] at hR
  have h1 := hR.unique (Rx_is t)
  rw [← h1, List.getD_eq_getElem?_getD, List.getElem?_map, List.getElem?_range hi]
  rfl

set_option maxHeartbeats 1600000 in
set_option maxRecDepth 100000 in
theorem klast {a : Option Addr} {n cap : Nat} {t : List UInt8} (w : World) (h : RdU w a cap t) (hn : t.length = n) (hm : n ≤ 100000000) :
    Calls Tryz.prog 24 #[.slice a n cap] w fun e w' => ∃ b c, e = .returned (.slice (some ⟨b, 0, none⟩) (n + 1) c) ∧ w.heap.size ≤ b ∧ Arr w' b c (n + 1) (fun i => (Lx t).getD i 0) ∧ Below w.heap.size w w' := by
  have hp := RdP.one (g := w.heap.size) rfl h hn
  have key := sall _ hp (by simp; omega)
  have hfl : [t].flatten = t := by simp
  rw [hfl] at key
  have hTl := Sy.all_len t
  rw [hn] at hTl
  have hLx : ∀ k, k < n + 1 → (Lx t).getD k 0 = (Sy.of t ++ [0]).getD (Bw.prd (n + 1) ((Rx t).getD k 0)) 0 := fun k hk => by
    have := Lx_at (t := t) (k := k) (by omega)
    rwa [hn] at this
  have hRx : ∀ k, k < n + 1 → (Rx t).getD k 0 < n + 1 := fun k hk => by
    have := Rx_lt (t := t) (k := k) (by omega)
    rwa [hn] at this
  obtain ⟨T, hT⟩ : ∃ T, Sy.of t ++ [0] = T := ⟨_, rfl⟩
  rw [hT] at key hTl hLx
  have HTL := Lib.hid hTl
  have HLX := Lib.hid hLx
  have HRX := Lib.hid hRx
  have HU := Lib.hid h
  have HNN := Lib.hid hn
  clear h hp hfl hTl hT hLx hRx hn
  go_enter Tryz.func24, Tryz.ntmps24
  go_wp2_with fail
  (with_reducible refine key.mono ?_); rintro e w1 ⟨v, rfl, hown, hb1⟩
  clear key
  obtain ⟨b, c, rfl, hbl, hA⟩ := Arr.of_own hown HTL.out (by omega)
  have hb1' : Below w.heap.size w w1 := ((Below.refl w.heap.size w).alloc (Nat.le_refl _) _).trans (hb1.mono (by simp))
  have key := krows w1 (HU.out.below hb1') HNN.out hm
  have HB1 := Lib.hid hb1'
  have HA1 := Lib.hid hA
  clear hown hb1 hA hb1' hbl
  go_wp2_with fail
  (with_reducible refine key.mono ?_); rintro e w2 ⟨rb, rc, rfl, hrl, hR, hb2⟩
  clear key
  obtain ⟨N, hN⟩ : ∃ N, n + 1 = N := ⟨_, rfl⟩
  have hA2 := HA1.out.below hb2
  have hsz := HB1.out.size
  have hbw := HB1.out.trans (hb2.mono hsz)
  have hbr : b < rb := by have := HA1.out.lt; omega
  rw [hN] at hA2 hR HLX HRX ⊢
  have hR0 : Arr w2 rb rc N (fun i => if i < 0 then (Lx t).getD i 0 else ((Rx t).getD i 0 : Int)) := hR.congr fun i _ => (if_neg (Nat.not_lt_zero _)).symm
  have HA2 := Lib.hid hA2
  have HR0 := Lib.hid hR0
  have HB2 := Lib.hid hbw
  have HN := Lib.hid hN
  have hN9 : N ≤ 100000001 := by omega
  have hN0 : 0 < N := by omega
  have hnN : (n : Int) + 1 = N := by omega
  have hwb : w.heap.size ≤ rb := by omega
  clear hA2 hR hR0 hbw hb2 HA1 HB1 hN hnN
  go_wp2_with fail
  go_loopw [5, 6, 14] (fun _ _ i wr => ∃ k : Nat, k ≤ N ∧ i = .int .i64 k ∧ Arr wr b c N (fun i => T.getD i 0) ∧ Arr wr rb rc N (fun i => if i < k then (Lx t).getD i 0 else ((Rx t).getD i 0 : Int)) ∧ Below w.heap.size w wr) (fun _ _ i _ => N - (intOf i).toNat)
  case atStart => exact ⟨0, Nat.zero_le _, rfl, HA2.out, HR0.out, HB2.out⟩
  case round =>
    clear HA2 HR0 HB2
    obtain ⟨k, hk, rfl, hA, hR, hbw⟩ := hrel
    by_cases hlt : k < N
    · have hlt' : (k : Int) < N := by omega
      have c0 := hR.cell hlt
      rw [if_neg (Nat.lt_irrefl k)] at c0
      have hlx := HLX.out k hlt
      have hrx := HRX.out k hlt
      have f0 := hR.free k
      obtain ⟨p, hp⟩ : ∃ p, (Rx t).getD k 0 = p := ⟨_, rfl⟩
      rw [hp] at c0 hlx hrx
      have hq := Bw.prd_lt hrx
      have hem : ((p : Int) + n).tmod N = (Bw.prd N p : Nat) := by
        rw [Int.tmod_eq_emod_of_nonneg (by omega)]
        have hNn := HN.out
        unfold Bw.prd
        by_cases e : p = 0
        · rw [if_pos e, Int.emod_eq_of_lt (by omega) (by omega)]
          omega
        · rw [if_neg e, show (p : Int) + n = ((p - 1 : Nat) : Int) + N by omega, Int.add_emod_right, Int.emod_eq_of_lt (by omega) (by omega)]
      obtain ⟨q, hqq⟩ : ∃ q, Bw.prd N p = q := ⟨_, rfl⟩
      rw [hqq] at hem hq hlx
      have c1 := hA.cell hq
      obtain ⟨x, hx⟩ : ∃ x, T.getD q 0 = x := ⟨_, rfl⟩
      rw [hx] at c1 hlx
      have hst : Stay (· = rb) wr (wr.setCell ⟨rb, k, none⟩ (.int .i64 x)) := (Stay.refl (· = rb) _).setCell (p := ⟨rb, k, none⟩) (.inr rfl) _
      have hA2 := hA.stay hst (by omega)
      have hR2 : Arr _ rb rc N (fun i => if i < k + 1 then (Lx t).getD i 0 else ((Rx t).getD i 0 : Int)) := (hR.set k x).congr fun j _ => by
        show (if j = k then x else if j < k then (Lx t).getD j 0 else ((Rx t).getD j 0 : Int)) = if j < k + 1 then (Lx t).getD j 0 else ((Rx t).getD j 0 : Int)
        by_cases e : j = k
        · subst e
          rw [if_pos rfl, if_pos (by omega), hlx]
        · rw [if_neg e]
          by_cases e2 : j < k
          · rw [if_pos e2, if_pos (by omega)]
          · rw [if_neg e2, if_neg (by omega)]
      have hb2 : Below w.heap.size w (wr.setCell ⟨rb, k, none⟩ (.int .i64 x)) := hbw.setCell (p := ⟨rb, k, none⟩) hwb _
      have HX := Lib.hid (And.intro hA2 (And.intro hR2 hb2))
      have hq' : (q : Int) < N := by omega
      have hN1 : ¬ (N : Int) = 0 := by omega
      have hn9 : (n : Int) ≤ 100000000 := by omega
      have hp9 : (p : Int) ≤ 100000001 := by omega
      clear hA hR hbw hst hA2 hR2 hb2 hlx hx hqq hp hrx
      go_wp2_with fail
      go_roundw
      case rel => exact ⟨k + 1, by omega, by go_num, HX.out.1, HX.out.2.1, HX.out.2.2⟩
      case measure => simp [intOf]; omega
    · have hlt' : ¬ (k : Int) < N := by omega
      obtain rfl : k = N := by omega
      have HR := Lib.hid (hR.congr fun i hi => if_pos hi)
      have HB := Lib.hid hbw
      clear hA hR hbw
      obtain rfl := HN.out
      go_wp2_with fail
      go_ret
      exact ⟨rb, rc, rfl, hwb, HR.out, HB.out⟩
end Go.Proofs.YthbbokoeiifjdaaGreatDoor
namespace Go.Proofs.YthbbokoeiifjdaaGreatDoor
open Go Go.RowKit Go.ChangeAt

namespace Bw
theorem bk_pos {l : List Int} {r : Nat} (hz : 0 < l.count 0) (hn : ∀ s ∈ l, 0 ≤ s) (hr : r < l.length) (h : l.getD r 0 ≠ 0) : 0 < bk l r := by
  have h1 := hn _ (getD_mem hr)
  have h2 := low_mono l (s := 0) (t := l.getD r 0) (by omega)
  unfold bk
  omega
theorem thru_fin {l : List Int} (hz : l.count 0 = 1) (hn : ∀ s ∈ l, 0 ≤ s) (hm : ∀ k, k + 1 < l.length → l.getD (stp l k) 0 ≠ 0) : Thru l := by
  have hp : 0 < l.length := Nat.lt_of_lt_of_le (by omega) (List.count_le_length (a := (0 : Int)) (l := l))
  refine ⟨hp, hn, hm, ?_⟩
  have hinj : ∀ i j, i < l.length → j < l.length → i < j → stp l i = stp l j → False := fun i j _ hj hij e => by
    have h1 := stp_back hp i (j - i) (by rw [show i + (j - i) = j by omega]; exact e)
    have h2 : stp l (j - i) = bk l (stp l (j - i - 1)) := by
      rw [show j - i = (j - i - 1) + 1 by omega]; rfl
    have h3 := bk_pos (by omega) hn (stp_lt hp (j - i - 1)) (hm (j - i - 1) (by omega))
    have h4 : stp l 0 = 0 := rfl
    omega
  obtain ⟨e, he, hev⟩ : ∃ e, e < l.length ∧ l.getD e 0 = 0 := by
    have : (0 : Int) ∈ l := List.count_pos_iff.1 (by omega)
    obtain ⟨e, he, h⟩ := List.getElem_of_mem this
    exact ⟨e, he, by rw [List.getD_eq_getElem?_getD, List.getElem?_eq_getElem he]; exact h⟩
  obtain ⟨i, hi, rfl⟩ := onto (f := stp l) (fun i _ => stp_lt hp i) (fun i j hi hj e => by
    rcases Nat.lt_trichotomy i j with h | h | h
    · exact (hinj i j hi hj h e).elim
    · exact h
    · exact (hinj j i hj hi h e.symm).elim) he
  by_cases hi2 : i + 1 < l.length
  · exact absurd hev (hm i hi2)
  · rw [show l.length - 1 = i by omega]; exact hev
end Bw
/-- The bytes of numbers. -/
def bu (t : List Int) : List UInt8 := t.map fun b => UInt8.ofNat b.toNat
theorem ub_bu {t : List Int} (h : Bw.Byt t) : ub (bu t) = t := by
  unfold ub bu
  rw [List.map_map]
  conv => rhs; rw [← List.map_id t]
  refine List.map_congr_left fun b hb => ?_
  have := h b hb
  show (((UInt8.ofNat b.toNat).toNat : Nat) : Int) = b
  rw [UInt8.toNat_ofNat']
  omega
theorem bu_ub (t : List UInt8) : bu (ub t) = t := ub_inj (ub_bu (ub_byt t))
/-- What is a text's transform: symbols, one end, and a way through all rows. -/
theorem Lx_iff {l : List Int} : (∃ t, Lx t = l) ↔ (∀ s ∈ l, 0 ≤ s ∧ s ≤ 256) ∧ l.count 0 = 1 ∧ ∀ k, k + 1 < l.length → l.getD (Bw.stp l k) 0 ≠ 0 := by
  constructor
  · rintro ⟨t, rfl⟩
    exact ⟨Lx_good t, Bw.lastT_zero (ub_byt t), (Bw.thru_lastT (ub_byt t)).mid⟩
  · rintro ⟨h1, h2, h3⟩
    obtain ⟨t, ht, _, he⟩ := Bw.thru_text (Bw.thru_fin h2 (fun s hs => (h1 s hs).1) h3) (fun s hs => (h1 s hs).2)
    exact ⟨bu t, by unfold Lx; rw [ub_bu ht, he]⟩
theorem Lx_read {t : List UInt8} {i : Nat} (hi : i < t.length) : (Lx t).getD (Bw.stp (Lx t) (t.length - 1 - i)) 0 = ((t.getD i 0).toNat : Int) + 1 := by
  have h1 := (Rx_is t).read (Bw.sy_txt (ub_byt t)) (k := t.length - 1 - i) (by rw [Bw.sy_len, ub_len]; omega)
  rw [Bw.sy_len, ub_len, show t.length + 1 - 2 - (t.length - 1 - i) = i by omega, Bw.sy_at (by rw [ub_len]; exact hi)] at h1
  refine h1.trans ?_
  congr 1
  unfold ub
  rw [List.getD_eq_getElem?_getD, List.getElem?_map, List.getElem?_eq_getElem hi, List.getD_eq_getElem?_getD, List.getElem?_eq_getElem hi]
  rfl

set_option maxHeartbeats 800000 in
theorem sone {a : Option Addr} {cap n : Nat} {l : List Int} (r : Bool) (w : World) (h : RdL w a cap l) (hl : l.length = n) (hr : decide ((∀ s ∈ l, 0 ≤ s ∧ s ≤ 256) ∧ l.count 0 = 1) = r) :
    Calls Tryz.prog 47 #[.slice a n cap] w fun e w' => e = .returned (.bool r) ∧ w = w' := by
  have hf := h.2.1
  have hf1 := h.1
  unfold maxLen at hf
  have hn9 : (n : Int) ≤ 9223372036854775807 := by omega
  have H := Lib.hid h
  have HL := Lib.hid hl
  have HR := Lib.hid hr
  clear h hl hr hf hf1
  go_enter Tryz.func47, Tryz.ntmps47
  go_wp2_with fail
  go_loop [3, 5, 6, 7, 10] (fun c _ _ _ i => ∃ k : Nat, k ≤ n ∧ i = .int .i64 k ∧ c = .int .i64 ((l.take k).count 0 : Nat) ∧ ∀ s ∈ l.take k, 0 ≤ s ∧ s ≤ 256) (fun _ _ _ _ i => n - (intOf i).toNat)
  case atStart => exact ⟨0, Nat.zero_le _, rfl, rfl, fun s hs => by cases hs⟩
  case round =>
    obtain ⟨k, hk, rfl, rfl, hg⟩ := hrel
    by_cases hlt : k < n
    · have hlt' : (k : Int) < n := by omega
      have hk1 : k < l.length := by rw [HL.out]; exact hlt
      obtain ⟨b, off, rfl, -, c1⟩ := H.out.cell hk1
      have hct := Bw.count_next hk1 0
      have hfew := Bw.count_few l k 0
      have hmem := Bw.getD_mem hk1
      have htk := Bw.take_next hk1
      obtain ⟨x, hx⟩ : ∃ x, l.getD k 0 = x := ⟨_, rfl⟩
      rw [hx] at c1 hct hmem htk
      obtain ⟨y, hy⟩ : ∃ y, (l.take k).count 0 = y := ⟨_, rfl⟩
      rw [hy] at hct hfew ⊢
      have hnx : (0 ≤ x ∧ x ≤ 256) → ∀ s ∈ l.take (k + 1), 0 ≤ s ∧ s ≤ 256 := fun hx s hs => by
        rw [htk] at hs
        rcases List.mem_append.1 hs with h1 | h1
        · exact hg s h1
        · rw [List.mem_singleton.1 h1]; exact hx
      have HNX := Lib.hid hnx
      by_cases h1 : 1 ≤ x ∧ x ≤ 256
      · have key := sbyte x w h1
        have hx0 : ¬ x = 0 := by omega
        rw [if_neg hx0] at hct
        have HCT := Lib.hid hct
        have HX := Lib.hid h1
        clear hg hct hmem htk hx hy hnx h1 hk1
        go_wp2_with fail
        (with_reducible refine key.mono ?_); rintro e w' ⟨rfl, rfl⟩
        clear key
        go_wp2_with fail
        go_round
        case rel => exact ⟨k + 1, by omega, by go_num, by rw [HCT.out]; rfl, HNX.out (by have := HX.out; omega)⟩
        case measure => simp [intOf]; omega
      · have key := sbyte_none x w h1
        by_cases h0 : x = 0
        · subst h0
          rw [if_pos rfl] at hct
          have HCT := Lib.hid hct
          have hb : ((0 : Int) != 0) = false := rfl
          clear hg hct hmem htk hx hy hnx h1 hk1
          go_wp2_with fail
          (with_reducible refine key.mono ?_); rintro e w' ⟨rfl, rfl⟩
          clear key
          go_wp2_with fail
          go_round
          case rel => exact ⟨k + 1, by omega, by go_num, by rw [HCT.out]; go_num, HNX.out (by omega)⟩
          case measure => simp [intOf]; omega
        · have hb : (x != 0) = true := by simpa using h0
          have hr0 : r = false := by
            rw [← HR.out]
            exact decide_eq_false fun h2 => by have := h2.1 x hmem; omega
          subst hr0
          clear hg hct hmem htk hx hy hnx h1 hk1
          go_wp2_with fail
          (with_reducible refine key.mono ?_); rintro e w' ⟨rfl, rfl⟩
          clear key
          go_wp2_with fail
          go_ret
          exact ⟨rfl, rfl⟩
    · have hlt' : ¬ (k : Int) < n := by omega
      have hfin : l.take k = l := List.take_of_length_le (by rw [HL.out]; omega)
      rw [hfin] at hg ⊢
      obtain ⟨y, hy⟩ : ∃ y, l.count 0 = y := ⟨_, rfl⟩
      have hr2 : ((y : Int) == 1) = r := by
        rw [← HR.out, hy]
        by_cases e : y = 1
        · subst e
          rw [decide_eq_true ⟨hg, rfl⟩]; rfl
        · rw [decide_eq_false fun h2 => e h2.2]
          simpa using (show ¬ (y : Int) = 1 by omega)
      rw [hy]
      have HR2 := Lib.hid hr2
      clear hg hfin hy hr2
      go_wp2_with fail
      go_ret
      exact ⟨congrArg (fun b => Ending.returned (Value.bool b)) HR2.out, rfl⟩

/-- Block b of the memory: a row of N bytes. -/
def ArU (w : World) (b N : Nat) (f : Nat → Int) : Prop :=
  ∃ c, w.heap[b]? = some (.cells c 5 (0, 0)) ∧ c.size = N ∧ ∀ i, i < N → c[i]? = some (.int .u8 (f i))
theorem ArU.cell {w : World} {b N : Nat} {f : Nat → Int} (h : ArU w b N f) {i : Nat} (hi : i < N) : w.cell? ⟨b, i, none⟩ = some (.int .u8 (f i)) := by
  obtain ⟨c, h1, _, h5⟩ := h
  exact (cell_of h1).trans (h5 i hi)
theorem ArU.free {w : World} {b N : Nat} {f : Nat → Int} (h : ArU w b N f) (i : Nat) : w.frozen? ⟨b, i, none⟩ = false := by
  obtain ⟨c, h1, _⟩ := h
  exact free_of h1
theorem ArU.lt {w : World} {b N : Nat} {f : Nat → Int} (h : ArU w b N f) : b < w.heap.size := by
  obtain ⟨c, h1, _⟩ := h
  exact (Array.getElem?_eq_some_iff.1 h1).1
theorem ArU.set {w : World} {b N : Nat} {f : Nat → Int} (h : ArU w b N f) (i : Nat) (v : Int) : ArU (w.setCell ⟨b, i, none⟩ (.int .u8 v)) b N (fun j => if j = i then v else f j) := by
  obtain ⟨c, h1, h2, h5⟩ := h
  refine ⟨_, set_of h1 _, by rw [Array.size_setIfInBounds]; exact h2, fun j hj => ?_⟩
  show _ = some (Value.int .u8 (if j = i then v else f j))
  by_cases e : j = i
  · subst e
    rw [if_pos rfl, Array.getElem?_setIfInBounds_self_of_lt (by omega)]
  · rw [if_neg e, Array.getElem?_setIfInBounds_ne (Ne.symm e)]
    exact h5 j hj
theorem ArU.made {w : World} (n : Nat) : ArU (w.alloc (.cells (madeCells #[Value.int .u8 0] n) 5)) w.heap.size n (fun _ => 0) := by
  refine ⟨_, alloc_of, ?_, fun i hi => ?_⟩
  · rw [← Array.length_toList, toList_madeCells_one, List.length_replicate]
  · rw [← Array.getElem?_toList, toList_madeCells_one, List.getElem?_replicate, if_pos hi]
theorem ArU.rd {w : World} {b N : Nat} {f : Nat → Int} (h : ArU w b N f) (t : List UInt8) (ht : t.length = N) (hm : N ≤ maxLen) (hf : ∀ i, i < N → f i = ((t.getD i 0).toNat : Int)) : RdU w (some ⟨b, 0, none⟩) N t :=
  ⟨by omega, hm, fun _ => ⟨b, 0, rfl, h.lt, fun i hi => by rw [Nat.zero_add, h.cell (by omega), hf i (by omega)]⟩⟩
theorem infoU : (Tryz.prog.info? 5).map (fun i => (i.zero, i.size, i.bytes)) = some (some (.int .u8 0), 1, 1) := by kernel_rfl

set_option maxHeartbeats 1600000 in
set_option maxRecDepth 100000 in
/-- Back: the text whose transform the list is, or none. -/
theorem kback {a : Option Addr} {cap n : Nat} {l : List Int} (w : World) (h : RdL w a cap l) (hl : l.length = n) (hm : n ≤ 100000001) :
    Calls Tryz.prog 32 #[.slice a n cap] w fun e w' => ((∃ t b, Lx t = l ∧ t.length + 1 = n ∧ e = .returned (.tuple #[.slice (some ⟨b, 0, none⟩) t.length t.length, .bool true]) ∧ w.heap.size ≤ b ∧ RdU w' (some ⟨b, 0, none⟩) t.length t) ∨ ((∀ t, Lx t ≠ l) ∧ e = .returned (.tuple #[.slice none 0 0, .bool false]))) ∧ Below w.heap.size w w' := by
  by_cases hg : (∀ s ∈ l, 0 ≤ s ∧ s ≤ 256) ∧ l.count 0 = 1
  · have key := sone true w h hl (decide_eq_true hg)
    have key2 := sranks w h hl (by omega) hg.1
    have hn0 : 0 < n := by
      rw [← hl]
      exact Nat.lt_of_lt_of_le (by omega) (List.count_le_length (a := (0 : Int)) (l := l))
    obtain ⟨i0, hi, hz0, hz1, hz2⟩ := info_parts infoU
    have H := Lib.hid h
    have HL := Lib.hid hl
    have HG := Lib.hid hg
    obtain ⟨m, hmn⟩ : ∃ m, n = m + 1 := ⟨n - 1, by omega⟩
    have hm1 : (n : Int) - 1 = m := by omega
    have HMN := Lib.hid hmn
    have hma : m + 1 ≤ n := by omega
    have hmb : n ≤ m + 1 := by omega
    clear h hl hg hmn
    go_enter Tryz.func32, Tryz.ntmps32
    go_wp2_with fail
    (with_reducible refine key.mono ?_); rintro e w' ⟨rfl, rfl⟩
    clear key
    go_wp2_with fail
    (with_reducible refine key2.mono ?_); rintro e w1 ⟨K, rfl, hKl, hK, hb1⟩
    clear key2
    have hK2 : Arr (w1.alloc (.cells (madeCells #[Value.int .u8 0] m) 5)) K n n (fun k => (Bw.bk l k : Int)) := hK.below ((Below.refl _ _).alloc (Nat.le_refl _) _)
    have hU : ArU (w1.alloc (.cells (madeCells #[Value.int .u8 0] m) 5)) w1.heap.size m (fun _ => 0) := ArU.made m
    have hb2 : Below w.heap.size w (w1.alloc (.cells (madeCells #[Value.int .u8 0] m) 5)) := hb1.alloc hb1.size _
    have hK3 : K < w1.heap.size := hK.lt
    have hb3 := hb1.size
    obtain ⟨U, hUU⟩ : ∃ U, w1.heap.size = U := ⟨_, rfl⟩
    obtain ⟨w2, hw2⟩ : ∃ w2, w1.alloc (.cells (madeCells #[Value.int .u8 0] m) 5) = w2 := ⟨_, rfl⟩
    rw [hw2] at hK2 hU hb2
    rw [hUU] at hU hK3 hb3
    have HK2 := Lib.hid hK2
    have HU2 := Lib.hid hU
    have HB2 := Lib.hid hb2
    have hn9 : (n : Int) ≤ 100000001 := by omega
    clear hK hb1 hK2 hU hb2
    go_wp2_with (first
      | (at_make; refine wpList_make_row _ rfl _ _ 24 rfl 5 i0 (.int .u8 0) Tryz.underlying24 hi hz0 hz1 rfl .i64 .i64 m rfl rfl (by rw [hz2]; omega) (by omega) ?_; rw [hUU, hw2]))
    clear hw2 hUU
    go_loopw [5, 7, 8, 9] (fun row k _ _ wr => ∃ (d : Nat) (kv : Int) (f : Nat → Int), d ≤ m ∧ k = .int .i64 kv ∧ kv = (d : Int) - 1 ∧ row = .int .i64 (Bw.stp l (m - d)) ∧ Arr wr K n n (fun k => (Bw.bk l k : Int)) ∧ ArU wr U m f ∧ (∀ i, d ≤ i → i < m → f i = l.getD (Bw.stp l (m - 1 - i)) 0 - 1) ∧ (∀ j, j < m - d → l.getD (Bw.stp l j) 0 ≠ 0) ∧ Below w.heap.size w wr) (fun _ k _ _ _ => (intOf k + 1).toNat)
    case atStart => exact ⟨m, _, _, Nat.le_refl _, rfl, rfl, by rw [Nat.sub_self]; rfl, HK2.out, HU2.out, fun i h1 h2 => absurd h2 (by omega), fun j hj => absurd hj (by omega), HB2.out⟩
    case round =>
      clear HK2 HU2 HB2
      obtain ⟨d, kv, f, hd, rfl, rfl, rfl, hK, hU, hf, hmid, hbw⟩ := hrel
      have hp : 0 < l.length := by rw [HL.out]; exact hn0
      rcases d with _ | e
      · obtain ⟨t, ht⟩ := Lx_iff.2 ⟨HG.out.1, HG.out.2, fun k hk => hmid k (by rw [HL.out] at hk; omega)⟩
        have htl : t.length = m := by
          have h1 := Lx_len t
          rw [ht, HL.out] at h1
          omega
        have hrd : RdU wr (some ⟨U, 0, none⟩) m t := hU.rd t htl (by unfold maxLen; omega) fun i hi => by
          rw [hf i (Nat.zero_le _) hi]
          have h1 := Lx_read (t := t) (i := i) (by omega)
          rw [ht, htl] at h1
          rw [h1]; omega
        have HT := Lib.hid (And.intro ht hrd)
        have HB := Lib.hid hbw
        have ek : ((0 : Nat) : Int) - 1 = -1 := rfl
        rw [ek]
        clear hK hU hf hmid hbw ht hrd ek
        subst htl
        go_wp2_with fail
        go_ret2
        exact ⟨.inl ⟨t, U, HT.out.1, by omega, rfl, hb3, HT.out.2⟩, HB.out⟩
      · have ek : ((e + 1 : Nat) : Int) - 1 = e := by omega
        rw [ek]
        obtain ⟨j, hj⟩ : ∃ j, m - (e + 1) = j := ⟨_, rfl⟩
        rw [hj] at hmid ⊢
        have hs := Bw.stp_lt hp j
        have hnx : Bw.stp l (j + 1) = Bw.bk l (Bw.stp l j) := rfl
        have hj1 : m - e = j + 1 := by omega
        have hje : m - 1 - e = j := by omega
        obtain ⟨b, off, rfl, -, c0⟩ := (H.out.below (hbw.mono (Nat.le_refl _))).cell hs
        rw [HL.out] at hs
        have c1 := hK.cell hs
        have hmem := HG.out.1 _ (Bw.getD_mem (l := l) (k := Bw.stp l j) (by rw [HL.out]; exact hs))
        obtain ⟨x, hx⟩ : ∃ x, l.getD (Bw.stp l j) 0 = x := ⟨_, rfl⟩
        obtain ⟨q, hq⟩ : ∃ q, Bw.stp l j = q := ⟨_, rfl⟩
        rw [hx] at c0 hmem
        rw [hq] at c0 c1 hs hnx ⊢
        obtain ⟨y, hy⟩ : ∃ y, Bw.bk l q = y := ⟨_, rfl⟩
        rw [hy] at c1 hnx
        have hqn : (q : Int) < n := by omega
        by_cases h0 : x = 0
        · subst h0
          have key := sbyte_none 0 wr (by omega)
          have hno : ∀ t, Lx t ≠ l := fun t e2 => (Lx_iff.1 ⟨t, e2⟩).2.2 j (by rw [HL.out]; omega) hx
          have HNO := Lib.hid hno
          have HB := Lib.hid hbw
          clear hK hU hf hmid hbw hx hq hy hnx hj hp ek hno
          go_wp2_with fail
          (with_reducible refine key.mono ?_); rintro e' w' ⟨rfl, rfl⟩
          clear key
          go_wp2_with fail
          go_ret2
          exact ⟨.inr ⟨HNO.out, rfl⟩, HB.out⟩
        · have key := sbyte x wr (by omega)
          have c2 := hU.cell (i := e) (by omega)
          have c3 := hU.free e
          have hst : Stay (· = U) wr (wr.setCell ⟨U, e, none⟩ (.int .u8 (x - 1))) := (Stay.refl (· = U) _).setCell (p := ⟨U, e, none⟩) (.inr rfl) _
          have hf2 : ∀ i, e ≤ i → i < m → (if i = e then x - 1 else f i) = l.getD (Bw.stp l (m - 1 - i)) 0 - 1 := fun i h1 h2 => by
            by_cases e2 : i = e
            · subst e2
              rw [if_pos rfl, hje, hx]
            · rw [if_neg e2]; exact hf i (by omega) h2
          have hmid2 : ∀ i, i < m - e → l.getD (Bw.stp l i) 0 ≠ 0 := fun i hi => by
            by_cases e2 : i = j
            · subst e2; rw [hx]; exact h0
            · exact hmid i (by omega)
          have HX := Lib.hid (And.intro (hK.stay hst (by omega)) (And.intro (hU.set e (x - 1)) (And.intro hf2 (And.intro hmid2 (hbw.setCell (p := ⟨U, e, none⟩) hb3 (.int .u8 (x - 1)))))))
          have HNX : Hid (Bw.stp l (m - e) = y) := Lib.hid (by rw [hj1, hnx])
          have hem : (e : Int) < m := by omega
          have hen : (e : Int) ≤ 100000001 := by omega
          clear hK hU hf hmid hbw hst hf2 hmid2 hx hq hy hnx hj hp ek
          go_wp2_with fail
          (with_reducible refine key.mono ?_); rintro e' w' ⟨rfl, rfl⟩
          clear key
          go_wp2_with fail
          go_roundw
          case rel => exact ⟨e, _, _, by omega, rfl, rfl, by rw [HNX.out], HX.out.1, HX.out.2.1, HX.out.2.2.1, HX.out.2.2.2.1, HX.out.2.2.2.2⟩
          case measure => simp [intOf]
  · have key := sone false w h hl (decide_eq_false hg)
    have hno : ∀ t, Lx t ≠ l := fun t e => by
      have := Lx_iff.1 ⟨t, e⟩
      exact hg ⟨this.1, this.2.1⟩
    have HNO := Lib.hid hno
    clear h hl hg hno
    go_enter Tryz.func32, Tryz.ntmps32
    go_wp2_with fail
    (with_reducible refine key.mono ?_); rintro e w' ⟨rfl, rfl⟩
    clear key
    go_wp2_with fail
    go_ret2
    exact ⟨.inr ⟨HNO.out, rfl⟩, Below.refl _ _⟩
end Go.Proofs.YthbbokoeiifjdaaGreatDoor
namespace Go.Proofs.YthbbokoeiifjdaaGreatDoor
open Go Go.RowKit Go.ChangeAt

theorem conv_marks (w : World) (vs : Array Value) (l c : Nat) : (convert 24 24 (.slice (some ⟨w.heap.size, 0, none⟩) l c)).run Tryz.prog (w.alloc (.cells vs 5)) = .ok (.slice (some ⟨w.heap.size, 0, none⟩) l c) (w.alloc (.cells vs 5 (vs.size, vs.size + 1))) := by
  have hsh : (w.alloc (.cells vs 5)).shape? w.heap.size = some (5, vs.size) := by
    have : (w.alloc (.cells vs 5)).heap[w.heap.size]? = some (.cells vs 5) := by
      show (w.heap.push (.cells vs 5))[w.heap.size]? = _
      simp
    unfold World.shape?
    rw [this]
  have hfr : (w.alloc (.cells vs 5)).freeze ⟨w.heap.size, vs.size, none⟩ 1 = w.alloc (.cells vs 5 (vs.size, vs.size + 1)) := by
    have hm : ∀ (a : Array Obj) (x : Obj) (f : Obj → Obj), (a.push x).modify a.size f = a.push (f x) := by
      intro a x f
      apply Array.ext
      · simp
      · intro i h1 h2
        simp only [Array.getElem_modify, Array.getElem_push]
        by_cases h : a.size = i
        · subst h
          simp
        · have hi : i < a.size := by simp at h1; omega
          simp [h, hi]
    unfold World.freeze
    rw [if_neg (by decide)]
    show ({ w.alloc (.cells vs 5) with heap := (w.heap.push (.cells vs 5)).modify w.heap.size _ } : World) = _
    rw [hm]
    rfl
  simp [convert, run_underlying Tryz.underlying24, run_underlying Tryz.underlying5, markStringish, hsh, hfr]
theorem RdU.lits (w : World) {g : Nat} (hg : g = w.heap.size) (vs : Array Value) (t : List UInt8) (fr : Nat × Nat) {n : Nat} (hn : t.length = n) (hm : n ≤ maxLen) (h : ∀ i, i < n → vs[i]? = some (.int .u8 ((t.getD i 0).toNat : Int))) : RdU (w.alloc (.cells vs 5 fr)) (some ⟨g, 0, none⟩) n t := by
  subst hg hn
  refine ⟨Nat.le_refl _, hm, fun _ => ⟨w.heap.size, 0, rfl, by simp, fun i hi => ?_⟩⟩
  rw [Nat.zero_add]
  exact (World.cell?_alloc_mark w _ _ fr i).trans (h i hi)
def t3 : List UInt8 := [97, 98, 97]
theorem t3_rows : Bw.IsRows (Bw.sy (ub t3)) [3, 2, 0, 1] := ⟨by decide, by decide, by decide, by decide⟩
theorem Rx_t3 : Rx t3 = [3, 2, 0, 1] := (Rx_is t3).unique t3_rows
theorem Lx_t3 : Lx t3 = [98, 99, 0, 98] := by
  show Bw.lst (Bw.sy (ub t3)) (Rx t3) = _
  rw [Rx_t3]
  decide
theorem Lx_nil : Lx [] = [0] := by
  have h := Lx_len []
  have h2 := Lx_read (t := []) (i := 0)
  have h3 := (Bw.thru_lastT (ub_byt [])).fin
  change (Lx []).getD (Bw.stp (Lx []) ((Lx []).length - 1)) 0 = 0 at h3
  rw [h] at h3
  match hl : Lx [], h with
  | [x], _ =>
    rw [hl] at h3
    have : x = 0 := h3
    rw [this]
theorem no_98 : ∀ t, Lx t ≠ [98, 98] := fun t e => by
  have := (Lx_iff.1 ⟨t, e⟩).2.1
  exact absurd this (by decide)
theorem RdL.lits (w : World) {g : Nat} (hg : g = w.heap.size) (l : List Int) {n : Nat} (hn : l.length = n) (hm : n ≤ maxLen) {vs : Array Value} (hv : vs = (l.map (Value.int .i64)).toArray) : RdL (w.alloc (.cells vs 3)) (some ⟨g, 0, none⟩) n l := by
  subst hg hn hv
  exact RdL.made l hm
/-- What Back answers. -/
theorem kback_of {a : Option Addr} {cap n : Nat} {l : List Int} (t : List UInt8) (w : World) (h : RdL w a cap l) (hl : l.length = n) (hm : n ≤ 100000001) (ht : Lx t = l) :
    Calls Tryz.prog 32 #[.slice a n cap] w fun e w' => ∃ b, e = .returned (.tuple #[.slice (some ⟨b, 0, none⟩) t.length t.length, .bool true]) ∧ w.heap.size ≤ b ∧ RdU w' (some ⟨b, 0, none⟩) t.length t ∧ Below w.heap.size w w' := by
  refine (kback w h hl hm).mono ?_
  rintro e w' ⟨⟨t', b, h1, h2, rfl, h3, h4⟩ | ⟨h1, _⟩, hb⟩
  · obtain rfl := Lx_inj (ht.trans h1.symm)
    exact ⟨b, rfl, h3, h4, hb⟩
  · exact absurd ht (h1 t)
theorem kback_no {a : Option Addr} {cap n : Nat} {l : List Int} (w : World) (h : RdL w a cap l) (hl : l.length = n) (hm : n ≤ 100000001) (ht : ∀ t, Lx t ≠ l) :
    Calls Tryz.prog 32 #[.slice a n cap] w fun e w' => e = .returned (.tuple #[.slice none 0 0, .bool false]) ∧ Below w.heap.size w w' := by
  refine (kback w h hl hm).mono ?_
  rintro e w' ⟨⟨t', b, h1, _⟩ | ⟨_, rfl⟩, hb⟩
  · exact absurd h1 (ht t')
  · exact ⟨rfl, hb⟩
theorem Arr.list {w : World} {b cap N : Nat} {l : List Int} (h : Arr w b cap N (fun i => l.getD i 0)) (hl : l.length = N) : RdL w (some ⟨b, 0, none⟩) cap l := h.rd l hl fun _ _ => rfl
theorem Arr.rows {w : World} {b cap N : Nat} {t : List UInt8} (h : Arr w b cap N (fun i => ((Rx t).getD i 0 : Int))) (hn : t.length + 1 = N) : RdL w (some ⟨b, 0, none⟩) cap (rxi t) :=
  h.rd _ ((rxi_len t).trans hn) fun i hi => (rxi_at (by omega)).symm
theorem _root_.Go.RowKit.Below.drawn {B : Nat} {a w w' : World} (h : Below B a w) (hd : ∃ k, w' = w.drewN k) : Below B a w' := by
  obtain ⟨k, rfl⟩ := hd
  exact h.drewN k

theorem vs3 : ∀ i, i < 3 → #[Value.int .u8 97, Value.int .u8 98, Value.int .u8 97][i]? = some (.int .u8 ((t3.getD i 0).toNat : Int)) := fun i hi => by
  match i, hi with
  | 0, _ => rfl
  | 1, _ => rfl
  | 2, _ => rfl
theorem rxi_t3 : rxi t3 = [3, 2, 0, 1] := by unfold rxi; rw [Rx_t3]; rfl
theorem str_t3 : str t3 = ⟨#[97, 98, 97]⟩ := rfl
end Go.Proofs.YthbbokoeiifjdaaGreatDoor
namespace Go.Proofs.YthbbokoeiifjdaaGreatDoor
open Go Go.RowKit Go.ChangeAt

theorem mod_anyZ (k : Int) (m : Nat) (h0 : 0 < m) (h1 : m ≤ 1000000) : ∃ n : Nat, n < m ∧ RowKit.wrap64 ((IntKind.u64.wrap k).tmod m) = (n : Int) := by
  rw [IntKind.wrap_u64]
  have h2 : 0 ≤ k % 18446744073709551616 := Int.emod_nonneg _ (by decide)
  rw [Int.tmod_eq_emod_of_nonneg h2]
  generalize k % 18446744073709551616 = x at h2 ⊢
  have h3 : 0 ≤ x % (m : Int) := Int.emod_nonneg _ (by omega)
  have h4 : x % (m : Int) < m := Int.emod_lt_of_pos _ (by omega)
  refine ⟨(x % m).toNat, by omega, ?_⟩
  unfold RowKit.wrap64
  omega
/-- A slice of integers that came in or was made: each element is read. -/
def RdZ (w : World) (a : Option Addr) (n : Nat) : Prop := n ≤ maxLen ∧ (0 < n → ∃ b off, a = some ⟨b, off, none⟩ ∧ b < w.heap.size ∧ ∀ i, i < n → ∃ z : Int, w.cell? ⟨b, off + i, none⟩ = some (.int .i64 z))
theorem RdZ.of_row {w : World} {a : Option Addr} {len cap : Nat} {zs : List Int} (h : IsRow .i64 w a len cap zs) : RdZ w a len := by
  rcases h with ⟨rfl, rfl, rfl, rfl⟩ | ⟨x, rfl, hlc, hm, hz, hcell, hwf⟩
  · exact ⟨Nat.zero_le _, fun h => absurd h (by decide)⟩
  · refine ⟨by omega, fun hp => ?_⟩
    obtain ⟨b, off, rfl, hc⟩ := ints_at hcell (by omega)
    exact ⟨b, off, rfl, block_lt_of_cell (hc 0 (by omega)), fun i hi => ⟨_, hc i (by omega)⟩⟩
end Go.Proofs.YthbbokoeiifjdaaGreatDoor
namespace Go.Proofs.YthbbokoeiifjdaaGreatDoor
open Go Go.RowKit Go.ChangeAt

/-- A slice of bytes of the call's own. -/
def byv (t : List UInt8) : List Value := t.map fun b => Value.int .u8 (b.toNat : Int)
theorem byv_len (t : List UInt8) : (byv t).length = t.length := List.length_map _
theorem byv_app (t u : List UInt8) : byv (t ++ u) = byv t ++ byv u := List.map_append
abbrev OwnU (base : Nat) (w : World) (v : Value) (t : List UInt8) : Prop := w.ownsRow base 5 1 v t.length (byv t)
theorem OwnU.push {base : Nat} {w : World} {v : Value} {t : List UInt8} {n : Nat} {b : UInt8} (hn : t.length = n) (h : w.ownsRow base 5 1 v (n + 1) (byv t ++ [Value.int .u8 (b.toNat : Int)])) : OwnU base w v (t ++ [b]) := by
  subst hn
  unfold OwnU
  rw [List.length_append, byv_app]
  exact h
theorem OwnU.form {base : Nat} {w : World} {v : Value} {t : List UInt8} (n : Nat) (h : OwnU base w v t) (hn : t.length = n) : ∃ a cap, v = .slice a n cap ∧ RdU w a cap t := by
  subst hn
  rcases h.2 with ⟨hv, h0⟩ | ⟨g, cap, cur, hv, hb, hg, hn, hm, hs, ht⟩
  · have ht : t = [] := List.length_eq_zero_iff.1 h0
    subst ht
    exact ⟨none, 0, hv, RdU.nil w _ _ (by decide)⟩
  · refine ⟨_, cap, hv, hn, hm, fun hp => ⟨g, 0, rfl, (Array.getElem?_eq_some_iff.1 hg).1, fun i hi => ?_⟩⟩
    have h1 : (cur.toList.take (t.length * 1))[i]? = (byv t)[i]? := by rw [ht]
    rw [List.getElem?_take_of_lt (by omega)] at h1
    unfold byv at h1
    rw [List.getElem?_map, List.getElem?_eq_getElem hi] at h1
    rw [Nat.zero_add, cell_of hg, ← Array.getElem?_toList, h1, List.getD_eq_getElem?_getD, List.getElem?_eq_getElem hi]
    rfl
theorem byv_one (t : List UInt8) : ∀ u ∈ byv t, u.oneCell' = true := by
  intro u hu
  obtain ⟨b, _, rfl⟩ := List.mem_map.1 hu
  rfl
theorem u8_mod (z : Int) : ∃ b : UInt8, z % 256 = (b.toNat : Int) := by
  have h0 : 0 ≤ z % 256 := Int.emod_nonneg _ (by decide)
  have h1 : z % 256 < 256 := Int.emod_lt_of_pos _ (by decide)
  refine ⟨UInt8.ofNat (z % 256).toNat, ?_⟩
  rw [UInt8.toNat_ofNat']
  omega
theorem u8_any (z : Int) : ∃ b : UInt8, IntKind.u8.wrap z = (b.toNat : Int) := by
  rw [IntKind.wrap_u8]
  exact u8_mod z

set_option maxHeartbeats 1600000 in
theorem ktext (a : Option Addr) (n cap : Nat) (most : Int) (few : Bool) (w : World) (h : RdZ w a n) (hm : 0 ≤ most ∧ most ≤ 1000000) :
    Calls Tryz.prog 5 #[.slice a n cap, .int .i64 most, .bool few] w fun e w' => ∃ (v : Value) (t : List UInt8), e = .returned v ∧ OwnU w.heap.size w' v t ∧ (t.length : Int) = min (n : Int) most ∧ Below w.heap.size w w' := by
  obtain ⟨i0, hi, hz0, hz1, hz2⟩ := info_parts infoU
  have hn := h.1
  unfold maxLen at hn
  have HR := Lib.hid h.2
  clear h
  go_enter Tryz.func5, Tryz.ntmps5
  go_wp2_with fail
  go_loopw [7, 8] (fun v i wr => ∃ (k : Nat) (m : List UInt8), k ≤ n ∧ (k : Int) ≤ most ∧ i = .int .i64 k ∧ m.length = k ∧ OwnU w.heap.size wr v m ∧ Below w.heap.size w wr) (fun _ i _ => n - (intOf i).toNat)
  case atStart => exact ⟨0, [], Nat.zero_le _, by omega, rfl, rfl, World.ownsRow_nil _ _ _ _, Below.refl _ _⟩
  case round =>
    obtain ⟨k, m, hk, hkm, rfl, hml, hown, hb⟩ := hrel
    by_cases hlt : k < n
    · have h1 : (k : Int) < n := by omega
      by_cases hlt2 : (k : Int) < most
      · obtain ⟨b, off, rfl, hbb, hc⟩ := HR.out (by omega)
        obtain ⟨z, hz⟩ := hc k hlt
        have hc1 := (hb.cell (p := ⟨b, off + k, none⟩) hbb).trans hz
        have hown' := hown
        unfold OwnU at hown'
        rw [hml] at hown'
        have hbs := hb.size
        have HML := Lib.hid hml
        clear hc hz hml
        cases few
        · obtain ⟨u, hu⟩ := u8_any z
          go_wp2_with (first
            | (at_builtin; (refine wpList_append_own _ rfl (.tmp 32) (.tmp 38) 24 rfl w.heap.size 5 i0 (.int .u8 0) 1 1 Tryz.underlying24 hi hz0 hz1 hz2 rfl (by decide) _ _ _ rfl (World.ownsRow.alloc hown' _) ⟨wr.heap.size, 0, none⟩ 1 1 [.int .u8 (u.toNat : Int)] rfl rfl (cell_one_new _ _ _) (fun u hu => by simp at hu; subst hu; rfl) (by unfold maxLen; omega) (by omega) (by simp; omega) ?_); intro v3 w3 hown3 hgrow3 hnil3))
          have hb3 : Below w.heap.size w w3 := (hb.alloc hbs _).grown hgrow3 (by simp; omega) (fun q hq => (hown.lt q hq).1)
          go_wp2_with fail
          go_roundw
          case rel => exact ⟨k + 1, m ++ [u], by omega, by omega, by go_num, by rw [List.length_append, HML.out]; rfl, OwnU.push HML.out hown3, hb3⟩
          case measure => simp [intOf]; omega
        · obtain ⟨u, hu⟩ := u8_mod (IntKind.u64.wrap (97 + (IntKind.u64.wrap z).tmod 3))
          go_wp2_with (first
            | (at_builtin; (refine wpList_append_own _ rfl (.tmp 21) (.tmp 30) 24 rfl w.heap.size 5 i0 (.int .u8 0) 1 1 Tryz.underlying24 hi hz0 hz1 hz2 rfl (by decide) _ _ _ rfl (World.ownsRow.alloc hown' _) ⟨wr.heap.size, 0, none⟩ 1 1 [.int .u8 (u.toNat : Int)] rfl rfl (cell_one_new _ _ _) (fun u hu => by simp at hu; subst hu; rfl) (by unfold maxLen; omega) (by omega) (by simp; omega) ?_); intro v3 w3 hown3 hgrow3 hnil3))
          have hb3 : Below w.heap.size w w3 := (hb.alloc hbs _).grown hgrow3 (by simp; omega) (fun q hq => (hown.lt q hq).1)
          go_wp2_with fail
          go_roundw
          case rel => exact ⟨k + 1, m ++ [u], by omega, by omega, by go_num, by rw [List.length_append, HML.out]; rfl, OwnU.push HML.out hown3, hb3⟩
          case measure => simp [intOf]; omega
      · have hfin : (m.length : Int) = min (n : Int) most := by omega
        have HF := Lib.hid (And.intro hown (And.intro hfin hb))
        clear hown hfin hb hml
        go_wp2_with fail
        go_ret
        exact ⟨_, rfl, m, HF.out.1, HF.out.2.1, HF.out.2.2⟩
    · have h1 : ¬ (k : Int) < n := by omega
      have hfin : (m.length : Int) = min (n : Int) most := by omega
      have HF := Lib.hid (And.intro hown (And.intro hfin hb))
      clear hown hfin hb hml
      go_wp2_with fail
      go_ret
      exact ⟨_, rfl, m, HF.out.1, HF.out.2.1, HF.out.2.2⟩
/-- The same, as it is read. -/
theorem ktext_r {a : Option Addr} {n cap : Nat} (most : Nat) (mi : Int) (few : Bool) (w : World) (h : RdZ w a n) (hm : most ≤ 1000000) (hmi : mi = most) :
    Calls Tryz.prog 5 #[.slice a n cap, .int .i64 mi, .bool few] w fun e w' => ∃ (a' : Option Addr) (cap' m : Nat) (t : List UInt8), e = .returned (.slice a' m cap') ∧ t.length = m ∧ m = min n most ∧ RdU w' a' cap' t ∧ OwnU w.heap.size w' (.slice a' m cap') t ∧ Below w.heap.size w w' := by
  subst hmi
  refine (ktext a n cap most few w h (by omega)).mono ?_
  rintro e w' ⟨v, t, rfl, hown, hl, hb⟩
  obtain ⟨a', cap', rfl, hr⟩ := OwnU.form t.length hown rfl
  exact ⟨a', cap', t.length, t, rfl, rfl, by omega, hr, hown, hb⟩
end Go.Proofs.YthbbokoeiifjdaaGreatDoor
namespace Go.Proofs.YthbbokoeiifjdaaGreatDoor
open Go Go.RowKit Go.ChangeAt

theorem str_list (t : List UInt8) : (str t).toList = t := by rw [ByteArray.toList_eq]; rfl
theorem less_lex : ∀ x y : List UInt8, Op.bytesLess x y = Bw.lex (ub x) (ub y)
  | [], [] => rfl
  | _ :: _, [] => rfl
  | [], _ :: _ => rfl
  | a :: x, b :: y => by
    have ih := less_lex x y
    show (decide (a < b) || (a == b && Op.bytesLess x y)) = (decide ((a.toNat : Int) < (b.toNat : Int)) || (decide ((a.toNat : Int) = (b.toNat : Int)) && Bw.lex (ub x) (ub y)))
    rw [ih]
    congr 1
    · refine decide_eq_decide.2 ?_
      rw [UInt8.lt_iff_toNat_lt]
      omega
    · congr 1
      rw [Bool.eq_iff_iff, beq_iff_eq, decide_eq_true_iff, ← UInt8.toNat_inj]
      omega
theorem str_ge {x y : List UInt8} (h : Bw.lex (ub x) (ub y) = true) : (!Op.bytesLess (str x).toList (str y).toList) = false := by
  rw [str_list, str_list, less_lex, h]
  rfl
theorem RdU.drop {w : World} {b off cap : Nat} {t : List UInt8} (h : RdU w (some ⟨b, off, none⟩) cap t) (k : Nat) : RdU w (if cap = k then some ⟨b, off, none⟩ else some ⟨b, off + k, none⟩) (cap - k) (t.drop k) := by
  obtain ⟨h1, h2, h3⟩ := h
  refine ⟨by rw [List.length_drop]; omega, by omega, fun hp => ?_⟩
  rw [List.length_drop] at hp
  obtain ⟨b', off', hb, hlt, hc⟩ := h3 (by omega)
  simp only [Option.some.injEq, Addr.mk.injEq, and_true] at hb
  obtain ⟨rfl, rfl⟩ := hb
  rw [if_neg (by omega)]
  refine ⟨b, off + k, rfl, hlt, fun i hi => ?_⟩
  rw [List.length_drop] at hi
  rw [Nat.add_assoc, hc (k + i) (by omega), List.getD_eq_getElem?_getD, List.getD_eq_getElem?_getD, List.getElem?_drop]

theorem RdU.drewN {w : World} {a : Option Addr} {cap : Nat} {t : List UInt8} (h : RdU w a cap t) (n : Nat) : RdU (w.drewN n) a cap t := h
theorem Rx_at {t : List UInt8} {k : Nat} (hk : k < t.length + 1) : ∃ h : k < (Rx t).length, (Rx t).getD k 0 = (Rx t)[k] :=
  ⟨by rw [Rx_len]; exact hk, by rw [List.getD_eq_getElem?_getD, List.getElem?_eq_getElem (by rw [Rx_len]; exact hk)]; rfl⟩
theorem Rx_row {t : List UInt8} {k : Nat} (hk : k < t.length + 1) : Bw.row (Bw.sy (ub t)) ((Rx t).getD k 0) = k := by
  obtain ⟨h, e⟩ := Rx_at hk
  rw [e]
  exact (Rx_is t).row h
theorem Rx_zero (t : List UInt8) : (Rx t).getD 0 0 = t.length := by
  have h1 := Rx_row (t := t) (k := 0) (by omega)
  have h2 := Bw.row_end (Bw.sy_txt (ub_byt t))
  have h3 := Rx_lt (t := t) (k := 0) (by omega)
  have hl : (Bw.sy (ub t)).length = t.length + 1 := by rw [Bw.sy_len, ub_len]
  rw [hl] at h2
  exact Bw.row_inj (T := Bw.sy (ub t)) (by omega) (by omega) (h1.trans h2.symm)
theorem Rx_less {t : List UInt8} {k : Nat} (hk : k + 1 < t.length + 1) : Bw.lex (ub (t.drop ((Rx t).getD k 0))) (ub (t.drop ((Rx t).getD (k + 1) 0))) = true := by
  obtain ⟨h1, e1⟩ := Rx_at (t := t) (k := k) (by omega)
  obtain ⟨h2, e2⟩ := Rx_at hk
  have h3 := (Rx_is t).bef_at h2 (i := k) (by omega)
  have l1 := Rx_lt (t := t) (k := k) (by omega)
  have l2 := Rx_lt hk
  rw [← e1, ← e2, Bw.bef_bytes (ub_byt t) (by rw [ub_len]; omega) (by rw [ub_len]; omega)] at h3
  rwa [ub_drop, ub_drop]

end Go.Proofs.YthbbokoeiifjdaaGreatDoor
