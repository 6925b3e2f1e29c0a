/- The text of a transform (package sorted): hasOneEnd, Back: contracts of the walk. -/
import Derived.Test.YtfncjkkdemeclaaSoE
namespace Go.Proofs.Ytfncjkkdemeclaa
open Go Go.RowKit Go.ChangeAt

namespace Bw
theorem bk_pos {l : List Int} {r : Nat} (hz : 0 < l.count 0) (hn : ∀ s ∈ l, 0 ≤ s) (hr : r < l.length) (h : l.getD r 0 ≠ 0) : 0 < bk l r := by
  have h1 := hn _ (getD_mem hr)
  have h2 := low_mono l (s := 0) (t := l.getD r 0) (by omega)
  unfold bk
  omega
theorem thru_fin {l : List Int} (hz : l.count 0 = 1) (hn : ∀ s ∈ l, 0 ≤ s) (hm : ∀ k, k + 1 < l.length → l.getD (stp l k) 0 ≠ 0) : Thru l := by
  have hp : 0 < l.length := Nat.lt_of_lt_of_le (by omega) (List.count_le_length (a := (0 : Int)) (l := l))
  refine ⟨hp, hn, hm, ?_⟩
  have hinj : ∀ i j, i < l.length → j < l.length → i < j → stp l i = stp l j → False := fun i j _ hj hij e => by
    have h1 := stp_back hp i (j - i) (by rw [show i + (j - i) = j by omega]; exact e)
    have h2 : stp l (j - i) = bk l (stp l (j - i - 1)) := by
      rw [show j - i = (j - i - 1) + 1 by omega]; rfl
    have h3 := bk_pos (by omega) hn (stp_lt hp (j - i - 1)) (hm (j - i - 1) (by omega))
    have h4 : stp l 0 = 0 := rfl
    omega
  obtain ⟨e, he, hev⟩ : ∃ e, e < l.length ∧ l.getD e 0 = 0 := by
    have : (0 : Int) ∈ l := List.count_pos_iff.1 (by omega)
    obtain ⟨e, he, h⟩ := List.getElem_of_mem this
    exact ⟨e, he, by rw [List.getD_eq_getElem?_getD, List.getElem?_eq_getElem he]; exact h⟩
  obtain ⟨i, hi, rfl⟩ := onto (f := stp l) (fun i _ => stp_lt hp i) (fun i j hi hj e => by
    rcases Nat.lt_trichotomy i j with h | h | h
    · exact (hinj i j hi hj h e).elim
    · exact h
    · exact (hinj j i hj hi h e.symm).elim) he
  by_cases hi2 : i + 1 < l.length
  · exact absurd hev (hm i hi2)
  · rw [show l.length - 1 = i by omega]; exact hev
end Bw
/-- The bytes of numbers. -/
def bu (t : List Int) : List UInt8 := t.map fun b => UInt8.ofNat b.toNat
theorem ub_bu {t : List Int} (h : Bw.Byt t) : ub (bu t) = t := by
  unfold ub bu
  rw [List.map_map]
  conv => rhs; rw [← List.map_id t]
  refine List.map_congr_left fun b hb => ?_
  have := h b hb
  show (((UInt8.ofNat b.toNat).toNat : Nat) : Int) = b
  rw [UInt8.toNat_ofNat']
  omega
theorem bu_ub (t : List UInt8) : bu (ub t) = t := ub_inj (ub_bu (ub_byt t))
/-- What is a text's transform: symbols, one end, and a way through all rows. -/
theorem Lx_iff {l : List Int} : (∃ t, Lx t = l) ↔ (∀ s ∈ l, 0 ≤ s ∧ s ≤ 256) ∧ l.count 0 = 1 ∧ ∀ k, k + 1 < l.length → l.getD (Bw.stp l k) 0 ≠ 0 := by
  constructor
  · rintro ⟨t, rfl⟩
    exact ⟨Lx_good t, Bw.lastT_zero (ub_byt t), (Bw.thru_lastT (ub_byt t)).mid⟩
  · rintro ⟨h1, h2, h3⟩
    obtain ⟨t, ht, _, he⟩ := Bw.thru_text (Bw.thru_fin h2 (fun s hs => (h1 s hs).1) h3) (fun s hs => (h1 s hs).2)
    exact ⟨bu t, by unfold Lx; rw [ub_bu ht, he]⟩
theorem Lx_read {t : List UInt8} {i : Nat} (hi : i < t.length) : (Lx t).getD (Bw.stp (Lx t) (t.length - 1 - i)) 0 = ((t.getD i 0).toNat : Int) + 1 := by
  have h1 := (Rx_is t).read (Bw.sy_txt (ub_byt t)) (k := t.length - 1 - i) (by rw [Bw.sy_len, ub_len]; omega)
  rw [Bw.sy_len, ub_len, show t.length + 1 - 2 - (t.length - 1 - i) = i by omega, Bw.sy_at (by rw [ub_len]; exact hi)] at h1
  refine h1.trans ?_
  congr 1
  unfold ub
  rw [List.getD_eq_getElem?_getD, List.getElem?_map, List.getElem?_eq_getElem hi, List.getD_eq_getElem?_getD, List.getElem?_eq_getElem hi]
  rfl

set_option maxHeartbeats 800000 in
theorem sone {a : Option Addr} {cap n : Nat} {l : List Int} (r : Bool) (w : World) (h : RdL w a cap l) (hl : l.length = n) (hr : decide ((∀ s ∈ l, 0 ≤ s ∧ s ≤ 256) ∧ l.count 0 = 1) = r) :
    Calls Try.prog 24 #[.slice a n cap] w fun e w' => e = .returned (.bool r) ∧ w = w' := by
  have hf := h.2.1
  have hf1 := h.1
  unfold maxLen at hf
  have hn9 : (n : Int) ≤ 9223372036854775807 := by omega
  have H := Lib.hid h
  have HL := Lib.hid hl
  have HR := Lib.hid hr
  clear h hl hr hf hf1
  go_enter Try.func24, Try.ntmps24
  go_wp2_with fail
  go_loop [3, 5, 6, 7, 10] (fun c _ _ _ i => ∃ k : Nat, k ≤ n ∧ i = .int .i64 k ∧ c = .int .i64 ((l.take k).count 0 : Nat) ∧ ∀ s ∈ l.take k, 0 ≤ s ∧ s ≤ 256) (fun _ _ _ _ i => n - (intOf i).toNat)
  case atStart => exact ⟨0, Nat.zero_le _, rfl, rfl, fun s hs => by cases hs⟩
  case round =>
    obtain ⟨k, hk, rfl, rfl, hg⟩ := hrel
    by_cases hlt : k < n
    · have hlt' : (k : Int) < n := by omega
      have hk1 : k < l.length := by rw [HL.out]; exact hlt
      obtain ⟨b, off, rfl, -, c1⟩ := H.out.cell hk1
      have hct := Bw.count_next hk1 0
      have hfew := Bw.count_few l k 0
      have hmem := Bw.getD_mem hk1
      have htk := Bw.take_next hk1
      obtain ⟨x, hx⟩ : ∃ x, l.getD k 0 = x := ⟨_, rfl⟩
      rw [hx] at c1 hct hmem htk
      obtain ⟨y, hy⟩ : ∃ y, (l.take k).count 0 = y := ⟨_, rfl⟩
      rw [hy] at hct hfew ⊢
      have hnx : (0 ≤ x ∧ x ≤ 256) → ∀ s ∈ l.take (k + 1), 0 ≤ s ∧ s ≤ 256 := fun hx s hs => by
        rw [htk] at hs
        rcases List.mem_append.1 hs with h1 | h1
        · exact hg s h1
        · rw [List.mem_singleton.1 h1]; exact hx
      have HNX := Lib.hid hnx
      by_cases h1 : 1 ≤ x ∧ x ≤ 256
      · have key := sbyte x w h1
        have hx0 : ¬ x = 0 := by omega
        rw [if_neg hx0] at hct
        have HCT := Lib.hid hct
        have HX := Lib.hid h1
        clear hg hct hmem htk hx hy hnx h1 hk1
        go_wp2_with fail
        (with_reducible refine key.mono ?_); rintro e w' ⟨rfl, rfl⟩
        clear key
        go_wp2_with fail
        go_round
        case rel => exact ⟨k + 1, by omega, by go_num, by rw [HCT.out]; rfl, HNX.out (by have := HX.out; omega)⟩
        case measure => simp [intOf]; omega
      · have key := sbyte_none x w h1
        by_cases h0 : x = 0
        · subst h0
          rw [if_pos rfl] at hct
          have HCT := Lib.hid hct
          have hb : ((0 : Int) != 0) = false := rfl
          clear hg hct hmem htk hx hy hnx h1 hk1
          go_wp2_with fail
          (with_reducible refine key.mono ?_); rintro e w' ⟨rfl, rfl⟩
          clear key
          go_wp2_with fail
          go_round
          case rel => exact ⟨k + 1, by omega, by go_num, by rw [HCT.out]; go_num, HNX.out (by omega)⟩
          case measure => simp [intOf]; omega
        · have hb : (x != 0) = true := by simpa using h0
          have hr0 : r = false := by
            rw [← HR.out]
            exact decide_eq_false fun h2 => by have := h2.1 x hmem; omega
          subst hr0
          clear hg hct hmem htk hx hy hnx h1 hk1
          go_wp2_with fail
          (with_reducible refine key.mono ?_); rintro e w' ⟨rfl, rfl⟩
          clear key
          go_wp2_with fail
          go_ret
          exact ⟨rfl, rfl⟩
    · have hlt' : ¬ (k : Int) < n := by omega
      have hfin : l.take k = l := List.take_of_length_le (by rw [HL.out]; omega)
      rw [hfin] at hg ⊢
      obtain ⟨y, hy⟩ : ∃ y, l.count 0 = y := ⟨_, rfl⟩
      have hr2 : ((y : Int) == 1) = r := by
        rw [← HR.out, hy]
        by_cases e : y = 1
        · subst e
          rw [decide_eq_true ⟨hg, rfl⟩]; rfl
        · rw [decide_eq_false fun h2 => e h2.2]
          simpa using (show ¬ (y : Int) = 1 by omega)
      rw [hy]
      have HR2 := Lib.hid hr2
      clear hg hfin hy hr2
      go_wp2_with fail
      go_ret
      exact ⟨congrArg (fun b => Ending.returned (Value.bool b)) HR2.out, rfl⟩

/-- Block b of the memory: a row of N bytes. -/
def ArU (w : World) (b N : Nat) (f : Nat → Int) : Prop :=
  ∃ c, w.heap[b]? = some (.cells c 5 (0, 0)) ∧ c.size = N ∧ ∀ i, i < N → c[i]? = some (.int .u8 (f i))
theorem ArU.cell {w : World} {b N : Nat} {f : Nat → Int} (h : ArU w b N f) {i : Nat} (hi : i < N) : w.cell? ⟨b, i, none⟩ = some (.int .u8 (f i)) := by
  obtain ⟨c, h1, _, h5⟩ := h
  exact (cell_of h1).trans (h5 i hi)
theorem ArU.free {w : World} {b N : Nat} {f : Nat → Int} (h : ArU w b N f) (i : Nat) : w.frozen? ⟨b, i, none⟩ = false := by
  obtain ⟨c, h1, _⟩ := h
  exact free_of h1
theorem ArU.lt {w : World} {b N : Nat} {f : Nat → Int} (h : ArU w b N f) : b < w.heap.size := by
  obtain ⟨c, h1, _⟩ := h
  exact (Array.getElem?_eq_some_iff.1 h1).1
theorem ArU.set {w : World} {b N : Nat} {f : Nat → Int} (h : ArU w b N f) (i : Nat) (v : Int) : ArU (w.setCell ⟨b, i, none⟩ (.int .u8 v)) b N (fun j => if j = i then v else f j) := by
  obtain ⟨c, h1, h2, h5⟩ := h
  refine ⟨_, set_of h1 _, by rw [Array.size_setIfInBounds]; exact h2, fun j hj => ?_⟩
  show _ = some (Value.int .u8 (if j = i then v else f j))
  by_cases e : j = i
  · subst e
    rw [if_pos rfl, Array.getElem?_setIfInBounds_self_of_lt (by omega)]
  · rw [if_neg e, Array.getElem?_setIfInBounds_ne (Ne.symm e)]
    exact h5 j hj
theorem ArU.made {w : World} (n : Nat) : ArU (w.alloc (.cells (madeCells #[Value.int .u8 0] n) 5)) w.heap.size n (fun _ => 0) := by
  refine ⟨_, alloc_of, ?_, fun i hi => ?_⟩
  · rw [← Array.length_toList, toList_madeCells_one, List.length_replicate]
  · rw [← Array.getElem?_toList, toList_madeCells_one, List.getElem?_replicate, if_pos hi]
theorem ArU.rd {w : World} {b N : Nat} {f : Nat → Int} (h : ArU w b N f) (t : List UInt8) (ht : t.length = N) (hm : N ≤ maxLen) (hf : ∀ i, i < N → f i = ((t.getD i 0).toNat : Int)) : RdU w (some ⟨b, 0, none⟩) N t :=
  ⟨by omega, hm, fun _ => ⟨b, 0, rfl, h.lt, fun i hi => by rw [Nat.zero_add, h.cell (by omega), hf i (by omega)]⟩⟩
theorem infoU : (Try.prog.info? 5).map (fun i => (i.zero, i.size, i.bytes)) = some (some (.int .u8 0), 1, 1) := by kernel_rfl

set_option maxHeartbeats 1600000 in
set_option maxRecDepth 100000 in
/-- Back: the text whose transform the list is, or none. -/
theorem kback {a : Option Addr} {cap n : Nat} {l : List Int} (w : World) (h : RdL w a cap l) (hl : l.length = n) (hm : n ≤ 100000001) :
    Calls Try.prog 14 #[.slice a n cap] w fun e w' => ((∃ t b, Lx t = l ∧ t.length + 1 = n ∧ e = .returned (.tuple #[.slice (some ⟨b, 0, none⟩) t.length t.length, .bool true]) ∧ w.heap.size ≤ b ∧ RdU w' (some ⟨b, 0, none⟩) t.length t) ∨ ((∀ t, Lx t ≠ l) ∧ e = .returned (.tuple #[.slice none 0 0, .bool false]))) ∧ Below w.heap.size w w' := by
  by_cases hg : (∀ s ∈ l, 0 ≤ s ∧ s ≤ 256) ∧ l.count 0 = 1
  · have key := sone true w h hl (decide_eq_true hg)
    have key2 := sranks w h hl (by omega) hg.1
    have hn0 : 0 < n := by
      rw [← hl]
      exact Nat.lt_of_lt_of_le (by omega) (List.count_le_length (a := (0 : Int)) (l := l))
    obtain ⟨i0, hi, hz0, hz1, hz2⟩ := info_parts infoU
    have H := Lib.hid h
    have HL := Lib.hid hl
    have HG := Lib.hid hg
    obtain ⟨m, hmn⟩ : ∃ m, n = m + 1 := ⟨n - 1, by omega⟩
    have hm1 : (n : Int) - 1 = m := by omega
    have HMN := Lib.hid hmn
    have hma : m + 1 ≤ n := by omega
    have hmb : n ≤ m + 1 := by omega
    clear h hl hg hmn
    go_enter Try.func14, Try.ntmps14
    go_wp2_with fail
    (with_reducible refine key.mono ?_); rintro e w' ⟨rfl, rfl⟩
    clear key
    go_wp2_with fail
    (with_reducible refine key2.mono ?_); rintro e w1 ⟨K, rfl, hKl, hK, hb1⟩
    clear key2
    have hK2 : Arr (w1.alloc (.cells (madeCells #[Value.int .u8 0] m) 5)) K n n (fun k => (Bw.bk l k : Int)) := hK.below ((Below.refl _ _).alloc (Nat.le_refl _) _)
    have hU : ArU (w1.alloc (.cells (madeCells #[Value.int .u8 0] m) 5)) w1.heap.size m (fun _ => 0) := ArU.made m
    have hb2 : Below w.heap.size w (w1.alloc (.cells (madeCells #[Value.int .u8 0] m) 5)) := hb1.alloc hb1.size _
    have hK3 : K < w1.heap.size := hK.lt
    have hb3 := hb1.size
    obtain ⟨U, hUU⟩ : ∃ U, w1.heap.size = U := ⟨_, rfl⟩
    obtain ⟨w2, hw2⟩ : ∃ w2, w1.alloc (.cells (madeCells #[Value.int .u8 0] m) 5) = w2 := ⟨_, rfl⟩
    rw [hw2] at hK2 hU hb2
    rw [hUU] at hU hK3 hb3
    have HK2 := Lib.hid hK2
    have HU2 := Lib.hid hU
    have HB2 := Lib.hid hb2
    have hn9 : (n : Int) ≤ 100000001 := by omega
    clear hK hb1 hK2 hU hb2
    go_wp2_with (first
      | (at_make; refine wpList_make_row _ rfl _ _ 23 rfl 5 i0 (.int .u8 0) Try.underlying23 hi hz0 hz1 rfl .i64 .i64 m rfl rfl (by rw [hz2]; omega) (by omega) ?_; rw [hUU, hw2]))
    clear hw2 hUU
    go_loopw [5, 7, 8, 9] (fun row k _ _ wr => ∃ (d : Nat) (kv : Int) (f : Nat → Int), d ≤ m ∧ k = .int .i64 kv ∧ kv = (d : Int) - 1 ∧ row = .int .i64 (Bw.stp l (m - d)) ∧ Arr wr K n n (fun k => (Bw.bk l k : Int)) ∧ ArU wr U m f ∧ (∀ i, d ≤ i → i < m → f i = l.getD (Bw.stp l (m - 1 - i)) 0 - 1) ∧ (∀ j, j < m - d → l.getD (Bw.stp l j) 0 ≠ 0) ∧ Below w.heap.size w wr) (fun _ k _ _ _ => (intOf k + 1).toNat)
    case atStart => exact ⟨m, _, _, Nat.le_refl _, rfl, rfl, by rw [Nat.sub_self]; rfl, HK2.out, HU2.out, fun i h1 h2 => absurd h2 (by omega), fun j hj => absurd hj (by omega), HB2.out⟩
    case round =>
      clear HK2 HU2 HB2
      obtain ⟨d, kv, f, hd, rfl, rfl, rfl, hK, hU, hf, hmid, hbw⟩ := hrel
      have hp : 0 < l.length := by rw [HL.out]; exact hn0
      rcases d with _ | e
      · obtain ⟨t, ht⟩ := Lx_iff.2 ⟨HG.out.1, HG.out.2, fun k hk => hmid k (by rw [HL.out] at hk; omega)⟩
        have htl : t.length = m := by
          have h1 := Lx_len t
          rw [ht, HL.out] at h1
          omega
        have hrd : RdU wr (some ⟨U, 0, none⟩) m t := hU.rd t htl (by unfold maxLen; omega) fun i hi => by
          rw [hf i (Nat.zero_le _) hi]
          have h1 := Lx_read (t := t) (i := i) (by omega)
          rw [ht, htl] at h1
          rw [h1]; omega
        have HT := Lib.hid (And.intro ht hrd)
        have HB := Lib.hid hbw
        have ek : ((0 : Nat) : Int) - 1 = -1 := rfl
        rw [ek]
        clear hK hU hf hmid hbw ht hrd ek
        subst htl
        go_wp2_with fail
        go_ret2
        exact ⟨.inl ⟨t, U, HT.out.1, by omega, rfl, hb3, HT.out.2⟩, HB.out⟩
      · have ek : ((e + 1 : Nat) : Int) - 1 = e := by omega
        rw [ek]
        obtain ⟨j, hj⟩ : ∃ j, m - (e + 1) = j := ⟨_, rfl⟩
        rw [hj] at hmid ⊢
        have hs := Bw.stp_lt hp j
        have hnx : Bw.stp l (j + 1) = Bw.bk l (Bw.stp l j) := rfl
        have hj1 : m - e = j + 1 := by omega
        have hje : m - 1 - e = j := by omega
        obtain ⟨b, off, rfl, -, c0⟩ := (H.out.below (hbw.mono (Nat.le_refl _))).cell hs
        rw [HL.out] at hs
        have c1 := hK.cell hs
        have hmem := HG.out.1 _ (Bw.getD_mem (l := l) (k := Bw.stp l j) (by rw [HL.out]; exact hs))
        obtain ⟨x, hx⟩ : ∃ x, l.getD (Bw.stp l j) 0 = x := ⟨_, rfl⟩
        obtain ⟨q, hq⟩ : ∃ q, Bw.stp l j = q := ⟨_, rfl⟩
        rw [hx] at c0 hmem
        rw [hq] at c0 c1 hs hnx ⊢
        obtain ⟨y, hy⟩ : ∃ y, Bw.bk l q = y := ⟨_, rfl⟩
        rw [hy] at c1 hnx
        have hqn : (q : Int) < n := by omega
        by_cases h0 : x = 0
        · subst h0
          have key := sbyte_none 0 wr (by omega)
          have hno : ∀ t, Lx t ≠ l := fun t e2 => (Lx_iff.1 ⟨t, e2⟩).2.2 j (by rw [HL.out]; omega) hx
          have HNO := Lib.hid hno
          have HB := Lib.hid hbw
          clear hK hU hf hmid hbw hx hq hy hnx hj hp ek hno
          go_wp2_with fail
          (with_reducible refine key.mono ?_); rintro e' w' ⟨rfl, rfl⟩
          clear key
          go_wp2_with fail
          go_ret2
          exact ⟨.inr ⟨HNO.out, rfl⟩, HB.out⟩
        · have key := sbyte x wr (by omega)
          have c2 := hU.cell (i := e) (by omega)
          have c3 := hU.free e
          have hst : Stay (· = U) wr (wr.setCell ⟨U, e, none⟩ (.int .u8 (x - 1))) := (Stay.refl (· = U) _).setCell (p := ⟨U, e, none⟩) (.inr rfl) _
          have hf2 : ∀ i, e ≤ i → i < m → (if i = e then x - 1 else f i) = l.getD (Bw.stp l (m - 1 - i)) 0 - 1 := fun i h1 h2 => by
            by_cases e2 : i = e
            · subst e2
              rw [if_pos rfl, hje, hx]
            · rw [if_neg e2]; exact hf i (by omega) h2
          have hmid2 : ∀ i, i < m - e → l.getD (Bw.stp l i) 0 ≠ 0 := fun i hi => by
            by_cases e2 : i = j
            · subst e2; rw [hx]; exact h0
            · exact hmid i (by omega)
          have HX := Lib.hid (And.intro (hK.stay hst (by omega)) (And.intro (hU.set e (x - 1)) (And.intro hf2 (And.intro hmid2 (hbw.setCell (p := ⟨U, e, none⟩) hb3 (.int .u8 (x - 1)))))))
          have HNX : Hid (Bw.stp l (m - e) = y) := Lib.hid (by rw [hj1, hnx])
          have hem : (e : Int) < m := by omega
          have hen : (e : Int) ≤ 100000001 := by omega
          clear hK hU hf hmid hbw hst hf2 hmid2 hx hq hy hnx hj hp ek
          go_wp2_with fail
          (with_reducible refine key.mono ?_); rintro e' w' ⟨rfl, rfl⟩
          clear key
          go_wp2_with fail
          go_roundw
          case rel => exact ⟨e, _, _, by omega, rfl, rfl, by rw [HNX.out], HX.out.1, HX.out.2.1, HX.out.2.2.1, HX.out.2.2.2.1, HX.out.2.2.2.2⟩
          case measure => simp [intOf]
  · have key := sone false w h hl (decide_eq_false hg)
    have hno : ∀ t, Lx t ≠ l := fun t e => by
      have := Lx_iff.1 ⟨t, e⟩
      exact hg ⟨this.1, this.2.1⟩
    have HNO := Lib.hid hno
    clear h hl hg hno
    go_enter Try.func14, Try.ntmps14
    go_wp2_with fail
    (with_reducible refine key.mono ?_); rintro e w' ⟨rfl, rfl⟩
    clear key
    go_wp2_with fail
    go_ret2
    exact ⟨.inr ⟨HNO.out, rfl⟩, Below.refl _ _⟩
end Go.Proofs.Ytfncjkkdemeclaa
