/- The document's own transform and its way back (scrimshawref6): Last, Good, Below, Back: contracts of the walk. -/
import Derived.Test.YtfncjkkdemeclaaSoR
import Derived.Test.YtfncjkkdemeclaaSoJ
import Derived.Test.YtfncjkkdemeclaaSyR
namespace Go.Proofs.Ytfncjkkdemeclaa
open Go Go.RowKit Go.ChangeAt

theorem of_at {t : List UInt8} {i : Nat} (hi : i < t.length) : (Sy.of t ++ [0]).getD i 0 = byt t i + 1 := by
  rw [← sy_ub]
  exact sy_byt hi
theorem Lx_first {t : List UInt8} {k : Nat} (hk : k < t.length + 1) (h : (Rx t).getD k 0 = 0) : (Lx t).getD k 0 = 0 := by
  rw [Lx_at hk, h]
  unfold Bw.prd
  rw [if_pos rfl, Nat.add_sub_cancel, ← sy_ub]
  exact sy_fin t
theorem Lx_next {t : List UInt8} {k j : Nat} (hk : k < t.length + 1) (h : (Rx t).getD k 0 = j + 1) : j < t.length ∧ (Lx t).getD k 0 = byt t j + 1 := by
  have h1 := Rx_lt hk
  rw [h] at h1
  refine ⟨by omega, ?_⟩
  rw [Lx_at hk, h]
  unfold Bw.prd
  rw [if_neg (by omega), Nat.add_sub_cancel]
  exact of_at (by omega)
set_option maxHeartbeats 1600000 in
theorem r6last {t : List UInt8} {s : ByteArray} (n : Nat) (w : World) (hs : str t = s) (hn : t.length = n) (hm : n ≤ 1000000) :
    Calls Try.prog 19 #[.string s] w fun e w' => ∃ v, e = .returned v ∧ OwnI w.heap.size w' v (Lx t) ∧ Below w.heap.size w w' := by
  obtain ⟨j0, hj, hy0, hy1, hy2⟩ := info_parts infoI
  have hsz : s.size = n := by rw [← hs, str_size, hn]
  have key := r6rows n w hs hn hm
  have HS := Lib.hid hs
  have HN := Lib.hid hn
  clear hs hn
  go_enter Try.func19, Try.ntmps19
  go_wp2_with fail
  (with_reducible refine key.mono ?_); rintro e w1 ⟨v, rfl, hown, hb1⟩
  clear key
  obtain ⟨N, hN⟩ : ∃ N, n + 1 = N := ⟨_, rfl⟩
  obtain ⟨a, cap, rfl, hrd⟩ := Lr.form N hown ((rxi_len t).trans (by rw [HN.out, hN]))
  have HRD := Lib.hid hrd
  have HB1 := Lib.hid hb1
  have HNN := Lib.hid hN
  have hN9 : N ≤ 1000001 := by omega
  have hlx : (Lx t).length = N := by rw [Lx_len, HN.out, hN]
  have HLX := Lib.hid hlx
  have hnN : n < N := by omega
  clear hown hrd hb1 hN hlx
  go_wp2_with fail
  go_loopw [4, 5] (fun v i wr => ∃ k : Nat, k ≤ N ∧ i = .int .i64 k ∧ OwnI w1.heap.size wr v ((Lx t).take k) ∧ Below w1.heap.size w1 wr) (fun _ i _ => N - (intOf i).toNat)
  case atStart => exact ⟨0, Nat.zero_le _, rfl, World.ownsRow_nil _ _ _ _, Below.refl _ _⟩
  case round =>
    obtain ⟨k, hk, rfl, hown, hb⟩ := hrel
    by_cases hlt : k < N
    · have hlt' : (k : Int) < N := by omega
      have hkt : k < t.length + 1 := by rw [HN.out, HNN.out]; exact hlt
      obtain ⟨b, off, rfl, -, c0⟩ := (HRD.out.below hb).cell (k := k) (by rw [rxi_len]; exact hkt)
      rw [rxi_at hkt] at c0
      have htk := Bw.take_next (l := Lx t) (k := k) (by rw [HLX.out]; exact hlt)
      have hown' := hown
      unfold OwnI at hown'
      rw [List.length_take, HLX.out, Nat.min_eq_left (Nat.le_of_lt hlt)] at hown'
      have hbs := hb.size
      have hp1 := Rx_lt hkt
      rw [HN.out] at hp1
      have hf := Lx_first hkt
      have hnx := fun j => Lx_next (j := j) hkt
      obtain ⟨p, hp⟩ : ∃ p, (Rx t).getD k 0 = p := ⟨_, rfl⟩
      rw [hp] at c0 hp1 hf hnx
      have hml : ((Lx t).take k).length = k := by rw [List.length_take, HLX.out]; omega
      have HML := Lib.hid hml
      rcases p with _ | j
      · rw [hf rfl] at htk
        have HTK := Lib.hid htk
        have heq : ((0 : Int) == 0) = true := rfl
        clear hf hnx hp htk hml
        go_wp2_with (first
          | (at_builtin; (refine wpList_append_own _ rfl (.tmp 19) (.tmp 20) 22 rfl w1.heap.size 3 j0 (.int .i64 0) 1 8 Try.underlying22 hj hy0 hy1 hy2 rfl (by decide) _ _ _ rfl (World.ownsRow.alloc hown' _) ⟨wr.heap.size, 0, none⟩ 1 1 [.int .i64 0] rfl rfl (cell_one_new _ _ _) (fun u hu => by simp at hu; subst hu; rfl) (by unfold maxLen; omega) (by omega) (by simp; omega) ?_); intro v3 w3 hown3 hgrow3 hnil3))
        have hb3 : Below w1.heap.size w1 w3 := (hb.alloc hbs _).grown hgrow3 (by simp; omega) (fun q hq => (hown.lt q hq).1)
        have HX := Lib.hid (And.intro (OwnI.push HML.out hown3) hb3)
        clear hown hown' hb hown3 hgrow3 hnil3 hb3
        go_wp2_with fail
        go_roundw
        case rel => exact ⟨k + 1, by omega, by go_num, by rw [HTK.out]; exact HX.out.1, HX.out.2⟩
        case measure => simp [intOf]; omega
      · obtain ⟨hjl, hv⟩ := hnx j rfl
        rw [hv] at htk
        have hjs : j < s.size := by rw [hsz, ← HN.out]; exact hjl
        have e1 := str_at HS.out hjl hjs
        have b1 := byt_rng t j
        obtain ⟨y, hy⟩ : ∃ y, byt t j = y := ⟨_, rfl⟩
        rw [hy] at htk e1 b1
        have HTK := Lib.hid htk
        have hne : (((j + 1 : Nat) : Int) == 0) = false := by simp; omega
        have hpj : ((j + 1 : Nat) : Int) - 1 = j := by omega
        have hji : (j : Int) < n := by omega
        obtain ⟨J, hJ⟩ : ∃ J, j + 1 = J := ⟨_, rfl⟩
        rw [hJ] at c0 hne hpj
        clear hf hnx hp htk hml hv hy hJ
        go_wp2_with (first
          | (at_builtin; (refine wpList_append_own _ rfl (.tmp 22) (.tmp 32) 22 rfl w1.heap.size 3 j0 (.int .i64 0) 1 8 Try.underlying22 hj hy0 hy1 hy2 rfl (by decide) _ _ _ rfl (World.ownsRow.alloc hown' _) ⟨wr.heap.size, 0, none⟩ 1 1 [.int .i64 (y + 1)] rfl rfl (cell_one_new _ _ _) (fun u hu => by simp at hu; subst hu; rfl) (by unfold maxLen; omega) (by omega) (by simp; omega) ?_); intro v3 w3 hown3 hgrow3 hnil3))
        have hb3 : Below w1.heap.size w1 w3 := (hb.alloc hbs _).grown hgrow3 (by simp; omega) (fun q hq => (hown.lt q hq).1)
        have HX := Lib.hid (And.intro (OwnI.push HML.out hown3) hb3)
        clear hown hown' hb hown3 hgrow3 hnil3 hb3
        go_wp2_with fail
        go_roundw
        case rel => exact ⟨k + 1, by omega, by go_num, by rw [HTK.out]; exact HX.out.1, HX.out.2⟩
        case measure => simp [intOf]; omega
    · have hlt' : ¬ (k : Int) < N := by omega
      have hfin : (Lx t).take k = Lx t := List.take_of_length_le (by rw [HLX.out]; omega)
      rw [hfin] at hown
      have HX := Lib.hid (And.intro (hown.base HB1.out.size) (HB1.out.trans (hb.mono HB1.out.size)))
      clear hown hb hfin
      go_wp2_with fail
      go_ret
      exact ⟨_, rfl, HX.out.1, HX.out.2⟩

set_option maxHeartbeats 800000 in
theorem r6good {a : Option Addr} {cap n : Nat} {l : List Int} (r : Bool) (w : World) (h : RdL w a cap l) (hl : l.length = n) (hr : decide (∀ s ∈ l, 0 ≤ s ∧ s ≤ 256) = r) :
    Calls Try.prog 27 #[.slice a n cap] w fun e w' => e = .returned (.bool r) ∧ w = w' := by
  have hf := h.2.1
  have hf1 := h.1
  unfold maxLen at hf
  have hn9 : (n : Int) ≤ 9223372036854775807 := by omega
  have H := Lib.hid h
  have HL := Lib.hid hl
  have HR := Lib.hid hr
  clear h hl hr hf hf1
  go_enter Try.func27, Try.ntmps27
  go_wp2_with fail
  go_loop [3] (fun i => ∃ k : Nat, k ≤ n ∧ i = .int .i64 k ∧ ∀ s ∈ l.take k, 0 ≤ s ∧ s ≤ 256) (fun i => n - (intOf i).toNat)
  case atStart => exact ⟨0, Nat.zero_le _, rfl, fun s hs => by cases hs⟩
  case round =>
    obtain ⟨k, hk, rfl, hg⟩ := hrel
    by_cases hlt : k < n
    · have hlt' : (k : Int) < n := by omega
      have hk1 : k < l.length := by rw [HL.out]; exact hlt
      obtain ⟨b, off, rfl, -, c1⟩ := H.out.cell hk1
      have hmem := Bw.getD_mem hk1
      have htk := Bw.take_next hk1
      obtain ⟨x, hx⟩ : ∃ x, l.getD k 0 = x := ⟨_, rfl⟩
      rw [hx] at c1 hmem htk
      by_cases h1 : 0 ≤ x ∧ x ≤ 256
      · have key := ris_yes w h1
        have hnx : ∀ s ∈ l.take (k + 1), 0 ≤ s ∧ s ≤ 256 := fun s hs => by
          rw [htk] at hs
          rcases List.mem_append.1 hs with h2 | h2
          · exact hg s h2
          · rw [List.mem_singleton.1 h2]; exact h1
        have HNX := Lib.hid hnx
        clear hg hmem htk hx hnx h1 hk1
        go_wp2_with fail
        (with_reducible refine key.mono ?_); rintro e w' ⟨rfl, rfl⟩
        clear key
        go_wp2_with fail
        go_round
        case rel => exact ⟨k + 1, by omega, by go_num, HNX.out⟩
        case measure => simp [intOf]; omega
      · have key := ris_no w h1
        have hr0 : r = false := by
          rw [← HR.out]
          exact decide_eq_false fun h2 => h1 (h2 x hmem)
        subst hr0
        clear hg hmem htk hx h1 hk1
        go_wp2_with fail
        (with_reducible refine key.mono ?_); rintro e w' ⟨rfl, rfl⟩
        clear key
        go_wp2_with fail
        go_ret
        exact ⟨rfl, rfl⟩
    · have hlt' : ¬ (k : Int) < n := by omega
      have hfin : l.take k = l := List.take_of_length_le (by rw [HL.out]; omega)
      rw [hfin] at hg
      have hr0 : r = true := by rw [← HR.out]; exact decide_eq_true hg
      subst hr0
      clear hg hfin
      go_wp2_with fail
      go_ret
      exact ⟨rfl, rfl⟩
theorem low_next {l : List Int} {k : Nat} (hk : k < l.length) (s : Int) : Bw.low (l.take (k + 1)) s = Bw.low (l.take k) s + if l.getD k 0 < s then 1 else 0 := by
  unfold Bw.low
  rw [Bw.take_next hk, List.countP_append, List.countP_cons, List.countP_nil]
  simp
theorem low_few (l : List Int) (k : Nat) (s : Int) : Bw.low (l.take k) s ≤ k := Nat.le_trans List.countP_le_length (List.length_take_le _ _)
set_option maxHeartbeats 800000 in
theorem r6below {a : Option Addr} {cap n : Nat} {l : List Int} (s : Int) (r : Nat) (w : World) (h : RdL w a cap l) (hl : l.length = n) (hr : Bw.low l s = r) :
    Calls Try.prog 28 #[.slice a n cap, .int .i64 s] w fun e w' => e = .returned (.int .i64 r) ∧ w = w' := by
  have hf := h.2.1
  have hf1 := h.1
  unfold maxLen at hf
  have hn9 : (n : Int) ≤ 9223372036854775807 := by omega
  have H := Lib.hid h
  have HL := Lib.hid hl
  have HR := Lib.hid hr
  clear h hl hr hf hf1
  go_enter Try.func28, Try.ntmps28
  go_wp2_with fail
  go_loop [5, 6] (fun c i => ∃ k : Nat, k ≤ n ∧ i = .int .i64 k ∧ c = .int .i64 (Bw.low (l.take k) s)) (fun _ i => n - (intOf i).toNat)
  case atStart => exact ⟨0, Nat.zero_le _, rfl, rfl⟩
  case round =>
    obtain ⟨k, hk, rfl, rfl⟩ := hrel
    by_cases hlt : k < n
    · have hlt' : (k : Int) < n := by omega
      have hk1 : k < l.length := by rw [HL.out]; exact hlt
      obtain ⟨b, off, rfl, -, c1⟩ := H.out.cell hk1
      have hln := low_next hk1 s
      have hfew := low_few l k s
      obtain ⟨x, hx⟩ : ∃ x, l.getD k 0 = x := ⟨_, rfl⟩
      obtain ⟨y, hy⟩ : ∃ y, Bw.low (l.take k) s = y := ⟨_, rfl⟩
      rw [hx] at c1 hln
      rw [hy] at hln hfew ⊢
      by_cases h1 : x < s
      · rw [if_pos h1] at hln
        have HLN := Lib.hid hln
        clear hx hy hln hk1
        go_wp2_with fail
        go_round
        case rel => exact ⟨k + 1, by omega, by go_num, by rw [HLN.out]; go_num⟩
        case measure => simp [intOf]; omega
      · rw [if_neg h1] at hln
        have HLN := Lib.hid hln
        clear hx hy hln hk1
        go_wp2_with fail
        go_round
        case rel => exact ⟨k + 1, by omega, by go_num, by rw [HLN.out]; go_num⟩
        case measure => simp [intOf]; omega
    · have hlt' : ¬ (k : Int) < n := by omega
      have hfin : l.take k = l := List.take_of_length_le (by rw [HL.out]; omega)
      rw [hfin, HR.out]
      clear hfin
      go_wp2_with fail
      go_ret
      exact ⟨rfl, rfl⟩
end Go.Proofs.Ytfncjkkdemeclaa
