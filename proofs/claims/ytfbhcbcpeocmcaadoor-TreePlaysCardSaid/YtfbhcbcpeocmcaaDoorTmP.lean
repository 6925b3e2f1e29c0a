/- Rank and Select of a tree: contracts of the walk. -/
import Derived.Test.YtfbhcbcpeocmcaaDoorTmO
namespace Go.Proofs.YtfbhcbcpeocmcaaDoor
open Go Go.RowKit Go.ChangeAt Tr

theorem rk_append_lo {b : Bool} {l0 l1 : List Bool} {j : Nat} (hj : j ≤ l0.length) : Blk.rk b (l0 ++ l1) j = Blk.rk b l0 j := by
  unfold Blk.rk
  rw [List.take_append_of_le_length hj]
theorem rk_append_hi {b : Bool} {l0 l1 : List Bool} {j m : Nat} (hj : j = l0.length + m) : Blk.rk b (l0 ++ l1) j = l0.count b + Blk.rk b l1 m := by
  subst hj
  unfold Blk.rk
  rw [List.take_append, List.take_of_length_le (Nat.le_add_right _ _), Nat.add_sub_cancel_left, List.count_append]
theorem pl_append_lo {b : Bool} {l1 : List Bool} : ∀ {l0 : List Bool} {j : Nat}, j < l0.count b → Blk.pl b (l0 ++ l1) j = Blk.pl b l0 j
  | [], j, h => by simp at h
  | x :: r, j, h => by
    by_cases e : x = b
    · subst e
      rw [List.count_cons_self] at h
      match j with
      | 0 => simp [Blk.pl]
      | j + 1 => simp only [List.cons_append, Blk.pl, if_true]; rw [pl_append_lo (by omega)]
    · rw [List.count_cons_of_ne e] at h
      simp only [List.cons_append, Blk.pl, if_neg e]
      rw [pl_append_lo h]
theorem pl_append_hi {b : Bool} {l1 : List Bool} {m : Nat} : ∀ {l0 : List Bool}, Blk.pl b (l0 ++ l1) (l0.count b + m) = l0.length + Blk.pl b l1 m
  | [] => by simp
  | x :: r => by
    by_cases e : x = b
    · subst e
      rw [List.count_cons_self, show r.count x + 1 + m = (r.count x + m) + 1 by omega]
      simp only [List.cons_append, Blk.pl, if_true, List.length_cons]
      rw [pl_append_hi]; omega
    · rw [List.count_cons_of_ne e]
      simp only [List.cons_append, Blk.pl, if_neg e, List.length_cons]
      rw [pl_append_hi]; omega
theorem count_both (l : List Bool) : l.count false + l.count true = l.length := by
  induction l with
  | nil => rfl
  | cons x l ih => cases x <;> simp <;> omega
theorem lk_count (a : T) (b : Bool) : (if b then a.lk.ones else a.lk.len - a.lk.ones) = a.bits.count b := by
  rw [T.lk_ones, T.lk_len]
  have := count_both a.bits
  cases b
  · show a.bits.length - a.bits.count true = _; omega
  · rfl
set_option maxHeartbeats 1600000 in
theorem tahead_in {base t j : Nat} {S : St} {a : T} (w : World) (h : TM base w t S) (hi : Is S.sto a) (hrt : S.rt = a.lk) (hpos : 0 < a.bits.length) (hj : j ≤ a.bits.length) (hlen : a.bits.length ≤ 1000000000000) (hht : a.ht ≤ 1000000000) :
    Calls Tryd.prog 47 #[.pointer (some ⟨t, 0, none⟩), .int .i64 j] w fun e w' => ∃ v, e = .returned (.int .i64 (Blk.rk true a.bits j)) ∧ TM base w' t (S.see v) ∧ Stay (· = t) w w' ∧ v ≤ a.ht + 1 := by
  obtain ⟨x, hx⟩ : ∃ x, Blk.rk true a.bits j = x := ⟨_, rfl⟩
  rw [hx]
  have hcc : ∃ p q n c, w.heap[t]? = some (.cells (trv p q n c S.rt S.vis) 61 (0, 0)) := by
    obtain ⟨g, q, c, hh⟩ := h
    exact ⟨_, _, _, _, hh.cells⟩
  obtain ⟨p, q, n, c, hc⟩ := hcc
  rw [hrt] at hc
  have c2 := (cellsT hc).c2
  have c3 := (cellsT hc).c3
  rw [T.lk_len] at c3
  have c6 := (cellsT hc).c6
  have f6 := (cellsT hc).fz 6
  have Z := Lib.hid h.zero
  obtain ⟨nd, d, hd⟩ := hi.at
  have key := tlook _ Z.out.1 (show (S.see 0).sto a.lk.num = _ from hd) (by show 0 < _; decide)
  have hj0 : ((a.bits.length : Int) == 0) = false := by simp; intro e; rw [e] at hpos; simp at hpos
  have hj1 : ¬ (a.bits.length : Int) = 0 := by omega
  have H := Lib.hid h
  have HI := Lib.hid hi
  have HD := Lib.hid hd
  have HX := Lib.hid hx
  clear hc h hi hd hx
  go_enter Tryd.func47, Tryd.ntmps47
  go_wp2_with fail
  (with_reducible refine key.mono ?_); rintro e w1 ⟨rfl, hT1, hs1⟩
  have HT1 := Lib.hid hT1
  have HS1 := Lib.hid (Z.out.2.trans hs1 (fun _ _ h => h))
  clear hT1 hs1 key c2 c3 c6 f6
  go_wp2_with fail
  go_loopg [1, 5, 6, 7] a.ht (fun g s1 s5 s6 _ wr => ∃ (b : T) (nb : Nat) (d : Nd) (i v o : Nat), g = b.ht ∧ s1 = .int .i64 i ∧ s5 = .int .i64 o ∧ s6 = .pointer (some ⟨nb, 0, none⟩) ∧ Is S.sto b ∧ S.sto b.lk.num = some (nb, d) ∧ i ≤ b.bits.length ∧ b.bits.length + o ≤ a.bits.length ∧ o + Blk.rk true b.bits i = x ∧ TM base wr t (S.see v) ∧ Stay (· = t) w wr ∧ v + b.ht ≤ a.ht + 1)
  case atStart => exact ⟨a, nd, d, j, 1, 0, rfl, rfl, rfl, rfl, HI.out, HD.out, hj, Nat.le_refl _, (Nat.zero_add _).trans HX.out, HT1.out, HS1.out, by omega⟩
  case round =>
    obtain ⟨b, nb, d', i, v, o, rfl, rfl, rfl, rfl, hib, hdb, hil, hbl, hxb, hT, hst, hv⟩ := hrel
    cases b with
    | leaf k l =>
      obtain ⟨n2, bb, e2⟩ := hib
      obtain ⟨A, B, _, hN, hB, _, _⟩ := hT.lf (show (S.see v).sto k = some (n2, .lf bb l) from e2)
      have en : nb = n2 := by have := hdb.symm.trans e2; injection this with this; injection this
      subst en
      have keyL := tisleaf wr hN.c0
      have n0 := hN.c0
      have keyG := brank_any (i : Int) wr hB
      rw [Int.toNat_natCast] at keyG
      obtain ⟨r, hr⟩ : ∃ r, Blk.rk true l i = r := ⟨_, rfl⟩
      rw [hr] at keyG
      have hxb' : o + r = x := by rw [← hr]; exact hxb
      have hxi : (o : Int) + r = x := by omega
      have hro : (x : Int) ≤ 2000000000000 := by
        have h1 : r ≤ i := by rw [← hr]; exact Blk.rk_le _ _ _
        have h2 : (T.leaf k l).bits.length = l.length := rfl
        omega
      have hro2 : (o : Int) ≤ 1000000000000 := by omega
      have HT := Lib.hid hT
      have HST := Lib.hid hst
      have HXI := Lib.hid hxi
      clear hdb e2 hN hB hT hst hxb hxb' hr hxi
      go_wp2_with fail
      (with_reducible refine keyL.mono ?_); rintro e w1' ⟨rfl, rfl⟩
      go_wp2_with fail
      (with_reducible refine keyG.mono ?_); rintro e w1' ⟨rfl, rfl⟩
      have hri : (r : Int) ≤ 2000000000000 := by have := HXI.out; omega
      go_wp2_with fail
      go_ret
      exact ⟨v, ret_int HXI.out, HT.out, HST.out, by omega⟩
    | node k y z =>
      obtain ⟨⟨n2, e2⟩, hy, hz⟩ := hib
      have hk2 : (S.see v).sto k = some (n2, .pr y.lk z.lk) := e2
      obtain ⟨n0, n1, n2', n3, n4, n5, n6, n7, n8, _⟩ := hT.pr hk2
      have en : nb = n2 := by have := hdb.symm.trans e2; injection this with this; injection this
      subst en
      have el : (T.node k y z).bits.length = y.bits.length + z.bits.length := List.length_append
      have eh : (T.node k y z).ht = 1 + max y.ht z.ht := rfl
      have keyL := tisleaf wr n0
      have HK2 := Lib.hid hk2
      have HT := Lib.hid hT
      have HST := Lib.hid hst
      rw [el] at hil hbl
      rw [eh] at hv
      have HXB := Lib.hid hxb
      have EH := Lib.hid eh
      clear hdb e2 hT hst hk2 el hxb eh
      by_cases hc : i < y.bits.length
      · have keyT := ttoward_0 (k := i) wr n2' (by rw [T.lk_len]; exact hc)
        obtain ⟨ny, dy, hdy⟩ := hy.at
        have keyK := tlook wr HT.out (show (S.see v).sto y.lk.num = _ from hdy) (by show v < _; omega)
        have HY := Lib.hid hy
        have HDY := Lib.hid hdy
        clear hy hz hdy
        go_wp2_with fail
        (with_reducible refine keyL.mono ?_); rintro e w1' ⟨rfl, rfl⟩
        go_wp2_with fail
        (with_reducible refine keyT.mono ?_); rintro e w1' ⟨rfl, rfl⟩
        go_wp2_with fail
        (with_reducible refine keyK.mono ?_); rintro e w3 ⟨rfl, hT3, hs3⟩
        go_wp2_with fail
        go_roundg y.ht
        case measure => rw [EH.out]; omega
        case rel => exact ⟨y, ny, dy, i, v + 1, o, rfl, rfl, rfl, rfl, HY.out, HDY.out, Nat.le_of_lt hc, by omega, by rw [← HXB.out]; show _ = o + Blk.rk true (y.bits ++ z.bits) i; rw [rk_append_lo (Nat.le_of_lt hc)], hT3, HST.out.trans hs3 (fun _ _ h => h), by omega⟩
      · obtain ⟨m, hm⟩ : ∃ m, i = y.bits.length + m := ⟨i - y.bits.length, by omega⟩
        have keyT := ttoward_1 (k := i) (m := m) wr n2' (by rw [T.lk_len]; exact hm) (by omega)
        obtain ⟨nz, dz, hdz⟩ := hz.at
        have HZ := Lib.hid hz
        have HDZ := Lib.hid hdz
        have HM := Lib.hid hm
        have hm2 : m ≤ z.bits.length := by omega
        have hcy := List.count_le_length (a := true) (l := y.bits)
        clear hy hz hdz hm
        go_wp2_with fail
        (with_reducible refine keyL.mono ?_); rintro e w1' ⟨rfl, rfl⟩
        go_wp2_with fail
        (with_reducible refine keyT.mono ?_); rintro e w1' ⟨rfl, u, rfl⟩
        have hT2 := HT.out.drewN u
        have N2 := hT2.pr (show (S.see v).sto k = some (nb, .pr y.lk z.lk) from HK2.out)
        have n5' := N2.c5
        have n3' := N2.c3
        rw [T.lk_ones] at n3'
        obtain ⟨q, hq⟩ : ∃ q, y.bits.count true = q := ⟨_, rfl⟩
        rw [hq] at n3' hcy
        have hoq : (o : Int) + q ≤ 1000000000000 := by omega
        have keyK := tlook _ hT2 (show (S.see v).sto z.lk.num = _ from HDZ.out) (by show v < _; omega)
        have hst2 := HST.out.drewN u
        have HQ := Lib.hid hq
        clear n0 n1 n2' n3 n4 n5 n6 n7 n8 hT2 N2 hq
        generalize wr.drewN u = w2 at *
        go_wp2_with fail
        (with_reducible refine keyK.mono ?_); rintro e w3 ⟨rfl, hT3, hs3⟩
        go_wp2_with fail
        go_roundg z.ht
        case measure => rw [EH.out]; omega
        case rel => exact ⟨z, nz, dz, m, v + 1, o + q, rfl, rfl, by go_num, rfl, HZ.out, HDZ.out, hm2, by omega, by rw [← HXB.out]; show _ = o + Blk.rk true (y.bits ++ z.bits) i; rw [rk_append_hi HM.out, HQ.out, Nat.add_assoc], hT3, hst2.trans hs3 (fun _ _ h => h), by omega⟩
theorem tahead_none {base t : Nat} {S : St} (k : Int) (w : World) (h : TM base w t S) (hrt : S.rt.len = 0) :
    Calls Tryd.prog 47 #[.pointer (some ⟨t, 0, none⟩), .int .i64 k] w fun e w' => ∃ v, e = .returned (.int .i64 0) ∧ TM base w' t (S.see v) ∧ Stay (· = t) w w' ∧ v ≤ 0 + 1 := by
  have hcc : ∃ p q n c, w.heap[t]? = some (.cells (trv p q n c S.rt S.vis) 61 (0, 0)) := by
    obtain ⟨g, q, c, hh⟩ := h
    exact ⟨_, _, _, _, hh.cells⟩
  obtain ⟨p, q, n, c, hc⟩ := hcc
  have c3 := (cellsT hc).c3
  rw [hrt] at c3
  have c6 := (cellsT hc).c6
  have f6 := (cellsT hc).fz 6
  have Z := Lib.hid h.zero
  clear hc h hrt
  go_enter Tryd.func47, Tryd.ntmps47
  go_wp2_with fail
  go_ret
  exact ⟨0, rfl, Z.out.1, Z.out.2, Nat.zero_le _⟩
theorem tahead {base t j : Nat} {S : St} {m : List Bool} (w : World) (h : Tre base w t S m) (hj : j ≤ m.length) (hlen : m.length ≤ 1000000000) :
    Calls Tryd.prog 47 #[.pointer (some ⟨t, 0, none⟩), .int .i64 j] w fun e w' => ∃ v, e = .returned (.int .i64 (Blk.rk true m j)) ∧ TM base w' t (S.see v) ∧ Stay (· = t) w w' ∧ v ≤ S.rt.ht + 1 := by
  have hh := h.2.ht
  rcases h.2 with ⟨rfl, h1, _, h3, _⟩ | ⟨a, h1, h2, h3, h4, rfl, h6, h7, _⟩
  · rw [h3]
    have : Blk.rk true ([] : List Bool) j = 0 := by unfold Blk.rk; simp
    rw [this]
    exact tahead_none j w h.1 h1
  · rw [h7, T.lk_ht] at hh ⊢
    exact tahead_in w h.1 h1 h7 h6 hj (by omega) (by omega)
/-- The place that Rank takes: between 0 and the length. -/
def place (n : Nat) (k : Int) : Nat := min k.toNat n
theorem trank_nil (k : Int) (b : Bool) (w : World) : Calls Tryd.prog 30 #[.pointer none, .int .i64 k, .bool b] w fun e w' => e = .returned (.int .i64 0) ∧ w = w' := by
  go_enter Tryd.func30, Tryd.ntmps30
  go_wp2
  go_ret
  exact ⟨rfl, rfl⟩
set_option maxHeartbeats 800000 in
theorem trank {base t : Nat} {S : St} {m : List Bool} (k : Int) (b : Bool) (w : World) (h : Tre base w t S m) (hlen : m.length ≤ 1000000000) :
    Calls Tryd.prog 30 #[.pointer (some ⟨t, 0, none⟩), .int .i64 k, .bool b] w fun e w' => ∃ v, e = .returned (.int .i64 (Blk.rk b m (place m.length k))) ∧ TM base w' t (S.see v) ∧ Stay (· = t) w w' ∧ v ≤ S.rt.ht + 1 := by
  obtain ⟨i, hi⟩ : ∃ i, place m.length k = i := ⟨_, rfl⟩
  have hil : i ≤ m.length := by rw [← hi]; exact Nat.min_le_right _ _
  rw [hi]
  have key := tahead (j := i) w h hil hlen
  obtain ⟨p, q, n, c, hc⟩ := h.see
  have c3 := (cellsT hc).c3
  rw [h.2.len] at c3
  obtain ⟨r, hr⟩ : ∃ r, Blk.rk true m i = r := ⟨_, rfl⟩
  have hri : r ≤ i := by rw [← hr]; exact Blk.rk_le _ _ _
  have hrf : Blk.rk false m i = i - r := by
    rw [← hr]
    unfold Blk.rk
    have := count_both (m.take i)
    rw [List.length_take] at this
    omega
  rw [hr] at key
  have HR := Lib.hid hr
  have HRF := Lib.hid hrf
  clear hr hrf hc h
  unfold place at hi
  have hri2 : (r : Int) ≤ i := by omega
  have hi3 : (i : Int) ≤ 1000000000 := by omega
  rcases Int.lt_or_le k 1 with h0 | h0
  · obtain rfl : i = 0 := by omega
    have hr0 : r = 0 := by omega
    subst hr0
    have key : Calls Tryd.prog 47 #[.pointer (some ⟨t, 0, none⟩), .int .i64 0] w _ := key
    have hor : k = 0 ∨ k < 0 := by omega
    clear hi hri hri2 hi3 hil h0
    rcases hor with rfl | hk0
    · cases b
      all_goals
        go_enter Tryd.func30, Tryd.ntmps30
        go_wp2_with (first | (go_at_call 47; refine key.mono ?_; rintro e w1 ⟨v, rfl, hT, hs, hv⟩))
        all_goals
          go_ret
          exact ⟨v, ret_int (by first | rw [HR.out]; rfl | (rw [HRF.out]; rfl)), hT, hs, hv⟩
    · cases b
      all_goals
        go_enter Tryd.func30, Tryd.ntmps30
        go_wp2_with (first | (go_at_call 47; refine key.mono ?_; rintro e w1 ⟨v, rfl, hT, hs, hv⟩))
        all_goals
          go_ret
          exact ⟨v, ret_int (by first | rw [HR.out]; rfl | (rw [HRF.out]; rfl)), hT, hs, hv⟩
  · by_cases h1 : k ≤ m.length
    · obtain rfl : k = i := by omega
      have hk0 : ¬ (i : Int) < 0 := by omega
      have hk1 : (0 : Int) < i := by omega
      clear hi
      cases b
      all_goals
        go_enter Tryd.func30, Tryd.ntmps30
        go_wp2_with (first | (go_at_call 47; (with_reducible refine key.mono ?_); rintro e w1 ⟨v, rfl, hT, hs, hv⟩))
        all_goals
          go_ret
          exact ⟨v, ret_int (by first | rw [HR.out] | (rw [HRF.out]; omega)), hT, hs, hv⟩
    · obtain rfl : i = m.length := by omega
      have hk0 : ¬ k < 0 := by omega
      have hk1 : (0 : Int) < k := by omega
      have hk2 : (m.length : Int) < k := by omega
      clear hi
      cases b
      all_goals
        go_enter Tryd.func30, Tryd.ntmps30
        go_wp2_with (first | (go_at_call 47; (with_reducible refine key.mono ?_); rintro e w1 ⟨v, rfl, hT, hs, hv⟩))
        all_goals
          go_ret
          exact ⟨v, ret_int (by first | rw [HR.out] | (rw [HRF.out]; omega)), hT, hs, hv⟩
end Go.Proofs.YtfbhcbcpeocmcaaDoor
