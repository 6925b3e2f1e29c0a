/- Select of a tree: contracts of the walk. -/
import Derived.Test.YtfbhcbcpeocmcaaDoorTmP
namespace Go.Proofs.YtfbhcbcpeocmcaaDoor
open Go Go.RowKit Go.ChangeAt Tr

theorem TabAt.stay {S : Nat → Prop} {w w' : World} (h : TabAt w) (hb : Stay S w w') (hs : ¬ S 0) : TabAt w' :=
  fun j hj => (hb.cell (p := ⟨0, j, none⟩) (block_lt_of_cell (h j hj)) hs).trans (h j hj)
theorem cellsT' {base t v : Nat} {w : World} {S : St} {A : Lk} (h : TM base w t (S.see v)) (hrt : S.rt = A) : ∃ p q n c, CellsT w t p q n c A v := by
  obtain ⟨g, q, c, hh⟩ := h
  exact ⟨_, _, _, _, hrt ▸ cellsT hh.cells⟩
theorem TM.c2 {base t v : Nat} {w : World} {S : St} {A : Lk} (h : TM base w t (S.see v)) (hrt : S.rt = A) : w.cell? ⟨t, 2, none⟩ = some (.int .i64 A.num) := by
  obtain ⟨p, q, n, c, hh⟩ := cellsT' h hrt
  exact hh.c2
theorem tselect_nil (j : Int) (b : Bool) (w : World) : Calls Tryd.prog 31 #[.pointer none, .int .i64 j, .bool b] w fun e w' => e = .returned (.int .i64 (-1)) ∧ w = w' := by
  go_enter Tryd.func31, Tryd.ntmps31
  go_wp2
  go_ret
  exact ⟨rfl, rfl⟩
theorem tselect_neg {base t : Nat} {S : St} (j : Int) (b : Bool) (w : World) (h : TM base w t S) (hj : j < 0) :
    Calls Tryd.prog 31 #[.pointer (some ⟨t, 0, none⟩), .int .i64 j, .bool b] w fun e w' => e = .returned (.int .i64 (-1)) ∧ TM base w' t (S.see 0) ∧ Stay (· = t) w w' := by
  have hcc : ∃ p q n c, w.heap[t]? = some (.cells (trv p q n c S.rt S.vis) 61 (0, 0)) := by
    obtain ⟨g, q, c, hh⟩ := h
    exact ⟨_, _, _, _, hh.cells⟩
  obtain ⟨p, q, n, c, hc⟩ := hcc
  have c6 := (cellsT hc).c6
  have f6 := (cellsT hc).fz 6
  have Z := Lib.hid h.zero
  clear hc h
  go_enter Tryd.func31, Tryd.ntmps31
  go_wp2_with fail
  go_ret
  exact ⟨rfl, Z.out⟩
set_option maxHeartbeats 800000 in
theorem tselect_over {base t j : Nat} {S : St} (b : Bool) (w : World) (h : TM base w t S) (h1 : S.rt.ones ≤ S.rt.len) (h2 : S.rt.len < 4611686018427387904) (hj : (if b then S.rt.ones else S.rt.len - S.rt.ones) ≤ j) :
    Calls Tryd.prog 31 #[.pointer (some ⟨t, 0, none⟩), .int .i64 j, .bool b] w fun e w' => e = .returned (.int .i64 (-1)) ∧ TM base w' t (S.see 0) ∧ Stay (· = t) w w' := by
  have hcc : ∃ p q n c, w.heap[t]? = some (.cells (trv p q n c S.rt S.vis) 61 (0, 0)) := by
    obtain ⟨g, q, c, hh⟩ := h
    exact ⟨_, _, _, _, hh.cells⟩
  obtain ⟨p, q, n, c, hc⟩ := hcc
  obtain ⟨c0, c1, c2, c3, c4, c5, c6, fz⟩ := cellsT hc
  have f6 := fz 6
  have Z := Lib.hid h.zero
  have key := tcount S.rt b (w.setCell ⟨t, 6, none⟩ (.int .i64 0)) h1 h2
  obtain ⟨n2, hn2⟩ : ∃ n2, (if b then S.rt.ones else S.rt.len - S.rt.ones) = n2 := ⟨_, rfl⟩
  rw [hn2] at key hj
  have hj' : (n2 : Int) ≤ j := by omega
  have hj0 : ¬ (j : Int) < 0 := by omega
  unfold lkv at key
  clear hc h fz hn2 c0 c1 h1 h2
  go_enter Tryd.func31, Tryd.ntmps31
  go_wp2_with (first | (go_at_call 48; (with_reducible refine key.mono ?_); rintro e w1 ⟨rfl, hb1⟩))
  go_ret
  exact ⟨rfl, Z.out.1.below hb1, Z.out.2.trans (Stay.of_below (S := fun _ => False) hb1) (fun _ _ h => h.elim)⟩
set_option maxHeartbeats 3200000 in
theorem tselect_in {base t j : Nat} {S : St} {a : T} (b : Bool) (w : World) (h : TM base w t S) (hi : Is S.sto a) (hrt : S.rt = a.lk) (hj : j < a.bits.count b) (hlen : a.bits.length ≤ 1000000000000) (hht : a.ht ≤ 1000000000) (hTab : TabAt w) (hbase : 0 < base) :
    Calls Tryd.prog 31 #[.pointer (some ⟨t, 0, none⟩), .int .i64 j, .bool b] w fun e w' => ∃ v, e = .returned (.int .i64 (Blk.pl b a.bits j)) ∧ TM base w' t (S.see v) ∧ Stay (· = t) w w' ∧ v ≤ a.ht + 1 := by
  obtain ⟨x, hx⟩ : ∃ x, Blk.pl b a.bits j = x := ⟨_, rfl⟩
  have hxl : x < a.bits.length := by rw [← hx]; exact (Blk.pl_spec b a.bits j hj).1
  rw [hx]
  have hcc : ∃ p q n c, w.heap[t]? = some (.cells (trv p q n c S.rt S.vis) 61 (0, 0)) := by
    obtain ⟨g, q, c, hh⟩ := h
    exact ⟨_, _, _, _, hh.cells⟩
  obtain ⟨p, q, n, c, hc⟩ := hcc
  rw [hrt] at hc
  obtain ⟨c0, c1, c2, c3, c4, c5, c6, fz⟩ := cellsT hc
  have f6 := fz 6
  have hlt := h.lt
  have htg : ¬ (· = t) 0 := fun e => by have e' : 0 = t := e; omega
  have Z := Lib.hid h.zero
  have key0 := tcount a.lk b (w.setCell ⟨t, 6, none⟩ (.int .i64 0)) T.full.ones (by rw [T.lk_len]; omega)
  rw [lk_count] at key0
  obtain ⟨nd, d, hd⟩ := hi.at
  obtain ⟨n2, hn2⟩ : ∃ n2, a.bits.count b = n2 := ⟨_, rfl⟩
  rw [hn2] at key0 hj
  have hj' : (j : Int) < n2 := by omega
  have hj0 : ¬ (j : Int) < 0 := by omega
  unfold lkv at key0
  have H := Lib.hid h
  have HI := Lib.hid hi
  have HD := Lib.hid hd
  have HX := Lib.hid hx
  have HN2 := Lib.hid hn2
  have HTAB := Lib.hid hTab
  have HTG := Lib.hid htg
  clear hc h hi hd hx hn2 hTab htg fz c0 c1
  go_enter Tryd.func31, Tryd.ntmps31
  go_wp2_with (first | (go_at_call 48; (with_reducible refine key0.mono ?_); rintro e w0 ⟨rfl, hb0⟩; (have HT0 := Lib.hid (Z.out.1.below hb0)); (have HS0 := Lib.hid (Z.out.2.trans (Stay.of_below (S := fun _ => False) hb0) (fun _ _ h => h.elim))); (have c2' := HT0.out.c2 hrt); clear hb0))
  have key := tlook _ HT0.out (show (S.see 0).sto a.lk.num = _ from HD.out) (by show 0 < _; decide)
  (with_reducible refine key.mono ?_); rintro e w1 ⟨rfl, hT1, hs1⟩
  have HT1 := Lib.hid hT1
  have HS1 := Lib.hid (HS0.out.trans hs1 (fun _ _ h => h))
  clear hT1 hs1 key c2 c3 c4 c5 c6 f6 c2'
  go_wp2_with fail
  go_loopg [1, 7, 8, 9, 10] a.ht (fun g s1 s7 s8 _ _ wr => ∃ (bb : T) (nb : Nat) (d : Nd) (i v o : Nat), g = bb.ht ∧ s1 = .int .i64 i ∧ s7 = .int .i64 o ∧ s8 = .pointer (some ⟨nb, 0, none⟩) ∧ Is S.sto bb ∧ S.sto bb.lk.num = some (nb, d) ∧ i < bb.bits.count b ∧ bb.bits.length + o ≤ a.bits.length ∧ o + Blk.pl b bb.bits i = x ∧ TM base wr t (S.see v) ∧ Stay (· = t) w wr ∧ v + bb.ht ≤ a.ht + 1)
  case atStart => exact ⟨a, nd, d, j, 1, 0, rfl, rfl, rfl, rfl, HI.out, HD.out, by rw [HN2.out]; exact hj, Nat.le_refl _, (Nat.zero_add _).trans HX.out, HT1.out, HS1.out, by omega⟩
  case round =>
    obtain ⟨bt, nb, d', i, v, o, rfl, rfl, rfl, rfl, hib, hdb, hil, hbl, hxb, hT, hst, hv⟩ := hrel
    cases bt with
    | leaf k l =>
      obtain ⟨n3, bb, e2⟩ := hib
      obtain ⟨A, B, _, hN, hB, _, _⟩ := hT.lf (show (S.see v).sto k = some (n3, .lf bb l) from e2)
      have en : nb = n3 := by have := hdb.symm.trans e2; injection this with this; injection this
      subst en
      have keyL := tisleaf wr hN.c0
      have n0 := hN.c0
      have hil' : i < l.count b := hil
      have hc := List.count_le_length (a := b) (l := l)
      have hlb : l.length ≤ 128 := hB.1
      have hsl : Blk.sl b l (i : Int) = (Blk.pl b l i : Int) := by unfold Blk.sl; rw [if_pos (by omega), Int.toNat_natCast]
      have keyG := bsel_any (i : Int) b wr hB (HTAB.out.stay hst HTG.out) (by have := hst.size; omega) (by omega)
      obtain ⟨r, hr⟩ : ∃ r, Blk.pl b l i = r := ⟨_, rfl⟩
      rw [hsl, hr] at keyG
      have hxb' : o + r = x := by rw [← hr]; exact hxb
      have hxi : (o : Int) + r = x := by omega
      have hro : (x : Int) ≤ 1000000000000 := by omega
      have hro2 : (o : Int) ≤ 1000000000000 := by omega
      have hro3 : (r : Int) ≤ 1000000000000 := by omega
      have HT := Lib.hid hT
      have HST := Lib.hid hst
      have HXI := Lib.hid hxi
      clear hdb e2 hN hB hT hst hxb hxb' hr hxi hsl hil hil' hc
      go_wp2_with fail
      (with_reducible refine keyL.mono ?_); rintro e w1' ⟨rfl, rfl⟩
      go_wp2_with fail
      (with_reducible refine keyG.mono ?_); rintro e w5 ⟨rfl, hb5⟩
      go_wp2_with fail
      go_ret
      exact ⟨v, ret_int HXI.out, HT.out.below hb5, HST.out.trans (Stay.of_below (S := fun _ => False) hb5) (fun _ _ h => h.elim), by omega⟩
    | node k y z =>
      obtain ⟨⟨n3, e2⟩, hy, hz⟩ := hib
      have hk2 : (S.see v).sto k = some (n3, .pr y.lk z.lk) := e2
      obtain ⟨n0, n1, n2', n3', n4, n5, n6, n7, n8, _⟩ := hT.pr hk2
      have en : nb = n3 := by have := hdb.symm.trans e2; injection this with this; injection this
      subst en
      have el : (T.node k y z).bits.length = y.bits.length + z.bits.length := List.length_append
      have eh : (T.node k y z).ht = 1 + max y.ht z.ht := rfl
      have ec : (T.node k y z).bits.count b = y.bits.count b + z.bits.count b := List.count_append
      have keyL := tisleaf wr n0
      have keyC := tcount y.lk b wr T.full.ones (by rw [T.lk_len]; omega)
      rw [lk_count] at keyC
      obtain ⟨cy, hcy⟩ : ∃ cy, y.bits.count b = cy := ⟨_, rfl⟩
      rw [hcy] at keyC ec
      unfold lkv at keyC
      have hcyl : cy ≤ y.bits.length := by rw [← hcy]; exact List.count_le_length
      have HK2 := Lib.hid hk2
      have HT := Lib.hid hT
      have HST := Lib.hid hst
      rw [el] at hbl
      rw [ec] at hil
      rw [eh] at hv
      have HXB := Lib.hid hxb
      have EH := Lib.hid eh
      have HCY := Lib.hid hcy
      clear hdb e2 hT hst hk2 el hxb eh ec hcy
      go_wp2_with fail
      (with_reducible refine keyL.mono ?_); rintro e w1' ⟨rfl, rfl⟩
      go_wp2_with fail
      (with_reducible refine keyC.mono ?_); rintro e w2 ⟨rfl, hb2⟩
      have hT2 := HT.out.below hb2
      have hst2 := HST.out.trans (Stay.of_below (S := fun _ => False) hb2) (fun _ _ h => h.elim)
      have N2 := hT2.pr (show (S.see v).sto k = some (nb, .pr y.lk z.lk) from HK2.out)
      have m1 := N2.c1
      have m2 := N2.c2
      have m5 := N2.c5
      have HT2 := Lib.hid hT2
      have HST2 := Lib.hid hst2
      rw [T.lk_len] at m2
      clear hT2 hst2 N2 n0 n1 n2' n3' n4 n5 n6 n7 n8 keyL keyC hb2
      by_cases hc : i < cy
      · have hci : ¬ (cy : Int) ≤ i := by omega
        obtain ⟨ny, dy, hdy⟩ := hy.at
        have keyK := tlook w2 HT2.out (show (S.see v).sto y.lk.num = _ from hdy) (by show v < _; omega)
        have HY := Lib.hid hy
        have HDY := Lib.hid hdy
        clear hy hz hdy
        go_wp2_with fail
        (with_reducible refine keyK.mono ?_); rintro e w3 ⟨rfl, hT3, hs3⟩
        go_wp2_with fail
        go_roundg y.ht
        case measure => rw [EH.out]; omega
        case rel => exact ⟨y, ny, dy, i, v + 1, o, rfl, rfl, rfl, rfl, HY.out, HDY.out, by rw [HCY.out]; exact hc, by omega, by rw [← HXB.out]; show _ = o + Blk.pl b (y.bits ++ z.bits) i; rw [pl_append_lo (by rw [HCY.out]; exact hc)], hT3, HST2.out.trans hs3 (fun _ _ h => h), by omega⟩
      · have hci : (cy : Int) ≤ i := by omega
        obtain ⟨m, hm⟩ : ∃ m, i = cy + m := ⟨i - cy, by omega⟩
        have hmi : (i : Int) - cy = m := by omega
        have hib2 : (i : Int) ≤ 1000000000000 := by have := List.count_le_length (a := b) (l := z.bits); omega
        have hmb : (m : Int) ≤ 1000000000000 := by omega
        obtain ⟨nz, dz, hdz⟩ := hz.at
        have HZ := Lib.hid hz
        have HDZ := Lib.hid hdz
        have HM := Lib.hid hm
        have hm2 : m < z.bits.count b := by omega
        have HM2 := Lib.hid hm2
        obtain ⟨ly, hly⟩ : ∃ ly, y.bits.length = ly := ⟨_, rfl⟩
        rw [hly] at m2 hbl hcyl
        have HLY := Lib.hid hly
        have hoq : (o : Int) + ly ≤ 1000000000000 := by omega
        have keyK := tlook w2 HT2.out (show (S.see v).sto z.lk.num = _ from HDZ.out) (by show v < _; omega)
        have hv2 : v + 1 + z.ht ≤ a.ht + 1 := by omega
        have hb2' : z.bits.length + (o + ly) ≤ a.bits.length := by omega
        have HV2 := Lib.hid hv2
        have HB2' := Lib.hid hb2'
        clear hy hz hdz hm hly hil hm2 hv2 hb2' hbl hv hcyl
        go_wp2_with fail
        (with_reducible refine keyK.mono ?_); rintro e w3 ⟨rfl, hT3, hs3⟩
        go_wp2_with fail
        go_roundg z.ht
        case measure => rw [EH.out]; omega
        case rel => exact ⟨z, nz, dz, m, v + 1, o + ly, rfl, rfl, by go_num, rfl, HZ.out, HDZ.out, HM2.out, HB2'.out, by rw [← HXB.out]; show _ = o + Blk.pl b (y.bits ++ z.bits) i; rw [HM.out, ← HCY.out, pl_append_hi, HLY.out, Nat.add_assoc], hT3, HST2.out.trans hs3 (fun _ _ h => h), HV2.out⟩
theorem tselect {base t : Nat} {S : St} {m : List Bool} (j : Int) (b : Bool) (w : World) (h : Tre base w t S m) (hlen : m.length ≤ 1000000000) (hTab : TabAt w) (hbase : 0 < base) :
    Calls Tryd.prog 31 #[.pointer (some ⟨t, 0, none⟩), .int .i64 j, .bool b] w fun e w' => ∃ v, e = .returned (.int .i64 (Blk.sl b m j)) ∧ TM base w' t (S.see v) ∧ Stay (· = t) w w' ∧ v ≤ S.rt.ht + 1 := by
  by_cases h0 : j < 0
  · rw [Blk.sl_none (.inl h0)]
    exact (tselect_neg j b w h.1 h0).mono fun _ _ ⟨h1, h2, h3⟩ => ⟨0, h1, h2, h3, Nat.zero_le _⟩
  · obtain ⟨n, rfl⟩ := Int.eq_ofNat_of_zero_le (show 0 ≤ j by omega)
    have hc : (if b then S.rt.ones else S.rt.len - S.rt.ones) = m.count b := by
      rw [h.2.ones, h.2.len]
      have := count_both m
      cases b
      · show m.length - m.count true = _; omega
      · rfl
    by_cases h1 : m.count b ≤ n
    · rw [Blk.sl_none (.inr (by omega))]
      exact (tselect_over b w h.1 (by rw [h.2.ones, h.2.len]; exact List.count_le_length) (by rw [h.2.len]; omega) (by rw [hc]; exact h1)).mono fun _ _ ⟨h1, h2, h3⟩ => ⟨0, h1, h2, h3, Nat.zero_le _⟩
    · have hsl : Blk.sl b m (n : Int) = (Blk.pl b m n : Int) := by unfold Blk.sl; rw [if_pos (by omega), Int.toNat_natCast]
      rw [hsl]
      have hh := h.2.ht
      rcases h.2 with ⟨rfl, _⟩ | ⟨a, q1, q2, q3, q4, rfl, q6, q7, _⟩
      · simp at h1
      · rw [q7, T.lk_ht] at hh ⊢
        exact tselect_in b w h.1 q1 q7 (by omega) (by omega) (by omega) hTab hbase
end Go.Proofs.YtfbhcbcpeocmcaaDoor
