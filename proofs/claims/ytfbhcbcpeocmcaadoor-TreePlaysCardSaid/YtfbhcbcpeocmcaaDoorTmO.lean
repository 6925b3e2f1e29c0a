/- A tree of a list of bits; what the functions that only read do: contracts of the walk. -/
import Derived.Test.YtfbhcbcpeocmcaaDoorTmI
import Derived.Deep.LoopGhost
namespace Go.Proofs.YtfbhcbcpeocmcaaDoor
open Go Go.RowKit Go.ChangeAt Tr

theorem getD_append_lo' {l0 l1 : List Bool} {j : Nat} (hj : j < l0.length) : (l0 ++ l1).getD j false = l0.getD j false := by
  rw [List.getD_eq_getElem?_getD, List.getD_eq_getElem?_getD, List.getElem?_append_left hj]
theorem getD_append_hi' {l0 l1 : List Bool} {j m : Nat} (hj : j = l0.length + m) : (l0 ++ l1).getD j false = l1.getD m false := by
  subst hj
  rw [List.getD_eq_getElem?_getD, List.getD_eq_getElem?_getD, List.getElem?_append_right (Nat.le_add_right _ _), Nat.add_sub_cancel_left]
/-- The tree's root holds the bits m, and is as it must be. -/
def Root (S : St) (m : List Bool) : Prop :=
  (m = [] ∧ S.rt.len = 0 ∧ S.rt.ones = 0 ∧ S.rt.ht = 0 ∧ S.live = 0) ∨
  ∃ a : T, Is S.sto a ∧ a.ks.Nodup ∧ a.bal ∧ a.ok ∧ a.bits = m ∧ 0 < m.length ∧ S.rt = a.lk ∧ S.live = a.ks.length
def Tre (base : Nat) (w : World) (t : Nat) (S : St) (m : List Bool) : Prop := TM base w t S ∧ Root S m
theorem Root.len {S : St} {m : List Bool} (h : Root S m) : S.rt.len = m.length := by
  rcases h with ⟨rfl, h, _⟩ | ⟨a, _, _, _, _, h1, _, h2, _⟩
  · exact h
  · rw [h2, T.lk_len, h1]
theorem Root.ones {S : St} {m : List Bool} (h : Root S m) : S.rt.ones = m.count true := by
  rcases h with ⟨rfl, _, h, _⟩ | ⟨a, _, _, _, _, h1, _, h2, _⟩
  · exact h
  · rw [h2, T.lk_ones, h1]
theorem Root.ht {S : St} {m : List Bool} (h : Root S m) : S.rt.ht ≤ m.length := by
  rcases h with ⟨rfl, _, _, h, _⟩ | ⟨a, _, _, _, h4, h1, h5, h2, _⟩
  · rw [h]; exact Nat.zero_le _
  · rw [h2, T.lk_ht]
    have := a.ht_le
    have := h4.len.1
    rw [h1] at this
    omega
theorem Tre.see {base : Nat} {w : World} {t : Nat} {S : St} {m : List Bool} (h : Tre base w t S m) : ∃ p a n c, w.heap[t]? = some (.cells (trv p a n c S.rt S.vis) 61 (0, 0)) := by
  obtain ⟨⟨g, a, c, hx⟩, _⟩ := h
  exact ⟨_, _, _, _, hx.cells⟩
theorem tlen_nil (w : World) : Calls Tryd.prog 27 #[.pointer none] w fun e w' => e = .returned (.int .i64 0) ∧ w = w' := by
  go_enter Tryd.func27, Tryd.ntmps27
  go_wp2
  go_ret
  exact ⟨rfl, rfl⟩
theorem tlen {base : Nat} {t : Nat} {S : St} {m : List Bool} (w : World) (h : Tre base w t S m) :
    Calls Tryd.prog 27 #[.pointer (some ⟨t, 0, none⟩)] w fun e w' => e = .returned (.int .i64 m.length) ∧ w = w' := by
  obtain ⟨p, a, n, c, hc⟩ := h.see
  have c3 := (cellsT hc).c3
  rw [h.2.len] at c3
  clear hc h
  go_enter Tryd.func27, Tryd.ntmps27
  go_wp2
  go_ret
  exact ⟨rfl, rfl⟩
theorem tones {base : Nat} {t : Nat} {S : St} {m : List Bool} (w : World) (h : Tre base w t S m) :
    Calls Tryd.prog 29 #[.pointer (some ⟨t, 0, none⟩)] w fun e w' => e = .returned (.int .i64 (m.count true)) ∧ w = w' := by
  obtain ⟨p, a, n, c, hc⟩ := h.see
  have c4 := (cellsT hc).c4
  rw [h.2.ones] at c4
  clear hc h
  go_enter Tryd.func29, Tryd.ntmps29
  go_wp2
  go_ret
  exact ⟨rfl, rfl⟩
theorem tvisits {base : Nat} {t : Nat} {S : St} {m : List Bool} (w : World) (h : Tre base w t S m) :
    Calls Tryd.prog 35 #[.pointer (some ⟨t, 0, none⟩)] w fun e w' => e = .returned (.int .i64 S.vis) ∧ w = w' := by
  obtain ⟨p, a, n, c, hc⟩ := h.see
  have c6 := (cellsT hc).c6
  clear hc h
  go_enter Tryd.func35, Tryd.ntmps35
  go_wp2
  go_ret
  exact ⟨rfl, rfl⟩
/-- The first store of a call: none was looked at. -/
theorem TM.zero {base : Nat} {w : World} {t : Nat} {S : St} (h : TM base w t S) : TM base (w.setCell ⟨t, 6, none⟩ (.int .i64 0)) t (S.see 0) ∧ Stay (· = t) w (w.setCell ⟨t, 6, none⟩ (.int .i64 0)) := by
  have hst : Stay (· = t) w (w.setCell ⟨t, 6, none⟩ (.int .i64 0)) := Stay.setCell (S := (· = t)) (Stay.refl _ _) (p := ⟨t, 6, none⟩) (.inr rfl) _
  exact ⟨h.setT S.rt 0 hst (fun p a n c e => set_of e _), hst⟩
theorem Root.see {S : St} {m : List Bool} (h : Root S m) (v : Nat) : Root (S.see v) m := h
theorem tget_nil (k : Int) (w : World) : Calls Tryd.prog 24 #[.pointer none, .int .i64 k] w fun e w' => e = .returned (.tuple #[.bool false, .int .i64 6]) ∧ w = w' := by
  go_enter Tryd.func24, Tryd.ntmps24
  go_wp2
  go_ret2
  exact ⟨rfl, rfl⟩
theorem tget_out {base t : Nat} {S : St} {m : List Bool} (k : Int) (w : World) (h : Tre base w t S m) (hk : k < 0 ∨ (m.length : Int) ≤ k) :
    Calls Tryd.prog 24 #[.pointer (some ⟨t, 0, none⟩), .int .i64 k] w fun e w' => e = .returned (.tuple #[.bool false, .int .i64 2]) ∧ TM base w' t (S.see 0) ∧ Stay (· = t) w w' := by
  obtain ⟨p, a, n, c, hc⟩ := h.see
  have c3 := (cellsT hc).c3
  rw [h.2.len] at c3
  have c6 := (cellsT hc).c6
  have f6 := (cellsT hc).fz 6
  have Z := Lib.hid h.1.zero
  clear hc h
  by_cases h0 : k < 0
  · clear hk
    go_enter Tryd.func24, Tryd.ntmps24
    go_wp2
    go_ret2
    exact ⟨rfl, Z.out⟩
  · have h1 : (m.length : Int) ≤ k := by omega
    clear hk
    go_enter Tryd.func24, Tryd.ntmps24
    go_wp2
    go_ret2
    exact ⟨rfl, Z.out⟩
/-- What the walk down the tree reads at a node. -/
theorem Tr.Is.at {s : Sto} {b : T} (h : Is s b) : ∃ n d, s b.lk.num = some (n, d) := by
  cases b with
  | leaf k l => obtain ⟨n, b, e⟩ := h; exact ⟨n, _, e⟩
  | node k x y => obtain ⟨⟨n, e⟩, _⟩ := h; exact ⟨n, _, e⟩
set_option maxHeartbeats 1600000 in
theorem tget_in {base t j : Nat} {S : St} {a : T} (w : World) (h : TM base w t S) (hi : Is S.sto a) (hrt : S.rt = a.lk) (hj : j < a.bits.length) (hlen : a.bits.length ≤ 1000000000000) (hht : a.ht ≤ 1000000000) :
    Calls Tryd.prog 24 #[.pointer (some ⟨t, 0, none⟩), .int .i64 j] w fun e w' => ∃ v, e = .returned (.tuple #[.bool (a.bits.getD j false), .int .i64 0]) ∧ TM base w' t (S.see v) ∧ Stay (· = t) w w' ∧ v ≤ a.ht + 1 := by
  obtain ⟨x, hx⟩ : ∃ x, a.bits.getD j false = x := ⟨_, rfl⟩
  rw [hx]
  have hcc : ∃ p q n c, w.heap[t]? = some (.cells (trv p q n c S.rt S.vis) 61 (0, 0)) := by
    obtain ⟨g, q, c, hh⟩ := h
    exact ⟨_, _, _, _, hh.cells⟩
  obtain ⟨p, q, n, c, hc⟩ := hcc
  rw [hrt] at hc
  have c2 := (cellsT hc).c2
  have c3 := (cellsT hc).c3
  rw [T.lk_len] at c3
  have c6 := (cellsT hc).c6
  have f6 := (cellsT hc).fz 6
  have Z := Lib.hid h.zero
  obtain ⟨nd, d, hd⟩ := hi.at
  have key := tlook _ Z.out.1 (show (S.see 0).sto a.lk.num = _ from hd) (by show 0 < _; decide)
  have hj1 : (j : Int) < a.bits.length := by omega
  have H := Lib.hid h
  have HI := Lib.hid hi
  have HD := Lib.hid hd
  have HX := Lib.hid hx
  clear hc h hi hd hx
  go_enter Tryd.func24, Tryd.ntmps24
  go_wp2_with fail
  (with_reducible refine key.mono ?_); rintro e w1 ⟨rfl, hT1, hs1⟩
  have HT1 := Lib.hid hT1
  have HS1 := Lib.hid (Z.out.2.trans hs1 (fun _ _ h => h))
  clear hT1 hs1 key c2 c3 c6 f6
  go_wp2_with fail
  go_loopg [1, 6, 7] a.ht (fun g s1 s6 _ wr => ∃ (b : T) (nb : Nat) (d : Nd) (i v : Nat), g = b.ht ∧ s1 = .int .i64 i ∧ s6 = .pointer (some ⟨nb, 0, none⟩) ∧ Is S.sto b ∧ S.sto b.lk.num = some (nb, d) ∧ i < b.bits.length ∧ b.bits.length ≤ a.bits.length ∧ b.bits.getD i false = x ∧ TM base wr t (S.see v) ∧ Stay (· = t) w wr ∧ v + b.ht ≤ a.ht + 1)
  case atStart => exact ⟨a, nd, d, j, 1, rfl, rfl, rfl, HI.out, HD.out, hj, Nat.le_refl _, HX.out, HT1.out, HS1.out, by omega⟩
  case round =>
    obtain ⟨b, nb, d', i, v, rfl, rfl, rfl, hib, hdb, hil, hbl, hxb, hT, hst, hv⟩ := hrel
    cases b with
    | leaf k l =>
      obtain ⟨n2, bb, e2⟩ := hib
      obtain ⟨A, B, _, hN, hB, _, _⟩ := hT.lf (show (S.see v).sto k = some (n2, .lf bb l) from e2)
      have en : nb = n2 := by have := hdb.symm.trans e2; injection this with this; injection this
      subst en
      have keyL := tisleaf wr hN.c0
      have n0 := hN.c0
      have keyG := bget_yes i wr hB hil
      have hxb' : l.getD i false = x := hxb
      rw [hxb'] at keyG
      have HT := Lib.hid hT
      have HST := Lib.hid hst
      clear hdb e2 hN hB hT hst hxb hxb'
      go_wp2_with fail
      (with_reducible refine keyL.mono ?_); rintro e w1' ⟨rfl, rfl⟩
      go_wp2_with fail
      (with_reducible refine keyG.mono ?_); rintro e w1' ⟨rfl, rfl⟩
      go_wp2_with fail
      go_ret2
      exact ⟨v, rfl, HT.out, HST.out, by omega⟩
    | node k y z =>
      obtain ⟨⟨n2, e2⟩, hy, hz⟩ := hib
      have hk2 : (S.see v).sto k = some (n2, .pr y.lk z.lk) := e2
      obtain ⟨n0, n1, n2', n3, n4, n5, n6, n7, n8, _⟩ := hT.pr hk2
      have en : nb = n2 := by have := hdb.symm.trans e2; injection this with this; injection this
      subst en
      have el : (T.node k y z).bits.length = y.bits.length + z.bits.length := List.length_append
      have eh : (T.node k y z).ht = 1 + max y.ht z.ht := rfl
      have keyL := tisleaf wr n0
      have HK2 := Lib.hid hk2
      have HT := Lib.hid hT
      have HST := Lib.hid hst
      rw [el] at hil hbl
      rw [eh] at hv
      have HXB := Lib.hid hxb
      have EH := Lib.hid eh
      clear hdb e2 hT hst hk2 el hxb eh
      by_cases hc : i < y.bits.length
      · have keyT := ttoward_0 (k := i) wr n2' (by rw [T.lk_len]; exact hc)
        obtain ⟨ny, dy, hdy⟩ := hy.at
        have keyK := tlook wr HT.out (show (S.see v).sto y.lk.num = _ from hdy) (by show v < _; omega)
        have HY := Lib.hid hy
        have HDY := Lib.hid hdy
        clear hy hz hdy
        go_wp2_with fail
        (with_reducible refine keyL.mono ?_); rintro e w1' ⟨rfl, rfl⟩
        go_wp2_with fail
        (with_reducible refine keyT.mono ?_); rintro e w1' ⟨rfl, rfl⟩
        go_wp2_with fail
        (with_reducible refine keyK.mono ?_); rintro e w3 ⟨rfl, hT3, hs3⟩
        go_wp2_with fail
        go_roundg y.ht
        case measure => rw [EH.out]; omega
        case rel => exact ⟨y, ny, dy, i, v + 1, rfl, rfl, rfl, HY.out, HDY.out, hc, by omega, (getD_append_lo' hc).symm.trans HXB.out, hT3, HST.out.trans hs3 (fun _ _ h => h), by omega⟩
      · obtain ⟨m, hm⟩ : ∃ m, i = y.bits.length + m := ⟨i - y.bits.length, by omega⟩
        have keyT := ttoward_1 (k := i) (m := m) wr n2' (by rw [T.lk_len]; exact hm) (by omega)
        obtain ⟨nz, dz, hdz⟩ := hz.at
        have HZ := Lib.hid hz
        have HDZ := Lib.hid hdz
        have HM := Lib.hid hm
        have hm2 : m < z.bits.length := by omega
        clear hy hz hdz hm
        go_wp2_with fail
        (with_reducible refine keyL.mono ?_); rintro e w1' ⟨rfl, rfl⟩
        go_wp2_with fail
        (with_reducible refine keyT.mono ?_); rintro e w1' ⟨rfl, u, rfl⟩
        have hT2 := HT.out.drewN u
        have n5' := (hT2.pr (show (S.see v).sto k = some (nb, .pr y.lk z.lk) from HK2.out)).c5
        have keyK := tlook _ hT2 (show (S.see v).sto z.lk.num = _ from HDZ.out) (by show v < _; omega)
        have hst2 := HST.out.drewN u
        clear n0 n1 n2' n3 n4 n5 n6 n7 n8 hT2
        generalize wr.drewN u = w2 at *
        go_wp2_with fail
        (with_reducible refine keyK.mono ?_); rintro e w3 ⟨rfl, hT3, hs3⟩
        go_wp2_with fail
        go_roundg z.ht
        case measure => rw [EH.out]; omega
        case rel => exact ⟨z, nz, dz, m, v + 1, rfl, rfl, rfl, HZ.out, HDZ.out, hm2, by omega, (getD_append_hi' HM.out).symm.trans HXB.out, hT3, hst2.trans hs3 (fun _ _ h => h), by omega⟩
end Go.Proofs.YtfbhcbcpeocmcaaDoor
