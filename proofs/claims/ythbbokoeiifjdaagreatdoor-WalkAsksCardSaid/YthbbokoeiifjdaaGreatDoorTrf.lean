/- remove: contracts of the walk. A tree of a list of bits; what the functions that only read do: contracts of the walk. Rank and Select of a tree: contracts of the walk. Select of a tree: contracts of the walk. build: contracts of the walk. -/
import Derived.Test.YthbbokoeiifjdaaGreatDoorTre
import Derived.Test.YthbbokoeiifjdaaGreatDoorTrd
import Derived.Deep.LoopGhost
namespace Go.Proofs.YthbbokoeiifjdaaGreatDoor
open Go Go.RowKit Go.ChangeAt Tr

theorem Tr.ht_zero {t : T} (h : t.ht = 0) : ∃ k l, t = .leaf k l := by
  cases t with
  | leaf k l => exact ⟨k, l, rfl⟩
  | node k a b => exact absurd h (by show 1 + max a.ht b.ht ≠ 0; omega)
/-- What a removal makes of a tree, and of its state. -/
structure Rem (S S' : St) (t t' : T) (k : Nat) (c : Nat) : Prop where
  bits : t'.bits = Blk.del t.bits k
  bal : t'.bal
  near : t.full → t'.full ∨ ∃ n l, t' = .leaf n l ∧ l.length < 32 ∧ t.ht = 0
  ok : t.ok → t'.ok
  lo : t.ht ≤ t'.ht + 1
  hi : t'.ht ≤ t.ht
  rt : S'.rt = S.rt
  vis : S'.vis ≤ S.vis + c
  live : S'.live + t.ks.length = S.live + t'.ks.length
  T : S'.T.length = S.T.length
theorem del_append_lo {l0 l1 : List Bool} {j : Nat} (hj : j < l0.length) : Blk.del (l0 ++ l1) j = Blk.del l0 j ++ l1 := by
  unfold Blk.del
  rw [List.take_append_of_le_length (Nat.le_of_lt hj), List.drop_append_of_le_length hj, List.append_assoc]
theorem del_append_hi {l0 l1 : List Bool} {j m : Nat} (hj : j = l0.length + m) : Blk.del (l0 ++ l1) j = l0 ++ Blk.del l1 m := by
  subst hj
  unfold Blk.del
  rw [List.take_append, List.drop_append, List.take_of_length_le (Nat.le_add_right _ _), List.drop_of_length_le (by omega), Nat.add_sub_cancel_left, List.append_assoc, show l0.length + m + 1 - l0.length = m + 1 by omega]
  rfl
theorem getD_append_lo {l0 l1 : List Bool} {j : Nat} (hj : j < l0.length) : (l0 ++ l1).getD j false = l0.getD j false := by
  rw [List.getD_eq_getElem?_getD, List.getD_eq_getElem?_getD, List.getElem?_append_left hj]
theorem getD_append_hi {l0 l1 : List Bool} {j m : Nat} (hj : j = l0.length + m) : (l0 ++ l1).getD j false = l1.getD m false := by
  subst hj
  rw [List.getD_eq_getElem?_getD, List.getD_eq_getElem?_getD, List.getElem?_append_right (Nat.le_add_right _ _), Nat.add_sub_cancel_left]
end Go.Proofs.YthbbokoeiifjdaaGreatDoor
namespace Go.Proofs.YthbbokoeiifjdaaGreatDoor
open Go Go.RowKit Go.ChangeAt Tr

theorem getD_append_lo' {l0 l1 : List Bool} {j : Nat} (hj : j < l0.length) : (l0 ++ l1).getD j false = l0.getD j false := by
  rw [List.getD_eq_getElem?_getD, List.getD_eq_getElem?_getD, List.getElem?_append_left hj]
theorem getD_append_hi' {l0 l1 : List Bool} {j m : Nat} (hj : j = l0.length + m) : (l0 ++ l1).getD j false = l1.getD m false := by
  subst hj
  rw [List.getD_eq_getElem?_getD, List.getD_eq_getElem?_getD, List.getElem?_append_right (Nat.le_add_right _ _), Nat.add_sub_cancel_left]
/-- The tree's root holds the bits m, and is as it must be. -/
def Root (S : St) (m : List Bool) : Prop :=
  (m = [] ∧ S.rt.len = 0 ∧ S.rt.ones = 0 ∧ S.rt.ht = 0 ∧ S.live = 0) ∨
  ∃ a : T, Is S.sto a ∧ a.ks.Nodup ∧ a.bal ∧ a.ok ∧ a.bits = m ∧ 0 < m.length ∧ S.rt = a.lk ∧ S.live = a.ks.length
def Tre (base : Nat) (w : World) (t : Nat) (S : St) (m : List Bool) : Prop := TM base w t S ∧ Root S m
theorem Root.len {S : St} {m : List Bool} (h : Root S m) : S.rt.len = m.length := by
  rcases h with ⟨rfl, h, _⟩ | ⟨a, _, _, _, _, h1, _, h2, _⟩
  · exact h
  · rw [h2, T.lk_len, h1]
theorem Root.ones {S : St} {m : List Bool} (h : Root S m) : S.rt.ones = m.count true := by
  rcases h with ⟨rfl, _, h, _⟩ | ⟨a, _, _, _, _, h1, _, h2, _⟩
  · exact h
  · rw [h2, T.lk_ones, h1]
theorem Root.ht {S : St} {m : List Bool} (h : Root S m) : S.rt.ht ≤ m.length := by
  rcases h with ⟨rfl, _, _, h, _⟩ | ⟨a, _, _, _, h4, h1, h5, h2, _⟩
  · rw [h]; exact Nat.zero_le _
  · rw [h2, T.lk_ht]
    have := a.ht_le
    have := h4.len.1
    rw [h1] at this
    omega
theorem Tre.see {base : Nat} {w : World} {t : Nat} {S : St} {m : List Bool} (h : Tre base w t S m) : ∃ p a n c, w.heap[t]? = some (.cells (trv p a n c S.rt S.vis) 108 (0, 0)) := by
  obtain ⟨⟨g, a, c, hx⟩, _⟩ := h
  exact ⟨_, _, _, _, hx.cells⟩
theorem tlen_nil (w : World) : Calls Tryz.prog 61 #[.pointer none] w fun e w' => e = .returned (.int .i64 0) ∧ w = w' := by
  go_enter Tryz.func61, Tryz.ntmps61
  go_wp2
  go_ret
  exact ⟨rfl, rfl⟩
theorem tlen {base : Nat} {t : Nat} {S : St} {m : List Bool} (w : World) (h : Tre base w t S m) :
    Calls Tryz.prog 61 #[.pointer (some ⟨t, 0, none⟩)] w fun e w' => e = .returned (.int .i64 m.length) ∧ w = w' := by
  obtain ⟨p, a, n, c, hc⟩ := h.see
  have c3 := (cellsT hc).c3
  rw [h.2.len] at c3
  clear hc h
  go_enter Tryz.func61, Tryz.ntmps61
  go_wp2
  go_ret
  exact ⟨rfl, rfl⟩
theorem tvisits {base : Nat} {t : Nat} {S : St} {m : List Bool} (w : World) (h : Tre base w t S m) :
    Calls Tryz.prog 74 #[.pointer (some ⟨t, 0, none⟩)] w fun e w' => e = .returned (.int .i64 S.vis) ∧ w = w' := by
  obtain ⟨p, a, n, c, hc⟩ := h.see
  have c6 := (cellsT hc).c6
  clear hc h
  go_enter Tryz.func74, Tryz.ntmps74
  go_wp2
  go_ret
  exact ⟨rfl, rfl⟩
/-- The first store of a call: none was looked at. -/
theorem TM.zero {base : Nat} {w : World} {t : Nat} {S : St} (h : TM base w t S) : TM base (w.setCell ⟨t, 6, none⟩ (.int .i64 0)) t (S.see 0) ∧ Stay (· = t) w (w.setCell ⟨t, 6, none⟩ (.int .i64 0)) := by
  have hst : Stay (· = t) w (w.setCell ⟨t, 6, none⟩ (.int .i64 0)) := Stay.setCell (S := (· = t)) (Stay.refl _ _) (p := ⟨t, 6, none⟩) (.inr rfl) _
  exact ⟨h.setT S.rt 0 hst (fun p a n c e => set_of e _), hst⟩
theorem Root.see {S : St} {m : List Bool} (h : Root S m) (v : Nat) : Root (S.see v) m := h
theorem tget_nil (k : Int) (w : World) : Calls Tryz.prog 50 #[.pointer none, .int .i64 k] w fun e w' => e = .returned (.tuple #[.bool false, .int .i64 6]) ∧ w = w' := by
  go_enter Tryz.func50, Tryz.ntmps50
  go_wp2
  go_ret2
  exact ⟨rfl, rfl⟩
theorem tget_out {base t : Nat} {S : St} {m : List Bool} (k : Int) (w : World) (h : Tre base w t S m) (hk : k < 0 ∨ (m.length : Int) ≤ k) :
    Calls Tryz.prog 50 #[.pointer (some ⟨t, 0, none⟩), .int .i64 k] w fun e w' => e = .returned (.tuple #[.bool false, .int .i64 2]) ∧ TM base w' t (S.see 0) ∧ Stay (· = t) w w' := by
  obtain ⟨p, a, n, c, hc⟩ := h.see
  have c3 := (cellsT hc).c3
  rw [h.2.len] at c3
  have c6 := (cellsT hc).c6
  have f6 := (cellsT hc).fz 6
  have Z := Lib.hid h.1.zero
  clear hc h
  by_cases h0 : k < 0
  · clear hk
    go_enter Tryz.func50, Tryz.ntmps50
    go_wp2
    go_ret2
    exact ⟨rfl, Z.out⟩
  · have h1 : (m.length : Int) ≤ k := by omega
    clear hk
    go_enter Tryz.func50, Tryz.ntmps50
    go_wp2
    go_ret2
    exact ⟨rfl, Z.out⟩
/-- What the walk down the tree reads at a node. -/
theorem Tr.Is.at {s : Sto} {b : T} (h : Is s b) : ∃ n d, s b.lk.num = some (n, d) := by
  cases b with
  | leaf k l => obtain ⟨n, b, e⟩ := h; exact ⟨n, _, e⟩
  | node k x y => obtain ⟨⟨n, e⟩, _⟩ := h; exact ⟨n, _, e⟩
set_option maxHeartbeats 1600000 in
theorem tget_in {base t j : Nat} {S : St} {a : T} (w : World) (h : TM base w t S) (hi : Is S.sto a) (hrt : S.rt = a.lk) (hj : j < a.bits.length) (hlen : a.bits.length ≤ 1000000000000) (hht : a.ht ≤ 1000000000) :
    Calls Tryz.prog 50 #[.pointer (some ⟨t, 0, none⟩), .int .i64 j] w fun e w' => ∃ v, e = .returned (.tuple #[.bool (a.bits.getD j false), .int .i64 0]) ∧ TM base w' t (S.see v) ∧ Stay (· = t) w w' ∧ v ≤ a.ht + 1 := by
  obtain ⟨x, hx⟩ : ∃ x, a.bits.getD j false = x := ⟨_, rfl⟩
  rw [hx]
  have hcc : ∃ p q n c, w.heap[t]? = some (.cells (trv p q n c S.rt S.vis) 108 (0, 0)) := by
    obtain ⟨g, q, c, hh⟩ := h
    exact ⟨_, _, _, _, hh.cells⟩
  obtain ⟨p, q, n, c, hc⟩ := hcc
  rw [hrt] at hc
  have c2 := (cellsT hc).c2
  have c3 := (cellsT hc).c3
  rw [T.lk_len] at c3
  have c6 := (cellsT hc).c6
  have f6 := (cellsT hc).fz 6
  have Z := Lib.hid h.zero
  obtain ⟨nd, d, hd⟩ := hi.at
  have key := tlook _ Z.out.1 (show (S.see 0).sto a.lk.num = _ from hd) (by show 0 < _; decide)
  have hj1 : (j : Int) < a.bits.length := by omega
  have H := Lib.hid h
  have HI := Lib.hid hi
  have HD := Lib.hid hd
  have HX := Lib.hid hx
  clear hc h hi hd hx
  go_enter Tryz.func50, Tryz.ntmps50
  go_wp2_with fail
  (with_reducible refine key.mono ?_); rintro e w1 ⟨rfl, hT1, hs1⟩
  have HT1 := Lib.hid hT1
  have HS1 := Lib.hid (Z.out.2.trans hs1 (fun _ _ h => h))
  clear hT1 hs1 key c2 c3 c6 f6
  go_wp2_with fail
  go_loopg [1, 6, 7] a.ht (fun g s1 s6 _ wr => ∃ (b : T) (nb : Nat) (d : Nd) (i v : Nat), g = b.ht ∧ s1 = .int .i64 i ∧ s6 = .pointer (some ⟨nb, 0, none⟩) ∧ Is S.sto b ∧ S.sto b.lk.num = some (nb, d) ∧ i < b.bits.length ∧ b.bits.length ≤ a.bits.length ∧ b.bits.getD i false = x ∧ TM base wr t (S.see v) ∧ Stay (· = t) w wr ∧ v + b.ht ≤ a.ht + 1)
  case atStart => exact ⟨a, nd, d, j, 1, rfl, rfl, rfl, HI.out, HD.out, hj, Nat.le_refl _, HX.out, HT1.out, HS1.out, by omega⟩
  case round =>
    obtain ⟨b, nb, d', i, v, rfl, rfl, rfl, hib, hdb, hil, hbl, hxb, hT, hst, hv⟩ := hrel
    cases b with
    | leaf k l =>
      obtain ⟨n2, bb, e2⟩ := hib
      obtain ⟨A, B, _, hN, hB, _, _⟩ := hT.lf (show (S.see v).sto k = some (n2, .lf bb l) from e2)
      have en : nb = n2 := by have := hdb.symm.trans e2; injection this with this; injection this
      subst en
      have keyL := tisleaf wr hN.c0
      have n0 := hN.c0
      have keyG := bget_yes i wr hB hil
      have hxb' : l.getD i false = x := hxb
      rw [hxb'] at keyG
      have HT := Lib.hid hT
      have HST := Lib.hid hst
      clear hdb e2 hN hB hT hst hxb hxb'
      go_wp2_with fail
      (with_reducible refine keyL.mono ?_); rintro e w1' ⟨rfl, rfl⟩
      go_wp2_with fail
      (with_reducible refine keyG.mono ?_); rintro e w1' ⟨rfl, rfl⟩
      go_wp2_with fail
      go_ret2
      exact ⟨v, rfl, HT.out, HST.out, by omega⟩
    | node k y z =>
      obtain ⟨⟨n2, e2⟩, hy, hz⟩ := hib
      have hk2 : (S.see v).sto k = some (n2, .pr y.lk z.lk) := e2
      obtain ⟨n0, n1, n2', n3, n4, n5, n6, n7, n8, _⟩ := hT.pr hk2
      have en : nb = n2 := by have := hdb.symm.trans e2; injection this with this; injection this
      subst en
      have el : (T.node k y z).bits.length = y.bits.length + z.bits.length := List.length_append
      have eh : (T.node k y z).ht = 1 + max y.ht z.ht := rfl
      have keyL := tisleaf wr n0
      have HK2 := Lib.hid hk2
      have HT := Lib.hid hT
      have HST := Lib.hid hst
      rw [el] at hil hbl
      rw [eh] at hv
      have HXB := Lib.hid hxb
      have EH := Lib.hid eh
      clear hdb e2 hT hst hk2 el hxb eh
      by_cases hc : i < y.bits.length
      · have keyT := ttoward_0 (k := i) wr n2' (by rw [T.lk_len]; exact hc)
        obtain ⟨ny, dy, hdy⟩ := hy.at
        have keyK := tlook wr HT.out (show (S.see v).sto y.lk.num = _ from hdy) (by show v < _; omega)
        have HY := Lib.hid hy
        have HDY := Lib.hid hdy
        clear hy hz hdy
        go_wp2_with fail
        (with_reducible refine keyL.mono ?_); rintro e w1' ⟨rfl, rfl⟩
        go_wp2_with fail
        (with_reducible refine keyT.mono ?_); rintro e w1' ⟨rfl, rfl⟩
        go_wp2_with fail
        (with_reducible refine keyK.mono ?_); rintro e w3 ⟨rfl, hT3, hs3⟩
        go_wp2_with fail
        go_roundg y.ht
        case measure => rw [EH.out]; omega
        case rel => exact ⟨y, ny, dy, i, v + 1, rfl, rfl, rfl, HY.out, HDY.out, hc, by omega, (getD_append_lo' hc).symm.trans HXB.out, hT3, HST.out.trans hs3 (fun _ _ h => h), by omega⟩
      · obtain ⟨m, hm⟩ : ∃ m, i = y.bits.length + m := ⟨i - y.bits.length, by omega⟩
        have keyT := ttoward_1 (k := i) (m := m) wr n2' (by rw [T.lk_len]; exact hm) (by omega)
        obtain ⟨nz, dz, hdz⟩ := hz.at
        have HZ := Lib.hid hz
        have HDZ := Lib.hid hdz
        have HM := Lib.hid hm
        have hm2 : m < z.bits.length := by omega
        clear hy hz hdz hm
        go_wp2_with fail
        (with_reducible refine keyL.mono ?_); rintro e w1' ⟨rfl, rfl⟩
        go_wp2_with fail
        (with_reducible refine keyT.mono ?_); rintro e w1' ⟨rfl, u, rfl⟩
        have hT2 := HT.out.drewN u
        have n5' := (hT2.pr (show (S.see v).sto k = some (nb, .pr y.lk z.lk) from HK2.out)).c5
        have keyK := tlook _ hT2 (show (S.see v).sto z.lk.num = _ from HDZ.out) (by show v < _; omega)
        have hst2 := HST.out.drewN u
        clear n0 n1 n2' n3 n4 n5 n6 n7 n8 hT2
        generalize wr.drewN u = w2 at *
        go_wp2_with fail
        (with_reducible refine keyK.mono ?_); rintro e w3 ⟨rfl, hT3, hs3⟩
        go_wp2_with fail
        go_roundg z.ht
        case measure => rw [EH.out]; omega
        case rel => exact ⟨z, nz, dz, m, v + 1, rfl, rfl, rfl, HZ.out, HDZ.out, hm2, by omega, (getD_append_hi' HM.out).symm.trans HXB.out, hT3, hst2.trans hs3 (fun _ _ h => h), by omega⟩
end Go.Proofs.YthbbokoeiifjdaaGreatDoor
namespace Go.Proofs.YthbbokoeiifjdaaGreatDoor
open Go Go.RowKit Go.ChangeAt Tr

theorem rk_append_lo {b : Bool} {l0 l1 : List Bool} {j : Nat} (hj : j ≤ l0.length) : Blk.rk b (l0 ++ l1) j = Blk.rk b l0 j := by
  unfold Blk.rk
  rw [List.take_append_of_le_length hj]
theorem rk_append_hi {b : Bool} {l0 l1 : List Bool} {j m : Nat} (hj : j = l0.length + m) : Blk.rk b (l0 ++ l1) j = l0.count b + Blk.rk b l1 m := by
  subst hj
  unfold Blk.rk
  rw [List.take_append, List.take_of_length_le (Nat.le_add_right _ _), Nat.add_sub_cancel_left, List.count_append]
theorem pl_append_lo {b : Bool} {l1 : List Bool} : ∀ {l0 : List Bool} {j : Nat}, j < l0.count b → Blk.pl b (l0 ++ l1) j = Blk.pl b l0 j
  | [], j, h => by simp at h
  | x :: r, j, h => by
    by_cases e : x = b
    · subst e
      rw [List.count_cons_self] at h
      match j with
      | 0 => simp [Blk.pl]
      | j + 1 => simp only [List.cons_append, Blk.pl, if_true]; rw [pl_append_lo (by omega)]
    · rw [List.count_cons_of_ne e] at h
      simp only [List.cons_append, Blk.pl, if_neg e]
      rw [pl_append_lo h]
theorem pl_append_hi {b : Bool} {l1 : List Bool} {m : Nat} : ∀ {l0 : List Bool}, Blk.pl b (l0 ++ l1) (l0.count b + m) = l0.length + Blk.pl b l1 m
  | [] => by simp
  | x :: r => by
    by_cases e : x = b
    · subst e
      rw [List.count_cons_self, show r.count x + 1 + m = (r.count x + m) + 1 by omega]
      simp only [List.cons_append, Blk.pl, if_true, List.length_cons]
      rw [pl_append_hi]; omega
    · rw [List.count_cons_of_ne e]
      simp only [List.cons_append, Blk.pl, if_neg e, List.length_cons]
      rw [pl_append_hi]; omega
theorem count_both (l : List Bool) : l.count false + l.count true = l.length := by
  induction l with
  | nil => rfl
  | cons x l ih => cases x <;> simp <;> omega
theorem lk_count (a : T) (b : Bool) : (if b then a.lk.ones else a.lk.len - a.lk.ones) = a.bits.count b := by
  rw [T.lk_ones, T.lk_len]
  have := count_both a.bits
  cases b
  · show a.bits.length - a.bits.count true = _; omega
  · rfl
set_option maxHeartbeats 1600000 in
theorem tahead_in {base t j : Nat} {S : St} {a : T} (w : World) (h : TM base w t S) (hi : Is S.sto a) (hrt : S.rt = a.lk) (hpos : 0 < a.bits.length) (hj : j ≤ a.bits.length) (hlen : a.bits.length ≤ 1000000000000) (hht : a.ht ≤ 1000000000) :
    Calls Tryz.prog 85 #[.pointer (some ⟨t, 0, none⟩), .int .i64 j] w fun e w' => ∃ v, e = .returned (.int .i64 (Blk.rk true a.bits j)) ∧ TM base w' t (S.see v) ∧ Stay (· = t) w w' ∧ v ≤ a.ht + 1 := by
  obtain ⟨x, hx⟩ : ∃ x, Blk.rk true a.bits j = x := ⟨_, rfl⟩
  rw [hx]
  have hcc : ∃ p q n c, w.heap[t]? = some (.cells (trv p q n c S.rt S.vis) 108 (0, 0)) := by
    obtain ⟨g, q, c, hh⟩ := h
    exact ⟨_, _, _, _, hh.cells⟩
  obtain ⟨p, q, n, c, hc⟩ := hcc
  rw [hrt] at hc
  have c2 := (cellsT hc).c2
  have c3 := (cellsT hc).c3
  rw [T.lk_len] at c3
  have c6 := (cellsT hc).c6
  have f6 := (cellsT hc).fz 6
  have Z := Lib.hid h.zero
  obtain ⟨nd, d, hd⟩ := hi.at
  have key := tlook _ Z.out.1 (show (S.see 0).sto a.lk.num = _ from hd) (by show 0 < _; decide)
  have hj0 : ((a.bits.length : Int) == 0) = false := by simp; intro e; rw [e] at hpos; simp at hpos
  have hj1 : ¬ (a.bits.length : Int) = 0 := by omega
  have H := Lib.hid h
  have HI := Lib.hid hi
  have HD := Lib.hid hd
  have HX := Lib.hid hx
  clear hc h hi hd hx
  go_enter Tryz.func85, Tryz.ntmps85
  go_wp2_with fail
  (with_reducible refine key.mono ?_); rintro e w1 ⟨rfl, hT1, hs1⟩
  have HT1 := Lib.hid hT1
  have HS1 := Lib.hid (Z.out.2.trans hs1 (fun _ _ h => h))
  clear hT1 hs1 key c2 c3 c6 f6
  go_wp2_with fail
  go_loopg [1, 5, 6, 7] a.ht (fun g s1 s5 s6 _ wr => ∃ (b : T) (nb : Nat) (d : Nd) (i v o : Nat), g = b.ht ∧ s1 = .int .i64 i ∧ s5 = .int .i64 o ∧ s6 = .pointer (some ⟨nb, 0, none⟩) ∧ Is S.sto b ∧ S.sto b.lk.num = some (nb, d) ∧ i ≤ b.bits.length ∧ b.bits.length + o ≤ a.bits.length ∧ o + Blk.rk true b.bits i = x ∧ TM base wr t (S.see v) ∧ Stay (· = t) w wr ∧ v + b.ht ≤ a.ht + 1)
  case atStart => exact ⟨a, nd, d, j, 1, 0, rfl, rfl, rfl, rfl, HI.out, HD.out, hj, Nat.le_refl _, (Nat.zero_add _).trans HX.out, HT1.out, HS1.out, by omega⟩
  case round =>
    obtain ⟨b, nb, d', i, v, o, rfl, rfl, rfl, rfl, hib, hdb, hil, hbl, hxb, hT, hst, hv⟩ := hrel
    cases b with
    | leaf k l =>
      obtain ⟨n2, bb, e2⟩ := hib
      obtain ⟨A, B, _, hN, hB, _, _⟩ := hT.lf (show (S.see v).sto k = some (n2, .lf bb l) from e2)
      have en : nb = n2 := by have := hdb.symm.trans e2; injection this with this; injection this
      subst en
      have keyL := tisleaf wr hN.c0
      have n0 := hN.c0
      have keyG := brank_any (i : Int) wr hB
      rw [Int.toNat_natCast] at keyG
      obtain ⟨r, hr⟩ : ∃ r, Blk.rk true l i = r := ⟨_, rfl⟩
      rw [hr] at keyG
      have hxb' : o + r = x := by rw [← hr]; exact hxb
      have hxi : (o : Int) + r = x := by omega
      have hro : (x : Int) ≤ 2000000000000 := by
        have h1 : r ≤ i := by rw [← hr]; exact Blk.rk_le _ _ _
        have h2 : (T.leaf k l).bits.length = l.length := rfl
        omega
      have hro2 : (o : Int) ≤ 1000000000000 := by omega
      have HT := Lib.hid hT
      have HST := Lib.hid hst
      have HXI := Lib.hid hxi
      clear hdb e2 hN hB hT hst hxb hxb' hr hxi
      go_wp2_with fail
      (with_reducible refine keyL.mono ?_); rintro e w1' ⟨rfl, rfl⟩
      go_wp2_with fail
      (with_reducible refine keyG.mono ?_); rintro e w1' ⟨rfl, rfl⟩
      have hri : (r : Int) ≤ 2000000000000 := by have := HXI.out; omega
      go_wp2_with fail
      go_ret
      exact ⟨v, ret_int HXI.out, HT.out, HST.out, by omega⟩
    | node k y z =>
      obtain ⟨⟨n2, e2⟩, hy, hz⟩ := hib
      have hk2 : (S.see v).sto k = some (n2, .pr y.lk z.lk) := e2
      obtain ⟨n0, n1, n2', n3, n4, n5, n6, n7, n8, _⟩ := hT.pr hk2
      have en : nb = n2 := by have := hdb.symm.trans e2; injection this with this; injection this
      subst en
      have el : (T.node k y z).bits.length = y.bits.length + z.bits.length := List.length_append
      have eh : (T.node k y z).ht = 1 + max y.ht z.ht := rfl
      have keyL := tisleaf wr n0
      have HK2 := Lib.hid hk2
      have HT := Lib.hid hT
      have HST := Lib.hid hst
      rw [el] at hil hbl
      rw [eh] at hv
      have HXB := Lib.hid hxb
      have EH := Lib.hid eh
      clear hdb e2 hT hst hk2 el hxb eh
      by_cases hc : i < y.bits.length
      · have keyT := ttoward_0 (k := i) wr n2' (by rw [T.lk_len]; exact hc)
        obtain ⟨ny, dy, hdy⟩ := hy.at
        have keyK := tlook wr HT.out (show (S.see v).sto y.lk.num = _ from hdy) (by show v < _; omega)
        have HY := Lib.hid hy
        have HDY := Lib.hid hdy
        clear hy hz hdy
        go_wp2_with fail
        (with_reducible refine keyL.mono ?_); rintro e w1' ⟨rfl, rfl⟩
        go_wp2_with fail
        (with_reducible refine keyT.mono ?_); rintro e w1' ⟨rfl, rfl⟩
        go_wp2_with fail
        (with_reducible refine keyK.mono ?_); rintro e w3 ⟨rfl, hT3, hs3⟩
        go_wp2_with fail
        go_roundg y.ht
        case measure => rw [EH.out]; omega
        case rel => exact ⟨y, ny, dy, i, v + 1, o, rfl, rfl, rfl, rfl, HY.out, HDY.out, Nat.le_of_lt hc, by omega, by rw [← HXB.out]; show _ = o + Blk.rk true (y.bits ++ z.bits) i; rw [rk_append_lo (Nat.le_of_lt hc)], hT3, HST.out.trans hs3 (fun _ _ h => h), by omega⟩
      · obtain ⟨m, hm⟩ : ∃ m, i = y.bits.length + m := ⟨i - y.bits.length, by omega⟩
        have keyT := ttoward_1 (k := i) (m := m) wr n2' (by rw [T.lk_len]; exact hm) (by omega)
        obtain ⟨nz, dz, hdz⟩ := hz.at
        have HZ := Lib.hid hz
        have HDZ := Lib.hid hdz
        have HM := Lib.hid hm
        have hm2 : m ≤ z.bits.length := by omega
        have hcy := List.count_le_length (a := true) (l := y.bits)
        clear hy hz hdz hm
        go_wp2_with fail
        (with_reducible refine keyL.mono ?_); rintro e w1' ⟨rfl, rfl⟩
        go_wp2_with fail
        (with_reducible refine keyT.mono ?_); rintro e w1' ⟨rfl, u, rfl⟩
        have hT2 := HT.out.drewN u
        have N2 := hT2.pr (show (S.see v).sto k = some (nb, .pr y.lk z.lk) from HK2.out)
        have n5' := N2.c5
        have n3' := N2.c3
        rw [T.lk_ones] at n3'
        obtain ⟨q, hq⟩ : ∃ q, y.bits.count true = q := ⟨_, rfl⟩
        rw [hq] at n3' hcy
        have hoq : (o : Int) + q ≤ 1000000000000 := by omega
        have keyK := tlook _ hT2 (show (S.see v).sto z.lk.num = _ from HDZ.out) (by show v < _; omega)
        have hst2 := HST.out.drewN u
        have HQ := Lib.hid hq
        clear n0 n1 n2' n3 n4 n5 n6 n7 n8 hT2 N2 hq
        generalize wr.drewN u = w2 at *
        go_wp2_with fail
        (with_reducible refine keyK.mono ?_); rintro e w3 ⟨rfl, hT3, hs3⟩
        go_wp2_with fail
        go_roundg z.ht
        case measure => rw [EH.out]; omega
        case rel => exact ⟨z, nz, dz, m, v + 1, o + q, rfl, rfl, by go_num, rfl, HZ.out, HDZ.out, hm2, by omega, by rw [← HXB.out]; show _ = o + Blk.rk true (y.bits ++ z.bits) i; rw [rk_append_hi HM.out, HQ.out, Nat.add_assoc], hT3, hst2.trans hs3 (fun _ _ h => h), by omega⟩
theorem tahead_none {base t : Nat} {S : St} (k : Int) (w : World) (h : TM base w t S) (hrt : S.rt.len = 0) :
    Calls Tryz.prog 85 #[.pointer (some ⟨t, 0, none⟩), .int .i64 k] w fun e w' => ∃ v, e = .returned (.int .i64 0) ∧ TM base w' t (S.see v) ∧ Stay (· = t) w w' ∧ v ≤ 0 + 1 := by
  have hcc : ∃ p q n c, w.heap[t]? = some (.cells (trv p q n c S.rt S.vis) 108 (0, 0)) := by
    obtain ⟨g, q, c, hh⟩ := h
    exact ⟨_, _, _, _, hh.cells⟩
  obtain ⟨p, q, n, c, hc⟩ := hcc
  have c3 := (cellsT hc).c3
  rw [hrt] at c3
  have c6 := (cellsT hc).c6
  have f6 := (cellsT hc).fz 6
  have Z := Lib.hid h.zero
  clear hc h hrt
  go_enter Tryz.func85, Tryz.ntmps85
  go_wp2_with fail
  go_ret
  exact ⟨0, rfl, Z.out.1, Z.out.2, Nat.zero_le _⟩
theorem tahead {base t j : Nat} {S : St} {m : List Bool} (w : World) (h : Tre base w t S m) (hj : j ≤ m.length) (hlen : m.length ≤ 1000000000) :
    Calls Tryz.prog 85 #[.pointer (some ⟨t, 0, none⟩), .int .i64 j] w fun e w' => ∃ v, e = .returned (.int .i64 (Blk.rk true m j)) ∧ TM base w' t (S.see v) ∧ Stay (· = t) w w' ∧ v ≤ S.rt.ht + 1 := by
  have hh := h.2.ht
  rcases h.2 with ⟨rfl, h1, _, h3, _⟩ | ⟨a, h1, h2, h3, h4, rfl, h6, h7, _⟩
  · rw [h3]
    have : Blk.rk true ([] : List Bool) j = 0 := by unfold Blk.rk; simp
    rw [this]
    exact tahead_none j w h.1 h1
  · rw [h7, T.lk_ht] at hh ⊢
    exact tahead_in w h.1 h1 h7 h6 hj (by omega) (by omega)
/-- The place that Rank takes: between 0 and the length. -/
def place (n : Nat) (k : Int) : Nat := min k.toNat n
theorem trank_nil (k : Int) (b : Bool) (w : World) : Calls Tryz.prog 75 #[.pointer none, .int .i64 k, .bool b] w fun e w' => e = .returned (.int .i64 0) ∧ w = w' := by
  go_enter Tryz.func75, Tryz.ntmps75
  go_wp2
  go_ret
  exact ⟨rfl, rfl⟩
set_option maxHeartbeats 800000 in
theorem trank {base t : Nat} {S : St} {m : List Bool} (k : Int) (b : Bool) (w : World) (h : Tre base w t S m) (hlen : m.length ≤ 1000000000) :
    Calls Tryz.prog 75 #[.pointer (some ⟨t, 0, none⟩), .int .i64 k, .bool b] w fun e w' => ∃ v, e = .returned (.int .i64 (Blk.rk b m (place m.length k))) ∧ TM base w' t (S.see v) ∧ Stay (· = t) w w' ∧ v ≤ S.rt.ht + 1 := by
  obtain ⟨i, hi⟩ : ∃ i, place m.length k = i := ⟨_, rfl⟩
  have hil : i ≤ m.length := by rw [← hi]; exact Nat.min_le_right _ _
  rw [hi]
  have key := tahead (j := i) w h hil hlen
  obtain ⟨p, q, n, c, hc⟩ := h.see
  have c3 := (cellsT hc).c3
  rw [h.2.len] at c3
  obtain ⟨r, hr⟩ : ∃ r, Blk.rk true m i = r := ⟨_, rfl⟩
  have hri : r ≤ i := by rw [← hr]; exact Blk.rk_le _ _ _
  have hrf : Blk.rk false m i = i - r := by
    rw [← hr]
    unfold Blk.rk
    have := count_both (m.take i)
    rw [List.length_take] at this
    omega
  rw [hr] at key
  have HR := Lib.hid hr
  have HRF := Lib.hid hrf
  clear hr hrf hc h
  unfold place at hi
  have hri2 : (r : Int) ≤ i := by omega
  have hi3 : (i : Int) ≤ 1000000000 := by omega
  rcases Int.lt_or_le k 1 with h0 | h0
  · obtain rfl : i = 0 := by omega
    have hr0 : r = 0 := by omega
    subst hr0
    have key : Calls Tryz.prog 85 #[.pointer (some ⟨t, 0, none⟩), .int .i64 0] w _ := key
    have hor : k = 0 ∨ k < 0 := by omega
    clear hi hri hri2 hi3 hil h0
    rcases hor with rfl | hk0
    · cases b
      all_goals
        go_enter Tryz.func75, Tryz.ntmps75
        go_wp2_with (first | (go_at_call 85; refine key.mono ?_; rintro e w1 ⟨v, rfl, hT, hs, hv⟩))
        all_goals
          go_ret
          exact ⟨v, ret_int (by first | rw [HR.out]; rfl | (rw [HRF.out]; rfl)), hT, hs, hv⟩
    · cases b
      all_goals
        go_enter Tryz.func75, Tryz.ntmps75
        go_wp2_with (first | (go_at_call 85; refine key.mono ?_; rintro e w1 ⟨v, rfl, hT, hs, hv⟩))
        all_goals
          go_ret
          exact ⟨v, ret_int (by first | rw [HR.out]; rfl | (rw [HRF.out]; rfl)), hT, hs, hv⟩
  · by_cases h1 : k ≤ m.length
    · obtain rfl : k = i := by omega
      have hk0 : ¬ (i : Int) < 0 := by omega
      have hk1 : (0 : Int) < i := by omega
      clear hi
      cases b
      all_goals
        go_enter Tryz.func75, Tryz.ntmps75
        go_wp2_with (first | (go_at_call 85; (with_reducible refine key.mono ?_); rintro e w1 ⟨v, rfl, hT, hs, hv⟩))
        all_goals
          go_ret
          exact ⟨v, ret_int (by first | rw [HR.out] | (rw [HRF.out]; omega)), hT, hs, hv⟩
    · obtain rfl : i = m.length := by omega
      have hk0 : ¬ k < 0 := by omega
      have hk1 : (0 : Int) < k := by omega
      have hk2 : (m.length : Int) < k := by omega
      clear hi
      cases b
      all_goals
        go_enter Tryz.func75, Tryz.ntmps75
        go_wp2_with (first | (go_at_call 85; (with_reducible refine key.mono ?_); rintro e w1 ⟨v, rfl, hT, hs, hv⟩))
        all_goals
          go_ret
          exact ⟨v, ret_int (by first | rw [HR.out] | (rw [HRF.out]; omega)), hT, hs, hv⟩
end Go.Proofs.YthbbokoeiifjdaaGreatDoor
namespace Go.Proofs.YthbbokoeiifjdaaGreatDoor
open Go Go.RowKit Go.ChangeAt Tr

theorem TabAt.stay {S : Nat → Prop} {w w' : World} (h : TabAt w) (hb : Stay S w w') (hs : ¬ S 0) : TabAt w' :=
  fun j hj => (hb.cell (p := ⟨0, j, none⟩) (block_lt_of_cell (h j hj)) hs).trans (h j hj)
theorem cellsT' {base t v : Nat} {w : World} {S : St} {A : Lk} (h : TM base w t (S.see v)) (hrt : S.rt = A) : ∃ p q n c, CellsT w t p q n c A v := by
  obtain ⟨g, q, c, hh⟩ := h
  exact ⟨_, _, _, _, hrt ▸ cellsT hh.cells⟩
theorem TM.c2 {base t v : Nat} {w : World} {S : St} {A : Lk} (h : TM base w t (S.see v)) (hrt : S.rt = A) : w.cell? ⟨t, 2, none⟩ = some (.int .i64 A.num) := by
  obtain ⟨p, q, n, c, hh⟩ := cellsT' h hrt
  exact hh.c2
theorem tselect_nil (j : Int) (b : Bool) (w : World) : Calls Tryz.prog 76 #[.pointer none, .int .i64 j, .bool b] w fun e w' => e = .returned (.int .i64 (-1)) ∧ w = w' := by
  go_enter Tryz.func76, Tryz.ntmps76
  go_wp2
  go_ret
  exact ⟨rfl, rfl⟩
theorem tselect_neg {base t : Nat} {S : St} (j : Int) (b : Bool) (w : World) (h : TM base w t S) (hj : j < 0) :
    Calls Tryz.prog 76 #[.pointer (some ⟨t, 0, none⟩), .int .i64 j, .bool b] w fun e w' => e = .returned (.int .i64 (-1)) ∧ TM base w' t (S.see 0) ∧ Stay (· = t) w w' := by
  have hcc : ∃ p q n c, w.heap[t]? = some (.cells (trv p q n c S.rt S.vis) 108 (0, 0)) := by
    obtain ⟨g, q, c, hh⟩ := h
    exact ⟨_, _, _, _, hh.cells⟩
  obtain ⟨p, q, n, c, hc⟩ := hcc
  have c6 := (cellsT hc).c6
  have f6 := (cellsT hc).fz 6
  have Z := Lib.hid h.zero
  clear hc h
  go_enter Tryz.func76, Tryz.ntmps76
  go_wp2_with fail
  go_ret
  exact ⟨rfl, Z.out⟩
set_option maxHeartbeats 800000 in
theorem tselect_over {base t j : Nat} {S : St} (b : Bool) (w : World) (h : TM base w t S) (h1 : S.rt.ones ≤ S.rt.len) (h2 : S.rt.len < 4611686018427387904) (hj : (if b then S.rt.ones else S.rt.len - S.rt.ones) ≤ j) :
    Calls Tryz.prog 76 #[.pointer (some ⟨t, 0, none⟩), .int .i64 j, .bool b] w fun e w' => e = .returned (.int .i64 (-1)) ∧ TM base w' t (S.see 0) ∧ Stay (· = t) w w' := by
  have hcc : ∃ p q n c, w.heap[t]? = some (.cells (trv p q n c S.rt S.vis) 108 (0, 0)) := by
    obtain ⟨g, q, c, hh⟩ := h
    exact ⟨_, _, _, _, hh.cells⟩
  obtain ⟨p, q, n, c, hc⟩ := hcc
  obtain ⟨c0, c1, c2, c3, c4, c5, c6, fz⟩ := cellsT hc
  have f6 := fz 6
  have Z := Lib.hid h.zero
  have key := tcount S.rt b (w.setCell ⟨t, 6, none⟩ (.int .i64 0)) h1 h2
  obtain ⟨n2, hn2⟩ : ∃ n2, (if b then S.rt.ones else S.rt.len - S.rt.ones) = n2 := ⟨_, rfl⟩
  rw [hn2] at key hj
  have hj' : (n2 : Int) ≤ j := by omega
  have hj0 : ¬ (j : Int) < 0 := by omega
  unfold lkv at key
  clear hc h fz hn2 c0 c1 h1 h2
  go_enter Tryz.func76, Tryz.ntmps76
  go_wp2_with (first | (go_at_call 86; (with_reducible refine key.mono ?_); rintro e w1 ⟨rfl, hb1⟩))
  go_ret
  exact ⟨rfl, Z.out.1.below hb1, Z.out.2.trans (Stay.of_below (S := fun _ => False) hb1) (fun _ _ h => h.elim)⟩
set_option maxHeartbeats 3200000 in
theorem tselect_in {base t j : Nat} {S : St} {a : T} (b : Bool) (w : World) (h : TM base w t S) (hi : Is S.sto a) (hrt : S.rt = a.lk) (hj : j < a.bits.count b) (hlen : a.bits.length ≤ 1000000000000) (hht : a.ht ≤ 1000000000) (hTab : TabAt w) (hbase : 0 < base) :
    Calls Tryz.prog 76 #[.pointer (some ⟨t, 0, none⟩), .int .i64 j, .bool b] w fun e w' => ∃ v, e = .returned (.int .i64 (Blk.pl b a.bits j)) ∧ TM base w' t (S.see v) ∧ Stay (· = t) w w' ∧ v ≤ a.ht + 1 := by
  obtain ⟨x, hx⟩ : ∃ x, Blk.pl b a.bits j = x := ⟨_, rfl⟩
  have hxl : x < a.bits.length := by rw [← hx]; exact (Blk.pl_spec b a.bits j hj).1
  rw [hx]
  have hcc : ∃ p q n c, w.heap[t]? = some (.cells (trv p q n c S.rt S.vis) 108 (0, 0)) := by
    obtain ⟨g, q, c, hh⟩ := h
    exact ⟨_, _, _, _, hh.cells⟩
  obtain ⟨p, q, n, c, hc⟩ := hcc
  rw [hrt] at hc
  obtain ⟨c0, c1, c2, c3, c4, c5, c6, fz⟩ := cellsT hc
  have f6 := fz 6
  have hlt := h.lt
  have htg : ¬ (· = t) 0 := fun e => by have e' : 0 = t := e; omega
  have Z := Lib.hid h.zero
  have key0 := tcount a.lk b (w.setCell ⟨t, 6, none⟩ (.int .i64 0)) T.full.ones (by rw [T.lk_len]; omega)
  rw [lk_count] at key0
  obtain ⟨nd, d, hd⟩ := hi.at
  obtain ⟨n2, hn2⟩ : ∃ n2, a.bits.count b = n2 := ⟨_, rfl⟩
  rw [hn2] at key0 hj
  have hj' : (j : Int) < n2 := by omega
  have hj0 : ¬ (j : Int) < 0 := by omega
  unfold lkv at key0
  have H := Lib.hid h
  have HI := Lib.hid hi
  have HD := Lib.hid hd
  have HX := Lib.hid hx
  have HN2 := Lib.hid hn2
  have HTAB := Lib.hid hTab
  have HTG := Lib.hid htg
  clear hc h hi hd hx hn2 hTab htg fz c0 c1
  go_enter Tryz.func76, Tryz.ntmps76
  go_wp2_with (first | (go_at_call 86; (with_reducible refine key0.mono ?_); rintro e w0 ⟨rfl, hb0⟩; (have HT0 := Lib.hid (Z.out.1.below hb0)); (have HS0 := Lib.hid (Z.out.2.trans (Stay.of_below (S := fun _ => False) hb0) (fun _ _ h => h.elim))); (have c2' := HT0.out.c2 hrt); clear hb0))
  have key := tlook _ HT0.out (show (S.see 0).sto a.lk.num = _ from HD.out) (by show 0 < _; decide)
  (with_reducible refine key.mono ?_); rintro e w1 ⟨rfl, hT1, hs1⟩
  have HT1 := Lib.hid hT1
  have HS1 := Lib.hid (HS0.out.trans hs1 (fun _ _ h => h))
  clear hT1 hs1 key c2 c3 c4 c5 c6 f6 c2'
  go_wp2_with fail
  go_loopg [1, 7, 8, 9, 10] a.ht (fun g s1 s7 s8 _ _ wr => ∃ (bb : T) (nb : Nat) (d : Nd) (i v o : Nat), g = bb.ht ∧ s1 = .int .i64 i ∧ s7 = .int .i64 o ∧ s8 = .pointer (some ⟨nb, 0, none⟩) ∧ Is S.sto bb ∧ S.sto bb.lk.num = some (nb, d) ∧ i < bb.bits.count b ∧ bb.bits.length + o ≤ a.bits.length ∧ o + Blk.pl b bb.bits i = x ∧ TM base wr t (S.see v) ∧ Stay (· = t) w wr ∧ v + bb.ht ≤ a.ht + 1)
  case atStart => exact ⟨a, nd, d, j, 1, 0, rfl, rfl, rfl, rfl, HI.out, HD.out, by rw [HN2.out]; exact hj, Nat.le_refl _, (Nat.zero_add _).trans HX.out, HT1.out, HS1.out, by omega⟩
  case round =>
    obtain ⟨bt, nb, d', i, v, o, rfl, rfl, rfl, rfl, hib, hdb, hil, hbl, hxb, hT, hst, hv⟩ := hrel
    cases bt with
    | leaf k l =>
      obtain ⟨n3, bb, e2⟩ := hib
      obtain ⟨A, B, _, hN, hB, _, _⟩ := hT.lf (show (S.see v).sto k = some (n3, .lf bb l) from e2)
      have en : nb = n3 := by have := hdb.symm.trans e2; injection this with this; injection this
      subst en
      have keyL := tisleaf wr hN.c0
      have n0 := hN.c0
      have hil' : i < l.count b := hil
      have hc := List.count_le_length (a := b) (l := l)
      have hlb : l.length ≤ 128 := hB.1
      have hsl : Blk.sl b l (i : Int) = (Blk.pl b l i : Int) := by unfold Blk.sl; rw [if_pos (by omega), Int.toNat_natCast]
      have keyG := bsel_any (i : Int) b wr hB (HTAB.out.stay hst HTG.out) (by have := hst.size; omega) (by omega)
      obtain ⟨r, hr⟩ : ∃ r, Blk.pl b l i = r := ⟨_, rfl⟩
      rw [hsl, hr] at keyG
      have hxb' : o + r = x := by rw [← hr]; exact hxb
      have hxi : (o : Int) + r = x := by omega
      have hro : (x : Int) ≤ 1000000000000 := by omega
      have hro2 : (o : Int) ≤ 1000000000000 := by omega
      have hro3 : (r : Int) ≤ 1000000000000 := by omega
      have HT := Lib.hid hT
      have HST := Lib.hid hst
      have HXI := Lib.hid hxi
      clear hdb e2 hN hB hT hst hxb hxb' hr hxi hsl hil hil' hc
      go_wp2_with fail
      (with_reducible refine keyL.mono ?_); rintro e w1' ⟨rfl, rfl⟩
      go_wp2_with fail
      (with_reducible refine keyG.mono ?_); rintro e w5 ⟨rfl, hb5⟩
      go_wp2_with fail
      go_ret
      exact ⟨v, ret_int HXI.out, HT.out.below hb5, HST.out.trans (Stay.of_below (S := fun _ => False) hb5) (fun _ _ h => h.elim), by omega⟩
    | node k y z =>
      obtain ⟨⟨n3, e2⟩, hy, hz⟩ := hib
      have hk2 : (S.see v).sto k = some (n3, .pr y.lk z.lk) := e2
      obtain ⟨n0, n1, n2', n3', n4, n5, n6, n7, n8, _⟩ := hT.pr hk2
      have en : nb = n3 := by have := hdb.symm.trans e2; injection this with this; injection this
      subst en
      have el : (T.node k y z).bits.length = y.bits.length + z.bits.length := List.length_append
      have eh : (T.node k y z).ht = 1 + max y.ht z.ht := rfl
      have ec : (T.node k y z).bits.count b = y.bits.count b + z.bits.count b := List.count_append
      have keyL := tisleaf wr n0
      have keyC := tcount y.lk b wr T.full.ones (by rw [T.lk_len]; omega)
      rw [lk_count] at keyC
      obtain ⟨cy, hcy⟩ : ∃ cy, y.bits.count b = cy := ⟨_, rfl⟩
      rw [hcy] at keyC ec
      unfold lkv at keyC
      have hcyl : cy ≤ y.bits.length := by rw [← hcy]; exact List.count_le_length
      have HK2 := Lib.hid hk2
      have HT := Lib.hid hT
      have HST := Lib.hid hst
      rw [el] at hbl
      rw [ec] at hil
      rw [eh] at hv
      have HXB := Lib.hid hxb
      have EH := Lib.hid eh
      have HCY := Lib.hid hcy
      clear hdb e2 hT hst hk2 el hxb eh ec hcy
      go_wp2_with fail
      (with_reducible refine keyL.mono ?_); rintro e w1' ⟨rfl, rfl⟩
      go_wp2_with fail
      (with_reducible refine keyC.mono ?_); rintro e w2 ⟨rfl, hb2⟩
      have hT2 := HT.out.below hb2
      have hst2 := HST.out.trans (Stay.of_below (S := fun _ => False) hb2) (fun _ _ h => h.elim)
      have N2 := hT2.pr (show (S.see v).sto k = some (nb, .pr y.lk z.lk) from HK2.out)
      have m1 := N2.c1
      have m2 := N2.c2
      have m5 := N2.c5
      have HT2 := Lib.hid hT2
      have HST2 := Lib.hid hst2
      rw [T.lk_len] at m2
      clear hT2 hst2 N2 n0 n1 n2' n3' n4 n5 n6 n7 n8 keyL keyC hb2
      by_cases hc : i < cy
      · have hci : ¬ (cy : Int) ≤ i := by omega
        obtain ⟨ny, dy, hdy⟩ := hy.at
        have keyK := tlook w2 HT2.out (show (S.see v).sto y.lk.num = _ from hdy) (by show v < _; omega)
        have HY := Lib.hid hy
        have HDY := Lib.hid hdy
        clear hy hz hdy
        go_wp2_with fail
        (with_reducible refine keyK.mono ?_); rintro e w3 ⟨rfl, hT3, hs3⟩
        go_wp2_with fail
        go_roundg y.ht
        case measure => rw [EH.out]; omega
        case rel => exact ⟨y, ny, dy, i, v + 1, o, rfl, rfl, rfl, rfl, HY.out, HDY.out, by rw [HCY.out]; exact hc, by omega, by rw [← HXB.out]; show _ = o + Blk.pl b (y.bits ++ z.bits) i; rw [pl_append_lo (by rw [HCY.out]; exact hc)], hT3, HST2.out.trans hs3 (fun _ _ h => h), by omega⟩
      · have hci : (cy : Int) ≤ i := by omega
        obtain ⟨m, hm⟩ : ∃ m, i = cy + m := ⟨i - cy, by omega⟩
        have hmi : (i : Int) - cy = m := by omega
        have hib2 : (i : Int) ≤ 1000000000000 := by have := List.count_le_length (a := b) (l := z.bits); omega
        have hmb : (m : Int) ≤ 1000000000000 := by omega
        obtain ⟨nz, dz, hdz⟩ := hz.at
        have HZ := Lib.hid hz
        have HDZ := Lib.hid hdz
        have HM := Lib.hid hm
        have hm2 : m < z.bits.count b := by omega
        have HM2 := Lib.hid hm2
        obtain ⟨ly, hly⟩ : ∃ ly, y.bits.length = ly := ⟨_, rfl⟩
        rw [hly] at m2 hbl hcyl
        have HLY := Lib.hid hly
        have hoq : (o : Int) + ly ≤ 1000000000000 := by omega
        have keyK := tlook w2 HT2.out (show (S.see v).sto z.lk.num = _ from HDZ.out) (by show v < _; omega)
        have hv2 : v + 1 + z.ht ≤ a.ht + 1 := by omega
        have hb2' : z.bits.length + (o + ly) ≤ a.bits.length := by omega
        have HV2 := Lib.hid hv2
        have HB2' := Lib.hid hb2'
        clear hy hz hdz hm hly hil hm2 hv2 hb2' hbl hv hcyl
        go_wp2_with fail
        (with_reducible refine keyK.mono ?_); rintro e w3 ⟨rfl, hT3, hs3⟩
        go_wp2_with fail
        go_roundg z.ht
        case measure => rw [EH.out]; omega
        case rel => exact ⟨z, nz, dz, m, v + 1, o + ly, rfl, rfl, by go_num, rfl, HZ.out, HDZ.out, HM2.out, HB2'.out, by rw [← HXB.out]; show _ = o + Blk.pl b (y.bits ++ z.bits) i; rw [HM.out, ← HCY.out, pl_append_hi, HLY.out, Nat.add_assoc], hT3, HST2.out.trans hs3 (fun _ _ h => h), HV2.out⟩
theorem tselect {base t : Nat} {S : St} {m : List Bool} (j : Int) (b : Bool) (w : World) (h : Tre base w t S m) (hlen : m.length ≤ 1000000000) (hTab : TabAt w) (hbase : 0 < base) :
    Calls Tryz.prog 76 #[.pointer (some ⟨t, 0, none⟩), .int .i64 j, .bool b] w fun e w' => ∃ v, e = .returned (.int .i64 (Blk.sl b m j)) ∧ TM base w' t (S.see v) ∧ Stay (· = t) w w' ∧ v ≤ S.rt.ht + 1 := by
  by_cases h0 : j < 0
  · rw [Blk.sl_none (.inl h0)]
    exact (tselect_neg j b w h.1 h0).mono fun _ _ ⟨h1, h2, h3⟩ => ⟨0, h1, h2, h3, Nat.zero_le _⟩
  · obtain ⟨n, rfl⟩ := Int.eq_ofNat_of_zero_le (show 0 ≤ j by omega)
    have hc : (if b then S.rt.ones else S.rt.len - S.rt.ones) = m.count b := by
      rw [h.2.ones, h.2.len]
      have := count_both m
      cases b
      · show m.length - m.count true = _; omega
      · rfl
    by_cases h1 : m.count b ≤ n
    · rw [Blk.sl_none (.inr (by omega))]
      exact (tselect_over b w h.1 (by rw [h.2.ones, h.2.len]; exact List.count_le_length) (by rw [h.2.len]; omega) (by rw [hc]; exact h1)).mono fun _ _ ⟨h1, h2, h3⟩ => ⟨0, h1, h2, h3, Nat.zero_le _⟩
    · have hsl : Blk.sl b m (n : Int) = (Blk.pl b m n : Int) := by unfold Blk.sl; rw [if_pos (by omega), Int.toNat_natCast]
      rw [hsl]
      have hh := h.2.ht
      rcases h.2 with ⟨rfl, _⟩ | ⟨a, q1, q2, q3, q4, rfl, q6, q7, _⟩
      · simp at h1
      · rw [q7, T.lk_ht] at hh ⊢
        exact tselect_in b w h.1 q1 q7 (by omega) (by omega) (by omega) hTab hbase
end Go.Proofs.YthbbokoeiifjdaaGreatDoor
namespace Go.Proofs.YthbbokoeiifjdaaGreatDoor
open Go Go.RowKit Go.ChangeAt Tr

theorem RdB.stays {w w' : World} {v : Value} {l : List Bool} {Z : Nat → Prop} (h : RdB w v l) (hb : Stay Z w w') (hz : ∀ b, v.ownBlock = some b → ¬ Z b) : RdB w' v l := by
  rcases h with h | ⟨b, off, cap, hv, h0, h1, h2, h3⟩
  · exact .inl h
  · exact .inr ⟨b, off, cap, hv, Nat.lt_of_lt_of_le h0 hb.size, h1, h2, fun i hi => (hb.cell (p := ⟨b, off + i, none⟩) h0 (hz b (by rw [hv]; rfl))).trans (h3 i hi)⟩
/-- A tree was laid into a store beside what was there. -/
structure Built (S S' : St) (a : T) : Prop where
  is : Is S'.sto a
  nd : a.ks.Nodup
  new : ∀ k ∈ a.ks, S.sto k = none
  old : ∀ k, S.sto k ≠ none → S'.sto k = S.sto k
  rt : S'.rt = S.rt
  vis : S'.vis = S.vis
  live : S'.live = S.live + a.ks.length
  made : S'.T.length = max S.T.length S'.live
/-- What build makes of a list. -/
structure Even (l : List Bool) (a : T) : Prop where
  bits : a.bits = l
  bal : a.bal
  ok : a.ok
  full : 64 ≤ l.length → a.full
  lvs : a.lvs ≤ l.length
  hi : l.length ≤ 128 * 2 ^ a.ht
  lo : 0 < a.ht → 128 * 2 ^ (a.ht - 1) < l.length
theorem Even.node {l : List Bool} {a b : T} {h k : Nat} (hl : 128 < l.length) (hh : h = l.length / 2) (ha : Even (l.take h) a) (hb : Even (l.drop h) b) : Even l (.node k a b) := by
  have e1 : (l.take h).length = h := by rw [List.length_take]; omega
  have e2 : (l.drop h).length = l.length - h := List.length_drop
  have a1 := ha.hi
  have a2 := ha.lo
  have b1 := hb.hi
  have b2 := hb.lo
  rw [e1] at a1 a2
  rw [e2] at b1 b2
  have p : ∀ {x y : Nat}, x ≤ y → 2 ^ x ≤ 2 ^ y := fun h => Nat.pow_le_pow_right (by decide) h
  have f1 : b.ht ≤ a.ht + 1 := by
    apply Nat.le_of_not_lt
    intro q
    have q1 := b2 (by omega)
    have q2 : 2 ^ (a.ht + 1) ≤ 2 ^ (b.ht - 1) := p (by omega)
    rw [Nat.pow_succ] at q2
    have q3 : 0 < 2 ^ a.ht := Nat.two_pow_pos _
    omega
  have f2 : a.ht ≤ b.ht := by
    apply Nat.le_of_not_lt
    intro q
    have q1 := a2 (by omega)
    have q2 : 2 ^ b.ht ≤ 2 ^ (a.ht - 1) := p (by omega)
    omega
  have eh : (T.node k a b).ht = b.ht + 1 := by show 1 + max a.ht b.ht = _; omega
  refine ⟨?_, ⟨ha.bal, hb.bal, by omega, f1⟩, ⟨ha.full (by omega), hb.full (by omega)⟩, fun _ => ⟨ha.full (by omega), hb.full (by omega)⟩, ?_, ?_, fun _ => ?_⟩
  · show a.bits ++ b.bits = l
    rw [ha.bits, hb.bits, List.take_append_drop]
  · show a.lvs + b.lvs ≤ _
    have := ha.lvs
    have := hb.lvs
    omega
  · rw [eh, Nat.pow_succ]; omega
  · rw [eh, Nat.add_sub_cancel]
    by_cases hz : b.ht = 0
    · rw [hz]; omega
    · have q := b2 (by omega)
      have e3 : 2 ^ b.ht = 2 * 2 ^ (b.ht - 1) := by rw [← Nat.pow_succ', show (b.ht - 1).succ = b.ht by omega]
      omega
theorem Built.node {S S1 S2 S3 : St} {a b : T} {k n : Nat} (h1 : Built S S1 a) (h2 : Built S1 S2 b) (hk : S2.sto k = none) (hs : S3.sto = upd S2.sto k (some (n, .pr a.lk b.lk))) (hr : S3.rt = S2.rt) (hv : S3.vis = S2.vis) (hl : S3.live = S2.live + 1) (hm : S3.T.length = max S2.T.length (S2.live + 1)) : Built S S3 (.node k a b) := by
  have q1 : ∀ j ∈ a.ks, S2.sto j = S1.sto j := fun j hj => h2.old j (h1.is.dom j hj)
  have k1 : k ∉ a.ks := fun hj => by have := h1.is.dom k hj; rw [← q1 k hj, hk] at this; exact this rfl
  have k2 : k ∉ b.ks := fun hj => h2.is.dom k hj hk
  have ha := h1.live
  have hb := h2.live
  have ma := h1.made
  have mb := h2.made
  refine ⟨⟨⟨n, by rw [hs, upd_at]⟩, ?_, ?_⟩, ?_, fun j hj => ?_, fun j hj => ?_, hr.trans (h2.rt.trans h1.rt), hv.trans (h2.vis.trans h1.vis), ?_, ?_⟩
  · exact h1.is.congr (fun j hj => by rw [hs, upd_ne S2.sto (k := k) (j := j) _ (fun e => k1 (e ▸ hj))]; exact q1 j hj)
  · exact h2.is.congr (fun j hj => by rw [hs, upd_ne S2.sto (k := k) (j := j) _ (fun e => k2 (e ▸ hj))])
  · show (k :: (a.ks ++ b.ks)).Nodup
    refine List.nodup_cons.2 ⟨fun h => by rcases List.mem_append.1 h with h | h; exact k1 h; exact k2 h, List.nodup_append.2 ⟨h1.nd, h2.nd, fun x hx y hy e => ?_⟩⟩
    subst e
    exact h1.is.dom x hx (h2.new x hy)
  · cases e : S.sto j with
    | none => rfl
    | some x =>
      have e1 : S.sto j ≠ none := by rw [e]; exact fun h => by cases h
      have e2 := h1.old j e1
      have e3 : S1.sto j ≠ none := by rw [e2]; exact e1
      have e4 := h2.old j e3
      rcases List.mem_cons.1 hj with rfl | hj
      · rw [hk] at e4; exact absurd e4.symm e3
      · rcases List.mem_append.1 hj with hj | hj
        · exact absurd (h1.new j hj) e1
        · exact absurd (h2.new j hj) e3
  · have e2 := h1.old j hj
    have e3 : S1.sto j ≠ none := by rw [e2]; exact hj
    have e4 := h2.old j e3
    have e5 : j ≠ k := fun e => by subst e; rw [hk] at e4; exact e3 e4.symm
    rw [hs, upd_ne _ _ e5, e4, e2]
  · show S3.live = S.live + (k :: (a.ks ++ b.ks)).length
    rw [List.length_cons, List.length_append]; omega
  · omega
def BuildIH (base t n : Nat) : Prop :=
  ∀ (w : World) (S : St) (l : List Bool) (b off cap : Nat), l.length ≤ n → TM base w t S → RdB w (.slice (some ⟨b, off, none⟩) l.length cap) l → S.own b = none → 0 < l.length → S.live + 2 * l.length ≤ 268435456 →
    Calls Tryz.prog 96 #[.pointer (some ⟨t, 0, none⟩), .slice (some ⟨b, off, none⟩) l.length cap] w fun e w' => ∃ a S', e = .returned (lkv a.lk) ∧ TM base w' t S' ∧ Mv w w' S S' ∧ Built S S' a ∧ Even l a
theorem RdB.form {w : World} {b off n cap : Nat} {l : List Bool} (h : RdB w (.slice (some ⟨b, off, none⟩) n cap) l) : n = l.length ∧ b < w.heap.size ∧ l.length ≤ cap ∧ cap ≤ maxLen ∧ ∀ i, i < l.length → w.cell? ⟨b, off + i, none⟩ = some (.bool (l.getD i false)) := by
  rcases h with ⟨h, _⟩ | ⟨b', off', cap', hv, h0, h1, h2, h3⟩
  · cases h
  · simp only [Value.slice.injEq, Option.some.injEq, Addr.mk.injEq, and_true] at hv
    obtain ⟨⟨rfl, rfl⟩, rfl, rfl⟩ := hv
    exact ⟨rfl, h0, h1, h2, h3⟩
set_option maxHeartbeats 3200000 in
theorem tbuild_leaf {base t b off cap : Nat} {S : St} {l : List Bool} (w : World) (h : TM base w t S) (hr : RdB w (.slice (some ⟨b, off, none⟩) l.length cap) l) (hpos : 0 < l.length) (hlen : l.length ≤ 128) (hl : S.live + 2 * l.length ≤ 268435456) :
    Calls Tryz.prog 96 #[.pointer (some ⟨t, 0, none⟩), .slice (some ⟨b, off, none⟩) l.length cap] w fun e w' => ∃ a S', e = .returned (lkv a.lk) ∧ TM base w' t S' ∧ Mv w w' S S' ∧ Built S S' a ∧ Even l a := by
  have hb0 : Below w.heap.size w (w.alloc ZL) := Below.allocs (Below.refl _ _) _
  have hr0 : RdB (w.alloc ZL) _ l := hr.below hb0
  have key := bnew_rd _ hr0 hlen
  have hli : (l.length : Int) ≤ 128 := by omega
  have hbase := h.lt
  have H := Lib.hid h
  have H0 := Lib.hid (h.below hb0)
  clear h hr hr0
  go_enter Tryz.func96, Tryz.ntmps96
  go_wp2_with fail
  (with_reducible refine key.mono ?_); rintro e w1 ⟨g, rfl, hg, hi, hb1⟩
  have hz1 := hb1.size
  have hsz : (w.alloc ZL).heap.size = w.heap.size + 1 := by simp
  have hT1 := H0.out.below hb1
  have hi' := hi.below (Below.allocs (Below.refl _ w1) (NZ (some ⟨g, 0, none⟩))) hi.lt
  have hgl := hi.lt
  have hT2 := hT1.below (Below.allocs (Below.refl _ w1) (NZ (some ⟨g, 0, none⟩)))
  have hLone : Lone base (w1.alloc (NZ (some ⟨g, 0, none⟩))) S w1.heap.size (.lf g l) := ⟨⟨⟨⟨0, 0, 0, 0⟩, ⟨0, 0, 0, 0⟩, alloc_of⟩, hi'⟩, hT1.new (Nat.le_refl _), by omega, fun b l e => by injection e with e _; subst e; exact ⟨H0.out.new hg, by omega, by simp; omega⟩, by simp⟩
  have keyP := tput _ hT2 (by omega) hLone
  clear key hi hi' hLone hT1 hT2
  go_wp2_with fail
  (with_reducible refine keyP.mono ?_); rintro e w3 ⟨k, S3, rfl, hP⟩
  obtain ⟨a1, a2, a3, a4, a5, a6, a7, a8, a9⟩ := id hP
  have hs3 : S3.sto k = some (w1.heap.size, .lf g l) := by rw [a3]; exact upd_at _ _ _
  have keyK := tlink_lf w3 a1 hs3
  unfold lkv at keyK
  have hV3 : Mv (w.alloc ZL) w3 S S3 := by
    refine ⟨(Stay.of_below (S := fun b => S.own b ≠ none) (hb1.trans ((Below.allocs (Below.refl _ w1) (NZ (some ⟨g, 0, none⟩))).mono hz1))).trans a9 (fun _ _ h => h), fun b hb => ?_⟩
    rcases a8 b hb with h | h | h | ⟨_, h⟩
    · exact .inl h
    · right; simp at h; omega
    · right; omega
    · injection h with h _; right; omega
  have HP := Lib.hid (And.intro a2 (And.intro a3 (And.intro a4 (And.intro a5 (And.intro a6 a7)))))
  have HT3 := Lib.hid a1
  have HV3 := Lib.hid hV3
  clear hP a1 a2 a3 a4 a5 a6 a7 a8 a9 hs3 hV3 keyP
  go_wp2_with fail
  (with_reducible refine keyK.mono ?_); rintro e w5 ⟨rfl, hb5⟩
  have hT5 := HT3.out.below hb5
  have hV5 := HV3.out.below hb5
  obtain ⟨r0, r1, r2, r3, q0, q1, q2, q3⟩ := Mv.res H.out hV5
  have fin := Lib.hid (Mv.done H.out hT5 hV5 (.int .i64 (lkl k l).num) (.int .i64 (lkl k l).len) (.int .i64 (lkl k l).ones) (.int .i64 (lkl k l).ht))
  clear hT5 hV5 hb5 keyK
  go_wp2_with fail
  try simp only [Exit.inBlock, Exit.then]
  refine bodyPost_ret (v := lkv (lkl k l)) (by simp [results, Tryz.results96, go_sem, lkv, *]) rfl ⟨.leaf k l, S3, rfl, fin.out.1, fin.out.2, ?_, ?_⟩
  · obtain ⟨a2, a3, a4, a5, a6, a7⟩ := HP.out
    refine ⟨⟨w1.heap.size, g, by rw [a3]; exact upd_at _ _ _⟩, List.nodup_cons.2 ⟨List.not_mem_nil, List.nodup_nil⟩, fun j hj => by rw [List.mem_singleton.1 hj]; exact a2, fun j hj => ?_, a4, a5, a6, by rw [a6]; exact a7⟩
    rw [a3, upd_ne _ _ (fun e => by subst e; exact hj a2)]
  · exact ⟨rfl, trivial, hlen, fun f => ⟨by omega, hlen⟩, hpos, by show l.length ≤ 128 * 2 ^ 0; omega, fun f => absurd f (Nat.lt_irrefl _)⟩
/-- The second half's call. -/
theorem build_next {base t b off cap n hf : Nat} {S S1 : St} {l : List Bool} {a1 : T} {w0 w2 : World} (ih : BuildIH base t n) (hh : 128 < l.length ∧ S.live + 2 * l.length ≤ 268435456 ∧ l.length ≤ n + 1 ∧ l.length ≤ cap) (hq : hf = l.length / 2) (he : (l.drop hf).length = l.length - hf)
    (hr : RdB w0 (.slice (some ⟨b, off + hf, none⟩) (l.drop hf).length (cap - hf)) (l.drop hf)) (hb : S.own b = none) (hT1 : TM base w2 t S1) (hV1 : Mv w0 w2 S S1) (hB1 : Built S S1 a1) (hE1 : Even (l.take hf) a1) :
    Calls Tryz.prog 96 #[.pointer (some ⟨t, 0, none⟩), .slice (some ⟨b, off + hf, none⟩) (l.length - hf) (cap - hf)] w2 fun e w' => ∃ a S', e = .returned (lkv a.lk) ∧ TM base w' t S' ∧ Mv w2 w' S1 S' ∧ Built S1 S' a ∧ Even (l.drop hf) a := by
  have hbl := hr.form.2.1
  have e1 : (l.take hf).length = hf := by rw [List.length_take]; omega
  have h1 := hE1.lvs
  have h2 := a1.ks_len
  have h3 := hB1.live
  have key := ih w2 S1 (l.drop hf) b (off + hf) (cap - hf) (by omega) hT1 (hr.stays hV1.st (fun q e e2 => by injection e with e; subst e; exact e2 hb)) (hV1.outer hbl hb) (by omega) (by omega)
  rw [he] at key
  exact key
abbrev NP (A B : Lk) : Obj := Obj.cells #[.pointer none, .int .i64 A.num, .int .i64 A.len, .int .i64 A.ones, .int .i64 A.ht, .int .i64 B.num, .int .i64 B.len, .int .i64 B.ones, .int .i64 B.ht] 114
theorem build_put {base t cap n hf : Nat} {S S1 S2 : St} {l : List Bool} {a1 a2 : T} {w3 : World} (hh : 128 < l.length ∧ S.live + 2 * l.length ≤ 268435456 ∧ l.length ≤ n + 1 ∧ l.length ≤ cap) (hq : hf = l.length / 2) (he : (l.drop hf).length = l.length - hf)
    (hB1 : Built S S1 a1) (hE1 : Even (l.take hf) a1) (hT2 : TM base w3 t S2) (hB2 : Built S1 S2 a2) (hE2 : Even (l.drop hf) a2) :
    Calls Tryz.prog 103 #[.pointer (some ⟨t, 0, none⟩), .pointer (some ⟨w3.heap.size, 0, none⟩)] (w3.alloc (NP a1.lk a2.lk)) fun e w' => ∃ (k : Nat) (S' : St), e = .returned (.int .i64 k) ∧ Putted base (w3.alloc (NP a1.lk a2.lk)) w' t w3.heap.size (.pr a1.lk a2.lk) S2 S' k := by
  have e1 : (l.take hf).length = hf := by rw [List.length_take]; omega
  have h1 := hE1.lvs
  have h2 := a1.ks_len
  have h3 := hB1.live
  have h4 := hE2.lvs
  have h5 := a2.ks_len
  have h6 := hB2.live
  have hbase := hT2.lt
  exact tput _ (hT2.below (Below.allocs (Below.refl _ _) _)) (by omega) ⟨alloc_of, hT2.new (Nat.le_refl _), by omega, (fun b l e => by cases e), by simp⟩
theorem build_link {base t cap n hf nb k : Nat} {S S2 S3 : St} {l : List Bool} {a1 a2 : T} {w3 w4 : World} (hh : 128 < l.length ∧ S.live + 2 * l.length ≤ 268435456 ∧ l.length ≤ n + 1 ∧ l.length ≤ cap) (hq : hf = l.length / 2)
    (hE1 : Even (l.take hf) a1) (hE2 : Even (l.drop hf) a2) (hP : Putted base w3 w4 t nb (.pr a1.lk a2.lk) S2 S3 k) :
    Calls Tryz.prog 102 #[.pointer (some ⟨t, 0, none⟩), .int .i64 k] w4 fun e w' => e = .returned (lkv (mk k a1.lk a2.lk)) ∧ Below w4.heap.size w4 w' := by
  obtain ⟨b1, b2, b3, _⟩ := hP
  have hs : S3.sto k = some (nb, .pr a1.lk a2.lk) := by rw [b3]; exact upd_at _ _ _
  have e1 : (l.take hf).length = hf := by rw [List.length_take]; omega
  have e2 : (l.drop hf).length = l.length - hf := List.length_drop
  have g1 : a1.lk.len = hf := by rw [T.lk_len, hE1.bits, e1]
  have g2 : a2.lk.len = l.length - hf := by rw [T.lk_len, hE2.bits, e2]
  have g3 := T.full.ones (t := a1)
  have g4 := T.full.ones (t := a2)
  have g5 := a1.ht_le
  have g6 := a2.ht_le
  have g7 := hE1.lvs
  have g8 := hE2.lvs
  exact tlink_pr w4 b1 hs (by omega) (by omega) (by rw [T.lk_ht]; omega) (by rw [T.lk_ht]; omega)
theorem build_end {base t k : Nat} {S S1 S2 S3 : St} {A B : Lk} {w w2 w3 w4 w5 : World} (h : TM base w t S) (hV1 : Mv (w.alloc ZL).drew w2 S S1) (hV2 : Mv w2 w3 S1 S2) (hP : Putted base (w3.alloc (NP A B)) w4 t w3.heap.size (.pr A B) S2 S3 k) (hb5 : Below w4.heap.size w4 w5) :
    Res w5 w.heap.size ∧ ∀ a b c d, TM base ((((w5.setCell ⟨w.heap.size, 0, none⟩ a).setCell ⟨w.heap.size, 1, none⟩ b).setCell ⟨w.heap.size, 2, none⟩ c).setCell ⟨w.heap.size, 3, none⟩ d) t S3 ∧ Mv w ((((w5.setCell ⟨w.heap.size, 0, none⟩ a).setCell ⟨w.heap.size, 1, none⟩ b).setCell ⟨w.heap.size, 2, none⟩ c).setCell ⟨w.heap.size, 3, none⟩ d) S S3 := by
  obtain ⟨b1, b2, b3, b4, b5, b6, b7, b8, b9⟩ := hP
  have hV0 : Mv (w.alloc ZL) (w.alloc ZL).drew S S := Mv.of_below (Below.drews (Below.refl _ _))
  have hV3 := (((hV0.trans hV1).trans hV2).below (Below.allocs (Below.refl _ _) (NP A B)))
  have hz3 := hV3.st.size
  have hz2 := ((hV0.trans hV1).trans hV2).st.size
  have hV4 : Mv (w.alloc ZL) w4 S S3 := by
    refine ⟨hV3.st.trans b9 (fun i hi hs => ?_), fun b hb => ?_⟩
    · rcases hV3.ne i hs with h | h
      · exact h
      · omega
    · rcases b8 b hb with h | h | h | ⟨_, h⟩
      · exact hV3.ne b h
      · exact .inr (Nat.le_trans hz3 h)
      · exact .inr (h ▸ hz2)
      · cases h
  have hV5 := hV4.below hb5
  exact ⟨Mv.res h hV5, fun a b c d => Mv.done h (b1.below hb5) hV5 a b c d⟩
set_option maxRecDepth 100000 in
set_option maxHeartbeats 6400000 in
theorem tbuild_node {base t b off cap n : Nat} {S : St} {l : List Bool} (w : World) (ih : BuildIH base t n) (hln : l.length ≤ n + 1) (h : TM base w t S) (hr : RdB w (.slice (some ⟨b, off, none⟩) l.length cap) l) (hb : S.own b = none) (hlen : 128 < l.length) (hl : S.live + 2 * l.length ≤ 268435456) :
    Calls Tryz.prog 96 #[.pointer (some ⟨t, 0, none⟩), .slice (some ⟨b, off, none⟩) l.length cap] w fun e w' => ∃ a S', e = .returned (lkv a.lk) ∧ TM base w' t S' ∧ Mv w w' S S' ∧ Built S S' a ∧ Even l a := by
  have hb0 : Below w.heap.size w (w.alloc ZL).drew := Below.drews (Below.allocs (Below.refl _ _) _)
  have h0 := h.below hb0
  have hr0 : RdB (w.alloc ZL).drew _ l := hr.below hb0
  obtain ⟨_, hbl, hcap, hmax, hcell⟩ := hr0.form
  obtain ⟨hf, hq⟩ : ∃ hf, hf = l.length / 2 := ⟨_, rfl⟩
  have e1 : (l.take hf).length = hf := by rw [List.length_take]; omega
  have e2 : (l.drop hf).length = l.length - hf := List.length_drop
  have hR1 : RdB (w.alloc ZL).drew (.slice (some ⟨b, off, none⟩) (l.take hf).length cap) (l.take hf) := .inr ⟨b, off, cap, rfl, hbl, by omega, hmax, fun i hi => by
    rw [hcell i (by omega), List.getD_eq_getElem?_getD, List.getD_eq_getElem?_getD, List.getElem?_take_of_lt (by omega)]⟩
  have hR2 : RdB (w.alloc ZL).drew (.slice (some ⟨b, off + hf, none⟩) (l.drop hf).length (cap - hf)) (l.drop hf) := .inr ⟨b, off + hf, cap - hf, rfl, hbl, by omega, by unfold maxLen at hmax ⊢; omega, fun i hi => by
    rw [Nat.add_assoc, hcell (hf + i) (by omega), List.getD_eq_getElem?_getD, List.getD_eq_getElem?_getD, List.getElem?_drop]⟩
  have key1 := ih _ S (l.take hf) b off cap (by omega) h0 hR1 hb (by omega) (by omega)
  rw [e1] at key1
  have hqi : (l.length : Int) / 2 = hf := by omega
  have hli : ¬ (l.length : Int) ≤ 128 := by omega
  have hfl : (hf : Int) ≤ l.length := by omega
  have hlc : (l.length : Int) ≤ cap := by omega
  have hfc : (hf : Int) ≤ cap := by omega
  have hcm : (cap : Int) ≤ 9223372036854775807 := by unfold maxLen at hmax; omega
  have hne : ¬ cap = hf := by omega
  have hsz : (w.alloc ZL).heap.size = w.heap.size + 1 := by simp
  have hszd : (w.alloc ZL).drew.heap.size = w.heap.size + 1 := hsz
  unfold lkv at key1
  have H := Lib.hid h
  have H0 := Lib.hid h0
  have HR2 := Lib.hid hR2
  have HQ := Lib.hid hq
  have HE2 := Lib.hid e2
  have HLEN := Lib.hid (And.intro hlen (And.intro hl (And.intro hln hcap)))
  clear h h0 hr hr0 hR1 hR2 hq e1 e2 hcell hmax hlen hl hln hcap
  go_enter Tryz.func96, Tryz.ntmps96
  go_wp2_with fail
  go_region_law (first
    | (go_simp; (go_at_call 96; (with_reducible refine key1.mono ?_); rintro e w2 ⟨a1, S1, rfl, hT1, hV1, hB1, hE1⟩; (have key2 := build_next ih HLEN.out HQ.out HE2.out HR2.out hb hT1 hV1 hB1 hE1); unfold lkv at key2; (have HT1 := Lib.hid hT1); (have HV1 := Lib.hid hV1); (have HB1 := Lib.hid hB1); (have HE1 := Lib.hid hE1); clear hT1 hV1 hB1 hE1))
    | (go_simp; (go_at_call 96; (with_reducible refine key2.mono ?_); rintro e w3 ⟨a2, S2, rfl, hT2, hV2, hB2, hE2⟩; (have keyP := build_put HLEN.out HQ.out HE2.out HB1.out HE1.out hT2 hB2 hE2); (have HT2 := Lib.hid hT2); (have HV2 := Lib.hid hV2); (have HB2 := Lib.hid hB2); (have HE2' := Lib.hid hE2); clear hT2 hV2 hB2 hE2))
    | (go_simp; (go_at_call 103; (with_reducible refine keyP.mono ?_); rintro e w4 ⟨k, S3, rfl, hP⟩; (have keyK := build_link HLEN.out HQ.out HE1.out HE2'.out hP); unfold lkv at keyK; (have HP := Lib.hid hP); clear hP))
    | (go_simp; (go_at_call 102; (with_reducible refine keyK.mono ?_); rintro e w5 ⟨rfl, hb5⟩; (have hE5 := build_end H.out HV1.out HV2.out HP.out hb5); (obtain ⟨r0, r1, r2, r3, q0, q1, q2, q3⟩ := hE5.1); (have fin := Lib.hid hE5.2); clear hb5 hE5)))
  all_goals
    go_wp2_with fail
    try simp only [Exit.inBlock, Exit.then]
    refine bodyPost_ret (v := lkv (mk k a1.lk a2.lk)) (by simp [results, Tryz.results96, go_sem, lkv, *]) rfl ⟨.node k a1 a2, S3, rfl, (fin.out _ _ _ _).1, (fin.out _ _ _ _).2, ?_, ?_⟩
    · obtain ⟨_, a2', a3, a4, a5, a6, a7, _⟩ := HP.out
      exact HB1.out.node HB2.out a2' a3 a4 a5 a6 a7
    · exact Even.node HLEN.out.1 HQ.out HE1.out HE2'.out
theorem tbuild (base t : Nat) : ∀ n, BuildIH base t n := by
  intro n
  induction n with
  | zero => intro w S l b off cap h1 _ _ _ h2 _; omega
  | succ n ih =>
    intro w S l b off cap h1 h2 h3 h4 h5 h6
    by_cases hl : l.length ≤ 128
    · exact tbuild_leaf w h2 h3 h5 hl h6
    · exact tbuild_node w ih h1 h2 h3 h4 (by omega) h6
end Go.Proofs.YthbbokoeiifjdaaGreatDoor
