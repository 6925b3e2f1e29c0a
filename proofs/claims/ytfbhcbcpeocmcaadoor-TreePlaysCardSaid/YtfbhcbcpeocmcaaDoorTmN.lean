/- remove: contracts of the walk. -/
import Derived.Test.YtfbhcbcpeocmcaaDoorTmM
namespace Go.Proofs.YtfbhcbcpeocmcaaDoor
open Go Go.RowKit Go.ChangeAt Tr

theorem Tr.ht_zero {t : T} (h : t.ht = 0) : ∃ k l, t = .leaf k l := by
  cases t with
  | leaf k l => exact ⟨k, l, rfl⟩
  | node k a b => exact absurd h (by show 1 + max a.ht b.ht ≠ 0; omega)
theorem tfeed0 {base t k kF : Nat} {S : St} {lF : List Bool} {b : T} (w : World) (h : TM base w t S) (hi : Is S.sto (.node k (.leaf kF lF) b)) (hn : (T.node k (.leaf kF lF) b).ks.Nodup) (hb : b.bal) (hf : b.full) (hh : b.ht ≤ 1) (hlF : lF.length < 32) (hv : S.vis + 2 ≤ 1000000000) :
    Calls Tryd.prog 59 #[.pointer (some ⟨t, 0, none⟩), .int .i64 k, .int .i64 0] w fun e w' => ∃ t' S', e = .returned (lkv t'.lk) ∧ TM base w' t S' ∧ Mv w w' S S' ∧ Chg S.sto S'.sto (.node k (.leaf kF lF) b) t' ∧ Fed S S' k (.leaf kF lF) b t' := by
  cases b with
  | leaf kO lO =>
    by_cases hr : lF.length + lO.length ≤ 128
    · exact tfeed_leaf_yes0 w h hi hn hr hf (by omega) hv
    · exact tfeed_leaf_no0 w h hi hn (by omega) hf (by omega) hv
  | node kO x y =>
    have e : (T.node kO x y).ht = 1 + max x.ht y.ht := rfl
    obtain ⟨k1, l1, rfl⟩ := ht_zero (t := x) (by omega)
    obtain ⟨k2, l2, rfl⟩ := ht_zero (t := y) (by omega)
    by_cases hr : lF.length + l1.length ≤ 128
    · exact tfeed_node_yes0 w h hi hn hr hf (by omega) hv
    · exact tfeed_node_no0 w h hi hn (by omega) hf (by omega) hv
theorem tfeed1 {base t k kF : Nat} {S : St} {lF : List Bool} {a : T} (w : World) (h : TM base w t S) (hi : Is S.sto (.node k a (.leaf kF lF))) (hn : (T.node k a (.leaf kF lF)).ks.Nodup) (hb : a.bal) (hf : a.full) (hh : a.ht ≤ 1) (hlF : lF.length < 32) (hv : S.vis + 2 ≤ 1000000000) :
    Calls Tryd.prog 59 #[.pointer (some ⟨t, 0, none⟩), .int .i64 k, .int .i64 1] w fun e w' => ∃ t' S', e = .returned (lkv t'.lk) ∧ TM base w' t S' ∧ Mv w w' S S' ∧ Chg S.sto S'.sto (.node k a (.leaf kF lF)) t' ∧ Fed S S' k a (.leaf kF lF) t' := by
  cases a with
  | leaf kO lO =>
    by_cases hr : lF.length + lO.length ≤ 128
    · exact tfeed_leaf_yes1 w h hi hn hr hf (by omega) hv
    · exact tfeed_leaf_no1 w h hi hn (by omega) hf (by omega) hv
  | node kO x y =>
    have e : (T.node kO x y).ht = 1 + max x.ht y.ht := rfl
    obtain ⟨k1, l1, rfl⟩ := ht_zero (t := x) (by omega)
    obtain ⟨k2, l2, rfl⟩ := ht_zero (t := y) (by omega)
    by_cases hr : lF.length + l2.length ≤ 128
    · exact tfeed_node_yes1 w h hi hn hr hf (by omega) hv
    · exact tfeed_node_no1 w h hi hn (by omega) hf (by omega) hv
/-- What a removal makes of a tree, and of its state. -/
structure Rem (S S' : St) (t t' : T) (k : Nat) (c : Nat) : Prop where
  bits : t'.bits = Blk.del t.bits k
  bal : t'.bal
  near : t.full → t'.full ∨ ∃ n l, t' = .leaf n l ∧ l.length < 32 ∧ t.ht = 0
  ok : t.ok → t'.ok
  lo : t.ht ≤ t'.ht + 1
  hi : t'.ht ≤ t.ht
  rt : S'.rt = S.rt
  vis : S'.vis ≤ S.vis + c
  live : S'.live + t.ks.length = S.live + t'.ks.length
  T : S'.T.length = S.T.length
theorem del_append_lo {l0 l1 : List Bool} {j : Nat} (hj : j < l0.length) : Blk.del (l0 ++ l1) j = Blk.del l0 j ++ l1 := by
  unfold Blk.del
  rw [List.take_append_of_le_length (Nat.le_of_lt hj), List.drop_append_of_le_length hj, List.append_assoc]
theorem del_append_hi {l0 l1 : List Bool} {j m : Nat} (hj : j = l0.length + m) : Blk.del (l0 ++ l1) j = l0 ++ Blk.del l1 m := by
  subst hj
  unfold Blk.del
  rw [List.take_append, List.drop_append, List.take_of_length_le (Nat.le_add_right _ _), List.drop_of_length_le (by omega), Nat.add_sub_cancel_left, List.append_assoc, show l0.length + m + 1 - l0.length = m + 1 by omega]
  rfl
theorem getD_append_lo {l0 l1 : List Bool} {j : Nat} (hj : j < l0.length) : (l0 ++ l1).getD j false = l0.getD j false := by
  rw [List.getD_eq_getElem?_getD, List.getD_eq_getElem?_getD, List.getElem?_append_left hj]
theorem getD_append_hi {l0 l1 : List Bool} {j m : Nat} (hj : j = l0.length + m) : (l0 ++ l1).getD j false = l1.getD m false := by
  subst hj
  rw [List.getD_eq_getElem?_getD, List.getD_eq_getElem?_getD, List.getElem?_append_right (Nat.le_add_right _ _), Nat.add_sub_cancel_left]
/-- What is known of a removal from a smaller tree. -/
def RemIH (base t : Nat) (a : T) : Prop :=
  ∀ (w : World) (S : St) (j : Nat), TM base w t S → Is S.sto a → a.ks.Nodup → a.bal → a.full → j < a.bits.length → S.vis + 8 * a.ht + 8 ≤ 1000000000 → a.bits.length ≤ 1000000000000 →
    Calls Tryd.prog 39 #[.pointer (some ⟨t, 0, none⟩), .int .i64 a.lk.num, .int .i64 j] w fun e w' => ∃ t' S', e = .returned (.tuple #[lkv t'.lk, .bool (a.bits.getD j false)]) ∧ TM base w' t S' ∧ Mv w w' S S' ∧ Chg S.sto S'.sto a t' ∧ Rem S S' a t' j (4 * a.ht + 1)
set_option maxHeartbeats 3200000 in
theorem trem_leaf {base t k j : Nat} {S : St} {l : List Bool} (w : World) (h : TM base w t S) (hi : Is S.sto (.leaf k l)) (hj : j < l.length) (hlen : l.length ≤ 128) (hv : S.vis + 8 ≤ 1000000000) :
    Calls Tryd.prog 39 #[.pointer (some ⟨t, 0, none⟩), .int .i64 k, .int .i64 j] w fun e w' => ∃ t' S', e = .returned (.tuple #[lkv t'.lk, .bool (l.getD j false)]) ∧ TM base w' t S' ∧ Mv w w' S S' ∧ Chg S.sto S'.sto (.leaf k l) t' ∧ Rem S S' (.leaf k l) t' j 1 := by
  obtain ⟨n, b, hk⟩ := id hi
  have hb0 : Below w.heap.size w (w.alloc ZL) := Below.allocs (Below.refl _ _) _
  have h0 := h.below hb0
  have key := tlook _ h0 hk (by omega)
  have H := Lib.hid h
  have HK := Lib.hid hk
  have H0 := Lib.hid h0
  have HI := Lib.hid hi
  have hjb : (j : Int) ≤ 128 := by omega
  obtain ⟨x, hx⟩ : ∃ x, l.getD j false = x := ⟨_, rfl⟩
  rw [hx]
  have HX := Lib.hid hx
  clear h h0 hk hi hx
  go_enter Tryd.func39, Tryd.ntmps39
  go_wp2_with fail
  (with_reducible refine key.mono ?_); rintro e w1 ⟨rfl, hT1, hs1⟩
  have hn1 : (S.see (S.vis + 1)).sto k = some (n, .lf b l) := HK.out
  obtain ⟨A, B, _, hN, hB, _, _⟩ := hT1.lf hn1
  have n0 := hN.c0
  have hV1 : Mv (w.alloc ZL) w1 S (S.see (S.vis + 1)) := Mv.tree H0.out hs1 S.rt (S.vis + 1)
  have keyL := tisleaf w1 n0
  have keyD := bdel_yes j w1 hB hj
  rw [HX.out] at keyD
  have HT1 := Lib.hid hT1
  have HV1 := Lib.hid hV1
  clear hT1 hV1 key hs1 hn1 hN hB
  go_wp2_with fail
  (with_reducible refine keyL.mono ?_); rintro e w1' ⟨rfl, rfl⟩
  go_wp2_with fail
  (with_reducible refine keyD.mono ?_); rintro e w2 ⟨rfl, hB2, hs2⟩
  obtain ⟨hT2, hV2⟩ := HT1.out.leaf (show (S.see (S.vis + 1)).sto k = some (n, .lf b l) from HK.out) hB2 hs2
  have key2 := tlink_lf w2 hT2 (upd_at _ _ _)
  unfold lkv at key2
  have HT2 := Lib.hid hT2
  have HV2 := Lib.hid (HV1.out.trans hV2)
  clear hT2 hV2 hs2 hB2 keyL keyD
  go_wp2_with fail
  (with_reducible refine key2.mono ?_); rintro e w5 ⟨rfl, hb5⟩
  have hT5 := HT2.out.below hb5
  have hV5 := HV2.out.below hb5
  obtain ⟨r0, r1, r2, r3, q0, q1, q2, q3⟩ := Mv.res H.out hV5
  have fin := Lib.hid (Mv.done H.out hT5 hV5 (.int .i64 (lkl k (Blk.del l j)).num) (.int .i64 (lkl k (Blk.del l j)).len) (.int .i64 (lkl k (Blk.del l j)).ones) (.int .i64 (lkl k (Blk.del l j)).ht))
  clear hT5 hV5 hb5 key2
  go_wp2_with fail
  try simp only [Exit.inBlock, Exit.then]
  refine bodyPost_ret (v := .tuple #[lkv (lkl k (Blk.del l j)), .bool x]) (by simp [results, Tryd.results39, go_sem, lkv, *]) rfl ⟨.leaf k (Blk.del l j), _, rfl, fin.out.1, fin.out.2, ?_, ?_⟩
  · exact Chg.same ⟨n, b, upd_at _ _ _⟩ (List.nodup_cons.2 ⟨List.not_mem_nil, List.nodup_nil⟩) (List.Perm.refl _) (fun j hj => upd_ne _ _ (fun e => hj (e ▸ List.mem_singleton.2 rfl)))
  · have hil := Blk.del_len hj
    refine ⟨rfl, trivial, fun f => ?_, fun f => ?_, Nat.le_succ _, Nat.le_refl _, rfl, Nat.le_refl _, rfl, rfl⟩
    · have f1 := f.1
      by_cases c : (Blk.del l j).length < 32
      · exact .inr ⟨k, _, rfl, c, rfl⟩
      · exact .inl ⟨by omega, by rw [hil]; omega⟩
    · show (Blk.del l j).length ≤ 128
      rw [hil]; omega
set_option maxRecDepth 100000 in
set_option maxHeartbeats 3200000 in
theorem trem_lo {base t k j : Nat} {S : St} {a b : T} (w : World) (h : TM base w t S) (hi : Is S.sto (.node k a b)) (hn : (T.node k a b).ks.Nodup) (hbal : (T.node k a b).bal) (hok : (T.node k a b).full) (hjc : j < a.bits.length) (hj : j < (T.node k a b).bits.length)
    (hv : S.vis + 8 * (T.node k a b).ht + 8 ≤ 1000000000) (hlen : (T.node k a b).bits.length ≤ 1000000000000) (ih : RemIH base t a) :
    Calls Tryd.prog 39 #[.pointer (some ⟨t, 0, none⟩), .int .i64 k, .int .i64 j] w fun e w' => ∃ t' S', e = .returned (.tuple #[lkv t'.lk, .bool ((T.node k a b).bits.getD j false)]) ∧ TM base w' t S' ∧ Mv w w' S S' ∧ Chg S.sto S'.sto (.node k a b) t' ∧ Rem S S' (.node k a b) t' j (4 * (T.node k a b).ht + 1) := by
  obtain ⟨⟨n, hk⟩, hia, hib⟩ := id hi
  obtain ⟨nk1, nk2, na, nb, nab⟩ := nd_node hn
  obtain ⟨ba, bb, hab, hba⟩ := hbal
  have eh : (T.node k a b).ht = 1 + max a.ht b.ht := rfl
  have el : (T.node k a b).bits.length = a.bits.length + b.bits.length := List.length_append
  have ex : (T.node k a b).bits.getD j false = a.bits.getD j false := getD_append_lo hjc
  rw [ex]
  obtain ⟨x, hx⟩ : ∃ x, a.bits.getD j false = x := ⟨_, rfl⟩
  rw [hx]
  have HX := Lib.hid hx
  rw [eh] at hv
  rw [el] at hlen hj
  have hb0 : Below w.heap.size w (w.alloc ZL) := Below.allocs (Below.refl _ _) _
  have h0 := h.below hb0
  have key := tlook _ h0 hk (by omega)
  have H := Lib.hid h
  have HK := Lib.hid hk
  have H0 := Lib.hid h0
  have HI := Lib.hid hi
  have HN := Lib.hid hn
  have HOK := Lib.hid hok
  have hjb : (j : Int) ≤ 1000000000000 := by omega
  have hmb := hjb
  clear h h0 hk hi hn hok eh el ex hx
  go_enter Tryd.func39, Tryd.ntmps39
  go_wp2_with fail
  (with_reducible refine key.mono ?_); rintro e w1 ⟨rfl, hT1, hs1⟩
  have hn1 : (S.see (S.vis + 1)).sto k = some (n, .pr a.lk b.lk) := HK.out
  obtain ⟨n0, n1, n2, n3, n4, n5, n6, n7, n8, _⟩ := hT1.pr hn1
  have hV1 : Mv (w.alloc ZL) w1 S (S.see (S.vis + 1)) := Mv.tree H0.out hs1 S.rt (S.vis + 1)
  have HT1 := Lib.hid hT1
  have HV1 := Lib.hid hV1
  have keyL := tisleaf w1 n0
  have keyT := ttoward_0 (k := j) w1 n2 (by rw [T.lk_len]; exact hjc)
  clear hT1 hV1 key hs1 hn1
  go_wp2_with fail
  (with_reducible refine keyL.mono ?_); rintro e w1' ⟨rfl, rfl⟩
  go_wp2_with fail
  (with_reducible refine keyT.mono ?_); rintro e w1' ⟨rfl, rfl⟩
  have keyI := ih w1 (S.see (S.vis + 1)) j HT1.out hia na ba HOK.out.1 (by exact hjc) (by show S.vis + 1 + 8 * a.ht + 8 ≤ 1000000000; omega) (by omega)
  rw [HX.out] at keyI
  unfold lkv at keyI
  go_wp2_with fail
  (with_reducible refine keyI.mono ?_); rintro e w2 ⟨a', S2, rfl, hT2, hV2, hC2, hI2⟩
  have hV2' := HV1.out.trans hV2
  have hC4 := Chg.left (n := n) hC2 HI.out HN.out
  have hS2 := hC4.2.trans HK.out
  have hT3 := hT2.below (Below.allocs (Below.refl _ _) (Obj.cells #[.int .i64 a'.lk.num, .int .i64 a'.lk.len, .int .i64 a'.lk.ones, .int .i64 a'.lk.ht] 59))
  have hV3 := hV2'.below (Below.allocs (Below.refl _ _) (Obj.cells #[.int .i64 a'.lk.num, .int .i64 a'.lk.len, .int .i64 a'.lk.ones, .int .i64 a'.lk.ht] 59))
  have q0 : (w2.alloc (Obj.cells #[.int .i64 a'.lk.num, .int .i64 a'.lk.len, .int .i64 a'.lk.ones, .int .i64 a'.lk.ht] 59)).cell? ⟨w2.heap.size, 0, none⟩ = some (.int .i64 a'.lk.num) := new_cell rfl rfl
  have q1 : (w2.alloc (Obj.cells #[.int .i64 a'.lk.num, .int .i64 a'.lk.len, .int .i64 a'.lk.ones, .int .i64 a'.lk.ht] 59)).cell? ⟨w2.heap.size, 1, none⟩ = some (.int .i64 a'.lk.len) := new_cell rfl rfl
  have q2 : (w2.alloc (Obj.cells #[.int .i64 a'.lk.num, .int .i64 a'.lk.len, .int .i64 a'.lk.ones, .int .i64 a'.lk.ht] 59)).cell? ⟨w2.heap.size, 2, none⟩ = some (.int .i64 a'.lk.ones) := new_cell rfl rfl
  have q3 : (w2.alloc (Obj.cells #[.int .i64 a'.lk.num, .int .i64 a'.lk.len, .int .i64 a'.lk.ones, .int .i64 a'.lk.ht] 59)).cell? ⟨w2.heap.size, 3, none⟩ = some (.int .i64 a'.lk.ht) := new_cell rfl rfl
  have hqo : S2.own w2.heap.size = none := hT2.new (Nat.le_refl _)
  have hqs : w2.heap.size < (w2.alloc (Obj.cells #[.int .i64 a'.lk.num, .int .i64 a'.lk.len, .int .i64 a'.lk.ones, .int .i64 a'.lk.ht] 59)).heap.size := by simp
  have hqn : ¬ w2.heap.size = n := fun e => by have := hT2.ndlt hS2; omega
  have HC4 := Lib.hid hC4.1
  have HI2 := Lib.hid hI2
  have HS2 := Lib.hid hS2
  have HT3 := Lib.hid hT3
  have HV3 := Lib.hid hV3
  have HQ := Lib.hid (And.intro q1 (And.intro q3 hqs))
  clear hT2 hV2 hV2' hC2 hI2 hC4 hS2 hT3 hV3 keyI keyL keyT n0 n1 n2 n3 n4 n5 n6 n7 n8 q0 q1 q2 q3 hqs
  go_wp2_with fail
  have M3 := HT3.out.pr HS2.out
  have m5 := M3.c1
  have m6 := M3.c2
  have m7 := M3.c3
  have m8 := M3.c4
  have f5 := M3.fz 1
  have f6 := M3.fz 2
  have f7 := M3.fz 3
  have f8 := M3.fz 4
  clear M3
  go_cut [] (fun wx => TM base wx t (S2.lay k n (.pr a'.lk b.lk)) ∧ Mv (w.alloc ZL) wx S (S2.lay k n (.pr a'.lk b.lk)) ∧ wx.cell? ⟨w2.heap.size, 1, none⟩ = some (.int .i64 a'.lk.len) ∧ wx.cell? ⟨w2.heap.size, 3, none⟩ = some (.int .i64 a'.lk.ht))
  case first =>
    go_region
    all_goals
      go_wp2_with fail
      go_meet
      case rel =>
        have hst4 := Stay.set4 (S := fun i => i = n) (Stay.refl _ (w2.alloc (Obj.cells #[.int .i64 a'.lk.num, .int .i64 a'.lk.len, .int .i64 a'.lk.ones, .int .i64 a'.lk.ht] 59))) rfl 1 2 3 4 (.int .i64 a'.lk.num) (.int .i64 a'.lk.len) (.int .i64 a'.lk.ones) (.int .i64 a'.lk.ht)
        exact ⟨(HT3.out.side0 HS2.out _).drewN 1, (HV3.out.trans (Mv.lay HT3.out HS2.out hst4)).below (Below.drews (Below.refl _ _)), (hst4.cell (p := ⟨w2.heap.size, 1, none⟩) HQ.out.2.2 hqn).trans HQ.out.1, (hst4.cell (p := ⟨w2.heap.size, 3, none⟩) HQ.out.2.2 hqn).trans HQ.out.2.1⟩
  case rest =>
  obtain ⟨hT4, hV4, p1, p3⟩ := hcut
  have i1 := HI2.out.lo
  have i2 := HI2.out.hi
  have i3 : S2.vis ≤ S.vis + 1 + (4 * a.ht + 1) := HI2.out.vis
  have i4 : a'.bits.length + 1 = a.bits.length := by rw [HI2.out.bits, Blk.del_len hjc]; omega
  have hlive := HI2.out.live
  have HT4 := Lib.hid hT4
  have HV4 := Lib.hid hV4
  have s2 : (S2.lay k n (.pr a'.lk b.lk)).live = S2.live := rfl
  have k6 : (T.node k a b).ks.length = 1 + (a.ks.length + b.ks.length) := by show (k :: (a.ks ++ b.ks)).length = _; rw [List.length_cons, List.length_append]; omega
  have e1 : (T.node k a b).ht = 1 + max a.ht b.ht := rfl
  have K6 := Lib.hid k6
  have E1 := Lib.hid e1
  clear hT4 hV4 m5 m6 m7 m8 f5 f6 f7 f8 k6 e1
  rcases HI2.out.near HOK.out.1 with hfull | ⟨kF, lF, hXe, hlF, hX0⟩
  · have hcond : ¬ (a'.lk.ht = 0 ∧ a'.lk.len < 32) := fun e => by
      rw [T.lk_ht, T.lk_len] at e
      obtain ⟨k0, l0, e0⟩ := ht_zero e.1
      have h1 : 32 ≤ a'.bits.length := by have := hfull.len.1; have := a'.lvs_pos; omega
      omega
    have keyE := teven (N := 72057594037927936) wc HT4.out HC4.out.is HC4.out.nd HI2.out.bal bb (by omega) (by omega) (by show S2.vis < _; omega) (Nat.le_refl _) (bd (by omega) (by omega)) (bd (by omega) (by omega))
    have HF := Lib.hid hfull
    unfold lkv at keyE
    obtain ⟨ht, hht⟩ : ∃ ht, a'.lk.ht = ht := ⟨_, rfl⟩
    obtain ⟨len, hlen2⟩ : ∃ len, a'.lk.len = len := ⟨_, rfl⟩
    rw [hht] at p3 hcond
    rw [hlen2] at p1 hcond
    clear hht hlen2 hfull
    have hor : ht ≠ 0 ∨ (ht = 0 ∧ ¬ len < 32) := by omega
    clear hcond
    rcases hor with hz | ⟨rfl, hz⟩
    · have hzi : ¬ (ht : Int) = 0 := by omega
      have hzb : ((ht : Int) == 0) = false := by simp; omega
      go_wp2_with fail
      (with_reducible refine keyE.mono ?_); rintro e w5 ⟨t5, S5, rfl, hT5, hV5', hS5, hC5, hE5⟩
      have hV5 := HV4.out.trans hV5'
      obtain ⟨r0, r1, r2, r3, q0, q1, q2, q3⟩ := Mv.res H.out hV5
      have fin := Lib.hid (Mv.done H.out hT5 hV5 (.int .i64 t5.lk.num) (.int .i64 t5.lk.len) (.int .i64 t5.lk.ones) (.int .i64 t5.lk.ht))
      have HS5 := Lib.hid hS5
      have HC5 := Lib.hid hC5
      have HE5 := Lib.hid hE5
      clear hT5 hV5 hV5' hS5 hC5 hE5 keyE p1 p3
      go_wp2_with fail
      try simp only [Exit.inBlock, Exit.then]
      refine bodyPost_ret (v := .tuple #[lkv t5.lk, .bool x]) (by simp [results, Tryd.results39, go_sem, lkv, *]) rfl ⟨t5, S5, rfl, fin.out.1, fin.out.2, HC4.out.trans HC5.out, ?_⟩
      have hE := HE5.out
      have hI := HI2.out
      have hS := HS5.out
      have s1 : S5.vis ≤ S2.vis + 3 := hS.vis
      have s3 : S5.live = S2.live := by unfold St.live; rw [hS.T, hS.F]; rfl
      have k1 := hE.lvs
      have k2 := t5.ks_len
      have k3 := a'.ks_len
      have k4 := a.ks_len
      have k5 := b.ks_len
      have k7 : S2.live + a.ks.length = S.live + a'.ks.length := hI.live
      have hlo := hE.lo
      have hhi := hE.hi
      have hfl := hE.flat
      refine ⟨?_, hE.bal, fun f => .inl (hE.full HF.out f.2), fun f => T.full.ok (hE.full HF.out f.2), ?_, ?_, hS.rt.trans hI.rt, ?_, ?_, ?_⟩
      · rw [hE.bits, hI.bits]
        show _ = Blk.del (a.bits ++ b.bits) j
        exact (del_append_lo hjc).symm
      · rw [E1.out]; omega
      · rw [E1.out]
        by_cases q : b.ht ≤ a'.ht + 1
        · have := hfl (by omega) q
          omega
        · omega
      · rw [E1.out]; omega
      · rw [s3, K6.out]; omega
      · rw [hS.T]; exact hI.T
    · have hzi : ¬ (len : Int) < 32 := by omega
      go_wp2_with fail
      (with_reducible refine keyE.mono ?_); rintro e w5 ⟨t5, S5, rfl, hT5, hV5', hS5, hC5, hE5⟩
      have hV5 := HV4.out.trans hV5'
      obtain ⟨r0, r1, r2, r3, q0, q1, q2, q3⟩ := Mv.res H.out hV5
      have fin := Lib.hid (Mv.done H.out hT5 hV5 (.int .i64 t5.lk.num) (.int .i64 t5.lk.len) (.int .i64 t5.lk.ones) (.int .i64 t5.lk.ht))
      have HS5 := Lib.hid hS5
      have HC5 := Lib.hid hC5
      have HE5 := Lib.hid hE5
      clear hT5 hV5 hV5' hS5 hC5 hE5 keyE p1 p3
      go_wp2_with fail
      try simp only [Exit.inBlock, Exit.then]
      refine bodyPost_ret (v := .tuple #[lkv t5.lk, .bool x]) (by simp [results, Tryd.results39, go_sem, lkv, *]) rfl ⟨t5, S5, rfl, fin.out.1, fin.out.2, HC4.out.trans HC5.out, ?_⟩
      have hE := HE5.out
      have hI := HI2.out
      have hS := HS5.out
      have s1 : S5.vis ≤ S2.vis + 3 := hS.vis
      have s3 : S5.live = S2.live := by unfold St.live; rw [hS.T, hS.F]; rfl
      have k1 := hE.lvs
      have k2 := t5.ks_len
      have k3 := a'.ks_len
      have k4 := a.ks_len
      have k5 := b.ks_len
      have k7 : S2.live + a.ks.length = S.live + a'.ks.length := hI.live
      have hlo := hE.lo
      have hhi := hE.hi
      have hfl := hE.flat
      refine ⟨?_, hE.bal, fun f => .inl (hE.full HF.out f.2), fun f => T.full.ok (hE.full HF.out f.2), ?_, ?_, hS.rt.trans hI.rt, ?_, ?_, ?_⟩
      · rw [hE.bits, hI.bits]
        show _ = Blk.del (a.bits ++ b.bits) j
        exact (del_append_lo hjc).symm
      · rw [E1.out]; omega
      · rw [E1.out]
        by_cases q : b.ht ≤ a'.ht + 1
        · have := hfl (by omega) q
          omega
        · omega
      · rw [E1.out]; omega
      · rw [s3, K6.out]; omega
      · rw [hS.T]; exact hI.T
  · subst hXe
    have hh0 : (T.leaf kF lF).ht = 0 := rfl
    have keyF := tfeed0 wc HT4.out HC4.out.is HC4.out.nd bb HOK.out.2 (by omega) hlF (by show S2.vis + 2 ≤ _; omega)
    have p1' : wc.cell? ⟨w2.heap.size, 1, none⟩ = some (.int .i64 lF.length) := p1
    have p3' : wc.cell? ⟨w2.heap.size, 3, none⟩ = some (.int .i64 0) := p3
    have hlFi : (lF.length : Int) < 32 := by omega
    unfold lkv at keyF
    clear p1 p3
    go_wp2_with fail
    (with_reducible refine keyF.mono ?_); rintro e w5 ⟨t5, S5, rfl, hT5, hV5', hC5, hE5⟩
    have hV5 := HV4.out.trans hV5'
    obtain ⟨r0, r1, r2, r3, q0, q1, q2, q3⟩ := Mv.res H.out hV5
    have fin := Lib.hid (Mv.done H.out hT5 hV5 (.int .i64 t5.lk.num) (.int .i64 t5.lk.len) (.int .i64 t5.lk.ones) (.int .i64 t5.lk.ht))
    have HC5 := Lib.hid hC5
    have HE5 := Lib.hid hE5
    clear hT5 hV5 hV5' hC5 hE5 keyF p1' p3'
    go_wp2_with fail
    try simp only [Exit.inBlock, Exit.then]
    refine bodyPost_ret (v := .tuple #[lkv t5.lk, .bool x]) (by simp [results, Tryd.results39, go_sem, lkv, *]) rfl ⟨t5, S5, rfl, fin.out.1, fin.out.2, HC4.out.trans HC5.out, ?_⟩
    have hE := HE5.out
    have hI := HI2.out
    have s1 : S5.vis ≤ S2.vis + 2 := hE.vis
    have l5 : S5.live + (T.node k (.leaf kF lF) b).ks.length = S2.live + t5.ks.length := hE.live
    have l6 : (T.node k (.leaf kF lF) b).ks.length = 1 + (1 + b.ks.length) := by show (k :: (([kF] ++ b.ks))).length = _; rw [List.length_cons, List.length_append, List.length_singleton]; omega
    have k7 : S2.live + a.ks.length = S.live + 1 := hI.live
    have hlo := hE.lo
    have hhi := hE.hi
    refine ⟨?_, hE.bal, fun f => .inl hE.full, fun f => T.full.ok hE.full, ?_, ?_, hE.rt.trans hI.rt, ?_, ?_, ?_⟩
    · rw [hE.bits, hI.bits]
      show _ = Blk.del (a.bits ++ b.bits) j
      exact (del_append_lo hjc).symm
    · rw [E1.out]; omega
    · rw [E1.out]; omega
    · rw [E1.out]; omega
    · rw [K6.out]; omega
    · rw [hE.T]; exact hI.T
set_option maxRecDepth 100000 in
set_option maxHeartbeats 3200000 in
theorem trem_hi {base t k j m : Nat} {S : St} {a b : T} (w : World) (h : TM base w t S) (hi : Is S.sto (.node k a b)) (hn : (T.node k a b).ks.Nodup) (hbal : (T.node k a b).bal) (hok : (T.node k a b).full) (hjc : j = a.bits.length + m) (hj : j < (T.node k a b).bits.length)
    (hv : S.vis + 8 * (T.node k a b).ht + 8 ≤ 1000000000) (hlen : (T.node k a b).bits.length ≤ 1000000000000) (ih : RemIH base t b) :
    Calls Tryd.prog 39 #[.pointer (some ⟨t, 0, none⟩), .int .i64 k, .int .i64 j] w fun e w' => ∃ t' S', e = .returned (.tuple #[lkv t'.lk, .bool ((T.node k a b).bits.getD j false)]) ∧ TM base w' t S' ∧ Mv w w' S S' ∧ Chg S.sto S'.sto (.node k a b) t' ∧ Rem S S' (.node k a b) t' j (4 * (T.node k a b).ht + 1) := by
  obtain ⟨⟨n, hk⟩, hia, hib⟩ := id hi
  obtain ⟨nk1, nk2, na, nb, nab⟩ := nd_node hn
  obtain ⟨ba, bb, hab, hba⟩ := hbal
  have eh : (T.node k a b).ht = 1 + max a.ht b.ht := rfl
  have el : (T.node k a b).bits.length = a.bits.length + b.bits.length := List.length_append
  have ex : (T.node k a b).bits.getD j false = b.bits.getD m false := getD_append_hi hjc
  rw [ex]
  obtain ⟨x, hx⟩ : ∃ x, b.bits.getD m false = x := ⟨_, rfl⟩
  rw [hx]
  have HX := Lib.hid hx
  rw [eh] at hv
  rw [el] at hlen hj
  have hb0 : Below w.heap.size w (w.alloc ZL) := Below.allocs (Below.refl _ _) _
  have h0 := h.below hb0
  have key := tlook _ h0 hk (by omega)
  have H := Lib.hid h
  have HK := Lib.hid hk
  have H0 := Lib.hid h0
  have HI := Lib.hid hi
  have HN := Lib.hid hn
  have HOK := Lib.hid hok
  have hjb : (j : Int) ≤ 1000000000000 := by omega
  have hmb : (m : Int) ≤ 1000000000000 := by omega
  have HJ := Lib.hid hjc
  have hm2 : m < b.bits.length := by omega
  clear hjc
  clear h h0 hk hi hn hok eh el ex hx
  go_enter Tryd.func39, Tryd.ntmps39
  go_wp2_with fail
  (with_reducible refine key.mono ?_); rintro e w1 ⟨rfl, hT1, hs1⟩
  have hn1 : (S.see (S.vis + 1)).sto k = some (n, .pr a.lk b.lk) := HK.out
  obtain ⟨n0, n1, n2, n3, n4, n5, n6, n7, n8, _⟩ := hT1.pr hn1
  have hV1 : Mv (w.alloc ZL) w1 S (S.see (S.vis + 1)) := Mv.tree H0.out hs1 S.rt (S.vis + 1)
  have HT1 := Lib.hid hT1
  have HV1 := Lib.hid hV1
  have keyL := tisleaf w1 n0
  have keyT := ttoward_1 (k := j) (m := m) w1 n2 (by rw [T.lk_len]; exact HJ.out) (by omega)
  clear hT1 hV1 key hs1 hn1
  go_wp2_with fail
  (with_reducible refine keyL.mono ?_); rintro e w1' ⟨rfl, rfl⟩
  go_wp2_with fail
  (with_reducible refine keyT.mono ?_); rintro e w1' ⟨rfl, y, rfl⟩
  have HT1' := Lib.hid (HT1.out.drewN y)
  have HV1' := Lib.hid (HV1.out.below ((Below.refl _ _).drewN y))
  clear HT1 HV1 keyT keyL
  have HT1 := HT1'
  have HV1 := HV1'
  clear HT1' HV1' n0 n1 n2 n3 n4 n5 n6 n7 n8
  generalize w1.drewN y = w1 at *
  have hn1 : (S.see (S.vis + 1)).sto k = some (n, .pr a.lk b.lk) := HK.out
  obtain ⟨n0, n1, n2, n3, n4, n5, n6, n7, n8, _⟩ := HT1.out.pr hn1
  have keyI := ih w1 (S.see (S.vis + 1)) m HT1.out hib nb bb HOK.out.2 (by exact hm2) (by show S.vis + 1 + 8 * b.ht + 8 ≤ 1000000000; omega) (by omega)
  rw [HX.out] at keyI
  unfold lkv at keyI
  go_wp2_with fail
  (with_reducible refine keyI.mono ?_); rintro e w2 ⟨b', S2, rfl, hT2, hV2, hC2, hI2⟩
  have hV2' := HV1.out.trans hV2
  have hC4 := Chg.right (n := n) hC2 HI.out HN.out
  have hS2 := hC4.2.trans HK.out
  have hT3 := hT2.below (Below.allocs (Below.refl _ _) (Obj.cells #[.int .i64 b'.lk.num, .int .i64 b'.lk.len, .int .i64 b'.lk.ones, .int .i64 b'.lk.ht] 59))
  have hV3 := hV2'.below (Below.allocs (Below.refl _ _) (Obj.cells #[.int .i64 b'.lk.num, .int .i64 b'.lk.len, .int .i64 b'.lk.ones, .int .i64 b'.lk.ht] 59))
  have q0 : (w2.alloc (Obj.cells #[.int .i64 b'.lk.num, .int .i64 b'.lk.len, .int .i64 b'.lk.ones, .int .i64 b'.lk.ht] 59)).cell? ⟨w2.heap.size, 0, none⟩ = some (.int .i64 b'.lk.num) := new_cell rfl rfl
  have q1 : (w2.alloc (Obj.cells #[.int .i64 b'.lk.num, .int .i64 b'.lk.len, .int .i64 b'.lk.ones, .int .i64 b'.lk.ht] 59)).cell? ⟨w2.heap.size, 1, none⟩ = some (.int .i64 b'.lk.len) := new_cell rfl rfl
  have q2 : (w2.alloc (Obj.cells #[.int .i64 b'.lk.num, .int .i64 b'.lk.len, .int .i64 b'.lk.ones, .int .i64 b'.lk.ht] 59)).cell? ⟨w2.heap.size, 2, none⟩ = some (.int .i64 b'.lk.ones) := new_cell rfl rfl
  have q3 : (w2.alloc (Obj.cells #[.int .i64 b'.lk.num, .int .i64 b'.lk.len, .int .i64 b'.lk.ones, .int .i64 b'.lk.ht] 59)).cell? ⟨w2.heap.size, 3, none⟩ = some (.int .i64 b'.lk.ht) := new_cell rfl rfl
  have hqo : S2.own w2.heap.size = none := hT2.new (Nat.le_refl _)
  have hqs : w2.heap.size < (w2.alloc (Obj.cells #[.int .i64 b'.lk.num, .int .i64 b'.lk.len, .int .i64 b'.lk.ones, .int .i64 b'.lk.ht] 59)).heap.size := by simp
  have hqn : ¬ w2.heap.size = n := fun e => by have := hT2.ndlt hS2; omega
  have HC4 := Lib.hid hC4.1
  have HI2 := Lib.hid hI2
  have HS2 := Lib.hid hS2
  have HT3 := Lib.hid hT3
  have HV3 := Lib.hid hV3
  have HQ := Lib.hid (And.intro q1 (And.intro q3 hqs))
  clear hT2 hV2 hV2' hC2 hI2 hC4 hS2 hT3 hV3 keyI n0 n1 n2 n3 n4 n5 n6 n7 n8 q0 q1 q2 q3 hqs
  go_wp2_with fail
  have M3 := HT3.out.pr HS2.out
  have m5 := M3.c5
  have m6 := M3.c6
  have m7 := M3.c7
  have m8 := M3.c8
  have f5 := M3.fz 5
  have f6 := M3.fz 6
  have f7 := M3.fz 7
  have f8 := M3.fz 8
  clear M3
  go_cut [] (fun wx => TM base wx t (S2.lay k n (.pr a.lk b'.lk)) ∧ Mv (w.alloc ZL) wx S (S2.lay k n (.pr a.lk b'.lk)) ∧ wx.cell? ⟨w2.heap.size, 1, none⟩ = some (.int .i64 b'.lk.len) ∧ wx.cell? ⟨w2.heap.size, 3, none⟩ = some (.int .i64 b'.lk.ht))
  case first =>
    go_region
    all_goals
      go_wp2_with fail
      go_meet
      case rel =>
        have hst4 := Stay.set4 (S := fun i => i = n) (Stay.refl _ (w2.alloc (Obj.cells #[.int .i64 b'.lk.num, .int .i64 b'.lk.len, .int .i64 b'.lk.ones, .int .i64 b'.lk.ht] 59))) rfl 5 6 7 8 (.int .i64 b'.lk.num) (.int .i64 b'.lk.len) (.int .i64 b'.lk.ones) (.int .i64 b'.lk.ht)
        exact ⟨(HT3.out.side1 HS2.out _).drewN 1, (HV3.out.trans (Mv.lay HT3.out HS2.out hst4)).below (Below.drews (Below.refl _ _)), (hst4.cell (p := ⟨w2.heap.size, 1, none⟩) HQ.out.2.2 hqn).trans HQ.out.1, (hst4.cell (p := ⟨w2.heap.size, 3, none⟩) HQ.out.2.2 hqn).trans HQ.out.2.1⟩
  case rest =>
  obtain ⟨hT4, hV4, p1, p3⟩ := hcut
  have i1 := HI2.out.lo
  have i2 := HI2.out.hi
  have i3 : S2.vis ≤ S.vis + 1 + (4 * b.ht + 1) := HI2.out.vis
  have i4 : b'.bits.length + 1 = b.bits.length := by rw [HI2.out.bits, Blk.del_len hm2]; omega
  have hlive := HI2.out.live
  have HT4 := Lib.hid hT4
  have HV4 := Lib.hid hV4
  have s2 : (S2.lay k n (.pr a.lk b'.lk)).live = S2.live := rfl
  have k6 : (T.node k a b).ks.length = 1 + (a.ks.length + b.ks.length) := by show (k :: (a.ks ++ b.ks)).length = _; rw [List.length_cons, List.length_append]; omega
  have e1 : (T.node k a b).ht = 1 + max a.ht b.ht := rfl
  have K6 := Lib.hid k6
  have E1 := Lib.hid e1
  clear hT4 hV4 m5 m6 m7 m8 f5 f6 f7 f8 k6 e1
  rcases HI2.out.near HOK.out.2 with hfull | ⟨kF, lF, hXe, hlF, hX0⟩
  · have hcond : ¬ (b'.lk.ht = 0 ∧ b'.lk.len < 32) := fun e => by
      rw [T.lk_ht, T.lk_len] at e
      obtain ⟨k0, l0, e0⟩ := ht_zero e.1
      have h1 : 32 ≤ b'.bits.length := by have := hfull.len.1; have := b'.lvs_pos; omega
      omega
    have keyE := teven (N := 72057594037927936) wc HT4.out HC4.out.is HC4.out.nd ba HI2.out.bal (by omega) (by omega) (by show S2.vis < _; omega) (Nat.le_refl _) (bd (by omega) (by omega)) (bd (by omega) (by omega))
    have HF := Lib.hid hfull
    unfold lkv at keyE
    obtain ⟨ht, hht⟩ : ∃ ht, b'.lk.ht = ht := ⟨_, rfl⟩
    obtain ⟨len, hlen2⟩ : ∃ len, b'.lk.len = len := ⟨_, rfl⟩
    rw [hht] at p3 hcond
    rw [hlen2] at p1 hcond
    clear hht hlen2 hfull
    have hor : ht ≠ 0 ∨ (ht = 0 ∧ ¬ len < 32) := by omega
    clear hcond
    rcases hor with hz | ⟨rfl, hz⟩
    · have hzi : ¬ (ht : Int) = 0 := by omega
      have hzb : ((ht : Int) == 0) = false := by simp; omega
      go_wp2_with fail
      (with_reducible refine keyE.mono ?_); rintro e w5 ⟨t5, S5, rfl, hT5, hV5', hS5, hC5, hE5⟩
      have hV5 := HV4.out.trans hV5'
      obtain ⟨r0, r1, r2, r3, q0, q1, q2, q3⟩ := Mv.res H.out hV5
      have fin := Lib.hid (Mv.done H.out hT5 hV5 (.int .i64 t5.lk.num) (.int .i64 t5.lk.len) (.int .i64 t5.lk.ones) (.int .i64 t5.lk.ht))
      have HS5 := Lib.hid hS5
      have HC5 := Lib.hid hC5
      have HE5 := Lib.hid hE5
      clear hT5 hV5 hV5' hS5 hC5 hE5 keyE p1 p3
      go_wp2_with fail
      try simp only [Exit.inBlock, Exit.then]
      refine bodyPost_ret (v := .tuple #[lkv t5.lk, .bool x]) (by simp [results, Tryd.results39, go_sem, lkv, *]) rfl ⟨t5, S5, rfl, fin.out.1, fin.out.2, HC4.out.trans HC5.out, ?_⟩
      have hE := HE5.out
      have hI := HI2.out
      have hS := HS5.out
      have s1 : S5.vis ≤ S2.vis + 3 := hS.vis
      have s3 : S5.live = S2.live := by unfold St.live; rw [hS.T, hS.F]; rfl
      have k1 := hE.lvs
      have k2 := t5.ks_len
      have k3 := b'.ks_len
      have k4 := a.ks_len
      have k5 := b.ks_len
      have k7 : S2.live + b.ks.length = S.live + b'.ks.length := hI.live
      have hlo := hE.lo
      have hhi := hE.hi
      have hfl := hE.flat
      refine ⟨?_, hE.bal, fun f => .inl (hE.full f.1 HF.out), fun f => T.full.ok (hE.full f.1 HF.out), ?_, ?_, hS.rt.trans hI.rt, ?_, ?_, ?_⟩
      · rw [hE.bits, hI.bits]
        show _ = Blk.del (a.bits ++ b.bits) j
        exact (del_append_hi HJ.out).symm
      · rw [E1.out]; omega
      · rw [E1.out]
        by_cases q : a.ht ≤ b'.ht + 1
        · have := hfl q (by omega)
          omega
        · omega
      · rw [E1.out]; omega
      · rw [s3, K6.out]; omega
      · rw [hS.T]; exact hI.T
    · have hzi : ¬ (len : Int) < 32 := by omega
      go_wp2_with fail
      (with_reducible refine keyE.mono ?_); rintro e w5 ⟨t5, S5, rfl, hT5, hV5', hS5, hC5, hE5⟩
      have hV5 := HV4.out.trans hV5'
      obtain ⟨r0, r1, r2, r3, q0, q1, q2, q3⟩ := Mv.res H.out hV5
      have fin := Lib.hid (Mv.done H.out hT5 hV5 (.int .i64 t5.lk.num) (.int .i64 t5.lk.len) (.int .i64 t5.lk.ones) (.int .i64 t5.lk.ht))
      have HS5 := Lib.hid hS5
      have HC5 := Lib.hid hC5
      have HE5 := Lib.hid hE5
      clear hT5 hV5 hV5' hS5 hC5 hE5 keyE p1 p3
      go_wp2_with fail
      try simp only [Exit.inBlock, Exit.then]
      refine bodyPost_ret (v := .tuple #[lkv t5.lk, .bool x]) (by simp [results, Tryd.results39, go_sem, lkv, *]) rfl ⟨t5, S5, rfl, fin.out.1, fin.out.2, HC4.out.trans HC5.out, ?_⟩
      have hE := HE5.out
      have hI := HI2.out
      have hS := HS5.out
      have s1 : S5.vis ≤ S2.vis + 3 := hS.vis
      have s3 : S5.live = S2.live := by unfold St.live; rw [hS.T, hS.F]; rfl
      have k1 := hE.lvs
      have k2 := t5.ks_len
      have k3 := b'.ks_len
      have k4 := a.ks_len
      have k5 := b.ks_len
      have k7 : S2.live + b.ks.length = S.live + b'.ks.length := hI.live
      have hlo := hE.lo
      have hhi := hE.hi
      have hfl := hE.flat
      refine ⟨?_, hE.bal, fun f => .inl (hE.full f.1 HF.out), fun f => T.full.ok (hE.full f.1 HF.out), ?_, ?_, hS.rt.trans hI.rt, ?_, ?_, ?_⟩
      · rw [hE.bits, hI.bits]
        show _ = Blk.del (a.bits ++ b.bits) j
        exact (del_append_hi HJ.out).symm
      · rw [E1.out]; omega
      · rw [E1.out]
        by_cases q : a.ht ≤ b'.ht + 1
        · have := hfl q (by omega)
          omega
        · omega
      · rw [E1.out]; omega
      · rw [s3, K6.out]; omega
      · rw [hS.T]; exact hI.T
  · subst hXe
    have hh0 : (T.leaf kF lF).ht = 0 := rfl
    have keyF := tfeed1 wc HT4.out HC4.out.is HC4.out.nd ba HOK.out.1 (by omega) hlF (by show S2.vis + 2 ≤ _; omega)
    have p1' : wc.cell? ⟨w2.heap.size, 1, none⟩ = some (.int .i64 lF.length) := p1
    have p3' : wc.cell? ⟨w2.heap.size, 3, none⟩ = some (.int .i64 0) := p3
    have hlFi : (lF.length : Int) < 32 := by omega
    unfold lkv at keyF
    clear p1 p3
    go_wp2_with fail
    (with_reducible refine keyF.mono ?_); rintro e w5 ⟨t5, S5, rfl, hT5, hV5', hC5, hE5⟩
    have hV5 := HV4.out.trans hV5'
    obtain ⟨r0, r1, r2, r3, q0, q1, q2, q3⟩ := Mv.res H.out hV5
    have fin := Lib.hid (Mv.done H.out hT5 hV5 (.int .i64 t5.lk.num) (.int .i64 t5.lk.len) (.int .i64 t5.lk.ones) (.int .i64 t5.lk.ht))
    have HC5 := Lib.hid hC5
    have HE5 := Lib.hid hE5
    clear hT5 hV5 hV5' hC5 hE5 keyF p1' p3'
    go_wp2_with fail
    try simp only [Exit.inBlock, Exit.then]
    refine bodyPost_ret (v := .tuple #[lkv t5.lk, .bool x]) (by simp [results, Tryd.results39, go_sem, lkv, *]) rfl ⟨t5, S5, rfl, fin.out.1, fin.out.2, HC4.out.trans HC5.out, ?_⟩
    have hE := HE5.out
    have hI := HI2.out
    have s1 : S5.vis ≤ S2.vis + 2 := hE.vis
    have l5 : S5.live + (T.node k a (.leaf kF lF)).ks.length = S2.live + t5.ks.length := hE.live
    have l6 : (T.node k a (.leaf kF lF)).ks.length = 1 + (a.ks.length + 1) := by show (k :: ((a.ks ++ [kF]))).length = _; rw [List.length_cons, List.length_append, List.length_singleton]; omega
    have k7 : S2.live + b.ks.length = S.live + 1 := hI.live
    have hlo := hE.lo
    have hhi := hE.hi
    refine ⟨?_, hE.bal, fun f => .inl hE.full, fun f => T.full.ok hE.full, ?_, ?_, hE.rt.trans hI.rt, ?_, ?_, ?_⟩
    · rw [hE.bits, hI.bits]
      show _ = Blk.del (a.bits ++ b.bits) j
      exact (del_append_hi HJ.out).symm
    · rw [E1.out]; omega
    · rw [E1.out]; omega
    · rw [E1.out]; omega
    · rw [K6.out]; omega
    · rw [hE.T]; exact hI.T
theorem trem_full (base t : Nat) : ∀ a : T, RemIH base t a := by
  intro a
  induction a with
  | leaf k l =>
    intro w S j h hi hn hb hf hj hv hlen
    exact trem_leaf w h hi hj hf.2 (by have e : (T.leaf k l).ht = 0 := rfl; omega)
  | node k a b iha ihb =>
    intro w S j h hi hn hb hf hj hv hlen
    by_cases hjc : j < a.bits.length
    · exact trem_lo w h hi hn hb hf hjc hj hv hlen iha
    · exact trem_hi (m := j - a.bits.length) w h hi hn hb hf (by omega) hj hv hlen ihb
theorem trem {base t j : Nat} {S : St} (a : T) (w : World) (h : TM base w t S) (hi : Is S.sto a) (hn : a.ks.Nodup) (hb : a.bal) (hf : a.ok) (hj : j < a.bits.length) (hv : S.vis + 8 * a.ht + 8 ≤ 1000000000) (hlen : a.bits.length ≤ 1000000000000) :
    Calls Tryd.prog 39 #[.pointer (some ⟨t, 0, none⟩), .int .i64 a.lk.num, .int .i64 j] w fun e w' => ∃ t' S', e = .returned (.tuple #[lkv t'.lk, .bool (a.bits.getD j false)]) ∧ TM base w' t S' ∧ Mv w w' S S' ∧ Chg S.sto S'.sto a t' ∧ Rem S S' a t' j (4 * a.ht + 1) := by
  cases a with
  | leaf k l => exact trem_leaf w h hi hj hf (by have e : (T.leaf k l).ht = 0 := rfl; omega)
  | node k a b => exact trem_full base t (.node k a b) w S j h hi hn hb hf hj hv hlen
end Go.Proofs.YtfbhcbcpeocmcaaDoor
