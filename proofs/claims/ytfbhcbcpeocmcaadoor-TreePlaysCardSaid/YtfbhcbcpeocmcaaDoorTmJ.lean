/- insert: contracts of the walk. -/
import Derived.Test.YtfbhcbcpeocmcaaDoorTmI
namespace Go.Proofs.YtfbhcbcpeocmcaaDoor
open Go Go.RowKit Go.ChangeAt Tr

/-- What is known of an insertion into a smaller tree. -/
def InsIH (base t : Nat) (a : T) (bit : Bool) : Prop :=
  ∀ (w : World) (S : St) (j : Nat), TM base w t S → Is S.sto a → a.ks.Nodup → a.bal → a.full → j ≤ a.bits.length → S.live + 2 ≤ 268435456 → S.vis + 8 * a.ht + 8 ≤ 1000000000 → a.bits.length ≤ 1000000000000 →
    Calls Tryd.prog 38 #[.pointer (some ⟨t, 0, none⟩), .int .i64 a.lk.num, .int .i64 j, .bool bit] w fun e w' => ∃ t' S', e = .returned (lkv t'.lk) ∧ TM base w' t S' ∧ Mv w w' S S' ∧ Chg S.sto S'.sto a t' ∧ Ins S S' a t' j bit (4 * a.ht + 3)
set_option maxHeartbeats 3200000 in
theorem tins_lo {base t k j : Nat} {S : St} {a b : T} (bit : Bool) (w : World) (h : TM base w t S) (hi : Is S.sto (.node k a b)) (hn : (T.node k a b).ks.Nodup) (hbal : (T.node k a b).bal) (hok : (T.node k a b).full) (hjc : j < a.bits.length) (hj : j ≤ (T.node k a b).bits.length) (hl : S.live + 2 ≤ 268435456)
    (hv : S.vis + 8 * (T.node k a b).ht + 8 ≤ 1000000000) (hlen : (T.node k a b).bits.length ≤ 1000000000000) (ih : InsIH base t a bit) :
    Calls Tryd.prog 38 #[.pointer (some ⟨t, 0, none⟩), .int .i64 k, .int .i64 j, .bool bit] w fun e w' => ∃ t' S', e = .returned (lkv t'.lk) ∧ TM base w' t S' ∧ Mv w w' S S' ∧ Chg S.sto S'.sto (.node k a b) t' ∧ Ins S S' (.node k a b) t' j bit (4 * (T.node k a b).ht + 3) := by
  obtain ⟨⟨n, hk⟩, hia, hib⟩ := id hi
  obtain ⟨nk1, nk2, na, nb, nab⟩ := nd_node hn
  obtain ⟨ba, bb, hab, hba⟩ := hbal
  have eh : (T.node k a b).ht = 1 + max a.ht b.ht := rfl
  have el : (T.node k a b).bits.length = a.bits.length + b.bits.length := List.length_append
  rw [eh] at hv
  rw [el] at hlen hj
  have hb0 : Below w.heap.size w (w.alloc ZL) := Below.allocs (Below.refl _ _) _
  have h0 := h.below hb0
  have key := tlook _ h0 hk (by omega)
  have H := Lib.hid h
  have HK := Lib.hid hk
  have H0 := Lib.hid h0
  have HI := Lib.hid hi
  have HL := Lib.hid hl
  have HN := Lib.hid hn
  have HOK := Lib.hid hok
  have hjb : (j : Int) ≤ 1000000000000 := by omega
  have hmb := hjb
  clear h h0 hk hi hn hok eh el
  go_enter Tryd.func38, Tryd.ntmps38
  go_wp2_with fail
  (with_reducible refine key.mono ?_); rintro e w1 ⟨rfl, hT1, hs1⟩
  have hn1 : (S.see (S.vis + 1)).sto k = some (n, .pr a.lk b.lk) := HK.out
  obtain ⟨n0, n1, n2, n3, n4, n5, n6, n7, n8, _⟩ := hT1.pr hn1
  have hV1 : Mv (w.alloc ZL) w1 S (S.see (S.vis + 1)) := Mv.tree H0.out hs1 S.rt (S.vis + 1)
  have HT1 := Lib.hid hT1
  have HV1 := Lib.hid hV1
  have keyL := tisleaf w1 n0
  have keyT := ttoward_0 (k := j) w1 n2 (by rw [T.lk_len]; exact hjc)
  clear hT1 hV1 key hs1 hn1
  go_wp2_with fail
  (with_reducible refine keyL.mono ?_); rintro e w1' ⟨rfl, rfl⟩
  go_wp2_with fail
  (with_reducible refine keyT.mono ?_); rintro e w1' ⟨rfl, rfl⟩
  have hT1d : TM base w1.drew t (S.see (S.vis + 1)) := HT1.out.drewN 1
  have keyI := ih w1.drew (S.see (S.vis + 1)) j hT1d hia na ba HOK.out.1 (by omega) (by exact HL.out) (by show S.vis + 1 + 8 * a.ht + 8 ≤ 1000000000; omega) (by omega)
  clear hT1d
  unfold lkv at keyI
  have z1 : IntKind.i64.wrap 1 = 1 := by decide
  go_wp2_with fail
  go_cut [] (fun wx => ∃ a' S2, TM base wx t (S2.lay k n (.pr a'.lk b.lk)) ∧ Mv (w.alloc ZL) wx S (S2.lay k n (.pr a'.lk b.lk)) ∧ Chg S.sto S2.sto a a' ∧ Ins (S.see (S.vis + 1)) S2 a a' j bit (4 * a.ht + 3))
  case first =>
    go_region_law (first | (go_simp; (go_at_call 38; (with_reducible refine keyI.mono ?_); rintro e w2 ⟨a', S2, rfl, hT2, hV2, hC2, hI2⟩; (have HT2 := Lib.hid hT2); (have HV2 := Lib.hid ((HV1.out.below (Below.drews (Below.refl _ _))).trans hV2)); (have HC2 := Lib.hid hC2); (have HI2 := Lib.hid hI2); (have HS2 := Lib.hid ((Chg.left (n := n) hC2 HI.out HN.out).2.trans HK.out)); (have M3 := HT2.out.pr HS2.out); (have m5 := M3.c1); (have m6 := M3.c2); (have m7 := M3.c3); (have m8 := M3.c4); (have f5 := M3.fz 1); (have f6 := M3.fz 2); (have f7 := M3.fz 3); (have f8 := M3.fz 4); clear M3 hT2 hV2 hC2 hI2)))
    all_goals
      go_wp2_with fail
      go_meet
      case rel => exact ⟨a', S2, HT2.out.side0 HS2.out _, HV2.out.trans (Mv.lay HT2.out HS2.out (Stay.set4 (S := fun i => i = n) (Stay.refl _ _) rfl 1 2 3 4 _ _ _ _)), HC2.out, HI2.out⟩
  case rest =>
  obtain ⟨a', S2, hT3, hV3, hC3, hI3⟩ := hcut
  have hC4 := (Chg.left (n := n) hC3 HI.out HN.out).1
  have i1 := hI3.lo
  have i2 := hI3.hi
  have i3 : S2.vis ≤ S.vis + 1 + (4 * a.ht + 3) := hI3.vis
  have i4 : a'.bits.length = a.bits.length + 1 := by rw [hI3.bits]; exact Blk.ins_len (by omega)
  have keyE := teven (N := 72057594037927936) wc hT3 hC4.is hC4.nd hI3.bal bb (by omega) (by omega) (by show S2.vis < _; omega) (Nat.le_refl _) (bd (by omega) (by omega)) (bd (by omega) (by omega))
  have HT3 := Lib.hid hT3
  have HV3 := Lib.hid hV3
  have HC4 := Lib.hid hC4
  have HI3 := Lib.hid hI3
  clear hT3 hV3 hC3 hI3 hC4 keyI n0 n1 n2 n3 n4 n5 n6 n7 n8
  unfold lkv at keyE
  go_wp2_with fail
  (with_reducible refine keyE.mono ?_); rintro e w5 ⟨t5, S5, rfl, hT5, hV5', hS5, hC5, hE5⟩
  have hV5 := HV3.out.trans hV5'
  obtain ⟨r0, r1, r2, r3, q0, q1, q2, q3⟩ := Mv.res H.out hV5
  have fin := Lib.hid (Mv.done H.out hT5 hV5 (.int .i64 t5.lk.num) (.int .i64 t5.lk.len) (.int .i64 t5.lk.ones) (.int .i64 t5.lk.ht))
  have HS5 := Lib.hid hS5
  have HC5 := Lib.hid hC5
  have HE5 := Lib.hid hE5
  clear hT5 hV5 hV5' hS5 hC5 hE5 keyE
  go_wp2_with fail
  try simp only [Exit.inBlock, Exit.then]
  refine bodyPost_ret (v := lkv t5.lk) (by simp [results, Tryd.results38, go_sem, lkv, *]) rfl ⟨t5, S5, rfl, fin.out.1, fin.out.2, HC4.out.trans HC5.out, ?_⟩
  have hE := HE5.out
  have hI := HI3.out
  have hS := HS5.out
  have e1 : (T.node k a b).ht = 1 + max a.ht b.ht := rfl
  have s1 : S5.vis ≤ S2.vis + 3 := hS.vis
  have s2 : S5.live = S2.live := by unfold St.live; rw [hS.T, hS.F]; rfl
  have k1 := hE.lvs
  have k2 := t5.ks_len
  have k3 := a'.ks_len
  have k4 := a.ks_len
  have k5 := b.ks_len
  have k6 : (T.node k a b).ks.length = 1 + (a.ks.length + b.ks.length) := by show (k :: (a.ks ++ b.ks)).length = _; rw [List.length_cons, List.length_append]; omega
  have k7 : S2.live + a.ks.length = S.live + a'.ks.length := hI.live
  have u1 : S.live ≤ S2.live := hI.up
  have u2 : S2.T.length = max S.T.length S2.live := hI.made
  have hlo := hE.lo
  have hhi := hE.hi
  have hfl := hE.flat
  refine ⟨?_, hE.bal, fun f => hE.full (hI.full f.1) f.2, fun f => T.full.ok (hE.full (hI.full f.1) f.2), ?_, ?_, hS.rt.trans hI.rt, ?_, ?_, ?_, ?_⟩
  · rw [hE.bits, hI.bits]
    show _ = Blk.ins (a.bits ++ b.bits) j bit
    exact (ins_append_lo bit (Nat.le_of_lt hjc)).symm
  · rw [e1]
    by_cases q : a'.ht ≤ b.ht + 1
    · have := hfl q (by omega)
      omega
    · omega
  · rw [e1]; omega
  · rw [e1]; omega
  · rw [s2, k6]; omega
  · rw [s2]; exact u1
  · rw [hS.T, s2]; exact u2
set_option maxHeartbeats 3200000 in
theorem tins_hi {base t k j m : Nat} {S : St} {a b : T} (bit : Bool) (w : World) (h : TM base w t S) (hi : Is S.sto (.node k a b)) (hn : (T.node k a b).ks.Nodup) (hbal : (T.node k a b).bal) (hok : (T.node k a b).full) (hjc : j = a.bits.length + m) (hj : j ≤ (T.node k a b).bits.length) (hl : S.live + 2 ≤ 268435456)
    (hv : S.vis + 8 * (T.node k a b).ht + 8 ≤ 1000000000) (hlen : (T.node k a b).bits.length ≤ 1000000000000) (ih : InsIH base t b bit) :
    Calls Tryd.prog 38 #[.pointer (some ⟨t, 0, none⟩), .int .i64 k, .int .i64 j, .bool bit] w fun e w' => ∃ t' S', e = .returned (lkv t'.lk) ∧ TM base w' t S' ∧ Mv w w' S S' ∧ Chg S.sto S'.sto (.node k a b) t' ∧ Ins S S' (.node k a b) t' j bit (4 * (T.node k a b).ht + 3) := by
  obtain ⟨⟨n, hk⟩, hia, hib⟩ := id hi
  obtain ⟨nk1, nk2, na, nb, nab⟩ := nd_node hn
  obtain ⟨ba, bb, hab, hba⟩ := hbal
  have eh : (T.node k a b).ht = 1 + max a.ht b.ht := rfl
  have el : (T.node k a b).bits.length = a.bits.length + b.bits.length := List.length_append
  rw [eh] at hv
  rw [el] at hlen hj
  have hb0 : Below w.heap.size w (w.alloc ZL) := Below.allocs (Below.refl _ _) _
  have h0 := h.below hb0
  have key := tlook _ h0 hk (by omega)
  have H := Lib.hid h
  have HK := Lib.hid hk
  have H0 := Lib.hid h0
  have HI := Lib.hid hi
  have HL := Lib.hid hl
  have HN := Lib.hid hn
  have HOK := Lib.hid hok
  have hjb : (j : Int) ≤ 1000000000000 := by omega
  have hmb : (m : Int) ≤ 1000000000000 := by omega
  have HJ := Lib.hid hjc
  have hm2 : m ≤ b.bits.length := by omega
  clear hjc
  clear h h0 hk hi hn hok eh el
  go_enter Tryd.func38, Tryd.ntmps38
  go_wp2_with fail
  (with_reducible refine key.mono ?_); rintro e w1 ⟨rfl, hT1, hs1⟩
  have hn1 : (S.see (S.vis + 1)).sto k = some (n, .pr a.lk b.lk) := HK.out
  obtain ⟨n0, n1, n2, n3, n4, n5, n6, n7, n8, _⟩ := hT1.pr hn1
  have hV1 : Mv (w.alloc ZL) w1 S (S.see (S.vis + 1)) := Mv.tree H0.out hs1 S.rt (S.vis + 1)
  have HT1 := Lib.hid hT1
  have HV1 := Lib.hid hV1
  have keyL := tisleaf w1 n0
  have keyT := ttoward_1 (k := j) (m := m) w1 n2 (by rw [T.lk_len]; exact HJ.out) (by omega)
  clear hT1 hV1 key hs1 hn1
  go_wp2_with fail
  (with_reducible refine keyL.mono ?_); rintro e w1' ⟨rfl, rfl⟩
  go_wp2_with fail
  (with_reducible refine keyT.mono ?_); rintro e w1' ⟨rfl, x, rfl⟩
  have HT1' := Lib.hid (HT1.out.drewN x)
  have HV1' := Lib.hid (HV1.out.below ((Below.refl _ _).drewN x))
  clear HT1 HV1 keyT keyL
  have HT1 := HT1'
  have HV1 := HV1'
  clear HT1' HV1' n0 n1 n2 n3 n4 n5 n6 n7 n8
  generalize w1.drewN x = w1 at *
  have hn1 : (S.see (S.vis + 1)).sto k = some (n, .pr a.lk b.lk) := HK.out
  obtain ⟨n0, n1, n2, n3, n4, n5, n6, n7, n8, _⟩ := HT1.out.pr hn1
  have hT1d : TM base w1.drew t (S.see (S.vis + 1)) := HT1.out.drewN 1
  have keyI := ih w1.drew (S.see (S.vis + 1)) m hT1d hib nb bb HOK.out.2 (by omega) (by exact HL.out) (by show S.vis + 1 + 8 * b.ht + 8 ≤ 1000000000; omega) (by omega)
  clear hT1d
  unfold lkv at keyI
  have z1 : IntKind.i64.wrap 1 = 1 := by decide
  go_wp2_with fail
  go_cut [] (fun wx => ∃ b' S2, TM base wx t (S2.lay k n (.pr a.lk b'.lk)) ∧ Mv (w.alloc ZL) wx S (S2.lay k n (.pr a.lk b'.lk)) ∧ Chg S.sto S2.sto b b' ∧ Ins (S.see (S.vis + 1)) S2 b b' m bit (4 * b.ht + 3))
  case first =>
    go_region_law (first | (go_simp; (go_at_call 38; (with_reducible refine keyI.mono ?_); rintro e w2 ⟨b', S2, rfl, hT2, hV2, hC2, hI2⟩; (have HT2 := Lib.hid hT2); (have HV2 := Lib.hid ((HV1.out.below (Below.drews (Below.refl _ _))).trans hV2)); (have HC2 := Lib.hid hC2); (have HI2 := Lib.hid hI2); (have HS2 := Lib.hid ((Chg.right (n := n) hC2 HI.out HN.out).2.trans HK.out)); (have M3 := HT2.out.pr HS2.out); (have m5 := M3.c5); (have m6 := M3.c6); (have m7 := M3.c7); (have m8 := M3.c8); (have f5 := M3.fz 5); (have f6 := M3.fz 6); (have f7 := M3.fz 7); (have f8 := M3.fz 8); clear M3 hT2 hV2 hC2 hI2)))
    all_goals
      go_wp2_with fail
      go_meet
      case rel => exact ⟨b', S2, HT2.out.side1 HS2.out _, HV2.out.trans (Mv.lay HT2.out HS2.out (Stay.set4 (S := fun i => i = n) (Stay.refl _ _) rfl 5 6 7 8 _ _ _ _)), HC2.out, HI2.out⟩
  case rest =>
  obtain ⟨b', S2, hT3, hV3, hC3, hI3⟩ := hcut
  have hC4 := (Chg.right (n := n) hC3 HI.out HN.out).1
  have i1 := hI3.lo
  have i2 := hI3.hi
  have i3 : S2.vis ≤ S.vis + 1 + (4 * b.ht + 3) := hI3.vis
  have i4 : b'.bits.length = b.bits.length + 1 := by rw [hI3.bits]; exact Blk.ins_len (by omega)
  have keyE := teven (N := 72057594037927936) wc hT3 hC4.is hC4.nd ba hI3.bal (by omega) (by omega) (by show S2.vis < _; omega) (Nat.le_refl _) (bd (by omega) (by omega)) (bd (by omega) (by omega))
  have HT3 := Lib.hid hT3
  have HV3 := Lib.hid hV3
  have HC4 := Lib.hid hC4
  have HI3 := Lib.hid hI3
  clear hT3 hV3 hC3 hI3 hC4 keyI n0 n1 n2 n3 n4 n5 n6 n7 n8
  unfold lkv at keyE
  go_wp2_with fail
  (with_reducible refine keyE.mono ?_); rintro e w5 ⟨t5, S5, rfl, hT5, hV5', hS5, hC5, hE5⟩
  have hV5 := HV3.out.trans hV5'
  obtain ⟨r0, r1, r2, r3, q0, q1, q2, q3⟩ := Mv.res H.out hV5
  have fin := Lib.hid (Mv.done H.out hT5 hV5 (.int .i64 t5.lk.num) (.int .i64 t5.lk.len) (.int .i64 t5.lk.ones) (.int .i64 t5.lk.ht))
  have HS5 := Lib.hid hS5
  have HC5 := Lib.hid hC5
  have HE5 := Lib.hid hE5
  clear hT5 hV5 hV5' hS5 hC5 hE5 keyE
  go_wp2_with fail
  try simp only [Exit.inBlock, Exit.then]
  refine bodyPost_ret (v := lkv t5.lk) (by simp [results, Tryd.results38, go_sem, lkv, *]) rfl ⟨t5, S5, rfl, fin.out.1, fin.out.2, HC4.out.trans HC5.out, ?_⟩
  have hE := HE5.out
  have hI := HI3.out
  have hS := HS5.out
  have e1 : (T.node k a b).ht = 1 + max a.ht b.ht := rfl
  have s1 : S5.vis ≤ S2.vis + 3 := hS.vis
  have s2 : S5.live = S2.live := by unfold St.live; rw [hS.T, hS.F]; rfl
  have k1 := hE.lvs
  have k2 := t5.ks_len
  have k3 := b'.ks_len
  have k4 := a.ks_len
  have k5 := b.ks_len
  have k6 : (T.node k a b).ks.length = 1 + (a.ks.length + b.ks.length) := by show (k :: (a.ks ++ b.ks)).length = _; rw [List.length_cons, List.length_append]; omega
  have k7 : S2.live + b.ks.length = S.live + b'.ks.length := hI.live
  have u1 : S.live ≤ S2.live := hI.up
  have u2 : S2.T.length = max S.T.length S2.live := hI.made
  have hlo := hE.lo
  have hhi := hE.hi
  have hfl := hE.flat
  refine ⟨?_, hE.bal, fun f => hE.full f.1 (hI.full f.2), fun f => T.full.ok (hE.full f.1 (hI.full f.2)), ?_, ?_, hS.rt.trans hI.rt, ?_, ?_, ?_, ?_⟩
  · rw [hE.bits, hI.bits]
    show _ = Blk.ins (a.bits ++ b.bits) j bit
    exact (ins_append_hi bit HJ.out).symm
  · rw [e1]
    by_cases q : b'.ht ≤ a.ht + 1
    · have := hfl (by omega) q
      omega
    · omega
  · rw [e1]; omega
  · rw [e1]; omega
  · rw [s2, k6]; omega
  · rw [s2]; exact u1
  · rw [hS.T, s2]; exact u2
set_option maxHeartbeats 3200000 in
theorem tins_leaf {base t k j : Nat} {S : St} {l : List Bool} (bit : Bool) (w : World) (h : TM base w t S) (hi : Is S.sto (.leaf k l)) (hj : j ≤ l.length) (hlen : l.length ≤ 128) (hl : S.live + 2 ≤ 268435456) (hv : S.vis + 8 ≤ 1000000000) :
    Calls Tryd.prog 38 #[.pointer (some ⟨t, 0, none⟩), .int .i64 k, .int .i64 j, .bool bit] w fun e w' => ∃ t' S', e = .returned (lkv t'.lk) ∧ TM base w' t S' ∧ Mv w w' S S' ∧ Chg S.sto S'.sto (.leaf k l) t' ∧ Ins S S' (.leaf k l) t' j bit 3 := by
  obtain ⟨n, b, hk⟩ := id hi
  have hb0 : Below w.heap.size w (w.alloc ZL) := Below.allocs (Below.refl _ _) _
  have h0 := h.below hb0
  have key := tlook _ h0 hk (by omega)
  have H := Lib.hid h
  have HK := Lib.hid hk
  have H0 := Lib.hid h0
  have HI := Lib.hid hi
  have HL := Lib.hid hl
  have hjb : (j : Int) ≤ 128 := by omega
  clear h h0 hk hi
  go_enter Tryd.func38, Tryd.ntmps38
  go_wp2_with fail
  (with_reducible refine key.mono ?_); rintro e w1 ⟨rfl, hT1, hs1⟩
  have hn1 : (S.see (S.vis + 1)).sto k = some (n, .lf b l) := HK.out
  obtain ⟨A, B, _, hN, _, _, _⟩ := hT1.lf hn1
  have n0 := hN.c0
  have hV1 : Mv (w.alloc ZL) w1 S (S.see (S.vis + 1)) := Mv.tree H0.out hs1 S.rt (S.vis + 1)
  have keyL := tisleaf w1 n0
  have keyI := tinleaf (j := j) bit w1 hT1 (show Is (S.see (S.vis + 1)).sto (.leaf k l) from HI.out) hj hlen (by exact HL.out) (by show S.vis + 1 < _; omega)
  unfold lkv at keyI
  have HV1 := Lib.hid hV1
  clear hT1 hV1 key hs1 hn1 hN
  go_wp2_with fail
  (with_reducible refine keyL.mono ?_); rintro e w1' ⟨rfl, rfl⟩
  go_wp2_with fail
  (with_reducible refine keyI.mono ?_); rintro e w5 ⟨t5, S5, rfl, hT5, hV5', hC5, hI5⟩
  have hV5 := HV1.out.trans hV5'
  obtain ⟨r0, r1, r2, r3, q0, q1, q2, q3⟩ := Mv.res H.out hV5
  have fin := Lib.hid (Mv.done H.out hT5 hV5 (.int .i64 t5.lk.num) (.int .i64 t5.lk.len) (.int .i64 t5.lk.ones) (.int .i64 t5.lk.ht))
  have HC5 := Lib.hid hC5
  have HI5 := Lib.hid hI5
  clear hT5 hV5 hV5' hC5 hI5 keyI
  go_wp2_with fail
  try simp only [Exit.inBlock, Exit.then]
  refine bodyPost_ret (v := lkv t5.lk) (by simp [results, Tryd.results38, go_sem, lkv, *]) rfl ⟨t5, S5, rfl, fin.out.1, fin.out.2, HC5.out, ?_⟩
  have hI := HI5.out
  have s1 : S5.vis ≤ S.vis + 1 + 2 := hI.vis
  exact ⟨hI.bits, hI.bal, hI.full, hI.ok, hI.lo, hI.hi, hI.rt, by omega, hI.live, hI.up, hI.made⟩
theorem tins_full (base t : Nat) (bit : Bool) : ∀ a : T, InsIH base t a bit := by
  intro a
  induction a with
  | leaf k l =>
    intro w S j h hi hn hb hf hj hl hv hlen
    exact tins_leaf bit w h hi hj hf.2 hl (by have e : (T.leaf k l).ht = 0 := rfl; omega)
  | node k a b iha ihb =>
    intro w S j h hi hn hb hf hj hl hv hlen
    by_cases hjc : j < a.bits.length
    · exact tins_lo bit w h hi hn hb hf hjc hj hl hv hlen iha
    · exact tins_hi (m := j - a.bits.length) bit w h hi hn hb hf (by omega) hj hl hv hlen ihb
theorem tins {base t j : Nat} {S : St} (a : T) (bit : Bool) (w : World) (h : TM base w t S) (hi : Is S.sto a) (hn : a.ks.Nodup) (hb : a.bal) (hf : a.ok) (hj : j ≤ a.bits.length) (hl : S.live + 2 ≤ 268435456) (hv : S.vis + 8 * a.ht + 8 ≤ 1000000000) (hlen : a.bits.length ≤ 1000000000000) :
    Calls Tryd.prog 38 #[.pointer (some ⟨t, 0, none⟩), .int .i64 a.lk.num, .int .i64 j, .bool bit] w fun e w' => ∃ t' S', e = .returned (lkv t'.lk) ∧ TM base w' t S' ∧ Mv w w' S S' ∧ Chg S.sto S'.sto a t' ∧ Ins S S' a t' j bit (4 * a.ht + 3) := by
  cases a with
  | leaf k l => exact tins_leaf bit w h hi hj hf hl (by have e : (T.leaf k l).ht = 0 := rfl; omega)
  | node k a b => exact tins_full base t bit (.node k a b) w S j h hi hn hb hf hj hl hv hlen
end Go.Proofs.YtfbhcbcpeocmcaaDoor
