/- insertInLeaf: contracts of the walk. insert: contracts of the walk. join: contracts of the walk. -/
import Derived.Test.YtaglnomjlnlgoaaDoorTrc
import Derived.Deep.RegionHeld3
namespace Go.Proofs.YtaglnomjlnlgoaaDoor
open Go Go.RowKit Go.ChangeAt Tr

theorem TM.lf {base : Nat} {w : World} {t : Nat} {S : St} {k n b : Nat} {l : List Bool} (h : TM base w t S) (hk : S.sto k = some (n, .lf b l)) : ∃ A B : Lk, w.heap[n]? = some (.cells (ndv (some ⟨b, 0, none⟩) A B) 88 (0, 0)) ∧ CellsN w n (some ⟨b, 0, none⟩) A B ∧ IsBlk w b l ∧ S.own b = some (.bk k) ∧ S.own n = some (.nd k) := by
  obtain ⟨g, a, c, hx⟩ := h
  obtain ⟨h1, ⟨A, B, h2⟩, h3⟩ := hx.nds _ _ _ hk
  exact ⟨A, B, h2, cellsN h2, h3, hx.bks _ _ _ _ hk, h1⟩
/-- A node that was made just now. -/
abbrev NZ (p : Option Addr) : Obj := Obj.cells #[.pointer p, .int .i64 0, .int .i64 0, .int .i64 0, .int .i64 0, .int .i64 0, .int .i64 0, .int .i64 0, .int .i64 0] 88
/-- A leaf's bits were turned. -/
theorem TM.leaf {base : Nat} {w w' : World} {t : Nat} {S : St} {k n b : Nat} {l l' : List Bool} (h : TM base w t S) (hk : S.sto k = some (n, .lf b l)) (hb : IsBlk w' b l') (hst : Stay (fun i => i = b) w w') :
    TM base w' t (S.lay k n (.lf b l')) ∧ Mv w w' S (S.lay k n (.lf b l')) := by
  obtain ⟨A, B, h1, _, _, h4, h5⟩ := h.lf hk
  have hnb : ¬ n = b := fun e => by rw [e, h4] at h5; cases h5
  refine ⟨h.turn0 hk hst (fun i x e e2 => by subst e; rw [h4] at e2; injection e2 with e2; exact .inr e2.symm) ⟨⟨A, B, hst.kept h1 hnb⟩, hb⟩ (fun b2 l2 e => by injection e with e _; subst e; exact h4), ⟨hst.mono (fun i _ e => by subst e; show S.own i ≠ none; rw [h4]; exact fun h => by cases h), fun b hb => .inl hb⟩⟩
/-- What an insertion makes of a tree, and of its state. -/
structure Ins (S S' : St) (t t' : T) (k : Nat) (bit : Bool) (c : Nat) : Prop where
  bits : t'.bits = Blk.ins t.bits k bit
  bal : t'.bal
  full : t.full → t'.full
  ok : t.ok → t'.ok
  lo : t.ht ≤ t'.ht
  hi : t'.ht ≤ t.ht + 1
  rt : S'.rt = S.rt
  vis : S'.vis ≤ S.vis + c
  live : S'.live + t.ks.length = S.live + t'.ks.length
  up : S.live ≤ S'.live
  made : S'.T.length = max S.T.length S'.live
theorem St.live_le (S : St) : S.live ≤ S.T.length := Nat.sub_le _ _
theorem ins_append_lo {l0 l1 : List Bool} {j : Nat} (bit : Bool) (hj : j ≤ l0.length) : Blk.ins (l0 ++ l1) j bit = Blk.ins l0 j bit ++ l1 := by
  unfold Blk.ins
  rw [List.take_append_of_le_length hj, List.drop_append_of_le_length hj, List.append_assoc]
  rfl
theorem ins_append_hi {l0 l1 : List Bool} {j m : Nat} (bit : Bool) (hj : j = l0.length + m) : Blk.ins (l0 ++ l1) j bit = l0 ++ Blk.ins l1 m bit := by
  subst hj
  unfold Blk.ins
  rw [List.take_append, List.drop_append, List.take_of_length_le (Nat.le_add_right _ _), List.drop_of_length_le (Nat.le_add_right _ _), Nat.add_sub_cancel_left, List.append_assoc]
  rfl
set_option maxHeartbeats 1600000 in
theorem tinleaf_room {base t k j : Nat} {S : St} {l : List Bool} (bit : Bool) (w : World) (h : TM base w t S) (hi : Is S.sto (.leaf k l)) (hj : j ≤ l.length) (hlen : l.length < 128) :
    Calls Tryd.prog 70 #[.pointer (some ⟨t, 0, none⟩), .int .i64 k, .int .i64 j, .bool bit] w fun e w' => ∃ t' S', e = .returned (lkv t'.lk) ∧ TM base w' t S' ∧ Mv w w' S S' ∧ Chg S.sto S'.sto (.leaf k l) t' ∧ Ins S S' (.leaf k l) t' j bit 2 := by
  obtain ⟨n, b, hk⟩ := id hi
  have hb0 : Below w.heap.size w (w.alloc ZL) := Below.allocs (Below.refl _ _) _
  have h0 := h.below hb0
  obtain ⟨len, c, lb, e1, _, e2, e3, e4, e5, e6, e7⟩ := h0.seen hk
  obtain ⟨A, B, _, hN, hB, hob, _⟩ := h0.lf hk
  have n0 := hN.c0
  have key := bins_yes j bit _ hB hlen hj
  have H := Lib.hid h
  have HK := Lib.hid hk
  have H0 := Lib.hid h0
  have HI := Lib.hid hi
  clear h h0 hN hk hi hB
  go_enter Tryd.func70, Tryd.ntmps70
  go_wp2_with fail
  (with_reducible refine key.mono ?_); rintro e w1 ⟨rfl, hB1, hs1⟩
  obtain ⟨hT1, hV1⟩ := H0.out.leaf HK.out hB1 hs1
  have hk1 : (S.lay k n (.lf b (Blk.ins l j bit))).sto k = some (n, .lf b (Blk.ins l j bit)) := upd_at _ _ _
  have key2 := tlink_lf w1 hT1 hk1
  unfold lkv at key2
  have HV1 := Lib.hid hV1
  have HT1 := Lib.hid hT1
  clear hT1 hV1 hs1 hB1 key hk1
  go_wp2_with fail
  (with_reducible refine key2.mono ?_); rintro e w5 ⟨rfl, hb5⟩
  have hT5 := HT1.out.below hb5
  have hV5 := HV1.out.below hb5
  obtain ⟨r0, r1, r2, r3, q0, q1, q2, q3⟩ := Mv.res H.out hV5
  have fin := Lib.hid (Mv.done H.out hT5 hV5 (.int .i64 (lkl k (Blk.ins l j bit)).num) (.int .i64 (lkl k (Blk.ins l j bit)).len) (.int .i64 (lkl k (Blk.ins l j bit)).ones) (.int .i64 (lkl k (Blk.ins l j bit)).ht))
  clear hT5 hV5 hb5 key2
  go_wp2_with fail
  try simp only [Exit.inBlock, Exit.then]
  refine bodyPost_ret (v := lkv (lkl k (Blk.ins l j bit))) (by simp [results, Tryd.results70, go_sem, lkv, *]) rfl ⟨.leaf k (Blk.ins l j bit), _, rfl, fin.out.1, fin.out.2, ?_, ?_⟩
  · refine Chg.same ⟨n, b, upd_at _ _ _⟩ (List.nodup_cons.2 ⟨List.not_mem_nil, List.nodup_nil⟩) (List.Perm.refl _) (fun j hj => upd_ne _ _ (fun e => hj (e ▸ List.mem_singleton.2 rfl)))
  · have hil := Blk.ins_len (b := bit) hj
    refine ⟨rfl, trivial, fun f => ?_, fun f => ?_, Nat.le_refl _, Nat.le_succ _, rfl, Nat.le_add_right _ _, rfl, Nat.le_refl _, ?_⟩
    · have f1 := f.1
      exact ⟨by rw [hil]; omega, by rw [hil]; omega⟩
    · show (Blk.ins l j bit).length ≤ 128
      rw [hil]; omega
    · show S.T.length = max S.T.length S.live
      have := S.live_le; omega
/-- A leaf became two, with a parent above. -/
theorem Tr.Chg.split {s s2 s3 s4 : Sto} {k ku kp n b ub g2 pb : Nat} {l l0 l1 : List Bool} (h0 : s k ≠ none) (h2k : s2 k = some (n, .lf b l0)) (h2 : ∀ j, j ≠ k → s2 j = s j) (hu : s2 ku = none) (h3 : s3 = upd s2 ku (some (ub, .lf g2 l1))) (hp : s3 kp = none) (h4 : s4 = upd s3 kp (some (pb, .pr (lkl k l0) (lkl ku l1)))) :
    Chg s s4 (.leaf k l) (.node kp (.leaf k l0) (.leaf ku l1)) := by
  have n1 : ku ≠ k := fun e => by subst e; rw [h2k] at hu; cases hu
  have n2 : kp ≠ ku := fun e => by subst e; rw [h3, upd_at] at hp; cases hp
  have n3 : kp ≠ k := fun e => by subst e; rw [h3, upd_ne _ _ n1.symm, h2k] at hp; cases hp
  have v : ∀ j, j ≠ kp → j ≠ ku → s4 j = s2 j := fun j a b => by rw [h4, upd_ne _ _ a, h3, upd_ne _ _ b]
  refine ⟨⟨⟨pb, by rw [h4, upd_at]; rfl⟩, ⟨n, b, (v k n3.symm n1.symm).trans h2k⟩, ⟨ub, g2, by rw [h4, upd_ne _ _ n2.symm, h3, upd_at]⟩⟩, ?_, fun j h1 h5 => ?_, fun j h1 h5 => ?_⟩
  · show (kp :: ([k] ++ [ku])).Nodup
    simp [n1.symm, n2, n3]
  · have hjk : j ≠ k := fun e => h1 (e ▸ List.mem_singleton.2 rfl)
    have hju : j ≠ ku := fun e => by subst e; rw [h2 j hjk] at hu; exact h5 hu
    have hjp : j ≠ kp := fun e => by subst e; rw [h3, upd_ne _ _ hju, h2 j hjk] at hp; exact h5 hp
    refine ⟨(v j hjp hju).trans (h2 j hjk), ?_⟩
    show j ∉ kp :: ([k] ++ [ku])
    simp [hjk, hju, hjp]
  · have h1' : j ∉ kp :: ([k] ++ [ku]) := h1
    simp only [List.cons_append, List.nil_append, List.mem_cons, List.not_mem_nil, or_false, not_or] at h1'
    rw [v j h1'.1 h1'.2.2, h2 j h1'.2.1]
    rcases h5 with h5 | h5
    · exact absurd (List.mem_singleton.1 h5) h1'.2.1
    · exact h5
theorem Mv.set4new {w0 w : World} {S S' : St} (h : Mv w0 w S S') {r : Nat} (hr : w0.heap.size ≤ r) (i j k l : Nat) (a b c d : Value) : Mv w0 ((((w.setCell ⟨r, i, none⟩ a).setCell ⟨r, j, none⟩ b).setCell ⟨r, k, none⟩ c).setCell ⟨r, l, none⟩ d) S S' :=
  ⟨(((h.st.setCell (p := ⟨r, i, none⟩) (.inl hr) _).setCell (p := ⟨r, j, none⟩) (.inl hr) _).setCell (p := ⟨r, k, none⟩) (.inl hr) _).setCell (p := ⟨r, l, none⟩) (.inl hr) _, h.ne⟩
theorem Freshed.mv {base t nb k : Nat} {w0 w w' : World} {S0 S S' : St} {d : Nd} (h : Freshed base w w' t nb d S S' k) (hV : Mv w0 w S0 S) (h1 : w0.heap.size ≤ nb) (h2 : ∀ b l, d = .lf b l → w0.heap.size ≤ b) : Mv w0 w' S0 S' := by
  obtain ⟨a1, a2, a3, a4, a5, a6, a7, a8, a9⟩ := h
  refine ⟨hV.st.trans a9 (fun i hi hs => ?_), fun b hb => ?_⟩
  · rcases hV.ne i hs with h | h
    · exact h
    · omega
  · rcases a8 b hb with h | h | h | ⟨l, h⟩
    · exact hV.ne b h
    · exact .inr (Nat.le_trans hV.st.size h)
    · exact .inr (h ▸ h1)
    · exact .inr (h2 b l h)
theorem Freshed.unowned {base t nb k b : Nat} {w w' : World} {S S' : St} {d : Nd} (h : Freshed base w w' t nb d S S' k) (h0 : S.own b = none) (hb : b < w.heap.size) (h1 : b ≠ nb) (h2 : ∀ l, d ≠ .lf b l) : S'.own b = none := by
  cases e : S'.own b with
  | none => rfl
  | some x =>
    rcases h.2.2.2.2.2.2.2.1 b (by rw [e]; exact fun h => by cases h) with h | h | h | ⟨l, h⟩
    · exact absurd h0 h
    · omega
    · exact absurd h h1
    · exact absurd h (h2 l)
theorem Mv.fresh {w0 w w' : World} {S S' : St} {Z : Nat → Prop} (h : Mv w0 w S S') (hst : Stay Z w w') (hz : ∀ i, Z i → w0.heap.size ≤ i) : Mv w0 w' S S' :=
  ⟨h.st.trans hst (fun i hi hs => absurd (hz i hs) (by omega)), h.ne⟩
theorem Below.drewed {w w' : World} (h : Below w.drew.heap.size w.drew w') : Below w.heap.size w w' := (Below.drews (Below.refl _ w)).trans h
/-- A node's cells just made, for a store of a link. -/
structure Z4 (w : World) (r i j k l : Nat) : Prop where
  c0 : ∃ v, w.cell? ⟨r, i, none⟩ = some v
  c1 : ∃ v, w.cell? ⟨r, j, none⟩ = some v
  c2 : ∃ v, w.cell? ⟨r, k, none⟩ = some v
  c3 : ∃ v, w.cell? ⟨r, l, none⟩ = some v
set_option maxHeartbeats 3200000 in
theorem tinleaf_lo {base t k j : Nat} {S : St} {l : List Bool} (bit : Bool) (w : World) (h : TM base w t S) (hi : Is S.sto (.leaf k l)) (hj : j ≤ l.length) (hlen : l.length = 128) (hjc : j ≤ 64) (hl : S.live + 2 ≤ 268435456) (hv : S.vis < 1000000000000) :
    Calls Tryd.prog 70 #[.pointer (some ⟨t, 0, none⟩), .int .i64 k, .int .i64 j, .bool bit] w fun e w' => ∃ t' S', e = .returned (lkv t'.lk) ∧ TM base w' t S' ∧ Mv w w' S S' ∧ Chg S.sto S'.sto (.leaf k l) t' ∧ Ins S S' (.leaf k l) t' j bit 2 := by
  obtain ⟨n, b, hk⟩ := id hi
  have hb0 : Below w.heap.size w (w.alloc ZL) := Below.allocs (Below.refl _ _) _
  have h0 := h.below hb0
  obtain ⟨len, c, lb, e1, _, e2, e3, e4, e5, e6, e7⟩ := h0.seen hk
  obtain ⟨A, B, hNH, hN, hB, hob, hon⟩ := h0.lf hk
  have n0 := hN.c0
  have key := bins_full j bit _ hB hlen
  have keyS := bsplit_any _ hB
  have hl2 : l.length / 2 = 64 := by omega
  rw [hl2] at keyS
  have hl64 : (l.take 64).length = 64 := by rw [List.length_take]; omega
  have hr64 : (l.drop 64).length = 64 := by rw [List.length_drop]; omega
  have H := Lib.hid h
  have HK := Lib.hid hk
  have H0 := Lib.hid h0
  have HI := Lib.hid hi
  have HNH := Lib.hid hNH
  have HL := Lib.hid hl
  have hro := h.new (Nat.le_refl _)
  have hbn : ¬ n = b := fun e => by rw [e, hob] at hon; cases hon
  have hbase : base ≤ w.heap.size := by have := h.lt; omega
  have hjc0 : (j : Int) ≤ 64 := by omega
  have hdummy := hjc0
  have HLEN := Lib.hid (And.intro hlen (And.intro hl64 (And.intro hr64 hjc)))
  clear h h0 hN hk hi hB hl hNH hlen hl2 hl64 hr64
  go_enter Tryd.func70, Tryd.ntmps70
  go_wp2_with fail
  (with_reducible refine key.mono ?_); rintro e w0' ⟨rfl, rfl⟩
  go_wp2_with fail
  (with_reducible refine keyS.mono ?_); rintro e w1 ⟨g2, rfl, hg2, hB1, hG1, hs1⟩
  have hz1 := hs1.size
  have hob' : S.own b = some (.bk k) := hob
  have hog2 : S.own g2 = none := H0.out.new hg2
  obtain ⟨hT1, hV1⟩ := H0.out.leaf HK.out hB1 hs1
  have hn1 := hs1.kept HNH.out hbn
  have n0' := (cellsN hn1).c0
  have hg2n : ¬ g2 = b := fun e => by rw [e, hob'] at hog2; cases hog2
  have hlt2 := hG1.lt
  have HT1 := Lib.hid hT1
  have HV1 := Lib.hid hV1
  have hB1' := hB1.below (Below.allocs (Below.refl _ _) (NZ (some ⟨g2, 0, none⟩))) hB1.lt
  have hG1' := hG1.below (Below.allocs (Below.refl _ _) (NZ (some ⟨g2, 0, none⟩))) hlt2
  have hn1' : (w1.alloc (NZ (some ⟨g2, 0, none⟩))).cell? ⟨n, 0, none⟩ = some (.pointer (some ⟨b, 0, none⟩)) := (World.cell?_alloc_past _ _ _ (lt_of_block hn1)).trans n0'
  have keyL := blen_any _ hB1'
  rw [HLEN.out.2.1] at keyL
  have keyI := bins_yes j bit _ hB1' (by rw [HLEN.out.2.1]; decide) (by rw [HLEN.out.2.1]; exact HLEN.out.2.2.2)
  have HB1 := Lib.hid hB1'
  have HG1 := Lib.hid hG1'
  have HN1 := Lib.hid hn1
  clear hB1 hG1 hs1 hT1 hV1 hn1 key keyS e1 e2 e6 e7 n0 hB1' hG1'
  go_wp2_with (first
    | (go_at_call 75; (with_reducible refine keyL.mono ?_); rintro e w2 ⟨rfl, rfl⟩))
  (with_reducible refine keyI.mono ?_); rintro e w2 ⟨rfl, hI2, hs2⟩
  have hzA : w1.heap.size + 1 ≤ w2.heap.size := by have := hs2.size; simp at this; omega
  have hT1A := HT1.out.below (Below.allocs (Below.refl _ _) (NZ (some ⟨g2, 0, none⟩)))
  have hV1A := HV1.out.below (Below.allocs (Below.refl _ _) (NZ (some ⟨g2, 0, none⟩)))
  obtain ⟨hT2, hV2'⟩ := hT1A.leaf (upd_at _ _ _) hI2 hs2
  have hV2 : Mv (w.alloc ZL) w2 S ((S.lay k n (.lf b (l.take 64))).lay k n (.lf b (Blk.ins (l.take 64) j bit))) := hV1A.trans hV2'
  have hG2 : IsBlk w2 g2 (l.drop 64) := HG1.out.stay hs2 hg2n
  have hU2 : w2.heap[w1.heap.size]? = some (NZ (some ⟨g2, 0, none⟩)) := hs2.kept alloc_of (fun e => by have := HB1.out.lt; simp at this; have h9 := hob'; rw [← e, H0.out.new hz1] at h9; cases h9)
  have HU2 := Lib.hid hU2
  have HG2 := Lib.hid hG2
  have HT2 := Lib.hid hT2
  have HV2 := Lib.hid hV2
  have hoU : ((S.lay k n (.lf b (l.take 64))).lay k n (.lf b (Blk.ins (l.take 64) j bit))).own w1.heap.size = none := H0.out.new hz1
  have hoP : ((S.lay k n (.lf b (l.take 64))).lay k n (.lf b (Blk.ins (l.take 64) j bit))).own w2.heap.size = none := H0.out.new (by omega)
  have hoG : ((S.lay k n (.lf b (l.take 64))).lay k n (.lf b (Blk.ins (l.take 64) j bit))).own g2 = none := hog2
  have hpn : ¬ w2.heap.size = w1.heap.size := by omega
  have hpg : ¬ w2.heap.size = g2 := by omega
  clear hs2 hI2 hT2 hV2 hU2 hG2 HB1 HG1 HN1 n0' hn1' keyL keyI hT1A hV1A HT1 HV1
  go_wp2_with fail
  have hT3 := HT2.out.below (Below.allocs (Below.refl _ _) (NZ none))
  have hV3 := HV2.out.below (Below.allocs (Below.refl _ _) (NZ none))
  have hsto2 : ((S.lay k n (.lf b (l.take 64))).lay k n (.lf b (Blk.ins (l.take 64) j bit))).sto k = some (n, .lf b (Blk.ins (l.take 64) j bit)) := upd_at _ _ _
  have keyL : Calls Tryd.prog 68 #[.pointer (some ⟨t, 0, none⟩), .int .i64 k] (w2.alloc (NZ none)).drew _ := tlink_lf _ (hT3.drewN 1) hsto2
  unfold lkv at keyL
  have hP3 : (w2.alloc (NZ none)).heap[w2.heap.size]? = some (NZ none) := alloc_of
  have hU3 := Below.keptB (Below.allocs (Below.refl _ w2) (NZ none)) HU2.out (lt_of_block HU2.out)
  have hG3 := HG2.out.below (Below.allocs (Below.refl _ w2) (NZ none)) HG2.out.lt
  have HT3 := Lib.hid hT3
  have HV3 := Lib.hid hV3
  have HP3 := Lib.hid hP3
  have HU3 := Lib.hid hU3
  have HG3 := Lib.hid hG3
  have HZ3 := Lib.hid (show w2.heap.size < (w2.alloc (NZ none)).heap.size by simp)
  clear hT3 hV3 hP3 hU3 hG3
  go_cut [] (fun wx => TM base wx t ((S.lay k n (.lf b (l.take 64))).lay k n (.lf b (Blk.ins (l.take 64) j bit))) ∧ Mv (w.alloc ZL) wx S ((S.lay k n (.lf b (l.take 64))).lay k n (.lf b (Blk.ins (l.take 64) j bit))) ∧ wx.heap[w2.heap.size]? = some (.cells (ndv none (lkl k (Blk.ins (l.take 64) j bit)) ⟨0, 0, 0, 0⟩) 88 (0, 0)) ∧ wx.heap[w1.heap.size]? = some (NZ (some ⟨g2, 0, none⟩)) ∧ IsBlk wx g2 (l.drop 64))
  case first =>
    go_region_law (first | (go_simp; (go_at_call 68; (with_reducible refine keyL.mono ?_); rintro e wl ⟨rfl, hbl⟩; (have hbl' := Below.drewed hbl); (have HPL := Lib.hid (Below.keptB hbl' HP3.out HZ3.out)); (have HBL := Lib.hid hbl'); (have p1 := (cell_of (i := 1) HPL.out).trans rfl); (have p2 := (cell_of (i := 2) HPL.out).trans rfl); (have p3 := (cell_of (i := 3) HPL.out).trans rfl); (have p4 := (cell_of (i := 4) HPL.out).trans rfl); (have f1 := free_of (i := 1) HPL.out); (have f2 := free_of (i := 2) HPL.out); (have f3 := free_of (i := 3) HPL.out); (have f4 := free_of (i := 4) HPL.out); clear hbl hbl')))
    all_goals
      go_wp2_with fail
      go_meet
      case rel =>
        have hst4 := Stay.set4 (S := fun i => i = w2.heap.size) (Stay.refl _ wl) rfl 1 2 3 4 (.int .i64 (lkl k (Blk.ins (l.take 64) j bit)).num) (.int .i64 (lkl k (Blk.ins (l.take 64) j bit)).len) (.int .i64 (lkl k (Blk.ins (l.take 64) j bit)).ones) (.int .i64 (lkl k (Blk.ins (l.take 64) j bit)).ht)
        exact ⟨(HT3.out.below HBL.out).set4 hoP 1 2 3 4 _ _ _ _, (HV3.out.below HBL.out).set4new (by omega) 1 2 3 4 _ _ _ _, set4_of (i := 1) HPL.out _, hst4.kept (Below.keptB HBL.out HU3.out (lt_of_block HU3.out)) (fun e => hpn e.symm), (HG3.out.below HBL.out HG3.out.lt).stay hst4 (fun e => hpg e.symm)⟩
  case rest =>
  obtain ⟨hT4, hV4, hP4, hU4, hG4⟩ := hcut
  have hzV4 := hV4.st.size
  have hlP4 := lt_of_block hP4
  have hlU4 := lt_of_block hU4
  have hsz0 : (w.alloc ZL).heap.size = w.heap.size + 1 := by simp
  have hLone : Lone base wc.drew ((S.lay k n (.lf b (l.take 64))).lay k n (.lf b (Blk.ins (l.take 64) j bit))) w1.heap.size (.lf g2 (l.drop 64)) := ⟨⟨⟨⟨0, 0, 0, 0⟩, ⟨0, 0, 0, 0⟩, hU4⟩, hG4⟩, hoU, by omega, fun b l e => by injection e with e _; subst e; exact ⟨hoG, by omega, hG4.lt⟩, hlU4⟩
  have keyF := tfresh wc.drew (hT4.drewN 1) (by have := HL.out; show S.live < _; omega) hLone trivial (by show S.vis < _; omega)
  have HT4 := Lib.hid hT4
  have HV4 := Lib.hid hV4
  have HP4 := Lib.hid hP4
  unfold lkv at keyF
  clear hT4 hV4 hP4 hU4 hG4 hLone keyL HT3 HV3 HP3 HU3 HG3
  go_wp2_with fail
  go_cut [] (fun wx => ∃ ku S3, TM base wx t S3 ∧ ((S.lay k n (.lf b (l.take 64))).lay k n (.lf b (Blk.ins (l.take 64) j bit))).sto ku = none ∧ S3.sto = upd ((S.lay k n (.lf b (l.take 64))).lay k n (.lf b (Blk.ins (l.take 64) j bit))).sto ku (some (w1.heap.size, .lf g2 (l.drop 64))) ∧ S3.rt = S.rt ∧ S3.vis = S.vis + 1 ∧ S3.live = S.live + 1 ∧ S3.T.length = max S.T.length (S.live + 1) ∧ Mv (w.alloc ZL) wx S S3 ∧ S3.own w2.heap.size = none ∧ wx.heap[w2.heap.size]? = some (.cells (ndv none (lkl k (Blk.ins (l.take 64) j bit)) (lkl ku (l.drop 64))) 88 (0, 0)))
  case first =>
    go_region_law (first | (go_simp; (go_at_call 85; (with_reducible refine keyF.mono ?_); rintro e wl ⟨ku, S3, rfl, hFr⟩; (have HFR := Lib.hid hFr); (have HPL := Lib.hid (hFr.2.2.2.2.2.2.2.2.kept HP4.out (fun e => e hoP))); (have pN := cellsN HPL.out); (have p1 := pN.c5); (have p2 := pN.c6); (have p3 := pN.c7); (have p4 := pN.c8); clear pN; (have f1 := free_of (i := 5) HPL.out); (have f2 := free_of (i := 6) HPL.out); (have f3 := free_of (i := 7) HPL.out); (have f4 := free_of (i := 8) HPL.out); clear hFr)))
    all_goals
      go_wp2_with fail
      go_meet
      case rel =>
        obtain ⟨a1, a2, a3, a4, a5, a6, a7, a8, a9⟩ := HFR.out
        have hoP3 : S3.own w2.heap.size = none := Freshed.unowned HFR.out hoP hlP4 hpn (fun l e => by injection e with e _; exact hpg e.symm)
        have hV5 := Freshed.mv HFR.out (HV4.out.below (Below.drews (Below.refl _ _))) (by omega) (fun b l e => by injection e with e _; subst e; exact hg2)
        exact ⟨ku, S3, a1.set4 hoP3 5 6 7 8 _ _ _ _, a2, a3, a4, a5, a6, a7, hV5.set4new (by omega) 5 6 7 8 _ _ _ _, hoP3, set4_of (i := 5) HPL.out _⟩
  case rest =>
  obtain ⟨ku, S3, a1, a2, a3, a4, a5, a6, a7, hV5, hoP3, hP5⟩ := hcut
  have hlP5 := lt_of_block hP5
  have hlen0 : (Blk.ins (l.take 64) j bit).length ≤ 65 := by rw [Blk.ins_len (by rw [HLEN.out.2.1]; exact HLEN.out.2.2.2), HLEN.out.2.1]; decide
  have hlen1 : (l.drop 64).length ≤ 65 := by rw [HLEN.out.2.2.1]; decide
  have hc0 := List.count_le_length (a := true) (l := (Blk.ins (l.take 64) j bit))
  have hc1 := List.count_le_length (a := true) (l := (l.drop 64))
  have hLone : Lone base wc S3 w2.heap.size (.pr (lkl k (Blk.ins (l.take 64) j bit)) (lkl ku (l.drop 64))) := ⟨hP5, hoP3, by omega, (fun b l e => by cases e), hlP5⟩
  have keyF := tfresh wc a1 (by have := HL.out; omega) hLone ⟨by show (Blk.ins (l.take 64) j bit).length + (l.drop 64).length < _; omega, by show (Blk.ins (l.take 64) j bit).count true + (l.drop 64).count true < _; omega, by show 0 < _; decide, by show 0 < _; decide⟩ (by omega)
  unfold lkv at keyF
  have HFR := Lib.hid (And.intro a2 (And.intro a3 (And.intro a4 (And.intro a5 (And.intro a6 a7)))))
  have HV5 := Lib.hid hV5
  clear a1 a2 a3 a4 a5 a6 a7 hV5 hP5 hLone hc0 hc1
  go_wp2_with fail
  (with_reducible refine keyF.mono ?_); rintro e w6 ⟨kp, S4, rfl, hF6⟩
  have hV6 := hF6.mv HV5.out (by omega) (fun b l e => by cases e)
  obtain ⟨b1, b2, b3, b4, b5, b6, b7, b8, b9⟩ := id hF6
  obtain ⟨r0, r1, r2, r3, q0, q1, q2, q3⟩ := Mv.res H.out hV6
  have fin := Lib.hid (Mv.done H.out b1 hV6 (.int .i64 (mk kp (lkl k (Blk.ins (l.take 64) j bit)) (lkl ku (l.drop 64))).num) (.int .i64 (mk kp (lkl k (Blk.ins (l.take 64) j bit)) (lkl ku (l.drop 64))).len) (.int .i64 (mk kp (lkl k (Blk.ins (l.take 64) j bit)) (lkl ku (l.drop 64))).ones) (.int .i64 (mk kp (lkl k (Blk.ins (l.take 64) j bit)) (lkl ku (l.drop 64))).ht))
  have HF6 := Lib.hid (And.intro b2 (And.intro b3 (And.intro b4 (And.intro b5 (And.intro b6 b7)))))
  clear hF6 hV6 b1 b2 b3 b4 b5 b6 b7 b8 b9 keyF
  go_wp2_with fail
  try simp only [Exit.inBlock, Exit.then]
  refine bodyPost_ret (v := lkv (mk kp (lkl k (Blk.ins (l.take 64) j bit)) (lkl ku (l.drop 64)))) (by simp [results, Tryd.results70, go_sem, lkv, lkd, *]) rfl ⟨.node kp (.leaf k (Blk.ins (l.take 64) j bit)) (.leaf ku (l.drop 64)), S4, rfl, fin.out.1, fin.out.2, ?_, ?_⟩
  · obtain ⟨b2, b3, b4, b5, b6, b7⟩ := HF6.out
    obtain ⟨a2, a3, a4, a5, a6, a7⟩ := HFR.out
    refine Chg.split (s2 := ((S.lay k n (.lf b (l.take 64))).lay k n (.lf b (Blk.ins (l.take 64) j bit))).sto) (by rw [HK.out]; exact fun h => by cases h) (upd_at _ _ _) (fun j hj => (upd_ne _ _ hj).trans (upd_ne _ _ hj)) a2 a3 b2 b3
  · obtain ⟨b2, b3, b4, b5, b6, b7⟩ := HF6.out
    obtain ⟨a2, a3, a4', a5, a6, a7'⟩ := HFR.out
    have hll := S.live_le
    have e0 : (Blk.ins (l.take 64) j bit).length ≥ 64 := by rw [Blk.ins_len (by rw [HLEN.out.2.1]; exact HLEN.out.2.2.2), HLEN.out.2.1]; decide
    have e1 : (l.drop 64).length ≥ 64 := by rw [HLEN.out.2.2.1]; decide
    refine ⟨?_, ⟨trivial, trivial, Nat.le_succ _, Nat.le_succ _⟩, fun _ => ⟨⟨by omega, by omega⟩, ⟨by omega, by omega⟩⟩, fun _ => ⟨⟨by omega, by omega⟩, ⟨by omega, by omega⟩⟩, Nat.zero_le _, Nat.le_refl _, b4.trans a4', by omega, ?_, by omega, by omega⟩
    · show (Blk.ins (l.take 64) j bit) ++ (l.drop 64) = Blk.ins l j bit
      rw [← ins_append_lo bit (by rw [HLEN.out.2.1]; exact HLEN.out.2.2.2), List.take_append_drop]
    · show S4.live + 1 = S.live + 3
      omega
set_option maxHeartbeats 3200000 in
theorem tinleaf_hi {base t k j m : Nat} {S : St} {l : List Bool} (bit : Bool) (w : World) (h : TM base w t S) (hi : Is S.sto (.leaf k l)) (hj : j ≤ l.length) (hlen : l.length = 128) (hjc : j = 64 + m) (hm : 0 < m) (hl : S.live + 2 ≤ 268435456) (hv : S.vis < 1000000000000) :
    Calls Tryd.prog 70 #[.pointer (some ⟨t, 0, none⟩), .int .i64 k, .int .i64 j, .bool bit] w fun e w' => ∃ t' S', e = .returned (lkv t'.lk) ∧ TM base w' t S' ∧ Mv w w' S S' ∧ Chg S.sto S'.sto (.leaf k l) t' ∧ Ins S S' (.leaf k l) t' j bit 2 := by
  obtain ⟨n, b, hk⟩ := id hi
  have hb0 : Below w.heap.size w (w.alloc ZL) := Below.allocs (Below.refl _ _) _
  have h0 := h.below hb0
  obtain ⟨len, c, lb, e1, _, e2, e3, e4, e5, e6, e7⟩ := h0.seen hk
  obtain ⟨A, B, hNH, hN, hB, hob, hon⟩ := h0.lf hk
  have n0 := hN.c0
  have key := bins_full j bit _ hB hlen
  have keyS := bsplit_any _ hB
  have hl2 : l.length / 2 = 64 := by omega
  rw [hl2] at keyS
  have hl64 : (l.take 64).length = 64 := by rw [List.length_take]; omega
  have hr64 : (l.drop 64).length = 64 := by rw [List.length_drop]; omega
  have H := Lib.hid h
  have HK := Lib.hid hk
  have H0 := Lib.hid h0
  have HI := Lib.hid hi
  have HNH := Lib.hid hNH
  have HL := Lib.hid hl
  have hro := h.new (Nat.le_refl _)
  have hbn : ¬ n = b := fun e => by rw [e, hob] at hon; cases hon
  have hbase : base ≤ w.heap.size := by have := h.lt; omega
  have hjc0 : ¬ (j : Int) ≤ 64 := by omega
  have hjm : (j : Int) - 64 = m := by omega
  have hmb : (m : Int) ≤ 64 := by omega
  have HLEN := Lib.hid (And.intro hlen (And.intro hl64 (And.intro hr64 hjc)))
  clear h h0 hN hk hi hB hl hNH hlen hl2 hl64 hr64 hjc
  go_enter Tryd.func70, Tryd.ntmps70
  go_wp2_with fail
  (with_reducible refine key.mono ?_); rintro e w0' ⟨rfl, rfl⟩
  go_wp2_with fail
  (with_reducible refine keyS.mono ?_); rintro e w1 ⟨g2, rfl, hg2, hB1, hG1, hs1⟩
  have hz1 := hs1.size
  have hob' : S.own b = some (.bk k) := hob
  have hog2 : S.own g2 = none := H0.out.new hg2
  obtain ⟨hT1, hV1⟩ := H0.out.leaf HK.out hB1 hs1
  have hn1 := hs1.kept HNH.out hbn
  have n0' := (cellsN hn1).c0
  have hg2n : ¬ g2 = b := fun e => by rw [e, hob'] at hog2; cases hog2
  have hlt2 := hG1.lt
  have HT1 := Lib.hid hT1
  have HV1 := Lib.hid hV1
  have hB1' := hB1.below (Below.allocs (Below.refl _ _) (NZ (some ⟨g2, 0, none⟩))) hB1.lt
  have hG1' := hG1.below (Below.allocs (Below.refl _ _) (NZ (some ⟨g2, 0, none⟩))) hlt2
  have hn1' : (w1.alloc (NZ (some ⟨g2, 0, none⟩))).cell? ⟨n, 0, none⟩ = some (.pointer (some ⟨b, 0, none⟩)) := (World.cell?_alloc_past _ _ _ (lt_of_block hn1)).trans n0'
  have keyL := blen_any _ hB1'
  rw [HLEN.out.2.1] at keyL
  have keyI := bins_yes m bit _ hG1' (by rw [HLEN.out.2.2.1]; decide) (by rw [HLEN.out.2.2.1]; have := HLEN.out.2.2.2; have := HLEN.out.1; omega)
  have HB1 := Lib.hid hB1'
  have HG1 := Lib.hid hG1'
  have HN1 := Lib.hid hn1
  clear hB1 hG1 hs1 hT1 hV1 hn1 key keyS e1 e2 e6 e7 n0 hB1' hG1'
  go_wp2_with (first
    | (go_at_call 75; (with_reducible refine keyL.mono ?_); rintro e w2 ⟨rfl, rfl⟩))
  (with_reducible refine keyI.mono ?_); rintro e w2 ⟨rfl, hI2, hs2⟩
  have hzA : w1.heap.size + 1 ≤ w2.heap.size := by have := hs2.size; simp at this; omega
  have hT1A := HT1.out.below (Below.allocs (Below.refl _ _) (NZ (some ⟨g2, 0, none⟩)))
  have hV1A := HV1.out.below (Below.allocs (Below.refl _ _) (NZ (some ⟨g2, 0, none⟩)))
  have hT2 : TM base w2 t (S.lay k n (.lf b (l.take 64))) := hT1A.stay hs2 (fun i hi e => by subst e; exact hi hog2)
  have hV2 : Mv (w.alloc ZL) w2 S (S.lay k n (.lf b (l.take 64))) := hV1A.fresh hs2 (fun i e => by subst e; exact hg2)
  have hG2 : IsBlk w2 g2 (Blk.ins (l.drop 64) m bit) := hI2
  have hU2 : w2.heap[w1.heap.size]? = some (NZ (some ⟨g2, 0, none⟩)) := hs2.kept alloc_of (fun e => by omega)
  have HU2 := Lib.hid hU2
  have HG2 := Lib.hid hG2
  have HT2 := Lib.hid hT2
  have HV2 := Lib.hid hV2
  have hoU : (S.lay k n (.lf b (l.take 64))).own w1.heap.size = none := H0.out.new hz1
  have hoP : (S.lay k n (.lf b (l.take 64))).own w2.heap.size = none := H0.out.new (by omega)
  have hoG : (S.lay k n (.lf b (l.take 64))).own g2 = none := hog2
  have hpn : ¬ w2.heap.size = w1.heap.size := by omega
  have hpg : ¬ w2.heap.size = g2 := by omega
  clear hs2 hI2 hT2 hV2 hU2 hG2 HB1 HG1 HN1 n0' hn1' keyL keyI hT1A hV1A HT1 HV1
  go_wp2_with fail
  have hT3 := HT2.out.below (Below.allocs (Below.refl _ _) (NZ none))
  have hV3 := HV2.out.below (Below.allocs (Below.refl _ _) (NZ none))
  have hsto2 : (S.lay k n (.lf b (l.take 64))).sto k = some (n, .lf b (l.take 64)) := upd_at _ _ _
  have keyL : Calls Tryd.prog 68 #[.pointer (some ⟨t, 0, none⟩), .int .i64 k] (w2.alloc (NZ none)).drew _ := tlink_lf _ (hT3.drewN 1) hsto2
  unfold lkv at keyL
  have hP3 : (w2.alloc (NZ none)).heap[w2.heap.size]? = some (NZ none) := alloc_of
  have hU3 := Below.keptB (Below.allocs (Below.refl _ w2) (NZ none)) HU2.out (lt_of_block HU2.out)
  have hG3 := HG2.out.below (Below.allocs (Below.refl _ w2) (NZ none)) HG2.out.lt
  have HT3 := Lib.hid hT3
  have HV3 := Lib.hid hV3
  have HP3 := Lib.hid hP3
  have HU3 := Lib.hid hU3
  have HG3 := Lib.hid hG3
  have HZ3 := Lib.hid (show w2.heap.size < (w2.alloc (NZ none)).heap.size by simp)
  clear hT3 hV3 hP3 hU3 hG3
  go_cut [] (fun wx => TM base wx t (S.lay k n (.lf b (l.take 64))) ∧ Mv (w.alloc ZL) wx S (S.lay k n (.lf b (l.take 64))) ∧ wx.heap[w2.heap.size]? = some (.cells (ndv none (lkl k (l.take 64)) ⟨0, 0, 0, 0⟩) 88 (0, 0)) ∧ wx.heap[w1.heap.size]? = some (NZ (some ⟨g2, 0, none⟩)) ∧ IsBlk wx g2 (Blk.ins (l.drop 64) m bit))
  case first =>
    go_region_law (first | (go_simp; (go_at_call 68; (with_reducible refine keyL.mono ?_); rintro e wl ⟨rfl, hbl⟩; (have hbl' := Below.drewed hbl); (have HPL := Lib.hid (Below.keptB hbl' HP3.out HZ3.out)); (have HBL := Lib.hid hbl'); (have p1 := (cell_of (i := 1) HPL.out).trans rfl); (have p2 := (cell_of (i := 2) HPL.out).trans rfl); (have p3 := (cell_of (i := 3) HPL.out).trans rfl); (have p4 := (cell_of (i := 4) HPL.out).trans rfl); (have f1 := free_of (i := 1) HPL.out); (have f2 := free_of (i := 2) HPL.out); (have f3 := free_of (i := 3) HPL.out); (have f4 := free_of (i := 4) HPL.out); clear hbl hbl')))
    all_goals
      go_wp2_with fail
      go_meet
      case rel =>
        have hst4 := Stay.set4 (S := fun i => i = w2.heap.size) (Stay.refl _ wl) rfl 1 2 3 4 (.int .i64 (lkl k (l.take 64)).num) (.int .i64 (lkl k (l.take 64)).len) (.int .i64 (lkl k (l.take 64)).ones) (.int .i64 (lkl k (l.take 64)).ht)
        exact ⟨(HT3.out.below HBL.out).set4 hoP 1 2 3 4 _ _ _ _, (HV3.out.below HBL.out).set4new (by omega) 1 2 3 4 _ _ _ _, set4_of (i := 1) HPL.out _, hst4.kept (Below.keptB HBL.out HU3.out (lt_of_block HU3.out)) (fun e => hpn e.symm), (HG3.out.below HBL.out HG3.out.lt).stay hst4 (fun e => hpg e.symm)⟩
  case rest =>
  obtain ⟨hT4, hV4, hP4, hU4, hG4⟩ := hcut
  have hzV4 := hV4.st.size
  have hlP4 := lt_of_block hP4
  have hlU4 := lt_of_block hU4
  have hsz0 : (w.alloc ZL).heap.size = w.heap.size + 1 := by simp
  have hLone : Lone base wc.drew (S.lay k n (.lf b (l.take 64))) w1.heap.size (.lf g2 (Blk.ins (l.drop 64) m bit)) := ⟨⟨⟨⟨0, 0, 0, 0⟩, ⟨0, 0, 0, 0⟩, hU4⟩, hG4⟩, hoU, by omega, fun b l e => by injection e with e _; subst e; exact ⟨hoG, by omega, hG4.lt⟩, hlU4⟩
  have keyF := tfresh wc.drew (hT4.drewN 1) (by have := HL.out; show S.live < _; omega) hLone trivial (by show S.vis < _; omega)
  have HT4 := Lib.hid hT4
  have HV4 := Lib.hid hV4
  have HP4 := Lib.hid hP4
  unfold lkv at keyF
  clear hT4 hV4 hP4 hU4 hG4 hLone keyL HT3 HV3 HP3 HU3 HG3
  go_wp2_with fail
  go_cut [] (fun wx => ∃ ku S3, TM base wx t S3 ∧ (S.lay k n (.lf b (l.take 64))).sto ku = none ∧ S3.sto = upd (S.lay k n (.lf b (l.take 64))).sto ku (some (w1.heap.size, .lf g2 (Blk.ins (l.drop 64) m bit))) ∧ S3.rt = S.rt ∧ S3.vis = S.vis + 1 ∧ S3.live = S.live + 1 ∧ S3.T.length = max S.T.length (S.live + 1) ∧ Mv (w.alloc ZL) wx S S3 ∧ S3.own w2.heap.size = none ∧ wx.heap[w2.heap.size]? = some (.cells (ndv none (lkl k (l.take 64)) (lkl ku (Blk.ins (l.drop 64) m bit))) 88 (0, 0)))
  case first =>
    go_region_law (first | (go_simp; (go_at_call 85; (with_reducible refine keyF.mono ?_); rintro e wl ⟨ku, S3, rfl, hFr⟩; (have HFR := Lib.hid hFr); (have HPL := Lib.hid (hFr.2.2.2.2.2.2.2.2.kept HP4.out (fun e => e hoP))); (have pN := cellsN HPL.out); (have p1 := pN.c5); (have p2 := pN.c6); (have p3 := pN.c7); (have p4 := pN.c8); clear pN; (have f1 := free_of (i := 5) HPL.out); (have f2 := free_of (i := 6) HPL.out); (have f3 := free_of (i := 7) HPL.out); (have f4 := free_of (i := 8) HPL.out); clear hFr)))
    all_goals
      go_wp2_with fail
      go_meet
      case rel =>
        obtain ⟨a1, a2, a3, a4, a5, a6, a7, a8, a9⟩ := HFR.out
        have hoP3 : S3.own w2.heap.size = none := Freshed.unowned HFR.out hoP hlP4 hpn (fun l e => by injection e with e _; exact hpg e.symm)
        have hV5 := Freshed.mv HFR.out (HV4.out.below (Below.drews (Below.refl _ _))) (by omega) (fun b l e => by injection e with e _; subst e; exact hg2)
        exact ⟨ku, S3, a1.set4 hoP3 5 6 7 8 _ _ _ _, a2, a3, a4, a5, a6, a7, hV5.set4new (by omega) 5 6 7 8 _ _ _ _, hoP3, set4_of (i := 5) HPL.out _⟩
  case rest =>
  obtain ⟨ku, S3, a1, a2, a3, a4, a5, a6, a7, hV5, hoP3, hP5⟩ := hcut
  have hlP5 := lt_of_block hP5
  have hlen0 : (l.take 64).length ≤ 65 := by rw [HLEN.out.2.1]; decide
  have hlen1 : (Blk.ins (l.drop 64) m bit).length ≤ 65 := by rw [Blk.ins_len (by rw [HLEN.out.2.2.1]; have := HLEN.out.2.2.2; have := HLEN.out.1; omega), HLEN.out.2.2.1]; decide
  have hc0 := List.count_le_length (a := true) (l := (l.take 64))
  have hc1 := List.count_le_length (a := true) (l := (Blk.ins (l.drop 64) m bit))
  have hLone : Lone base wc S3 w2.heap.size (.pr (lkl k (l.take 64)) (lkl ku (Blk.ins (l.drop 64) m bit))) := ⟨hP5, hoP3, by omega, (fun b l e => by cases e), hlP5⟩
  have keyF := tfresh wc a1 (by have := HL.out; omega) hLone ⟨by show (l.take 64).length + (Blk.ins (l.drop 64) m bit).length < _; omega, by show (l.take 64).count true + (Blk.ins (l.drop 64) m bit).count true < _; omega, by show 0 < _; decide, by show 0 < _; decide⟩ (by omega)
  unfold lkv at keyF
  have HFR := Lib.hid (And.intro a2 (And.intro a3 (And.intro a4 (And.intro a5 (And.intro a6 a7)))))
  have HV5 := Lib.hid hV5
  clear a1 a2 a3 a4 a5 a6 a7 hV5 hP5 hLone hc0 hc1
  go_wp2_with fail
  (with_reducible refine keyF.mono ?_); rintro e w6 ⟨kp, S4, rfl, hF6⟩
  have hV6 := hF6.mv HV5.out (by omega) (fun b l e => by cases e)
  obtain ⟨b1, b2, b3, b4, b5, b6, b7, b8, b9⟩ := id hF6
  obtain ⟨r0, r1, r2, r3, q0, q1, q2, q3⟩ := Mv.res H.out hV6
  have fin := Lib.hid (Mv.done H.out b1 hV6 (.int .i64 (mk kp (lkl k (l.take 64)) (lkl ku (Blk.ins (l.drop 64) m bit))).num) (.int .i64 (mk kp (lkl k (l.take 64)) (lkl ku (Blk.ins (l.drop 64) m bit))).len) (.int .i64 (mk kp (lkl k (l.take 64)) (lkl ku (Blk.ins (l.drop 64) m bit))).ones) (.int .i64 (mk kp (lkl k (l.take 64)) (lkl ku (Blk.ins (l.drop 64) m bit))).ht))
  have HF6 := Lib.hid (And.intro b2 (And.intro b3 (And.intro b4 (And.intro b5 (And.intro b6 b7)))))
  clear hF6 hV6 b1 b2 b3 b4 b5 b6 b7 b8 b9 keyF
  go_wp2_with fail
  try simp only [Exit.inBlock, Exit.then]
  refine bodyPost_ret (v := lkv (mk kp (lkl k (l.take 64)) (lkl ku (Blk.ins (l.drop 64) m bit)))) (by simp [results, Tryd.results70, go_sem, lkv, lkd, *]) rfl ⟨.node kp (.leaf k (l.take 64)) (.leaf ku (Blk.ins (l.drop 64) m bit)), S4, rfl, fin.out.1, fin.out.2, ?_, ?_⟩
  · obtain ⟨b2, b3, b4, b5, b6, b7⟩ := HF6.out
    obtain ⟨a2, a3, a4, a5, a6, a7⟩ := HFR.out
    refine Chg.split (s2 := (S.lay k n (.lf b (l.take 64))).sto) (by rw [HK.out]; exact fun h => by cases h) (upd_at _ _ _) (fun j hj => upd_ne _ _ hj) a2 a3 b2 b3
  · obtain ⟨b2, b3, b4, b5, b6, b7⟩ := HF6.out
    obtain ⟨a2, a3, a4', a5, a6, a7'⟩ := HFR.out
    have hll := S.live_le
    have e0 : (l.take 64).length ≥ 64 := by rw [HLEN.out.2.1]; decide
    have e1 : (Blk.ins (l.drop 64) m bit).length ≥ 64 := by rw [Blk.ins_len (by rw [HLEN.out.2.2.1]; have := HLEN.out.2.2.2; have := HLEN.out.1; omega), HLEN.out.2.2.1]; decide
    refine ⟨?_, ⟨trivial, trivial, Nat.le_succ _, Nat.le_succ _⟩, fun _ => ⟨⟨by omega, by omega⟩, ⟨by omega, by omega⟩⟩, fun _ => ⟨⟨by omega, by omega⟩, ⟨by omega, by omega⟩⟩, Nat.zero_le _, Nat.le_refl _, b4.trans a4', by omega, ?_, by omega, by omega⟩
    · show (l.take 64) ++ (Blk.ins (l.drop 64) m bit) = Blk.ins l j bit
      rw [← ins_append_hi (j := j) bit (by rw [HLEN.out.2.1]; exact HLEN.out.2.2.2), List.take_append_drop]
    · show S4.live + 1 = S.live + 3
      omega
theorem tinleaf {base t k j : Nat} {S : St} {l : List Bool} (bit : Bool) (w : World) (h : TM base w t S) (hi : Is S.sto (.leaf k l)) (hj : j ≤ l.length) (hlen : l.length ≤ 128) (hl : S.live + 2 ≤ 268435456) (hv : S.vis < 1000000000000) :
    Calls Tryd.prog 70 #[.pointer (some ⟨t, 0, none⟩), .int .i64 k, .int .i64 j, .bool bit] w fun e w' => ∃ t' S', e = .returned (lkv t'.lk) ∧ TM base w' t S' ∧ Mv w w' S S' ∧ Chg S.sto S'.sto (.leaf k l) t' ∧ Ins S S' (.leaf k l) t' j bit 2 := by
  by_cases h1 : l.length < 128
  · exact tinleaf_room bit w h hi hj h1
  · by_cases h2 : j ≤ 64
    · exact tinleaf_lo bit w h hi hj (by omega) h2 hl hv
    · exact tinleaf_hi (m := j - 64) bit w h hi hj (by omega) (by omega) (by omega) hl hv
end Go.Proofs.YtaglnomjlnlgoaaDoor
namespace Go.Proofs.YtaglnomjlnlgoaaDoor
open Go Go.RowKit Go.ChangeAt Tr

/-- What is known of an insertion into a smaller tree. -/
def InsIH (base t : Nat) (a : T) (bit : Bool) : Prop :=
  ∀ (w : World) (S : St) (j : Nat), TM base w t S → Is S.sto a → a.ks.Nodup → a.bal → a.full → j ≤ a.bits.length → S.live + 2 ≤ 268435456 → S.vis + 8 * a.ht + 8 ≤ 1000000000 → a.bits.length ≤ 1000000000000 →
    Calls Tryd.prog 58 #[.pointer (some ⟨t, 0, none⟩), .int .i64 a.lk.num, .int .i64 j, .bool bit] w fun e w' => ∃ t' S', e = .returned (lkv t'.lk) ∧ TM base w' t S' ∧ Mv w w' S S' ∧ Chg S.sto S'.sto a t' ∧ Ins S S' a t' j bit (4 * a.ht + 3)
set_option maxHeartbeats 3200000 in
theorem tins_lo {base t k j : Nat} {S : St} {a b : T} (bit : Bool) (w : World) (h : TM base w t S) (hi : Is S.sto (.node k a b)) (hn : (T.node k a b).ks.Nodup) (hbal : (T.node k a b).bal) (hok : (T.node k a b).full) (hjc : j < a.bits.length) (hj : j ≤ (T.node k a b).bits.length) (hl : S.live + 2 ≤ 268435456)
    (hv : S.vis + 8 * (T.node k a b).ht + 8 ≤ 1000000000) (hlen : (T.node k a b).bits.length ≤ 1000000000000) (ih : InsIH base t a bit) :
    Calls Tryd.prog 58 #[.pointer (some ⟨t, 0, none⟩), .int .i64 k, .int .i64 j, .bool bit] w fun e w' => ∃ t' S', e = .returned (lkv t'.lk) ∧ TM base w' t S' ∧ Mv w w' S S' ∧ Chg S.sto S'.sto (.node k a b) t' ∧ Ins S S' (.node k a b) t' j bit (4 * (T.node k a b).ht + 3) := by
  obtain ⟨⟨n, hk⟩, hia, hib⟩ := id hi
  obtain ⟨nk1, nk2, na, nb, nab⟩ := nd_node hn
  obtain ⟨ba, bb, hab, hba⟩ := hbal
  have eh : (T.node k a b).ht = 1 + max a.ht b.ht := rfl
  have el : (T.node k a b).bits.length = a.bits.length + b.bits.length := List.length_append
  rw [eh] at hv
  rw [el] at hlen hj
  have hb0 : Below w.heap.size w (w.alloc ZL) := Below.allocs (Below.refl _ _) _
  have h0 := h.below hb0
  have key := tlook _ h0 hk (by omega)
  have H := Lib.hid h
  have HK := Lib.hid hk
  have H0 := Lib.hid h0
  have HI := Lib.hid hi
  have HL := Lib.hid hl
  have HN := Lib.hid hn
  have HOK := Lib.hid hok
  have hjb : (j : Int) ≤ 1000000000000 := by omega
  have hmb := hjb
  clear h h0 hk hi hn hok eh el
  go_enter Tryd.func58, Tryd.ntmps58
  go_wp2_with fail
  (with_reducible refine key.mono ?_); rintro e w1 ⟨rfl, hT1, hs1⟩
  have hn1 : (S.see (S.vis + 1)).sto k = some (n, .pr a.lk b.lk) := HK.out
  obtain ⟨n0, n1, n2, n3, n4, n5, n6, n7, n8, _⟩ := hT1.pr hn1
  have hV1 : Mv (w.alloc ZL) w1 S (S.see (S.vis + 1)) := Mv.tree H0.out hs1 S.rt (S.vis + 1)
  have HT1 := Lib.hid hT1
  have HV1 := Lib.hid hV1
  have keyL := tisleaf w1 n0
  have keyT := ttoward_0 (k := j) w1 n2 (by rw [T.lk_len]; exact hjc)
  clear hT1 hV1 key hs1 hn1
  go_wp2_with fail
  (with_reducible refine keyL.mono ?_); rintro e w1' ⟨rfl, rfl⟩
  go_wp2_with fail
  (with_reducible refine keyT.mono ?_); rintro e w1' ⟨rfl, rfl⟩
  have hT1d : TM base w1.drew t (S.see (S.vis + 1)) := HT1.out.drewN 1
  have keyI := ih w1.drew (S.see (S.vis + 1)) j hT1d hia na ba HOK.out.1 (by omega) (by exact HL.out) (by show S.vis + 1 + 8 * a.ht + 8 ≤ 1000000000; omega) (by omega)
  clear hT1d
  unfold lkv at keyI
  have z1 : IntKind.i64.wrap 1 = 1 := by decide
  go_wp2_with fail
  go_cut [] (fun wx => ∃ a' S2, TM base wx t (S2.lay k n (.pr a'.lk b.lk)) ∧ Mv (w.alloc ZL) wx S (S2.lay k n (.pr a'.lk b.lk)) ∧ Chg S.sto S2.sto a a' ∧ Ins (S.see (S.vis + 1)) S2 a a' j bit (4 * a.ht + 3))
  case first =>
    go_region_law (first | (go_simp; (go_at_call 58; (with_reducible refine keyI.mono ?_); rintro e w2 ⟨a', S2, rfl, hT2, hV2, hC2, hI2⟩; (have HT2 := Lib.hid hT2); (have HV2 := Lib.hid ((HV1.out.below (Below.drews (Below.refl _ _))).trans hV2)); (have HC2 := Lib.hid hC2); (have HI2 := Lib.hid hI2); (have HS2 := Lib.hid ((Chg.left (n := n) hC2 HI.out HN.out).2.trans HK.out)); (have M3 := HT2.out.pr HS2.out); (have m5 := M3.c1); (have m6 := M3.c2); (have m7 := M3.c3); (have m8 := M3.c4); (have f5 := M3.fz 1); (have f6 := M3.fz 2); (have f7 := M3.fz 3); (have f8 := M3.fz 4); clear M3 hT2 hV2 hC2 hI2)))
    all_goals
      go_wp2_with fail
      go_meet
      case rel => exact ⟨a', S2, HT2.out.side0 HS2.out _, HV2.out.trans (Mv.lay HT2.out HS2.out (Stay.set4 (S := fun i => i = n) (Stay.refl _ _) rfl 1 2 3 4 _ _ _ _)), HC2.out, HI2.out⟩
  case rest =>
  obtain ⟨a', S2, hT3, hV3, hC3, hI3⟩ := hcut
  have hC4 := (Chg.left (n := n) hC3 HI.out HN.out).1
  have i1 := hI3.lo
  have i2 := hI3.hi
  have i3 : S2.vis ≤ S.vis + 1 + (4 * a.ht + 3) := hI3.vis
  have i4 : a'.bits.length = a.bits.length + 1 := by rw [hI3.bits]; exact Blk.ins_len (by omega)
  have keyE := teven (N := 72057594037927936) wc hT3 hC4.is hC4.nd hI3.bal bb (by omega) (by omega) (by show S2.vis < _; omega) (Nat.le_refl _) (bd (by omega) (by omega)) (bd (by omega) (by omega))
  have HT3 := Lib.hid hT3
  have HV3 := Lib.hid hV3
  have HC4 := Lib.hid hC4
  have HI3 := Lib.hid hI3
  clear hT3 hV3 hC3 hI3 hC4 keyI n0 n1 n2 n3 n4 n5 n6 n7 n8
  unfold lkv at keyE
  go_wp2_with fail
  (with_reducible refine keyE.mono ?_); rintro e w5 ⟨t5, S5, rfl, hT5, hV5', hS5, hC5, hE5⟩
  have hV5 := HV3.out.trans hV5'
  obtain ⟨r0, r1, r2, r3, q0, q1, q2, q3⟩ := Mv.res H.out hV5
  have fin := Lib.hid (Mv.done H.out hT5 hV5 (.int .i64 t5.lk.num) (.int .i64 t5.lk.len) (.int .i64 t5.lk.ones) (.int .i64 t5.lk.ht))
  have HS5 := Lib.hid hS5
  have HC5 := Lib.hid hC5
  have HE5 := Lib.hid hE5
  clear hT5 hV5 hV5' hS5 hC5 hE5 keyE
  go_wp2_with fail
  try simp only [Exit.inBlock, Exit.then]
  refine bodyPost_ret (v := lkv t5.lk) (by simp [results, Tryd.results58, go_sem, lkv, *]) rfl ⟨t5, S5, rfl, fin.out.1, fin.out.2, HC4.out.trans HC5.out, ?_⟩
  have hE := HE5.out
  have hI := HI3.out
  have hS := HS5.out
  have e1 : (T.node k a b).ht = 1 + max a.ht b.ht := rfl
  have s1 : S5.vis ≤ S2.vis + 3 := hS.vis
  have s2 : S5.live = S2.live := by unfold St.live; rw [hS.T, hS.F]; rfl
  have k1 := hE.lvs
  have k2 := t5.ks_len
  have k3 := a'.ks_len
  have k4 := a.ks_len
  have k5 := b.ks_len
  have k6 : (T.node k a b).ks.length = 1 + (a.ks.length + b.ks.length) := by show (k :: (a.ks ++ b.ks)).length = _; rw [List.length_cons, List.length_append]; omega
  have k7 : S2.live + a.ks.length = S.live + a'.ks.length := hI.live
  have u1 : S.live ≤ S2.live := hI.up
  have u2 : S2.T.length = max S.T.length S2.live := hI.made
  have hlo := hE.lo
  have hhi := hE.hi
  have hfl := hE.flat
  refine ⟨?_, hE.bal, fun f => hE.full (hI.full f.1) f.2, fun f => T.full.ok (hE.full (hI.full f.1) f.2), ?_, ?_, hS.rt.trans hI.rt, ?_, ?_, ?_, ?_⟩
  · rw [hE.bits, hI.bits]
    show _ = Blk.ins (a.bits ++ b.bits) j bit
    exact (ins_append_lo bit (Nat.le_of_lt hjc)).symm
  · rw [e1]
    by_cases q : a'.ht ≤ b.ht + 1
    · have := hfl q (by omega)
      omega
    · omega
  · rw [e1]; omega
  · rw [e1]; omega
  · rw [s2, k6]; omega
  · rw [s2]; exact u1
  · rw [hS.T, s2]; exact u2
set_option maxHeartbeats 3200000 in
theorem tins_hi {base t k j m : Nat} {S : St} {a b : T} (bit : Bool) (w : World) (h : TM base w t S) (hi : Is S.sto (.node k a b)) (hn : (T.node k a b).ks.Nodup) (hbal : (T.node k a b).bal) (hok : (T.node k a b).full) (hjc : j = a.bits.length + m) (hj : j ≤ (T.node k a b).bits.length) (hl : S.live + 2 ≤ 268435456)
    (hv : S.vis + 8 * (T.node k a b).ht + 8 ≤ 1000000000) (hlen : (T.node k a b).bits.length ≤ 1000000000000) (ih : InsIH base t b bit) :
    Calls Tryd.prog 58 #[.pointer (some ⟨t, 0, none⟩), .int .i64 k, .int .i64 j, .bool bit] w fun e w' => ∃ t' S', e = .returned (lkv t'.lk) ∧ TM base w' t S' ∧ Mv w w' S S' ∧ Chg S.sto S'.sto (.node k a b) t' ∧ Ins S S' (.node k a b) t' j bit (4 * (T.node k a b).ht + 3) := by
  obtain ⟨⟨n, hk⟩, hia, hib⟩ := id hi
  obtain ⟨nk1, nk2, na, nb, nab⟩ := nd_node hn
  obtain ⟨ba, bb, hab, hba⟩ := hbal
  have eh : (T.node k a b).ht = 1 + max a.ht b.ht := rfl
  have el : (T.node k a b).bits.length = a.bits.length + b.bits.length := List.length_append
  rw [eh] at hv
  rw [el] at hlen hj
  have hb0 : Below w.heap.size w (w.alloc ZL) := Below.allocs (Below.refl _ _) _
  have h0 := h.below hb0
  have key := tlook _ h0 hk (by omega)
  have H := Lib.hid h
  have HK := Lib.hid hk
  have H0 := Lib.hid h0
  have HI := Lib.hid hi
  have HL := Lib.hid hl
  have HN := Lib.hid hn
  have HOK := Lib.hid hok
  have hjb : (j : Int) ≤ 1000000000000 := by omega
  have hmb : (m : Int) ≤ 1000000000000 := by omega
  have HJ := Lib.hid hjc
  have hm2 : m ≤ b.bits.length := by omega
  clear hjc
  clear h h0 hk hi hn hok eh el
  go_enter Tryd.func58, Tryd.ntmps58
  go_wp2_with fail
  (with_reducible refine key.mono ?_); rintro e w1 ⟨rfl, hT1, hs1⟩
  have hn1 : (S.see (S.vis + 1)).sto k = some (n, .pr a.lk b.lk) := HK.out
  obtain ⟨n0, n1, n2, n3, n4, n5, n6, n7, n8, _⟩ := hT1.pr hn1
  have hV1 : Mv (w.alloc ZL) w1 S (S.see (S.vis + 1)) := Mv.tree H0.out hs1 S.rt (S.vis + 1)
  have HT1 := Lib.hid hT1
  have HV1 := Lib.hid hV1
  have keyL := tisleaf w1 n0
  have keyT := ttoward_1 (k := j) (m := m) w1 n2 (by rw [T.lk_len]; exact HJ.out) (by omega)
  clear hT1 hV1 key hs1 hn1
  go_wp2_with fail
  (with_reducible refine keyL.mono ?_); rintro e w1' ⟨rfl, rfl⟩
  go_wp2_with fail
  (with_reducible refine keyT.mono ?_); rintro e w1' ⟨rfl, x, rfl⟩
  have HT1' := Lib.hid (HT1.out.drewN x)
  have HV1' := Lib.hid (HV1.out.below ((Below.refl _ _).drewN x))
  clear HT1 HV1 keyT keyL
  have HT1 := HT1'
  have HV1 := HV1'
  clear HT1' HV1' n0 n1 n2 n3 n4 n5 n6 n7 n8
  generalize w1.drewN x = w1 at *
  have hn1 : (S.see (S.vis + 1)).sto k = some (n, .pr a.lk b.lk) := HK.out
  obtain ⟨n0, n1, n2, n3, n4, n5, n6, n7, n8, _⟩ := HT1.out.pr hn1
  have hT1d : TM base w1.drew t (S.see (S.vis + 1)) := HT1.out.drewN 1
  have keyI := ih w1.drew (S.see (S.vis + 1)) m hT1d hib nb bb HOK.out.2 (by omega) (by exact HL.out) (by show S.vis + 1 + 8 * b.ht + 8 ≤ 1000000000; omega) (by omega)
  clear hT1d
  unfold lkv at keyI
  have z1 : IntKind.i64.wrap 1 = 1 := by decide
  go_wp2_with fail
  go_cut [] (fun wx => ∃ b' S2, TM base wx t (S2.lay k n (.pr a.lk b'.lk)) ∧ Mv (w.alloc ZL) wx S (S2.lay k n (.pr a.lk b'.lk)) ∧ Chg S.sto S2.sto b b' ∧ Ins (S.see (S.vis + 1)) S2 b b' m bit (4 * b.ht + 3))
  case first =>
    go_region_law (first | (go_simp; (go_at_call 58; (with_reducible refine keyI.mono ?_); rintro e w2 ⟨b', S2, rfl, hT2, hV2, hC2, hI2⟩; (have HT2 := Lib.hid hT2); (have HV2 := Lib.hid ((HV1.out.below (Below.drews (Below.refl _ _))).trans hV2)); (have HC2 := Lib.hid hC2); (have HI2 := Lib.hid hI2); (have HS2 := Lib.hid ((Chg.right (n := n) hC2 HI.out HN.out).2.trans HK.out)); (have M3 := HT2.out.pr HS2.out); (have m5 := M3.c5); (have m6 := M3.c6); (have m7 := M3.c7); (have m8 := M3.c8); (have f5 := M3.fz 5); (have f6 := M3.fz 6); (have f7 := M3.fz 7); (have f8 := M3.fz 8); clear M3 hT2 hV2 hC2 hI2)))
    all_goals
      go_wp2_with fail
      go_meet
      case rel => exact ⟨b', S2, HT2.out.side1 HS2.out _, HV2.out.trans (Mv.lay HT2.out HS2.out (Stay.set4 (S := fun i => i = n) (Stay.refl _ _) rfl 5 6 7 8 _ _ _ _)), HC2.out, HI2.out⟩
  case rest =>
  obtain ⟨b', S2, hT3, hV3, hC3, hI3⟩ := hcut
  have hC4 := (Chg.right (n := n) hC3 HI.out HN.out).1
  have i1 := hI3.lo
  have i2 := hI3.hi
  have i3 : S2.vis ≤ S.vis + 1 + (4 * b.ht + 3) := hI3.vis
  have i4 : b'.bits.length = b.bits.length + 1 := by rw [hI3.bits]; exact Blk.ins_len (by omega)
  have keyE := teven (N := 72057594037927936) wc hT3 hC4.is hC4.nd ba hI3.bal (by omega) (by omega) (by show S2.vis < _; omega) (Nat.le_refl _) (bd (by omega) (by omega)) (bd (by omega) (by omega))
  have HT3 := Lib.hid hT3
  have HV3 := Lib.hid hV3
  have HC4 := Lib.hid hC4
  have HI3 := Lib.hid hI3
  clear hT3 hV3 hC3 hI3 hC4 keyI n0 n1 n2 n3 n4 n5 n6 n7 n8
  unfold lkv at keyE
  go_wp2_with fail
  (with_reducible refine keyE.mono ?_); rintro e w5 ⟨t5, S5, rfl, hT5, hV5', hS5, hC5, hE5⟩
  have hV5 := HV3.out.trans hV5'
  obtain ⟨r0, r1, r2, r3, q0, q1, q2, q3⟩ := Mv.res H.out hV5
  have fin := Lib.hid (Mv.done H.out hT5 hV5 (.int .i64 t5.lk.num) (.int .i64 t5.lk.len) (.int .i64 t5.lk.ones) (.int .i64 t5.lk.ht))
  have HS5 := Lib.hid hS5
  have HC5 := Lib.hid hC5
  have HE5 := Lib.hid hE5
  clear hT5 hV5 hV5' hS5 hC5 hE5 keyE
  go_wp2_with fail
  try simp only [Exit.inBlock, Exit.then]
  refine bodyPost_ret (v := lkv t5.lk) (by simp [results, Tryd.results58, go_sem, lkv, *]) rfl ⟨t5, S5, rfl, fin.out.1, fin.out.2, HC4.out.trans HC5.out, ?_⟩
  have hE := HE5.out
  have hI := HI3.out
  have hS := HS5.out
  have e1 : (T.node k a b).ht = 1 + max a.ht b.ht := rfl
  have s1 : S5.vis ≤ S2.vis + 3 := hS.vis
  have s2 : S5.live = S2.live := by unfold St.live; rw [hS.T, hS.F]; rfl
  have k1 := hE.lvs
  have k2 := t5.ks_len
  have k3 := b'.ks_len
  have k4 := a.ks_len
  have k5 := b.ks_len
  have k6 : (T.node k a b).ks.length = 1 + (a.ks.length + b.ks.length) := by show (k :: (a.ks ++ b.ks)).length = _; rw [List.length_cons, List.length_append]; omega
  have k7 : S2.live + b.ks.length = S.live + b'.ks.length := hI.live
  have u1 : S.live ≤ S2.live := hI.up
  have u2 : S2.T.length = max S.T.length S2.live := hI.made
  have hlo := hE.lo
  have hhi := hE.hi
  have hfl := hE.flat
  refine ⟨?_, hE.bal, fun f => hE.full f.1 (hI.full f.2), fun f => T.full.ok (hE.full f.1 (hI.full f.2)), ?_, ?_, hS.rt.trans hI.rt, ?_, ?_, ?_, ?_⟩
  · rw [hE.bits, hI.bits]
    show _ = Blk.ins (a.bits ++ b.bits) j bit
    exact (ins_append_hi bit HJ.out).symm
  · rw [e1]
    by_cases q : b'.ht ≤ a.ht + 1
    · have := hfl (by omega) q
      omega
    · omega
  · rw [e1]; omega
  · rw [e1]; omega
  · rw [s2, k6]; omega
  · rw [s2]; exact u1
  · rw [hS.T, s2]; exact u2
set_option maxHeartbeats 3200000 in
theorem tins_leaf {base t k j : Nat} {S : St} {l : List Bool} (bit : Bool) (w : World) (h : TM base w t S) (hi : Is S.sto (.leaf k l)) (hj : j ≤ l.length) (hlen : l.length ≤ 128) (hl : S.live + 2 ≤ 268435456) (hv : S.vis + 8 ≤ 1000000000) :
    Calls Tryd.prog 58 #[.pointer (some ⟨t, 0, none⟩), .int .i64 k, .int .i64 j, .bool bit] w fun e w' => ∃ t' S', e = .returned (lkv t'.lk) ∧ TM base w' t S' ∧ Mv w w' S S' ∧ Chg S.sto S'.sto (.leaf k l) t' ∧ Ins S S' (.leaf k l) t' j bit 3 := by
  obtain ⟨n, b, hk⟩ := id hi
  have hb0 : Below w.heap.size w (w.alloc ZL) := Below.allocs (Below.refl _ _) _
  have h0 := h.below hb0
  have key := tlook _ h0 hk (by omega)
  have H := Lib.hid h
  have HK := Lib.hid hk
  have H0 := Lib.hid h0
  have HI := Lib.hid hi
  have HL := Lib.hid hl
  have hjb : (j : Int) ≤ 128 := by omega
  clear h h0 hk hi
  go_enter Tryd.func58, Tryd.ntmps58
  go_wp2_with fail
  (with_reducible refine key.mono ?_); rintro e w1 ⟨rfl, hT1, hs1⟩
  have hn1 : (S.see (S.vis + 1)).sto k = some (n, .lf b l) := HK.out
  obtain ⟨A, B, _, hN, _, _, _⟩ := hT1.lf hn1
  have n0 := hN.c0
  have hV1 : Mv (w.alloc ZL) w1 S (S.see (S.vis + 1)) := Mv.tree H0.out hs1 S.rt (S.vis + 1)
  have keyL := tisleaf w1 n0
  have keyI := tinleaf (j := j) bit w1 hT1 (show Is (S.see (S.vis + 1)).sto (.leaf k l) from HI.out) hj hlen (by exact HL.out) (by show S.vis + 1 < _; omega)
  unfold lkv at keyI
  have HV1 := Lib.hid hV1
  clear hT1 hV1 key hs1 hn1 hN
  go_wp2_with fail
  (with_reducible refine keyL.mono ?_); rintro e w1' ⟨rfl, rfl⟩
  go_wp2_with fail
  (with_reducible refine keyI.mono ?_); rintro e w5 ⟨t5, S5, rfl, hT5, hV5', hC5, hI5⟩
  have hV5 := HV1.out.trans hV5'
  obtain ⟨r0, r1, r2, r3, q0, q1, q2, q3⟩ := Mv.res H.out hV5
  have fin := Lib.hid (Mv.done H.out hT5 hV5 (.int .i64 t5.lk.num) (.int .i64 t5.lk.len) (.int .i64 t5.lk.ones) (.int .i64 t5.lk.ht))
  have HC5 := Lib.hid hC5
  have HI5 := Lib.hid hI5
  clear hT5 hV5 hV5' hC5 hI5 keyI
  go_wp2_with fail
  try simp only [Exit.inBlock, Exit.then]
  refine bodyPost_ret (v := lkv t5.lk) (by simp [results, Tryd.results58, go_sem, lkv, *]) rfl ⟨t5, S5, rfl, fin.out.1, fin.out.2, HC5.out, ?_⟩
  have hI := HI5.out
  have s1 : S5.vis ≤ S.vis + 1 + 2 := hI.vis
  exact ⟨hI.bits, hI.bal, hI.full, hI.ok, hI.lo, hI.hi, hI.rt, by omega, hI.live, hI.up, hI.made⟩
theorem tins_full (base t : Nat) (bit : Bool) : ∀ a : T, InsIH base t a bit := by
  intro a
  induction a with
  | leaf k l =>
    intro w S j h hi hn hb hf hj hl hv hlen
    exact tins_leaf bit w h hi hj hf.2 hl (by have e : (T.leaf k l).ht = 0 := rfl; omega)
  | node k a b iha ihb =>
    intro w S j h hi hn hb hf hj hl hv hlen
    by_cases hjc : j < a.bits.length
    · exact tins_lo bit w h hi hn hb hf hjc hj hl hv hlen iha
    · exact tins_hi (m := j - a.bits.length) bit w h hi hn hb hf (by omega) hj hl hv hlen ihb
theorem tins {base t j : Nat} {S : St} (a : T) (bit : Bool) (w : World) (h : TM base w t S) (hi : Is S.sto a) (hn : a.ks.Nodup) (hb : a.bal) (hf : a.ok) (hj : j ≤ a.bits.length) (hl : S.live + 2 ≤ 268435456) (hv : S.vis + 8 * a.ht + 8 ≤ 1000000000) (hlen : a.bits.length ≤ 1000000000000) :
    Calls Tryd.prog 58 #[.pointer (some ⟨t, 0, none⟩), .int .i64 a.lk.num, .int .i64 j, .bool bit] w fun e w' => ∃ t' S', e = .returned (lkv t'.lk) ∧ TM base w' t S' ∧ Mv w w' S S' ∧ Chg S.sto S'.sto a t' ∧ Ins S S' a t' j bit (4 * a.ht + 3) := by
  cases a with
  | leaf k l => exact tins_leaf bit w h hi hj hf hl (by have e : (T.leaf k l).ht = 0 := rfl; omega)
  | node k a b => exact tins_full base t bit (.node k a b) w S j h hi hn hb hf hj hl hv hlen
end Go.Proofs.YtaglnomjlnlgoaaDoor
namespace Go.Proofs.YtaglnomjlnlgoaaDoor
open Go Go.RowKit Go.ChangeAt Tr

/-- A leaf is given up: its block is no one's. -/
theorem TM.leave {base : Nat} {w : World} {t : Nat} {S : St} {k n b : Nat} {l : List Bool} (h : TM base w t S) (hk : S.sto k = some (n, .lf b l)) :
    TM base w t { S with own := fun i => if i = b then none else S.own i, sto := upd S.sto k (some (n, .dd)) } := by
  obtain ⟨A, B, h1, _, _, h4, h5⟩ := h.lf hk
  refine h.turn hk (Stay.refl (fun _ => False) _) (fun _ _ e => e.elim) ⟨_, _, _, h1⟩ (fun i x e hx => ?_) (fun i x e => ?_) (fun _ _ e => by cases e)
  · have : i ≠ b := fun e2 => by subst e2; rw [h4] at e; injection e with e; exact hx e.symm
    exact (if_neg this).trans e
  · have e' : (if i = b then none else S.own i) = some x := e
    by_cases hib : i = b
    · rw [if_pos hib] at e'; cases e'
    · rw [if_neg hib] at e'; exact .inl e'
/-- A leaf takes a block that is no one's. -/
theorem TM.adopt {base : Nat} {w w' : World} {t : Nat} {S : St} {k n g : Nat} {d : Nd} {l : List Bool} {A B : Lk} (h : TM base w t S) (hk : S.sto k = some (n, d)) (hg : S.own g = none) (hb : base ≤ g) (hst : Stay (fun i => i = n) w w') (hn : w'.heap[n]? = some (.cells (ndv (some ⟨g, 0, none⟩) A B) 88 (0, 0))) (hi : IsBlk w' g l) :
    TM base w' t { S with own := fun i => if i = g then some (.bk k) else S.own i, sto := upd S.sto k (some (n, .lf g l)) } := by
  have h' := h
  obtain ⟨p, a, c, hx⟩ := h'
  have h1 := (hx.nds _ _ _ hk).1
  refine h.turn hk hst (fun i x e e2 => by subst e; rw [h1] at e2; injection e2 with e2; exact .inl e2.symm) ⟨⟨A, B, hn⟩, hi⟩ (fun i x e _ => ?_) (fun i x e => ?_) (fun b l e => by injection e with e _; subst e; exact if_pos rfl)
  · have : i ≠ g := fun e2 => by subst e2; rw [hg] at e; cases e
    exact (if_neg this).trans e
  · have e' : (if i = g then some (Who.bk k) else S.own i) = some x := e
    by_cases hig : i = g
    · rw [if_pos hig] at e'; injection e' with e'; exact .inr ⟨e'.symm, hig ▸ hb, hig ▸ hi.lt⟩
    · rw [if_neg hig] at e'; exact .inl e'
theorem Tr.upd_upd (s : Sto) (k : Nat) (x y : Option (Nat × Nd)) : upd (upd s k x) k y = upd s k y := by
  funext j
  unfold upd
  split <;> rfl
theorem TM.base_le {base : Nat} {w : World} {t : Nat} {S : St} {b : Nat} {x : Who} (h : TM base w t S) (hb : S.own b = some x) : base ≤ b := by
  obtain ⟨g, a, c, hx⟩ := h
  exact (hx.lab _ _ hb).1
/-- What is behind join, where there was room: s is the side of the few. -/
theorem join_end0 {base t few near nF nN bF bN : Nat} {S : St} {lF lN : List Bool} {A B : Lk} {w w2 w3 : World} (h : TM base w t S) (hF : S.sto few = some (nF, .lf bF lF)) (hN : S.sto near = some (nN, .lf bN lN)) (hne : few ≠ near) (hb2 : Below w.heap.size w w2)
    (h3 : Stay (fun i => i = bF ∨ i = bN) w2 w3) (hJ1 : IsBlk w3 bF (lF ++ lN)) (hJ2 : IsBlk w3 bN []) (hn3 : w3.heap[nN]? = some (.cells (ndv (some ⟨bN, 0, none⟩) A B) 88 (0, 0))) :
    ∃ own' g, TM base (w3.setCell ⟨nN, 0, none⟩ (.pointer (some ⟨bF, 0, none⟩))).drew t { S with own := own', sto := upd (upd S.sto few (some (nF, .dd))) near (some (nN, .lf g (lF ++ lN))) } ∧ Mv w (w3.setCell ⟨nN, 0, none⟩ (.pointer (some ⟨bF, 0, none⟩))).drew S { S with own := own', sto := upd (upd S.sto few (some (nF, .dd))) near (some (nN, .lf g (lF ++ lN))) } := by
  obtain ⟨A1, B1, hF1, hF2, hF3, hF4, hF5⟩ := h.lf hF
  obtain ⟨A2, B2, hN1, hN2, hN3, hN4, hN5⟩ := h.lf hN
  have hbb : bN ≠ bF := fun e => by rw [← e, hN4] at hF4; injection hF4 with hF4; injection hF4 with hF4; exact hne hF4.symm
  have hnb : ¬ nN = bF := fun e => by rw [e, hF4] at hN5; cases hN5
  have hnb2 : ¬ nN = bN := fun e => by rw [e, hN4] at hN5; cases hN5
  have hA := (h.below hb2).leave hF
  have hN' : (upd S.sto few (some (nF, .dd))) near = some (nN, .lf bN lN) := (upd_ne _ _ hne.symm).trans hN
  have hB := hA.turn0 (k := near) (n := nN) (d' := .lf bN []) hN' h3 (fun b x e e2 => by
    have e2' : (if b = bF then none else S.own b) = some x := e2
    rcases e with e | e
    · rw [if_pos e] at e2'; cases e2'
    · rw [if_neg (by rw [e]; exact hbb), e, hN4] at e2'; injection e2' with e2'; exact .inr e2'.symm) ⟨⟨A, B, hn3⟩, hJ2⟩ (fun b l e => by injection e with e _; subst e; exact (if_neg hbb).trans hN4)
  have hset : Stay (fun i => i = nN) w3 (w3.setCell ⟨nN, 0, none⟩ (.pointer (some ⟨bF, 0, none⟩))).drew := (Stay.setCell (S := fun i => i = nN) (Stay.refl _ _) (p := ⟨nN, 0, none⟩) (.inr rfl) _).drew
  have hC := hB.adopt (k := near) (n := nN) (g := bF) (l := lF ++ lN) (A := A) (B := B) (upd_at _ _ _) (if_pos rfl) (h.base_le hF4) hset (set_of hn3 _) (hJ1.stay hset (fun e => hnb e.symm))
  have e : upd (upd (upd S.sto few (some (nF, .dd))) near (some (nN, .lf bN []))) near (some (nN, .lf bF (lF ++ lN))) = upd (upd S.sto few (some (nF, .dd))) near (some (nN, .lf bF (lF ++ lN))) := upd_upd _ _ _ _
  refine ⟨fun i => if i = bF then some (.bk near) else (if i = bF then none else S.own i), bF, ?_, ⟨?_, fun b hb => ?_⟩⟩
  · rw [← e]; exact hC
  · refine ((Stay.of_below (S := fun b => S.own b ≠ none) hb2).trans h3 (fun i _ e => ?_)).trans hset (fun i _ e => ?_)
    · rcases e with e | e
      · rw [e, hF4]; exact fun h => by cases h
      · rw [e, hN4]; exact fun h => by cases h
    · rw [e, hN5]; exact fun h => by cases h
  · have hb' : (if b = bF then some (Who.bk near) else (if b = bF then none else S.own b)) ≠ none := hb
    by_cases e : b = bF
    · left; rw [e, hF4]; exact fun h => by cases h
    · rw [if_neg e, if_neg e] at hb'; exact .inl hb'
theorem join_end1 {base t few near nF nN bF bN : Nat} {S : St} {lF lN : List Bool} {A B : Lk} {w w2 w3 : World} (h : TM base w t S) (hF : S.sto few = some (nF, .lf bF lF)) (hN : S.sto near = some (nN, .lf bN lN)) (hne : few ≠ near) (hb2 : Below w.heap.size w w2)
    (h3 : Stay (fun i => i = bF ∨ i = bN) w2 w3) (hJ1 : IsBlk w3 bN (lN ++ lF)) (hn3 : w3.heap[nN]? = some (.cells (ndv (some ⟨bN, 0, none⟩) A B) 88 (0, 0))) :
    ∃ own' g, TM base (w3.setCell ⟨nN, 0, none⟩ (.pointer (some ⟨bN, 0, none⟩))).drew t { S with own := own', sto := upd (upd S.sto few (some (nF, .dd))) near (some (nN, .lf g (lN ++ lF))) } ∧ Mv w (w3.setCell ⟨nN, 0, none⟩ (.pointer (some ⟨bN, 0, none⟩))).drew S { S with own := own', sto := upd (upd S.sto few (some (nF, .dd))) near (some (nN, .lf g (lN ++ lF))) } := by
  obtain ⟨A1, B1, hF1, hF2, hF3, hF4, hF5⟩ := h.lf hF
  obtain ⟨A2, B2, hN1, hN2, hN3, hN4, hN5⟩ := h.lf hN
  have hbb : bN ≠ bF := fun e => by rw [← e, hN4] at hF4; injection hF4 with hF4; injection hF4 with hF4; exact hne hF4.symm
  have hnb2 : ¬ nN = bN := fun e => by rw [e, hN4] at hN5; cases hN5
  have hnbF : ¬ nN = bF := fun e => by rw [e, hF4] at hN5; cases hN5
  have hA := (h.below hb2).leave hF
  have hN' : (upd S.sto few (some (nF, .dd))) near = some (nN, .lf bN lN) := (upd_ne _ _ hne.symm).trans hN
  have hset : Stay (fun i => i = nN) w3 (w3.setCell ⟨nN, 0, none⟩ (.pointer (some ⟨bN, 0, none⟩))).drew := (Stay.setCell (S := fun i => i = nN) (Stay.refl _ _) (p := ⟨nN, 0, none⟩) (.inr rfl) _).drew
  have hB := hA.turn0 (k := near) (n := nN) (d' := .lf bN (lN ++ lF)) hN' (Z := fun i => (i = bF ∨ i = bN) ∨ i = nN) (w' := (w3.setCell ⟨nN, 0, none⟩ (.pointer (some ⟨bN, 0, none⟩))).drew) ((h3.mono (fun i _ e => .inl e)).trans hset (fun i _ e => .inr e)) (fun b x e e2 => by
    have e2' : (if b = bF then none else S.own b) = some x := e2
    rcases e with (e | e) | e
    · rw [if_pos e] at e2'; cases e2'
    · rw [if_neg (by rw [e]; exact hbb), e, hN4] at e2'; injection e2' with e2'; exact .inr e2'.symm
    · rw [if_neg (by rw [e]; exact hnbF), e, hN5] at e2'; injection e2' with e2'; exact .inl e2'.symm) ⟨⟨A, B, set_of hn3 _⟩, hJ1.stay hset (fun e => hnb2 e.symm)⟩ (fun b l e => by injection e with e _; subst e; exact (if_neg hbb).trans hN4)
  refine ⟨fun i => if i = bF then none else S.own i, bN, hB, ⟨?_, fun b hb => ?_⟩⟩
  · refine ((Stay.of_below (S := fun b => S.own b ≠ none) hb2).trans h3 (fun i _ e => ?_)).trans hset (fun i _ e => ?_)
    · rcases e with e | e
      · rw [e, hF4]; exact fun h => by cases h
      · rw [e, hN4]; exact fun h => by cases h
    · rw [e, hN5]; exact fun h => by cases h
  · have hb' : (if b = bF then none else S.own b) ≠ none := hb
    by_cases e : b = bF
    · rw [if_pos e] at hb'; exact absurd rfl hb'
    · rw [if_neg e] at hb'; exact .inl hb'
/-- The pair of nodes that join lays. -/
abbrev ZP (a b : Option Addr) : Obj := Obj.cells #[.pointer a, .pointer b] 127
/-- A leaf's block is changed for a new one. -/
theorem TM.swap {base : Nat} {w w1 : World} {t : Nat} {S : St} {k n b g : Nat} {l l' : List Bool} (h : TM base w t S) (hk : S.sto k = some (n, .lf b l)) (hb : Below w.heap.size w w1) (hg : w.heap.size ≤ g) (hi : IsBlk w1 g l') :
    ∃ own', TM base (w1.setCell ⟨n, 0, none⟩ (.pointer (some ⟨g, 0, none⟩))) t { S with own := own', sto := upd S.sto k (some (n, .lf g l')) } ∧ Mv w (w1.setCell ⟨n, 0, none⟩ (.pointer (some ⟨g, 0, none⟩))) S { S with own := own', sto := upd S.sto k (some (n, .lf g l')) } := by
  obtain ⟨A, B, h1, _, _, h4, h5⟩ := h.lf hk
  have hA := (h.below hb).leave hk
  have hn1 := Below.keptB hb h1 (lt_of_block h1)
  have hng : ¬ g = n := fun e => by have := lt_of_block h1; omega
  have hgb : ¬ g = b := fun e => by have := (TM.lf h hk).choose_spec.choose_spec.2.2.1.lt; omega
  have hbase : base ≤ w.heap.size := by have := h.lt; omega
  have hset : Stay (fun i => i = n) w1 (w1.setCell ⟨n, 0, none⟩ (.pointer (some ⟨g, 0, none⟩))) := Stay.setCell (S := fun i => i = n) (Stay.refl _ _) (p := ⟨n, 0, none⟩) (.inr rfl) _
  have hC := hA.adopt (k := k) (n := n) (g := g) (l := l') (A := A) (B := B) (upd_at _ _ _) ((if_neg hgb).trans (h.new hg)) (by omega) hset (set_of hn1 _) (hi.stay hset hng)
  have e : upd (upd S.sto k (some (n, .dd))) k (some (n, .lf g l')) = upd S.sto k (some (n, .lf g l')) := upd_upd _ _ _ _
  refine ⟨fun i => if i = g then some (.bk k) else (if i = b then none else S.own i), ?_, ⟨?_, fun i hi2 => ?_⟩⟩
  · rw [← e]; exact hC
  · exact (Stay.of_below (S := fun b => S.own b ≠ none) hb).trans hset (fun i _ e => by rw [e, h5]; exact fun h => by cases h)
  · have hi' : (if i = g then some (Who.bk k) else (if i = b then none else S.own i)) ≠ none := hi2
    by_cases e1 : i = g
    · exact .inr (e1 ▸ hg)
    · by_cases e2 : i = b
      · rw [if_neg e1, if_pos e2] at hi'; exact absurd rfl hi'
      · rw [if_neg e1, if_neg e2] at hi'; exact .inl hi'
theorem OwnB.long {base : Nat} {w : World} {v : Value} {l : List Bool} (h : OwnB base w v l) (hp : 0 < l.length) : ∃ b cap, v = .slice (some ⟨b, 0, none⟩) l.length cap ∧ base ≤ b ∧ b < w.heap.size ∧ l.length ≤ cap ∧ cap ≤ maxLen ∧ ∀ i, i < l.length → w.cell? ⟨b, 0 + i, none⟩ = some (.bool (l.getD i false)) := by
  obtain ⟨b, cap, h1, h2, h3, h4, h5, h6, _⟩ := OwnB.opens h hp
  exact ⟨b, cap, h1, h2, h3, h4, h5, fun i hi => by rw [Nat.zero_add]; exact h6 i hi⟩
theorem Tr.upd_comm (s : Sto) {k j : Nat} (h : k ≠ j) (x y : Option (Nat × Nd)) : upd (upd s k x) j y = upd (upd s j y) k x := by
  funext i
  unfold upd
  by_cases h1 : i = j
  · by_cases h2 : i = k
    · exact absurd (h2.symm.trans h1) h
    · rw [if_pos h1, if_neg h2, if_pos h1]
  · rw [if_neg h1]
    by_cases h2 : i = k
    · rw [if_pos h2, if_pos h2]
    · rw [if_neg h2, if_neg h2, if_neg h1]
theorem RdB.tail {w : World} {l : List Bool} {b cap k : Nat} (hb : b < w.heap.size) (h1 : l.length ≤ cap) (h2 : cap ≤ maxLen) (h3 : ∀ i, i < l.length → w.cell? ⟨b, 0 + i, none⟩ = some (.bool (l.getD i false))) (hk : k ≤ l.length) : RdB w (.slice (some ⟨b, k, none⟩) (l.length - k) (cap - k)) (l.drop k) := by
  refine .inr ⟨b, k, cap - k, by rw [List.length_drop], hb, by rw [List.length_drop]; omega, by unfold maxLen at h2 ⊢; omega, fun i hi => ?_⟩
  rw [List.length_drop] at hi
  have := h3 (k + i) (by omega)
  rw [Nat.zero_add] at this
  rw [this, List.getD_eq_getElem?_getD, List.getD_eq_getElem?_getD, List.getElem?_drop]
theorem row_cells {w : World} {l : List Bool} {b : Nat} (h : ∀ i, i < l.length → w.cell? ⟨b, 0 + i, none⟩ = some (.bool (l.getD i false))) : ∀ j u, (l.map Value.bool)[j]? = some u → w.cell? ((⟨b, 0, none⟩ : Addr).add j) = some u := by
  intro j u hu
  have := take_cells (off := 0) h l.length (Nat.le_refl _) j u
  rw [List.take_length] at this
  exact this hu
set_option maxRecDepth 100000 in
set_option maxHeartbeats 1600000 in
theorem tjoin_yes0 {base t few near nF nN bF bN : Nat} {S : St} {lF lN : List Bool} (w : World) (h : TM base w t S) (hF : S.sto few = some (nF, .lf bF lF)) (hN : S.sto near = some (nN, .lf bN lN)) (hne : few ≠ near) (hlen : lF.length + lN.length ≤ 128) :
    Calls Tryd.prog 88 #[.pointer (some ⟨t, 0, none⟩), .int .i64 few, .int .i64 near, .int .i64 0] w fun e w' => ∃ own' g, e = .returned (.bool true) ∧ TM base w' t { S with own := own', sto := upd (upd S.sto few (some (nF, .dd))) near (some (nN, .lf g (lF ++ lN))) } ∧ Mv w w' S { S with own := own', sto := upd (upd S.sto few (some (nF, .dd))) near (some (nN, .lf g (lF ++ lN))) } := by
  have hnn := h.ndne hF hN hne
  obtain ⟨len, c, lb, e1, _, e2, e3, e4, e5, e6, e7⟩ := h.seen hF
  obtain ⟨len', c', lb', d1, _, d2, d3, d4, d5, _, _⟩ := h.seen hN
  have ee := e1.symm.trans d1
  injection ee with ee
  injection ee with ee1 ee2 ee3
  injection ee1 with ee1
  injection ee1 with ee1
  subst ee1 ee2 ee3
  obtain ⟨A1, B1, hF1, hF2, hF3, hF4, hF5⟩ := h.lf hF
  obtain ⟨A2, B2, hN1, hN2, hN3, hN4, hN5⟩ := h.lf hN
  have f0 := hF2.c0
  have n0 := hN2.c0
  have hbb : bF ≠ bN := fun e => by rw [e, hN4] at hF4; injection hF4 with hF4; injection hF4 with hF4; exact hne hF4.symm
  have hnb1 : ¬ nN = bF := fun e => by rw [e, hF4] at hN5; cases hN5
  have hnb2 : ¬ nN = bN := fun e => by rw [e, hN4] at hN5; cases hN5
  have K : ∀ w', Below w.heap.size w w' → w'.cell? ⟨t, 1, none⟩ = some (.slice (some ⟨lb, 0, none⟩) len c) ∧ w'.cell? ⟨lb, few, none⟩ = some (.pointer (some ⟨nF, 0, none⟩)) ∧ w'.cell? ⟨lb, near, none⟩ = some (.pointer (some ⟨nN, 0, none⟩)) :=
    fun w' hb => ⟨(hb.cell (p := ⟨t, 1, none⟩) e6).trans e1, (hb.cell (p := ⟨lb, few, none⟩) e7).trans e2, (hb.cell (p := ⟨lb, near, none⟩) e7).trans d2⟩
  have H := Lib.hid h
  have HF := Lib.hid hF
  have HN := Lib.hid hN
  have HFB := Lib.hid (And.intro hF1 (And.intro hF3 (And.intro hF4 hF5)))
  have HNB := Lib.hid (And.intro hN1 (And.intro hN3 (And.intro hN4 hN5)))
  have z0 : IntKind.i64.wrap 0 = 0 := by decide
  have z1 : IntKind.i64.wrap 1 = 1 := by decide
  clear h hF hN hF1 hF2 hF3 hF4 hF5 hN1 hN2 hN3 hN4 hN5 d1 d4 d5 e1 e2 d2
  go_enter Tryd.func88, Tryd.ntmps88
  go_wp2_with fail
  go_cut [9] (fun s9 wx => s9 = .pointer (some ⟨w.heap.size, 0, none⟩) ∧ wx = (w.alloc (ZP (some ⟨nF, 0, none⟩) (some ⟨nN, 0, none⟩))).drew)
  case first =>
    go_region_held3 (fun w' => w'.cell? ⟨t, 1, none⟩ = some (.slice (some ⟨lb, 0, none⟩) len c) ∧ w'.cell? ⟨lb, few, none⟩ = some (.pointer (some ⟨nF, 0, none⟩)) ∧ w'.cell? ⟨lb, near, none⟩ = some (.pointer (some ⟨nN, 0, none⟩)))
      (first | (refine K _ ?_; (repeat (first | exact Below.refl _ _ | refine Below.drews ?_ | refine Below.allocs ?_ _))) | go_keep) (fail)
    all_goals
      go_wp2_with fail
      go_meet
      case rel => exact ⟨rfl, rfl⟩
  case rest =>
  obtain ⟨rfl, rfl⟩ := hcut
  have hb1 : Below w.heap.size w (w.alloc (ZP (some ⟨nF, 0, none⟩) (some ⟨nN, 0, none⟩))).drew := Below.drews (Below.allocs (Below.refl _ _) _)
  have p0 : (w.alloc (ZP (some ⟨nF, 0, none⟩) (some ⟨nN, 0, none⟩))).drew.cell? ⟨w.heap.size, 0, none⟩ = some (.pointer (some ⟨nF, 0, none⟩)) := new_cell rfl rfl
  have p1 : (w.alloc (ZP (some ⟨nF, 0, none⟩) (some ⟨nN, 0, none⟩))).drew.cell? ⟨w.heap.size, 1, none⟩ = some (.pointer (some ⟨nN, 0, none⟩)) := new_cell rfl rfl
  have HB1 := Lib.hid hb1
  clear hb1
  generalize (w.alloc (ZP (some ⟨nF, 0, none⟩) (some ⟨nN, 0, none⟩))).drew = w1 at *
  go_wp2_with fail
  go_quiet (fail)
  have hb2 : Below w.heap.size w (w1.drewN nq) := HB1.out.trans ((Below.refl _ _).drewN nq)
  have HB2 := Lib.hid hb2
  clear HB1 p0 p1 hb2
  generalize w1.drewN nq = w2 at *
  have hF1 := Below.keptB HB2.out HFB.out.1 (lt_of_block HFB.out.1)
  have hN1 := Below.keptB HB2.out HNB.out.1 (lt_of_block HNB.out.1)
  have f0' := (cellsN hF1).c0
  have n0' := (cellsN hN1).c0
  have hBF := HFB.out.2.1.below HB2.out HFB.out.2.1.lt
  have hBN := HNB.out.2.1.below HB2.out HNB.out.2.1.lt
  have keyJ := bjoin_yes w2.drew hBF hBN hbb (by omega)
  have HN1 := Lib.hid hN1
  clear hF1 hN1 f0 n0
  go_wp2_with fail
  go_cut [46] (fun s46 wx => s46 = .bool true ∧ IsBlk wx bF (lF ++ lN) ∧ IsBlk wx bN [] ∧ Stay (fun i => i = bF ∨ i = bN) w2 wx)
  case first =>
    go_region_law (first | (go_simp; (go_at_call 100; (with_reducible refine keyJ.mono ?_); rintro e w3 ⟨rfl, hJ1, hJ2, hJ3⟩)))
    all_goals
      go_wp2_with fail
      go_meet
      case rel => exact ⟨rfl, hJ1, hJ2, (Stay.drew (Stay.refl _ w2)).trans (hJ3.mono (fun i _ e => e)) (fun _ _ h => h)⟩
  case rest =>
  obtain ⟨rfl, hJ1, hJ2, hJ3⟩ := hcut
  have hst3 := hJ3
  have hN3 := hJ3.kept HN1.out (fun e => e.elim hnb1 hnb2)
  have n3 := (cellsN hN3).c0
  have fz3 := (cellsN hN3).fz 0
  have hF3 := hJ3.kept (Below.keptB HB2.out HFB.out.1 (lt_of_block HFB.out.1)) (fun e => e.elim (fun e => by have := HFB.out.2.2.2; rw [e, HFB.out.2.2.1] at this; cases this) (fun e => by have := HFB.out.2.2.2; rw [e, HNB.out.2.2.1] at this; cases this))
  have f3 := (cellsN hF3).c0
  -- the list's cells
  have hT0 := H.out.below HB2.out
  have hown : ∀ i, (fun i => i = bF ∨ i = bN) i → ¬ i = t ∧ ¬ i = lb := fun i e => by
    obtain ⟨g, a, c, hx⟩ := H.out
    refine ⟨fun e2 => ?_, fun e2 => ?_⟩
    · rw [e2] at e
      rcases e with e | e
      · have := hx.ownt; rw [e, HFB.out.2.2.1] at this; cases this
      · have := hx.ownt; rw [e, HNB.out.2.2.1] at this; cases this
    · obtain ⟨lb', q1, _, _, q4, _, q6⟩ := hx.list (hx.inT HF.out)
      have q := (cellsT hx.cells).c1
      rw [(K w (Below.refl _ _)).1] at q
      injection q with q
      injection q with q
      rw [q1] at q
      injection q with q
      injection q with q
      rw [e2] at e
      rcases e with e | e
      · rw [← q, e, HFB.out.2.2.1] at q6; cases q6
      · rw [← q, e, HNB.out.2.2.1] at q6; cases q6
  have hK2 := K w2 HB2.out
  have ht2 : t < w2.heap.size := Nat.lt_of_lt_of_le e6 HB2.out.size
  have hl2 : lb < w2.heap.size := Nat.lt_of_lt_of_le e7 HB2.out.size
  have k1 := (hJ3.cell (p := ⟨t, 1, none⟩) ht2 (fun e => (hown t e).1 rfl)).trans hK2.1
  have k2 := (hJ3.cell (p := ⟨lb, near, none⟩) hl2 (fun e => (hown lb e).2 rfl)).trans hK2.2.2
  have htn : ¬ nN = t := fun e => by
    obtain ⟨g, a, c, hx⟩ := H.out
    have := hx.ownt; rw [← e, HNB.out.2.2.2] at this; cases this
  have HJ := Lib.hid (And.intro hJ1 (And.intro hJ2 hJ3))
  have HN3 := Lib.hid hN3
  clear hJ1 hJ2 hJ3 hN3 K hst3 hT0 hown hK2 ht2 hl2 keyJ hBF hBN hF3
  go_wp2_with fail
  go_cut [] (fun wx => wx = (wc.setCell ⟨nN, 0, none⟩ (.pointer (some ⟨bF, 0, none⟩))).drew)
  case first =>
    go_region
    all_goals
      go_wp2_with fail
      go_meet
      case rel => rfl
  case rest =>
  subst hcut
  go_wp2_with fail
  go_ret
  obtain ⟨own', g, q1, q2⟩ := join_end0 H.out HF.out HN.out hne HB2.out HJ.out.2.2 HJ.out.1 HJ.out.2.1 HN3.out
  exact ⟨own', g, rfl, q1, q2⟩
set_option maxRecDepth 100000 in
set_option maxHeartbeats 1600000 in
theorem tjoin_yes1 {base t few near nF nN bF bN : Nat} {S : St} {lF lN : List Bool} (w : World) (h : TM base w t S) (hF : S.sto few = some (nF, .lf bF lF)) (hN : S.sto near = some (nN, .lf bN lN)) (hne : few ≠ near) (hlen : lF.length + lN.length ≤ 128) :
    Calls Tryd.prog 88 #[.pointer (some ⟨t, 0, none⟩), .int .i64 few, .int .i64 near, .int .i64 1] w fun e w' => ∃ own' g, e = .returned (.bool true) ∧ TM base w' t { S with own := own', sto := upd (upd S.sto few (some (nF, .dd))) near (some (nN, .lf g (lN ++ lF))) } ∧ Mv w w' S { S with own := own', sto := upd (upd S.sto few (some (nF, .dd))) near (some (nN, .lf g (lN ++ lF))) } := by
  have hnn := h.ndne hF hN hne
  obtain ⟨len, c, lb, e1, _, e2, e3, e4, e5, e6, e7⟩ := h.seen hF
  obtain ⟨len', c', lb', d1, _, d2, d3, d4, d5, _, _⟩ := h.seen hN
  have ee := e1.symm.trans d1
  injection ee with ee
  injection ee with ee1 ee2 ee3
  injection ee1 with ee1
  injection ee1 with ee1
  subst ee1 ee2 ee3
  obtain ⟨A1, B1, hF1, hF2, hF3, hF4, hF5⟩ := h.lf hF
  obtain ⟨A2, B2, hN1, hN2, hN3, hN4, hN5⟩ := h.lf hN
  have f0 := hF2.c0
  have n0 := hN2.c0
  have hbb : bF ≠ bN := fun e => by rw [e, hN4] at hF4; injection hF4 with hF4; injection hF4 with hF4; exact hne hF4.symm
  have hnb1 : ¬ nN = bF := fun e => by rw [e, hF4] at hN5; cases hN5
  have hnb2 : ¬ nN = bN := fun e => by rw [e, hN4] at hN5; cases hN5
  have K : ∀ w', Below w.heap.size w w' → w'.cell? ⟨t, 1, none⟩ = some (.slice (some ⟨lb, 0, none⟩) len c) ∧ w'.cell? ⟨lb, few, none⟩ = some (.pointer (some ⟨nF, 0, none⟩)) ∧ w'.cell? ⟨lb, near, none⟩ = some (.pointer (some ⟨nN, 0, none⟩)) :=
    fun w' hb => ⟨(hb.cell (p := ⟨t, 1, none⟩) e6).trans e1, (hb.cell (p := ⟨lb, few, none⟩) e7).trans e2, (hb.cell (p := ⟨lb, near, none⟩) e7).trans d2⟩
  have H := Lib.hid h
  have HF := Lib.hid hF
  have HN := Lib.hid hN
  have HFB := Lib.hid (And.intro hF1 (And.intro hF3 (And.intro hF4 hF5)))
  have HNB := Lib.hid (And.intro hN1 (And.intro hN3 (And.intro hN4 hN5)))
  have z0 : IntKind.i64.wrap 0 = 0 := by decide
  have z1 : IntKind.i64.wrap 1 = 1 := by decide
  clear h hF hN hF1 hF2 hF3 hF4 hF5 hN1 hN2 hN3 hN4 hN5 d1 d4 d5 e1 e2 d2
  go_enter Tryd.func88, Tryd.ntmps88
  go_wp2_with fail
  go_cut [9] (fun s9 wx => s9 = .pointer (some ⟨w.heap.size, 0, none⟩) ∧ wx = (w.alloc (ZP (some ⟨nF, 0, none⟩) (some ⟨nN, 0, none⟩))).drew)
  case first =>
    go_region_held3 (fun w' => w'.cell? ⟨t, 1, none⟩ = some (.slice (some ⟨lb, 0, none⟩) len c) ∧ w'.cell? ⟨lb, few, none⟩ = some (.pointer (some ⟨nF, 0, none⟩)) ∧ w'.cell? ⟨lb, near, none⟩ = some (.pointer (some ⟨nN, 0, none⟩)))
      (first | (refine K _ ?_; (repeat (first | exact Below.refl _ _ | refine Below.drews ?_ | refine Below.allocs ?_ _))) | go_keep) (fail)
    all_goals
      go_wp2_with fail
      go_meet
      case rel => exact ⟨rfl, rfl⟩
  case rest =>
  obtain ⟨rfl, rfl⟩ := hcut
  have hb1 : Below w.heap.size w (w.alloc (ZP (some ⟨nF, 0, none⟩) (some ⟨nN, 0, none⟩))).drew := Below.drews (Below.allocs (Below.refl _ _) _)
  have p0 : (w.alloc (ZP (some ⟨nF, 0, none⟩) (some ⟨nN, 0, none⟩))).drew.cell? ⟨w.heap.size, 0, none⟩ = some (.pointer (some ⟨nF, 0, none⟩)) := new_cell rfl rfl
  have p1 : (w.alloc (ZP (some ⟨nF, 0, none⟩) (some ⟨nN, 0, none⟩))).drew.cell? ⟨w.heap.size, 1, none⟩ = some (.pointer (some ⟨nN, 0, none⟩)) := new_cell rfl rfl
  have HB1 := Lib.hid hb1
  clear hb1
  generalize (w.alloc (ZP (some ⟨nF, 0, none⟩) (some ⟨nN, 0, none⟩))).drew = w1 at *
  go_wp2_with fail
  go_quiet (fail)
  have hb2 : Below w.heap.size w (w1.drewN nq) := HB1.out.trans ((Below.refl _ _).drewN nq)
  have HB2 := Lib.hid hb2
  clear HB1 p0 p1 hb2
  generalize w1.drewN nq = w2 at *
  have hF1 := Below.keptB HB2.out HFB.out.1 (lt_of_block HFB.out.1)
  have hN1 := Below.keptB HB2.out HNB.out.1 (lt_of_block HNB.out.1)
  have f0' := (cellsN hF1).c0
  have n0' := (cellsN hN1).c0
  have hBF := HFB.out.2.1.below HB2.out HFB.out.2.1.lt
  have hBN := HNB.out.2.1.below HB2.out HNB.out.2.1.lt
  have keyJ := bjoin_yes w2.drew hBN hBF hbb.symm (by omega)
  have HN1 := Lib.hid hN1
  clear hF1 hN1 f0 n0
  go_wp2_with fail
  go_cut [46] (fun s46 wx => s46 = .bool true ∧ IsBlk wx bN (lN ++ lF) ∧ IsBlk wx bF [] ∧ Stay (fun i => i = bF ∨ i = bN) w2 wx)
  case first =>
    go_region_law (first | (go_simp; (go_at_call 100; (with_reducible refine keyJ.mono ?_); rintro e w3 ⟨rfl, hJ1, hJ2, hJ3⟩)))
    all_goals
      go_wp2_with fail
      go_meet
      case rel => exact ⟨rfl, hJ1, hJ2, (Stay.drew (Stay.refl _ w2)).trans (hJ3.mono (fun i _ e => e.symm)) (fun _ _ h => h)⟩
  case rest =>
  obtain ⟨rfl, hJ1, hJ2, hJ3⟩ := hcut
  have hst3 := hJ3
  have hN3 := hJ3.kept HN1.out (fun e => e.elim hnb1 hnb2)
  have n3 := (cellsN hN3).c0
  have fz3 := (cellsN hN3).fz 0
  -- the list's cells
  have hT0 := H.out.below HB2.out
  have hown : ∀ i, (fun i => i = bF ∨ i = bN) i → ¬ i = t ∧ ¬ i = lb := fun i e => by
    obtain ⟨g, a, c, hx⟩ := H.out
    refine ⟨fun e2 => ?_, fun e2 => ?_⟩
    · rw [e2] at e
      rcases e with e | e
      · have := hx.ownt; rw [e, HFB.out.2.2.1] at this; cases this
      · have := hx.ownt; rw [e, HNB.out.2.2.1] at this; cases this
    · obtain ⟨lb', q1, _, _, q4, _, q6⟩ := hx.list (hx.inT HF.out)
      have q := (cellsT hx.cells).c1
      rw [(K w (Below.refl _ _)).1] at q
      injection q with q
      injection q with q
      rw [q1] at q
      injection q with q
      injection q with q
      rw [e2] at e
      rcases e with e | e
      · rw [← q, e, HFB.out.2.2.1] at q6; cases q6
      · rw [← q, e, HNB.out.2.2.1] at q6; cases q6
  have hK2 := K w2 HB2.out
  have ht2 : t < w2.heap.size := Nat.lt_of_lt_of_le e6 HB2.out.size
  have hl2 : lb < w2.heap.size := Nat.lt_of_lt_of_le e7 HB2.out.size
  have k1 := (hJ3.cell (p := ⟨t, 1, none⟩) ht2 (fun e => (hown t e).1 rfl)).trans hK2.1
  have k2 := (hJ3.cell (p := ⟨lb, near, none⟩) hl2 (fun e => (hown lb e).2 rfl)).trans hK2.2.2
  have htn : ¬ nN = t := fun e => by
    obtain ⟨g, a, c, hx⟩ := H.out
    have := hx.ownt; rw [← e, HNB.out.2.2.2] at this; cases this
  have HJ := Lib.hid (And.intro hJ1 (And.intro hJ2 hJ3))
  have HN3 := Lib.hid hN3
  clear hJ1 hJ2 hJ3 hN3 K hst3 hT0 hown hK2 ht2 hl2 keyJ hBF hBN
  go_wp2_with fail
  go_cut [] (fun wx => wx = (wc.setCell ⟨nN, 0, none⟩ (.pointer (some ⟨bN, 0, none⟩))).drew)
  case first =>
    go_region
    all_goals
      go_wp2_with fail
      go_meet
      case rel => rfl
  case rest =>
  subst hcut
  go_wp2_with fail
  go_ret
  obtain ⟨own', g, q1, q2⟩ := join_end1 H.out HF.out HN.out hne HB2.out HJ.out.2.2 HJ.out.1 HN3.out
  exact ⟨own', g, rfl, q1, q2⟩
set_option maxRecDepth 100000 in
set_option maxHeartbeats 1600000 in
theorem tjoin_no0 {base t few near nF nN bF bN : Nat} {S : St} {lF lN : List Bool} (w : World) (h : TM base w t S) (hF : S.sto few = some (nF, .lf bF lF)) (hN : S.sto near = some (nN, .lf bN lN)) (hne : few ≠ near) (hlen : 128 < lF.length + lN.length) :
    Calls Tryd.prog 88 #[.pointer (some ⟨t, 0, none⟩), .int .i64 few, .int .i64 near, .int .i64 0] w fun e w' => ∃ own' g1 g2, e = .returned (.bool false) ∧ TM base w' t { S with own := own', sto := upd (upd S.sto few (some (nF, .lf g1 ((lF ++ lN).take ((lF ++ lN).length / 2))))) near (some (nN, .lf g2 ((lF ++ lN).drop ((lF ++ lN).length / 2)))) } ∧ Mv w w' S { S with own := own', sto := upd (upd S.sto few (some (nF, .lf g1 ((lF ++ lN).take ((lF ++ lN).length / 2))))) near (some (nN, .lf g2 ((lF ++ lN).drop ((lF ++ lN).length / 2)))) } := by
  have hnn := h.ndne hF hN hne
  obtain ⟨len, c, lb, e1, _, e2, e3, e4, e5, e6, e7⟩ := h.seen hF
  obtain ⟨len', c', lb', d1, _, d2, d3, d4, d5, _, _⟩ := h.seen hN
  have ee := e1.symm.trans d1
  injection ee with ee
  injection ee with ee1 ee2 ee3
  injection ee1 with ee1
  injection ee1 with ee1
  subst ee1 ee2 ee3
  obtain ⟨A1, B1, hF1, hF2, hF3, hF4, hF5⟩ := h.lf hF
  obtain ⟨A2, B2, hN1, hN2, hN3, hN4, hN5⟩ := h.lf hN
  have f0 := hF2.c0
  have n0 := hN2.c0
  have hbb : bF ≠ bN := fun e => by rw [e, hN4] at hF4; injection hF4 with hF4; injection hF4 with hF4; exact hne hF4.symm
  have hnb1 : ¬ nN = bF := fun e => by rw [e, hF4] at hN5; cases hN5
  have hnb2 : ¬ nN = bN := fun e => by rw [e, hN4] at hN5; cases hN5
  have K : ∀ w', Below w.heap.size w w' → w'.cell? ⟨t, 1, none⟩ = some (.slice (some ⟨lb, 0, none⟩) len c) ∧ w'.cell? ⟨lb, few, none⟩ = some (.pointer (some ⟨nF, 0, none⟩)) ∧ w'.cell? ⟨lb, near, none⟩ = some (.pointer (some ⟨nN, 0, none⟩)) :=
    fun w' hb => ⟨(hb.cell (p := ⟨t, 1, none⟩) e6).trans e1, (hb.cell (p := ⟨lb, few, none⟩) e7).trans e2, (hb.cell (p := ⟨lb, near, none⟩) e7).trans d2⟩
  have H := Lib.hid h
  have HF := Lib.hid hF
  have HN := Lib.hid hN
  have HFB := Lib.hid (And.intro hF1 (And.intro hF3 (And.intro hF4 hF5)))
  have HNB := Lib.hid (And.intro hN1 (And.intro hN3 (And.intro hN4 hN5)))
  have z0 : IntKind.i64.wrap 0 = 0 := by decide
  have z1 : IntKind.i64.wrap 1 = 1 := by decide
  clear h hF hN hF1 hF2 hF3 hF4 hF5 hN1 hN2 hN3 hN4 hN5 d1 d4 d5 e1 e2 d2
  go_enter Tryd.func88, Tryd.ntmps88
  go_wp2_with fail
  go_cut [9] (fun s9 wx => s9 = .pointer (some ⟨w.heap.size, 0, none⟩) ∧ wx = (w.alloc (ZP (some ⟨nF, 0, none⟩) (some ⟨nN, 0, none⟩))).drew)
  case first =>
    go_region_held3 (fun w' => w'.cell? ⟨t, 1, none⟩ = some (.slice (some ⟨lb, 0, none⟩) len c) ∧ w'.cell? ⟨lb, few, none⟩ = some (.pointer (some ⟨nF, 0, none⟩)) ∧ w'.cell? ⟨lb, near, none⟩ = some (.pointer (some ⟨nN, 0, none⟩)))
      (first | (refine K _ ?_; (repeat (first | exact Below.refl _ _ | refine Below.drews ?_ | refine Below.allocs ?_ _))) | go_keep) (fail)
    all_goals
      go_wp2_with fail
      go_meet
      case rel => exact ⟨rfl, rfl⟩
  case rest =>
  obtain ⟨rfl, rfl⟩ := hcut
  have hb1 : Below w.heap.size w (w.alloc (ZP (some ⟨nF, 0, none⟩) (some ⟨nN, 0, none⟩))).drew := Below.drews (Below.allocs (Below.refl _ _) _)
  have p0 : (w.alloc (ZP (some ⟨nF, 0, none⟩) (some ⟨nN, 0, none⟩))).drew.cell? ⟨w.heap.size, 0, none⟩ = some (.pointer (some ⟨nF, 0, none⟩)) := new_cell rfl rfl
  have p1 : (w.alloc (ZP (some ⟨nF, 0, none⟩) (some ⟨nN, 0, none⟩))).drew.cell? ⟨w.heap.size, 1, none⟩ = some (.pointer (some ⟨nN, 0, none⟩)) := new_cell rfl rfl
  have HB1 := Lib.hid hb1
  clear hb1
  generalize (w.alloc (ZP (some ⟨nF, 0, none⟩) (some ⟨nN, 0, none⟩))).drew = w1 at *
  go_wp2_with fail
  go_quiet (fail)
  have hb2 : Below w.heap.size w (w1.drewN nq) := HB1.out.trans ((Below.refl _ _).drewN nq)
  have HB2 := Lib.hid hb2
  clear HB1 p0 p1 hb2
  generalize w1.drewN nq = w2 at *
  have hF1 := Below.keptB HB2.out HFB.out.1 (lt_of_block HFB.out.1)
  have hN1 := Below.keptB HB2.out HNB.out.1 (lt_of_block HNB.out.1)
  have f0' := (cellsN hF1).c0
  have n0' := (cellsN hN1).c0
  have hBF := HFB.out.2.1.below HB2.out HFB.out.2.1.lt
  have hBN := HNB.out.2.1.below HB2.out HNB.out.2.1.lt
  have hlF : 0 < lF.length := by have := hBN.1; omega
  have hlN : 0 < lN.length := by have := hBF.1; omega
  have hcF := hBF.1
  have hcN := hBN.1
  have keyJ := bjoin_full w2.drew hBF hBN (by omega)
  have HF1 := Lib.hid hF1
  have HN1 := Lib.hid hN1
  clear hF1 hN1 f0 n0
  go_wp2_with fail
  go_cut [46] (fun s46 wx => s46 = .bool false ∧ Below w2.heap.size w2 wx)
  case first =>
    go_region_law (first | (go_simp; (go_at_call 100; (with_reducible refine keyJ.mono ?_); rintro e w3 ⟨rfl, x, rfl⟩)))
    all_goals
      go_wp2_with fail
      go_meet
      case rel => exact ⟨rfl, (Below.refl _ _).drewN _⟩
  case rest =>
  obtain ⟨rfl, hbc⟩ := hcut
  have hz2 := HB2.out.size
  have hb3 : Below w.heap.size w wc := HB2.out.trans (hbc.mono hz2)
  have hF3 := Below.keptB hb3 HFB.out.1 (lt_of_block HFB.out.1)
  have hN3 := Below.keptB hb3 HNB.out.1 (lt_of_block HNB.out.1)
  have hB3F := HFB.out.2.1.below hb3 HFB.out.2.1.lt
  have hB3N := HNB.out.2.1.below hb3 HNB.out.2.1.lt
  have f3 := (cellsN hF3).c0
  have n3 := (cellsN hN3).c0
  have KC : ∀ w', Below wc.heap.size wc w' → w'.cell? ⟨nF, 0, none⟩ = some (.pointer (some ⟨bF, 0, none⟩)) ∧ w'.cell? ⟨nN, 0, none⟩ = some (.pointer (some ⟨bN, 0, none⟩)) :=
    fun w' hb => ⟨(hb.cell (p := ⟨nF, 0, none⟩) (block_lt_of_cell f3)).trans f3, (hb.cell (p := ⟨nN, 0, none⟩) (block_lt_of_cell n3)).trans n3⟩
  have HB3 := Lib.hid hb3
  have hdF : IsBlk wc.drew bF lF := hB3F
  have keyF := ball_any wc.drew hdF
  have H3N := Lib.hid hB3N
  obtain ⟨i0, hi, hz0, hz1, hz2'⟩ := info_parts infoB
  clear hF3 hN3 hB3F hB3N hb3 hbc keyJ hBF hBN hdF f0' n0' HN1 HF1 f3 n3 hz2
  go_wp2_with fail
  go_cut [12] (fun s12 wx => ∃ v, s12 = v ∧ OwnB wc.heap.size wx v (lF ++ lN) ∧ Below wc.heap.size wc wx)
  case first =>
    go_region_held3 (fun w' => w'.cell? ⟨nF, 0, none⟩ = some (.pointer (some ⟨bF, 0, none⟩)) ∧ w'.cell? ⟨nN, 0, none⟩ = some (.pointer (some ⟨bN, 0, none⟩)))
      (first | (refine KC _ ?_; (first | exact hbA | exact hbB | exact hbD | (repeat (first | exact Below.refl _ _ | refine Below.drews ?_ | refine Below.allocs ?_ _)))) | go_keep)
      (first
       | (go_at_call 61; (with_reducible refine keyF.mono ?_); rintro e w4 ⟨v1, rfl, hown1, hnil1, hb4⟩; (have hbA : Below wc.heap.size wc w4 := Below.drewed hb4); (have hU4 := H3N.out.below hbA H3N.out.lt))
       | (go_at_call 61; (with_reducible refine (ball_any w4 hU4).mono ?_); rintro e w5 ⟨v2, rfl, hown2, hnil2, hb5⟩; (have hbB : Below wc.heap.size wc w5 := hbA.trans (hb5.mono hbA.size)); (have hown15 := ownsRow_below hown1 hb5); (obtain ⟨b2, cap2, rfl, _, hlt2, hc2, hm2, hcell2⟩ := OwnB.long hown2 hlN); (have hsz5 := hbB.size))
       | (refine step_append_own rfl (.tmp 65) (.tmp 70) 30 rfl wc.heap.size 4 i0 (.bool false) 1 1 Tryd.underlying30 hi hz0 hz1 hz2' rfl (by decide) _ _ _ rfl hown15 ⟨b2, 0, none⟩ lN.length cap2 (lN.map Value.bool) rfl (by rw [List.length_map, Nat.mul_one]) (row_cells hcell2) (bools_one _) (by unfold maxLen; omega) (by omega) hsz5 ?_; intro v3 w6 hown6 hgrow6; (have hbD : Below wc.heap.size wc w6 := hbB.grown hgrow6 hsz5 (fun q hq => (hown15.lt q hq).1))))
    all_goals
      go_wp2_with fail
      go_meet
      case rel => exact ⟨_, rfl, OwnB.app hown6, hbD⟩
  case rest =>
  obtain ⟨v, rfl, hown, hb6⟩ := hcut
  have hJl : (lF ++ lN).length = lF.length + lN.length := List.length_append
  obtain ⟨bJ, capJ, rfl, hbase, hltJ, hcJ, hmJ, hcellJ⟩ := OwnB.long hown (by omega)
  obtain ⟨L, hL⟩ : ∃ L, (lF ++ lN).length = L := ⟨_, rfl⟩
  obtain ⟨hf, hq⟩ : ∃ hf, (lF ++ lN).length / 2 = hf := ⟨_, rfl⟩
  have hq1 : hf ≤ (lF ++ lN).length := by omega
  have hq2 : ((lF ++ lN).take hf).length ≤ 128 := by rw [List.length_take]; omega
  have hq3 : ((lF ++ lN).drop hf).length ≤ 128 := by rw [List.length_drop]; omega
  have HQ := Lib.hid hq
  have key7 := bnew_rd wc (RdB.take hltJ hcJ hmJ hcellJ hq1) hq2
  have hqi : (L : Int) / 2 = hf := by omega
  have hfL : (hf : Int) ≤ L := by omega
  have hLc : (L : Int) ≤ capJ := by omega
  have hcm : (capJ : Int) ≤ 9223372036854775807 := by unfold maxLen at hmJ; omega
  have hne2 : ¬ capJ = hf := by omega
  have hne3 : ¬ (capJ : Int) = hf := by omega
  have hfc : (hf : Int) ≤ capJ := by omega
  have HC := Lib.hid hcellJ
  have HL := Lib.hid hL
  have HCJ := Lib.hid (And.intro hcJ (And.intro hmJ (And.intro hq1 hq3)))
  have hb06 : Below w.heap.size w wc := HB3.out.trans (hb6.mono HB3.out.size)
  have HB06 := Lib.hid hb06
  have hnJ : ¬ bJ = nF := fun e => by have := lt_of_block HFB.out.1; have := HB3.out.size; omega
  rw [hL]
  clear hown hcellJ hq hq1 hq2 hq3 hJl hL hcJ hmJ keyF KC hb6 hb06 hlF hlN hcF hcN
  go_wp2_with fail
  (with_reducible refine key7.mono ?_); rintro e w7 ⟨g1, rfl, hg1, hi1, hb7⟩
  have hb07 : Below w.heap.size w w7 := HB06.out.trans (hb7.mono HB06.out.size)
  have hlo7 := Below.keptB hb07 HFB.out.1 (lt_of_block HFB.out.1)
  have l0 := (cellsN hlo7).c0
  have lz := (cellsN hlo7).fz 0
  obtain ⟨own1, hT8, hV8⟩ := (H.out.below HB06.out).swap HF.out hb7 hg1 hi1
  have hup7 := Below.keptB hb07 HNB.out.1 (lt_of_block HNB.out.1)
  have HUP7 := Lib.hid hup7
  have HB7 := Lib.hid hb7
  have HT8 := Lib.hid hT8
  have HV8 := Lib.hid ((Mv.of_below HB06.out).trans hV8)
  have hst8 : Stay (fun i => i = nF) w7 (w7.setCell ⟨nF, 0, none⟩ (.pointer (some ⟨g1, 0, none⟩))) := Stay.setCell (S := fun i => i = nF) (Stay.refl _ _) (p := ⟨nF, 0, none⟩) (.inr rfl) _
  have hlt7 : bJ < w7.heap.size := Nat.lt_of_lt_of_le hltJ HB7.out.size
  have hcell8 : ∀ i, i < (lF ++ lN).length → (w7.setCell ⟨nF, 0, none⟩ (.pointer (some ⟨g1, 0, none⟩))).cell? ⟨bJ, 0 + i, none⟩ = some (.bool ((lF ++ lN).getD i false)) := fun i hi => (hst8.cell (p := ⟨bJ, 0 + i, none⟩) hlt7 hnJ).trans ((HB7.out.cell (p := ⟨bJ, 0 + i, none⟩) hltJ).trans (HC.out i hi))
  have key8 := bnew_rd _ (RdB.tail (Nat.lt_of_lt_of_le hlt7 hst8.size) HCJ.out.1 HCJ.out.2.1 hcell8 HCJ.out.2.2.1) HCJ.out.2.2.2
  rw [HL.out] at key8
  have hup8 := hst8.kept HUP7.out (fun e => hnn e.symm)
  have HUP8 := Lib.hid hup8
  clear hlo7 hup7 hb07 hT8 hV8 hi1 hb7 key7 hst8 hcell8 hup8
  go_wp2_with fail
  generalize w7.setCell ⟨nF, 0, none⟩ (.pointer (some ⟨g1, 0, none⟩)) = w8 at *
  (with_reducible refine key8.mono ?_); rintro e w9 ⟨g2, rfl, hg2, hi2, hb9⟩
  have hup9 := Below.keptB hb9 HUP8.out (lt_of_block HUP8.out)
  have l0' := (cellsN hup9).c0
  have lz' := (cellsN hup9).fz 0
  obtain ⟨own2, hTX, hVX⟩ := HT8.out.swap (k := near) (n := nN) (l := lN) ((upd_ne _ _ hne.symm).trans HN.out) hb9 hg2 hi2
  have fin := Lib.hid (And.intro hTX (HV8.out.trans hVX))
  clear hup9 hTX hVX hi2 hb9 key8 l0 lz
  go_wp2_with fail
  go_ret
  refine ⟨own2, g1, g2, rfl, ?_⟩
  rw [HQ.out]
  exact fin.out
set_option maxRecDepth 100000 in
set_option maxHeartbeats 1600000 in
theorem tjoin_no1 {base t few near nF nN bF bN : Nat} {S : St} {lF lN : List Bool} (w : World) (h : TM base w t S) (hF : S.sto few = some (nF, .lf bF lF)) (hN : S.sto near = some (nN, .lf bN lN)) (hne : few ≠ near) (hlen : 128 < lF.length + lN.length) :
    Calls Tryd.prog 88 #[.pointer (some ⟨t, 0, none⟩), .int .i64 few, .int .i64 near, .int .i64 1] w fun e w' => ∃ own' g1 g2, e = .returned (.bool false) ∧ TM base w' t { S with own := own', sto := upd (upd S.sto few (some (nF, .lf g1 ((lN ++ lF).drop ((lN ++ lF).length / 2))))) near (some (nN, .lf g2 ((lN ++ lF).take ((lN ++ lF).length / 2)))) } ∧ Mv w w' S { S with own := own', sto := upd (upd S.sto few (some (nF, .lf g1 ((lN ++ lF).drop ((lN ++ lF).length / 2))))) near (some (nN, .lf g2 ((lN ++ lF).take ((lN ++ lF).length / 2)))) } := by
  have hnn := h.ndne hF hN hne
  obtain ⟨len, c, lb, e1, _, e2, e3, e4, e5, e6, e7⟩ := h.seen hF
  obtain ⟨len', c', lb', d1, _, d2, d3, d4, d5, _, _⟩ := h.seen hN
  have ee := e1.symm.trans d1
  injection ee with ee
  injection ee with ee1 ee2 ee3
  injection ee1 with ee1
  injection ee1 with ee1
  subst ee1 ee2 ee3
  obtain ⟨A1, B1, hF1, hF2, hF3, hF4, hF5⟩ := h.lf hF
  obtain ⟨A2, B2, hN1, hN2, hN3, hN4, hN5⟩ := h.lf hN
  have f0 := hF2.c0
  have n0 := hN2.c0
  have hbb : bF ≠ bN := fun e => by rw [e, hN4] at hF4; injection hF4 with hF4; injection hF4 with hF4; exact hne hF4.symm
  have hnb1 : ¬ nN = bF := fun e => by rw [e, hF4] at hN5; cases hN5
  have hnb2 : ¬ nN = bN := fun e => by rw [e, hN4] at hN5; cases hN5
  have K : ∀ w', Below w.heap.size w w' → w'.cell? ⟨t, 1, none⟩ = some (.slice (some ⟨lb, 0, none⟩) len c) ∧ w'.cell? ⟨lb, few, none⟩ = some (.pointer (some ⟨nF, 0, none⟩)) ∧ w'.cell? ⟨lb, near, none⟩ = some (.pointer (some ⟨nN, 0, none⟩)) :=
    fun w' hb => ⟨(hb.cell (p := ⟨t, 1, none⟩) e6).trans e1, (hb.cell (p := ⟨lb, few, none⟩) e7).trans e2, (hb.cell (p := ⟨lb, near, none⟩) e7).trans d2⟩
  have H := Lib.hid h
  have HF := Lib.hid hF
  have HN := Lib.hid hN
  have HFB := Lib.hid (And.intro hF1 (And.intro hF3 (And.intro hF4 hF5)))
  have HNB := Lib.hid (And.intro hN1 (And.intro hN3 (And.intro hN4 hN5)))
  have z0 : IntKind.i64.wrap 0 = 0 := by decide
  have z1 : IntKind.i64.wrap 1 = 1 := by decide
  clear h hF hN hF1 hF2 hF3 hF4 hF5 hN1 hN2 hN3 hN4 hN5 d1 d4 d5 e1 e2 d2
  go_enter Tryd.func88, Tryd.ntmps88
  go_wp2_with fail
  go_cut [9] (fun s9 wx => s9 = .pointer (some ⟨w.heap.size, 0, none⟩) ∧ wx = (w.alloc (ZP (some ⟨nF, 0, none⟩) (some ⟨nN, 0, none⟩))).drew)
  case first =>
    go_region_held3 (fun w' => w'.cell? ⟨t, 1, none⟩ = some (.slice (some ⟨lb, 0, none⟩) len c) ∧ w'.cell? ⟨lb, few, none⟩ = some (.pointer (some ⟨nF, 0, none⟩)) ∧ w'.cell? ⟨lb, near, none⟩ = some (.pointer (some ⟨nN, 0, none⟩)))
      (first | (refine K _ ?_; (repeat (first | exact Below.refl _ _ | refine Below.drews ?_ | refine Below.allocs ?_ _))) | go_keep) (fail)
    all_goals
      go_wp2_with fail
      go_meet
      case rel => exact ⟨rfl, rfl⟩
  case rest =>
  obtain ⟨rfl, rfl⟩ := hcut
  have hb1 : Below w.heap.size w (w.alloc (ZP (some ⟨nF, 0, none⟩) (some ⟨nN, 0, none⟩))).drew := Below.drews (Below.allocs (Below.refl _ _) _)
  have p0 : (w.alloc (ZP (some ⟨nF, 0, none⟩) (some ⟨nN, 0, none⟩))).drew.cell? ⟨w.heap.size, 0, none⟩ = some (.pointer (some ⟨nF, 0, none⟩)) := new_cell rfl rfl
  have p1 : (w.alloc (ZP (some ⟨nF, 0, none⟩) (some ⟨nN, 0, none⟩))).drew.cell? ⟨w.heap.size, 1, none⟩ = some (.pointer (some ⟨nN, 0, none⟩)) := new_cell rfl rfl
  have HB1 := Lib.hid hb1
  clear hb1
  generalize (w.alloc (ZP (some ⟨nF, 0, none⟩) (some ⟨nN, 0, none⟩))).drew = w1 at *
  go_wp2_with fail
  go_quiet (fail)
  have hb2 : Below w.heap.size w (w1.drewN nq) := HB1.out.trans ((Below.refl _ _).drewN nq)
  have HB2 := Lib.hid hb2
  clear HB1 p0 p1 hb2
  generalize w1.drewN nq = w2 at *
  have hF1 := Below.keptB HB2.out HFB.out.1 (lt_of_block HFB.out.1)
  have hN1 := Below.keptB HB2.out HNB.out.1 (lt_of_block HNB.out.1)
  have f0' := (cellsN hF1).c0
  have n0' := (cellsN hN1).c0
  have hBF := HFB.out.2.1.below HB2.out HFB.out.2.1.lt
  have hBN := HNB.out.2.1.below HB2.out HNB.out.2.1.lt
  have hlF : 0 < lF.length := by have := hBN.1; omega
  have hlN : 0 < lN.length := by have := hBF.1; omega
  have hcF := hBF.1
  have hcN := hBN.1
  have keyJ := bjoin_full w2.drew hBN hBF (by omega)
  have HF1 := Lib.hid hF1
  have HN1 := Lib.hid hN1
  clear hF1 hN1 f0 n0
  go_wp2_with fail
  go_cut [46] (fun s46 wx => s46 = .bool false ∧ Below w2.heap.size w2 wx)
  case first =>
    go_region_law (first | (go_simp; (go_at_call 100; (with_reducible refine keyJ.mono ?_); rintro e w3 ⟨rfl, x, rfl⟩)))
    all_goals
      go_wp2_with fail
      go_meet
      case rel => exact ⟨rfl, (Below.refl _ _).drewN _⟩
  case rest =>
  obtain ⟨rfl, hbc⟩ := hcut
  have hz2 := HB2.out.size
  have hb3 : Below w.heap.size w wc := HB2.out.trans (hbc.mono hz2)
  have hF3 := Below.keptB hb3 HFB.out.1 (lt_of_block HFB.out.1)
  have hN3 := Below.keptB hb3 HNB.out.1 (lt_of_block HNB.out.1)
  have hB3F := HFB.out.2.1.below hb3 HFB.out.2.1.lt
  have hB3N := HNB.out.2.1.below hb3 HNB.out.2.1.lt
  have f3 := (cellsN hF3).c0
  have n3 := (cellsN hN3).c0
  have KC : ∀ w', Below wc.heap.size wc w' → w'.cell? ⟨nF, 0, none⟩ = some (.pointer (some ⟨bF, 0, none⟩)) ∧ w'.cell? ⟨nN, 0, none⟩ = some (.pointer (some ⟨bN, 0, none⟩)) :=
    fun w' hb => ⟨(hb.cell (p := ⟨nF, 0, none⟩) (block_lt_of_cell f3)).trans f3, (hb.cell (p := ⟨nN, 0, none⟩) (block_lt_of_cell n3)).trans n3⟩
  have HB3 := Lib.hid hb3
  have hdN : IsBlk wc.drew bN lN := hB3N
  have keyN := ball_any wc.drew hdN
  have H3F := Lib.hid hB3F
  obtain ⟨i0, hi, hz0, hz1, hz2'⟩ := info_parts infoB
  clear hF3 hN3 hB3F hB3N hb3 hbc keyJ hBF hBN hdN f0' n0' HN1 HF1 f3 n3 hz2
  go_wp2_with fail
  go_cut [12] (fun s12 wx => ∃ v, s12 = v ∧ OwnB wc.heap.size wx v (lN ++ lF) ∧ Below wc.heap.size wc wx)
  case first =>
    go_region_held3 (fun w' => w'.cell? ⟨nF, 0, none⟩ = some (.pointer (some ⟨bF, 0, none⟩)) ∧ w'.cell? ⟨nN, 0, none⟩ = some (.pointer (some ⟨bN, 0, none⟩)))
      (first | (refine KC _ ?_; (first | exact hbA | exact hbB | exact hbD | (repeat (first | exact Below.refl _ _ | refine Below.drews ?_ | refine Below.allocs ?_ _)))) | go_keep)
      (first
       | (go_at_call 61; (with_reducible refine keyN.mono ?_); rintro e w4 ⟨v1, rfl, hown1, hnil1, hb4⟩; (have hbA : Below wc.heap.size wc w4 := Below.drewed hb4); (have hU4 := H3F.out.below hbA H3F.out.lt))
       | (go_at_call 61; (with_reducible refine (ball_any w4 hU4).mono ?_); rintro e w5 ⟨v2, rfl, hown2, hnil2, hb5⟩; (have hbB : Below wc.heap.size wc w5 := hbA.trans (hb5.mono hbA.size)); (have hown15 := ownsRow_below hown1 hb5); (obtain ⟨b2, cap2, rfl, _, hlt2, hc2, hm2, hcell2⟩ := OwnB.long hown2 hlF); (have hsz5 := hbB.size))
       | (refine step_append_own rfl (.tmp 65) (.tmp 70) 30 rfl wc.heap.size 4 i0 (.bool false) 1 1 Tryd.underlying30 hi hz0 hz1 hz2' rfl (by decide) _ _ _ rfl hown15 ⟨b2, 0, none⟩ lF.length cap2 (lF.map Value.bool) rfl (by rw [List.length_map, Nat.mul_one]) (row_cells hcell2) (bools_one _) (by unfold maxLen; omega) (by omega) hsz5 ?_; intro v3 w6 hown6 hgrow6; (have hbD : Below wc.heap.size wc w6 := hbB.grown hgrow6 hsz5 (fun q hq => (hown15.lt q hq).1))))
    all_goals
      go_wp2_with fail
      go_meet
      case rel => exact ⟨_, rfl, OwnB.app hown6, hbD⟩
  case rest =>
  obtain ⟨v, rfl, hown, hb6⟩ := hcut
  have hJl : (lN ++ lF).length = lF.length + lN.length := List.length_append.trans (Nat.add_comm _ _)
  obtain ⟨bJ, capJ, rfl, hbase, hltJ, hcJ, hmJ, hcellJ⟩ := OwnB.long hown (by omega)
  obtain ⟨L, hL⟩ : ∃ L, (lN ++ lF).length = L := ⟨_, rfl⟩
  obtain ⟨hf, hq⟩ : ∃ hf, (lN ++ lF).length / 2 = hf := ⟨_, rfl⟩
  have hq1 : hf ≤ (lN ++ lF).length := by omega
  have hq2 : ((lN ++ lF).take hf).length ≤ 128 := by rw [List.length_take]; omega
  have hq3 : ((lN ++ lF).drop hf).length ≤ 128 := by rw [List.length_drop]; omega
  have HQ := Lib.hid hq
  have key7 := bnew_rd wc (RdB.take hltJ hcJ hmJ hcellJ hq1) hq2
  have hqi : (L : Int) / 2 = hf := by omega
  have hfL : (hf : Int) ≤ L := by omega
  have hLc : (L : Int) ≤ capJ := by omega
  have hcm : (capJ : Int) ≤ 9223372036854775807 := by unfold maxLen at hmJ; omega
  have hne2 : ¬ capJ = hf := by omega
  have hne3 : ¬ (capJ : Int) = hf := by omega
  have hfc : (hf : Int) ≤ capJ := by omega
  have HC := Lib.hid hcellJ
  have HL := Lib.hid hL
  have HCJ := Lib.hid (And.intro hcJ (And.intro hmJ (And.intro hq1 hq3)))
  have hb06 : Below w.heap.size w wc := HB3.out.trans (hb6.mono HB3.out.size)
  have HB06 := Lib.hid hb06
  have hnJ : ¬ bJ = nN := fun e => by have := lt_of_block HNB.out.1; have := HB3.out.size; omega
  rw [hL]
  clear hown hcellJ hq hq1 hq2 hq3 hJl hL hcJ hmJ keyN KC hb6 hb06 hlF hlN hcF hcN
  go_wp2_with fail
  (with_reducible refine key7.mono ?_); rintro e w7 ⟨g1, rfl, hg1, hi1, hb7⟩
  have hb07 : Below w.heap.size w w7 := HB06.out.trans (hb7.mono HB06.out.size)
  have hlo7 := Below.keptB hb07 HNB.out.1 (lt_of_block HNB.out.1)
  have l0 := (cellsN hlo7).c0
  have lz := (cellsN hlo7).fz 0
  obtain ⟨own1, hT8, hV8⟩ := (H.out.below HB06.out).swap HN.out hb7 hg1 hi1
  have hup7 := Below.keptB hb07 HFB.out.1 (lt_of_block HFB.out.1)
  have HUP7 := Lib.hid hup7
  have HB7 := Lib.hid hb7
  have HT8 := Lib.hid hT8
  have HV8 := Lib.hid ((Mv.of_below HB06.out).trans hV8)
  have hst8 : Stay (fun i => i = nN) w7 (w7.setCell ⟨nN, 0, none⟩ (.pointer (some ⟨g1, 0, none⟩))) := Stay.setCell (S := fun i => i = nN) (Stay.refl _ _) (p := ⟨nN, 0, none⟩) (.inr rfl) _
  have hlt7 : bJ < w7.heap.size := Nat.lt_of_lt_of_le hltJ HB7.out.size
  have hcell8 : ∀ i, i < (lN ++ lF).length → (w7.setCell ⟨nN, 0, none⟩ (.pointer (some ⟨g1, 0, none⟩))).cell? ⟨bJ, 0 + i, none⟩ = some (.bool ((lN ++ lF).getD i false)) := fun i hi => (hst8.cell (p := ⟨bJ, 0 + i, none⟩) hlt7 hnJ).trans ((HB7.out.cell (p := ⟨bJ, 0 + i, none⟩) hltJ).trans (HC.out i hi))
  have key8 := bnew_rd _ (RdB.tail (Nat.lt_of_lt_of_le hlt7 hst8.size) HCJ.out.1 HCJ.out.2.1 hcell8 HCJ.out.2.2.1) HCJ.out.2.2.2
  rw [HL.out] at key8
  have hup8 := hst8.kept HUP7.out (fun e => hnn e)
  have HUP8 := Lib.hid hup8
  clear hlo7 hup7 hb07 hT8 hV8 hi1 hb7 key7 hst8 hcell8 hup8
  go_wp2_with fail
  generalize w7.setCell ⟨nN, 0, none⟩ (.pointer (some ⟨g1, 0, none⟩)) = w8 at *
  (with_reducible refine key8.mono ?_); rintro e w9 ⟨g2, rfl, hg2, hi2, hb9⟩
  have hup9 := Below.keptB hb9 HUP8.out (lt_of_block HUP8.out)
  have l0' := (cellsN hup9).c0
  have lz' := (cellsN hup9).fz 0
  obtain ⟨own2, hTX, hVX⟩ := HT8.out.swap (k := few) (n := nF) (l := lF) ((upd_ne _ _ hne).trans HF.out) hb9 hg2 hi2
  have fin := Lib.hid (And.intro hTX (HV8.out.trans hVX))
  clear hup9 hTX hVX hi2 hb9 key8 l0 lz
  go_wp2_with fail
  go_ret
  refine ⟨own2, g2, g1, rfl, ?_⟩
  rw [HQ.out]
  rw [Tr.upd_comm _ hne]; exact fin.out
end Go.Proofs.YtaglnomjlnlgoaaDoor
