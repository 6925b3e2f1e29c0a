/- insertInLeaf: contracts of the walk. -/
import Derived.Test.YtfbhcbcpeocmcaaDoorTmH
namespace Go.Proofs.YtfbhcbcpeocmcaaDoor
open Go Go.RowKit Go.ChangeAt Tr

theorem TM.lf {base : Nat} {w : World} {t : Nat} {S : St} {k n b : Nat} {l : List Bool} (h : TM base w t S) (hk : S.sto k = some (n, .lf b l)) : ∃ A B : Lk, w.heap[n]? = some (.cells (ndv (some ⟨b, 0, none⟩) A B) 74 (0, 0)) ∧ CellsN w n (some ⟨b, 0, none⟩) A B ∧ IsBlk w b l ∧ S.own b = some (.bk k) ∧ S.own n = some (.nd k) := by
  obtain ⟨g, a, c, hx⟩ := h
  obtain ⟨h1, ⟨A, B, h2⟩, h3⟩ := hx.nds _ _ _ hk
  exact ⟨A, B, h2, cellsN h2, h3, hx.bks _ _ _ _ hk, h1⟩
/-- A node that was made just now. -/
abbrev NZ (p : Option Addr) : Obj := Obj.cells #[.pointer p, .int .i64 0, .int .i64 0, .int .i64 0, .int .i64 0, .int .i64 0, .int .i64 0, .int .i64 0, .int .i64 0] 74
/-- A leaf's bits were turned. -/
theorem TM.leaf {base : Nat} {w w' : World} {t : Nat} {S : St} {k n b : Nat} {l l' : List Bool} (h : TM base w t S) (hk : S.sto k = some (n, .lf b l)) (hb : IsBlk w' b l') (hst : Stay (fun i => i = b) w w') :
    TM base w' t (S.lay k n (.lf b l')) ∧ Mv w w' S (S.lay k n (.lf b l')) := by
  obtain ⟨A, B, h1, _, _, h4, h5⟩ := h.lf hk
  have hnb : ¬ n = b := fun e => by rw [e, h4] at h5; cases h5
  refine ⟨h.turn0 hk hst (fun i x e e2 => by subst e; rw [h4] at e2; injection e2 with e2; exact .inr e2.symm) ⟨⟨A, B, hst.kept h1 hnb⟩, hb⟩ (fun b2 l2 e => by injection e with e _; subst e; exact h4), ⟨hst.mono (fun i _ e => by subst e; show S.own i ≠ none; rw [h4]; exact fun h => by cases h), fun b hb => .inl hb⟩⟩
/-- What an insertion makes of a tree, and of its state. -/
structure Ins (S S' : St) (t t' : T) (k : Nat) (bit : Bool) (c : Nat) : Prop where
  bits : t'.bits = Blk.ins t.bits k bit
  bal : t'.bal
  full : t.full → t'.full
  ok : t.ok → t'.ok
  lo : t.ht ≤ t'.ht
  hi : t'.ht ≤ t.ht + 1
  rt : S'.rt = S.rt
  vis : S'.vis ≤ S.vis + c
  live : S'.live + t.ks.length = S.live + t'.ks.length
  up : S.live ≤ S'.live
  made : S'.T.length = max S.T.length S'.live
theorem St.live_le (S : St) : S.live ≤ S.T.length := Nat.sub_le _ _
theorem ins_append_lo {l0 l1 : List Bool} {j : Nat} (bit : Bool) (hj : j ≤ l0.length) : Blk.ins (l0 ++ l1) j bit = Blk.ins l0 j bit ++ l1 := by
  unfold Blk.ins
  rw [List.take_append_of_le_length hj, List.drop_append_of_le_length hj, List.append_assoc]
  rfl
theorem ins_append_hi {l0 l1 : List Bool} {j m : Nat} (bit : Bool) (hj : j = l0.length + m) : Blk.ins (l0 ++ l1) j bit = l0 ++ Blk.ins l1 m bit := by
  subst hj
  unfold Blk.ins
  rw [List.take_append, List.drop_append, List.take_of_length_le (Nat.le_add_right _ _), List.drop_of_length_le (Nat.le_add_right _ _), Nat.add_sub_cancel_left, List.append_assoc]
  rfl
set_option maxHeartbeats 1600000 in
theorem tinleaf_room {base t k j : Nat} {S : St} {l : List Bool} (bit : Bool) (w : World) (h : TM base w t S) (hi : Is S.sto (.leaf k l)) (hj : j ≤ l.length) (hlen : l.length < 128) :
    Calls Tryd.prog 56 #[.pointer (some ⟨t, 0, none⟩), .int .i64 k, .int .i64 j, .bool bit] w fun e w' => ∃ t' S', e = .returned (lkv t'.lk) ∧ TM base w' t S' ∧ Mv w w' S S' ∧ Chg S.sto S'.sto (.leaf k l) t' ∧ Ins S S' (.leaf k l) t' j bit 2 := by
  obtain ⟨n, b, hk⟩ := id hi
  have hb0 : Below w.heap.size w (w.alloc ZL) := Below.allocs (Below.refl _ _) _
  have h0 := h.below hb0
  obtain ⟨len, c, lb, e1, _, e2, e3, e4, e5, e6, e7⟩ := h0.seen hk
  obtain ⟨A, B, _, hN, hB, hob, _⟩ := h0.lf hk
  have n0 := hN.c0
  have key := bins_yes j bit _ hB hlen hj
  have H := Lib.hid h
  have HK := Lib.hid hk
  have H0 := Lib.hid h0
  have HI := Lib.hid hi
  clear h h0 hN hk hi hB
  go_enter Tryd.func56, Tryd.ntmps56
  go_wp2_with fail
  (with_reducible refine key.mono ?_); rintro e w1 ⟨rfl, hB1, hs1⟩
  obtain ⟨hT1, hV1⟩ := H0.out.leaf HK.out hB1 hs1
  have hk1 : (S.lay k n (.lf b (Blk.ins l j bit))).sto k = some (n, .lf b (Blk.ins l j bit)) := upd_at _ _ _
  have key2 := tlink_lf w1 hT1 hk1
  unfold lkv at key2
  have HV1 := Lib.hid hV1
  have HT1 := Lib.hid hT1
  clear hT1 hV1 hs1 hB1 key hk1
  go_wp2_with fail
  (with_reducible refine key2.mono ?_); rintro e w5 ⟨rfl, hb5⟩
  have hT5 := HT1.out.below hb5
  have hV5 := HV1.out.below hb5
  obtain ⟨r0, r1, r2, r3, q0, q1, q2, q3⟩ := Mv.res H.out hV5
  have fin := Lib.hid (Mv.done H.out hT5 hV5 (.int .i64 (lkl k (Blk.ins l j bit)).num) (.int .i64 (lkl k (Blk.ins l j bit)).len) (.int .i64 (lkl k (Blk.ins l j bit)).ones) (.int .i64 (lkl k (Blk.ins l j bit)).ht))
  clear hT5 hV5 hb5 key2
  go_wp2_with fail
  try simp only [Exit.inBlock, Exit.then]
  refine bodyPost_ret (v := lkv (lkl k (Blk.ins l j bit))) (by simp [results, Tryd.results56, go_sem, lkv, *]) rfl ⟨.leaf k (Blk.ins l j bit), _, rfl, fin.out.1, fin.out.2, ?_, ?_⟩
  · refine Chg.same ⟨n, b, upd_at _ _ _⟩ (List.nodup_cons.2 ⟨List.not_mem_nil, List.nodup_nil⟩) (List.Perm.refl _) (fun j hj => upd_ne _ _ (fun e => hj (e ▸ List.mem_singleton.2 rfl)))
  · have hil := Blk.ins_len (b := bit) hj
    refine ⟨rfl, trivial, fun f => ?_, fun f => ?_, Nat.le_refl _, Nat.le_succ _, rfl, Nat.le_add_right _ _, rfl, Nat.le_refl _, ?_⟩
    · have f1 := f.1
      exact ⟨by rw [hil]; omega, by rw [hil]; omega⟩
    · show (Blk.ins l j bit).length ≤ 128
      rw [hil]; omega
    · show S.T.length = max S.T.length S.live
      have := S.live_le; omega
/-- A leaf became two, with a parent above. -/
theorem Tr.Chg.split {s s2 s3 s4 : Sto} {k ku kp n b ub g2 pb : Nat} {l l0 l1 : List Bool} (h0 : s k ≠ none) (h2k : s2 k = some (n, .lf b l0)) (h2 : ∀ j, j ≠ k → s2 j = s j) (hu : s2 ku = none) (h3 : s3 = upd s2 ku (some (ub, .lf g2 l1))) (hp : s3 kp = none) (h4 : s4 = upd s3 kp (some (pb, .pr (lkl k l0) (lkl ku l1)))) :
    Chg s s4 (.leaf k l) (.node kp (.leaf k l0) (.leaf ku l1)) := by
  have n1 : ku ≠ k := fun e => by subst e; rw [h2k] at hu; cases hu
  have n2 : kp ≠ ku := fun e => by subst e; rw [h3, upd_at] at hp; cases hp
  have n3 : kp ≠ k := fun e => by subst e; rw [h3, upd_ne _ _ n1.symm, h2k] at hp; cases hp
  have v : ∀ j, j ≠ kp → j ≠ ku → s4 j = s2 j := fun j a b => by rw [h4, upd_ne _ _ a, h3, upd_ne _ _ b]
  refine ⟨⟨⟨pb, by rw [h4, upd_at]; rfl⟩, ⟨n, b, (v k n3.symm n1.symm).trans h2k⟩, ⟨ub, g2, by rw [h4, upd_ne _ _ n2.symm, h3, upd_at]⟩⟩, ?_, fun j h1 h5 => ?_, fun j h1 h5 => ?_⟩
  · show (kp :: ([k] ++ [ku])).Nodup
    simp [n1.symm, n2, n3]
  · have hjk : j ≠ k := fun e => h1 (e ▸ List.mem_singleton.2 rfl)
    have hju : j ≠ ku := fun e => by subst e; rw [h2 j hjk] at hu; exact h5 hu
    have hjp : j ≠ kp := fun e => by subst e; rw [h3, upd_ne _ _ hju, h2 j hjk] at hp; exact h5 hp
    refine ⟨(v j hjp hju).trans (h2 j hjk), ?_⟩
    show j ∉ kp :: ([k] ++ [ku])
    simp [hjk, hju, hjp]
  · have h1' : j ∉ kp :: ([k] ++ [ku]) := h1
    simp only [List.cons_append, List.nil_append, List.mem_cons, List.not_mem_nil, or_false, not_or] at h1'
    rw [v j h1'.1 h1'.2.2, h2 j h1'.2.1]
    rcases h5 with h5 | h5
    · exact absurd (List.mem_singleton.1 h5) h1'.2.1
    · exact h5
theorem Mv.set4new {w0 w : World} {S S' : St} (h : Mv w0 w S S') {r : Nat} (hr : w0.heap.size ≤ r) (i j k l : Nat) (a b c d : Value) : Mv w0 ((((w.setCell ⟨r, i, none⟩ a).setCell ⟨r, j, none⟩ b).setCell ⟨r, k, none⟩ c).setCell ⟨r, l, none⟩ d) S S' :=
  ⟨(((h.st.setCell (p := ⟨r, i, none⟩) (.inl hr) _).setCell (p := ⟨r, j, none⟩) (.inl hr) _).setCell (p := ⟨r, k, none⟩) (.inl hr) _).setCell (p := ⟨r, l, none⟩) (.inl hr) _, h.ne⟩
theorem Freshed.mv {base t nb k : Nat} {w0 w w' : World} {S0 S S' : St} {d : Nd} (h : Freshed base w w' t nb d S S' k) (hV : Mv w0 w S0 S) (h1 : w0.heap.size ≤ nb) (h2 : ∀ b l, d = .lf b l → w0.heap.size ≤ b) : Mv w0 w' S0 S' := by
  obtain ⟨a1, a2, a3, a4, a5, a6, a7, a8, a9⟩ := h
  refine ⟨hV.st.trans a9 (fun i hi hs => ?_), fun b hb => ?_⟩
  · rcases hV.ne i hs with h | h
    · exact h
    · omega
  · rcases a8 b hb with h | h | h | ⟨l, h⟩
    · exact hV.ne b h
    · exact .inr (Nat.le_trans hV.st.size h)
    · exact .inr (h ▸ h1)
    · exact .inr (h2 b l h)
theorem Freshed.unowned {base t nb k b : Nat} {w w' : World} {S S' : St} {d : Nd} (h : Freshed base w w' t nb d S S' k) (h0 : S.own b = none) (hb : b < w.heap.size) (h1 : b ≠ nb) (h2 : ∀ l, d ≠ .lf b l) : S'.own b = none := by
  cases e : S'.own b with
  | none => rfl
  | some x =>
    rcases h.2.2.2.2.2.2.2.1 b (by rw [e]; exact fun h => by cases h) with h | h | h | ⟨l, h⟩
    · exact absurd h0 h
    · omega
    · exact absurd h h1
    · exact absurd h (h2 l)
theorem Mv.fresh {w0 w w' : World} {S S' : St} {Z : Nat → Prop} (h : Mv w0 w S S') (hst : Stay Z w w') (hz : ∀ i, Z i → w0.heap.size ≤ i) : Mv w0 w' S S' :=
  ⟨h.st.trans hst (fun i hi hs => absurd (hz i hs) (by omega)), h.ne⟩
theorem Below.drewed {w w' : World} (h : Below w.drew.heap.size w.drew w') : Below w.heap.size w w' := (Below.drews (Below.refl _ w)).trans h
/-- A node's cells just made, for a store of a link. -/
structure Z4 (w : World) (r i j k l : Nat) : Prop where
  c0 : ∃ v, w.cell? ⟨r, i, none⟩ = some v
  c1 : ∃ v, w.cell? ⟨r, j, none⟩ = some v
  c2 : ∃ v, w.cell? ⟨r, k, none⟩ = some v
  c3 : ∃ v, w.cell? ⟨r, l, none⟩ = some v
set_option maxHeartbeats 3200000 in
theorem tinleaf_lo {base t k j : Nat} {S : St} {l : List Bool} (bit : Bool) (w : World) (h : TM base w t S) (hi : Is S.sto (.leaf k l)) (hj : j ≤ l.length) (hlen : l.length = 128) (hjc : j ≤ 64) (hl : S.live + 2 ≤ 268435456) (hv : S.vis < 1000000000000) :
    Calls Tryd.prog 56 #[.pointer (some ⟨t, 0, none⟩), .int .i64 k, .int .i64 j, .bool bit] w fun e w' => ∃ t' S', e = .returned (lkv t'.lk) ∧ TM base w' t S' ∧ Mv w w' S S' ∧ Chg S.sto S'.sto (.leaf k l) t' ∧ Ins S S' (.leaf k l) t' j bit 2 := by
  obtain ⟨n, b, hk⟩ := id hi
  have hb0 : Below w.heap.size w (w.alloc ZL) := Below.allocs (Below.refl _ _) _
  have h0 := h.below hb0
  obtain ⟨len, c, lb, e1, _, e2, e3, e4, e5, e6, e7⟩ := h0.seen hk
  obtain ⟨A, B, hNH, hN, hB, hob, hon⟩ := h0.lf hk
  have n0 := hN.c0
  have key := bins_full j bit _ hB hlen
  have keyS := bsplit_any _ hB
  have hl2 : l.length / 2 = 64 := by omega
  rw [hl2] at keyS
  have hl64 : (l.take 64).length = 64 := by rw [List.length_take]; omega
  have hr64 : (l.drop 64).length = 64 := by rw [List.length_drop]; omega
  have H := Lib.hid h
  have HK := Lib.hid hk
  have H0 := Lib.hid h0
  have HI := Lib.hid hi
  have HNH := Lib.hid hNH
  have HL := Lib.hid hl
  have hro := h.new (Nat.le_refl _)
  have hbn : ¬ n = b := fun e => by rw [e, hob] at hon; cases hon
  have hbase : base ≤ w.heap.size := by have := h.lt; omega
  have hjc0 : (j : Int) ≤ 64 := by omega
  have hdummy := hjc0
  have HLEN := Lib.hid (And.intro hlen (And.intro hl64 (And.intro hr64 hjc)))
  clear h h0 hN hk hi hB hl hNH hlen hl2 hl64 hr64
  go_enter Tryd.func56, Tryd.ntmps56
  go_wp2_with fail
  (with_reducible refine key.mono ?_); rintro e w0' ⟨rfl, rfl⟩
  go_wp2_with fail
  (with_reducible refine keyS.mono ?_); rintro e w1 ⟨g2, rfl, hg2, hB1, hG1, hs1⟩
  have hz1 := hs1.size
  have hob' : S.own b = some (.bk k) := hob
  have hog2 : S.own g2 = none := H0.out.new hg2
  obtain ⟨hT1, hV1⟩ := H0.out.leaf HK.out hB1 hs1
  have hn1 := hs1.kept HNH.out hbn
  have n0' := (cellsN hn1).c0
  have hg2n : ¬ g2 = b := fun e => by rw [e, hob'] at hog2; cases hog2
  have hlt2 := hG1.lt
  have HT1 := Lib.hid hT1
  have HV1 := Lib.hid hV1
  have hB1' := hB1.below (Below.allocs (Below.refl _ _) (NZ (some ⟨g2, 0, none⟩))) hB1.lt
  have hG1' := hG1.below (Below.allocs (Below.refl _ _) (NZ (some ⟨g2, 0, none⟩))) hlt2
  have hn1' : (w1.alloc (NZ (some ⟨g2, 0, none⟩))).cell? ⟨n, 0, none⟩ = some (.pointer (some ⟨b, 0, none⟩)) := (World.cell?_alloc_past _ _ _ (lt_of_block hn1)).trans n0'
  have keyL := blen_any _ hB1'
  rw [HLEN.out.2.1] at keyL
  have keyI := bins_yes j bit _ hB1' (by rw [HLEN.out.2.1]; decide) (by rw [HLEN.out.2.1]; exact HLEN.out.2.2.2)
  have HB1 := Lib.hid hB1'
  have HG1 := Lib.hid hG1'
  have HN1 := Lib.hid hn1
  clear hB1 hG1 hs1 hT1 hV1 hn1 key keyS e1 e2 e6 e7 n0 hB1' hG1'
  go_wp2_with (first
    | (go_at_call 67; (with_reducible refine keyL.mono ?_); rintro e w2 ⟨rfl, rfl⟩))
  (with_reducible refine keyI.mono ?_); rintro e w2 ⟨rfl, hI2, hs2⟩
  have hzA : w1.heap.size + 1 ≤ w2.heap.size := by have := hs2.size; simp at this; omega
  have hT1A := HT1.out.below (Below.allocs (Below.refl _ _) (NZ (some ⟨g2, 0, none⟩)))
  have hV1A := HV1.out.below (Below.allocs (Below.refl _ _) (NZ (some ⟨g2, 0, none⟩)))
  obtain ⟨hT2, hV2'⟩ := hT1A.leaf (upd_at _ _ _) hI2 hs2
  have hV2 : Mv (w.alloc ZL) w2 S ((S.lay k n (.lf b (l.take 64))).lay k n (.lf b (Blk.ins (l.take 64) j bit))) := hV1A.trans hV2'
  have hG2 : IsBlk w2 g2 (l.drop 64) := HG1.out.stay hs2 hg2n
  have hU2 : w2.heap[w1.heap.size]? = some (NZ (some ⟨g2, 0, none⟩)) := hs2.kept alloc_of (fun e => by have := HB1.out.lt; simp at this; have h9 := hob'; rw [← e, H0.out.new hz1] at h9; cases h9)
  have HU2 := Lib.hid hU2
  have HG2 := Lib.hid hG2
  have HT2 := Lib.hid hT2
  have HV2 := Lib.hid hV2
  have hoU : ((S.lay k n (.lf b (l.take 64))).lay k n (.lf b (Blk.ins (l.take 64) j bit))).own w1.heap.size = none := H0.out.new hz1
  have hoP : ((S.lay k n (.lf b (l.take 64))).lay k n (.lf b (Blk.ins (l.take 64) j bit))).own w2.heap.size = none := H0.out.new (by omega)
  have hoG : ((S.lay k n (.lf b (l.take 64))).lay k n (.lf b (Blk.ins (l.take 64) j bit))).own g2 = none := hog2
  have hpn : ¬ w2.heap.size = w1.heap.size := by omega
  have hpg : ¬ w2.heap.size = g2 := by omega
  clear hs2 hI2 hT2 hV2 hU2 hG2 HB1 HG1 HN1 n0' hn1' keyL keyI hT1A hV1A HT1 HV1
  go_wp2_with fail
  have hT3 := HT2.out.below (Below.allocs (Below.refl _ _) (NZ none))
  have hV3 := HV2.out.below (Below.allocs (Below.refl _ _) (NZ none))
  have hsto2 : ((S.lay k n (.lf b (l.take 64))).lay k n (.lf b (Blk.ins (l.take 64) j bit))).sto k = some (n, .lf b (Blk.ins (l.take 64) j bit)) := upd_at _ _ _
  have keyL : Calls Tryd.prog 53 #[.pointer (some ⟨t, 0, none⟩), .int .i64 k] (w2.alloc (NZ none)).drew _ := tlink_lf _ (hT3.drewN 1) hsto2
  unfold lkv at keyL
  have hP3 : (w2.alloc (NZ none)).heap[w2.heap.size]? = some (NZ none) := alloc_of
  have hU3 := Below.keptB (Below.allocs (Below.refl _ w2) (NZ none)) HU2.out (lt_of_block HU2.out)
  have hG3 := HG2.out.below (Below.allocs (Below.refl _ w2) (NZ none)) HG2.out.lt
  have HT3 := Lib.hid hT3
  have HV3 := Lib.hid hV3
  have HP3 := Lib.hid hP3
  have HU3 := Lib.hid hU3
  have HG3 := Lib.hid hG3
  have HZ3 := Lib.hid (show w2.heap.size < (w2.alloc (NZ none)).heap.size by simp)
  clear hT3 hV3 hP3 hU3 hG3
  go_cut [] (fun wx => TM base wx t ((S.lay k n (.lf b (l.take 64))).lay k n (.lf b (Blk.ins (l.take 64) j bit))) ∧ Mv (w.alloc ZL) wx S ((S.lay k n (.lf b (l.take 64))).lay k n (.lf b (Blk.ins (l.take 64) j bit))) ∧ wx.heap[w2.heap.size]? = some (.cells (ndv none (lkl k (Blk.ins (l.take 64) j bit)) ⟨0, 0, 0, 0⟩) 74 (0, 0)) ∧ wx.heap[w1.heap.size]? = some (NZ (some ⟨g2, 0, none⟩)) ∧ IsBlk wx g2 (l.drop 64))
  case first =>
    go_region_law (first | (go_simp; (go_at_call 53; (with_reducible refine keyL.mono ?_); rintro e wl ⟨rfl, hbl⟩; (have hbl' := Below.drewed hbl); (have HPL := Lib.hid (Below.keptB hbl' HP3.out HZ3.out)); (have HBL := Lib.hid hbl'); (have p1 := (cell_of (i := 1) HPL.out).trans rfl); (have p2 := (cell_of (i := 2) HPL.out).trans rfl); (have p3 := (cell_of (i := 3) HPL.out).trans rfl); (have p4 := (cell_of (i := 4) HPL.out).trans rfl); (have f1 := free_of (i := 1) HPL.out); (have f2 := free_of (i := 2) HPL.out); (have f3 := free_of (i := 3) HPL.out); (have f4 := free_of (i := 4) HPL.out); clear hbl hbl')))
    all_goals
      go_wp2_with fail
      go_meet
      case rel =>
        have hst4 := Stay.set4 (S := fun i => i = w2.heap.size) (Stay.refl _ wl) rfl 1 2 3 4 (.int .i64 (lkl k (Blk.ins (l.take 64) j bit)).num) (.int .i64 (lkl k (Blk.ins (l.take 64) j bit)).len) (.int .i64 (lkl k (Blk.ins (l.take 64) j bit)).ones) (.int .i64 (lkl k (Blk.ins (l.take 64) j bit)).ht)
        exact ⟨(HT3.out.below HBL.out).set4 hoP 1 2 3 4 _ _ _ _, (HV3.out.below HBL.out).set4new (by omega) 1 2 3 4 _ _ _ _, set4_of (i := 1) HPL.out _, hst4.kept (Below.keptB HBL.out HU3.out (lt_of_block HU3.out)) (fun e => hpn e.symm), (HG3.out.below HBL.out HG3.out.lt).stay hst4 (fun e => hpg e.symm)⟩
  case rest =>
  obtain ⟨hT4, hV4, hP4, hU4, hG4⟩ := hcut
  have hzV4 := hV4.st.size
  have hlP4 := lt_of_block hP4
  have hlU4 := lt_of_block hU4
  have hsz0 : (w.alloc ZL).heap.size = w.heap.size + 1 := by simp
  have hLone : Lone base wc.drew ((S.lay k n (.lf b (l.take 64))).lay k n (.lf b (Blk.ins (l.take 64) j bit))) w1.heap.size (.lf g2 (l.drop 64)) := ⟨⟨⟨⟨0, 0, 0, 0⟩, ⟨0, 0, 0, 0⟩, hU4⟩, hG4⟩, hoU, by omega, fun b l e => by injection e with e _; subst e; exact ⟨hoG, by omega, hG4.lt⟩, hlU4⟩
  have keyF := tfresh wc.drew (hT4.drewN 1) (by have := HL.out; show S.live < _; omega) hLone trivial (by show S.vis < _; omega)
  have HT4 := Lib.hid hT4
  have HV4 := Lib.hid hV4
  have HP4 := Lib.hid hP4
  unfold lkv at keyF
  clear hT4 hV4 hP4 hU4 hG4 hLone keyL HT3 HV3 HP3 HU3 HG3
  go_wp2_with fail
  go_cut [] (fun wx => ∃ ku S3, TM base wx t S3 ∧ ((S.lay k n (.lf b (l.take 64))).lay k n (.lf b (Blk.ins (l.take 64) j bit))).sto ku = none ∧ S3.sto = upd ((S.lay k n (.lf b (l.take 64))).lay k n (.lf b (Blk.ins (l.take 64) j bit))).sto ku (some (w1.heap.size, .lf g2 (l.drop 64))) ∧ S3.rt = S.rt ∧ S3.vis = S.vis + 1 ∧ S3.live = S.live + 1 ∧ S3.T.length = max S.T.length (S.live + 1) ∧ Mv (w.alloc ZL) wx S S3 ∧ S3.own w2.heap.size = none ∧ wx.heap[w2.heap.size]? = some (.cells (ndv none (lkl k (Blk.ins (l.take 64) j bit)) (lkl ku (l.drop 64))) 74 (0, 0)))
  case first =>
    go_region_law (first | (go_simp; (go_at_call 73; (with_reducible refine keyF.mono ?_); rintro e wl ⟨ku, S3, rfl, hFr⟩; (have HFR := Lib.hid hFr); (have HPL := Lib.hid (hFr.2.2.2.2.2.2.2.2.kept HP4.out (fun e => e hoP))); (have pN := cellsN HPL.out); (have p1 := pN.c5); (have p2 := pN.c6); (have p3 := pN.c7); (have p4 := pN.c8); clear pN; (have f1 := free_of (i := 5) HPL.out); (have f2 := free_of (i := 6) HPL.out); (have f3 := free_of (i := 7) HPL.out); (have f4 := free_of (i := 8) HPL.out); clear hFr)))
    all_goals
      go_wp2_with fail
      go_meet
      case rel =>
        obtain ⟨a1, a2, a3, a4, a5, a6, a7, a8, a9⟩ := HFR.out
        have hoP3 : S3.own w2.heap.size = none := Freshed.unowned HFR.out hoP hlP4 hpn (fun l e => by injection e with e _; exact hpg e.symm)
        have hV5 := Freshed.mv HFR.out (HV4.out.below (Below.drews (Below.refl _ _))) (by omega) (fun b l e => by injection e with e _; subst e; exact hg2)
        exact ⟨ku, S3, a1.set4 hoP3 5 6 7 8 _ _ _ _, a2, a3, a4, a5, a6, a7, hV5.set4new (by omega) 5 6 7 8 _ _ _ _, hoP3, set4_of (i := 5) HPL.out _⟩
  case rest =>
  obtain ⟨ku, S3, a1, a2, a3, a4, a5, a6, a7, hV5, hoP3, hP5⟩ := hcut
  have hlP5 := lt_of_block hP5
  have hlen0 : (Blk.ins (l.take 64) j bit).length ≤ 65 := by rw [Blk.ins_len (by rw [HLEN.out.2.1]; exact HLEN.out.2.2.2), HLEN.out.2.1]; decide
  have hlen1 : (l.drop 64).length ≤ 65 := by rw [HLEN.out.2.2.1]; decide
  have hc0 := List.count_le_length (a := true) (l := (Blk.ins (l.take 64) j bit))
  have hc1 := List.count_le_length (a := true) (l := (l.drop 64))
  have hLone : Lone base wc S3 w2.heap.size (.pr (lkl k (Blk.ins (l.take 64) j bit)) (lkl ku (l.drop 64))) := ⟨hP5, hoP3, by omega, (fun b l e => by cases e), hlP5⟩
  have keyF := tfresh wc a1 (by have := HL.out; omega) hLone ⟨by show (Blk.ins (l.take 64) j bit).length + (l.drop 64).length < _; omega, by show (Blk.ins (l.take 64) j bit).count true + (l.drop 64).count true < _; omega, by show 0 < _; decide, by show 0 < _; decide⟩ (by omega)
  unfold lkv at keyF
  have HFR := Lib.hid (And.intro a2 (And.intro a3 (And.intro a4 (And.intro a5 (And.intro a6 a7)))))
  have HV5 := Lib.hid hV5
  clear a1 a2 a3 a4 a5 a6 a7 hV5 hP5 hLone hc0 hc1
  go_wp2_with fail
  (with_reducible refine keyF.mono ?_); rintro e w6 ⟨kp, S4, rfl, hF6⟩
  have hV6 := hF6.mv HV5.out (by omega) (fun b l e => by cases e)
  obtain ⟨b1, b2, b3, b4, b5, b6, b7, b8, b9⟩ := id hF6
  obtain ⟨r0, r1, r2, r3, q0, q1, q2, q3⟩ := Mv.res H.out hV6
  have fin := Lib.hid (Mv.done H.out b1 hV6 (.int .i64 (mk kp (lkl k (Blk.ins (l.take 64) j bit)) (lkl ku (l.drop 64))).num) (.int .i64 (mk kp (lkl k (Blk.ins (l.take 64) j bit)) (lkl ku (l.drop 64))).len) (.int .i64 (mk kp (lkl k (Blk.ins (l.take 64) j bit)) (lkl ku (l.drop 64))).ones) (.int .i64 (mk kp (lkl k (Blk.ins (l.take 64) j bit)) (lkl ku (l.drop 64))).ht))
  have HF6 := Lib.hid (And.intro b2 (And.intro b3 (And.intro b4 (And.intro b5 (And.intro b6 b7)))))
  clear hF6 hV6 b1 b2 b3 b4 b5 b6 b7 b8 b9 keyF
  go_wp2_with fail
  try simp only [Exit.inBlock, Exit.then]
  refine bodyPost_ret (v := lkv (mk kp (lkl k (Blk.ins (l.take 64) j bit)) (lkl ku (l.drop 64)))) (by simp [results, Tryd.results56, go_sem, lkv, lkd, *]) rfl ⟨.node kp (.leaf k (Blk.ins (l.take 64) j bit)) (.leaf ku (l.drop 64)), S4, rfl, fin.out.1, fin.out.2, ?_, ?_⟩
  · obtain ⟨b2, b3, b4, b5, b6, b7⟩ := HF6.out
    obtain ⟨a2, a3, a4, a5, a6, a7⟩ := HFR.out
    refine Chg.split (s2 := ((S.lay k n (.lf b (l.take 64))).lay k n (.lf b (Blk.ins (l.take 64) j bit))).sto) (by rw [HK.out]; exact fun h => by cases h) (upd_at _ _ _) (fun j hj => (upd_ne _ _ hj).trans (upd_ne _ _ hj)) a2 a3 b2 b3
  · obtain ⟨b2, b3, b4, b5, b6, b7⟩ := HF6.out
    obtain ⟨a2, a3, a4', a5, a6, a7'⟩ := HFR.out
    have hll := S.live_le
    have e0 : (Blk.ins (l.take 64) j bit).length ≥ 64 := by rw [Blk.ins_len (by rw [HLEN.out.2.1]; exact HLEN.out.2.2.2), HLEN.out.2.1]; decide
    have e1 : (l.drop 64).length ≥ 64 := by rw [HLEN.out.2.2.1]; decide
    refine ⟨?_, ⟨trivial, trivial, Nat.le_succ _, Nat.le_succ _⟩, fun _ => ⟨⟨by omega, by omega⟩, ⟨by omega, by omega⟩⟩, fun _ => ⟨⟨by omega, by omega⟩, ⟨by omega, by omega⟩⟩, Nat.zero_le _, Nat.le_refl _, b4.trans a4', by omega, ?_, by omega, by omega⟩
    · show (Blk.ins (l.take 64) j bit) ++ (l.drop 64) = Blk.ins l j bit
      rw [← ins_append_lo bit (by rw [HLEN.out.2.1]; exact HLEN.out.2.2.2), List.take_append_drop]
    · show S4.live + 1 = S.live + 3
      omega
set_option maxHeartbeats 3200000 in
theorem tinleaf_hi {base t k j m : Nat} {S : St} {l : List Bool} (bit : Bool) (w : World) (h : TM base w t S) (hi : Is S.sto (.leaf k l)) (hj : j ≤ l.length) (hlen : l.length = 128) (hjc : j = 64 + m) (hm : 0 < m) (hl : S.live + 2 ≤ 268435456) (hv : S.vis < 1000000000000) :
    Calls Tryd.prog 56 #[.pointer (some ⟨t, 0, none⟩), .int .i64 k, .int .i64 j, .bool bit] w fun e w' => ∃ t' S', e = .returned (lkv t'.lk) ∧ TM base w' t S' ∧ Mv w w' S S' ∧ Chg S.sto S'.sto (.leaf k l) t' ∧ Ins S S' (.leaf k l) t' j bit 2 := by
  obtain ⟨n, b, hk⟩ := id hi
  have hb0 : Below w.heap.size w (w.alloc ZL) := Below.allocs (Below.refl _ _) _
  have h0 := h.below hb0
  obtain ⟨len, c, lb, e1, _, e2, e3, e4, e5, e6, e7⟩ := h0.seen hk
  obtain ⟨A, B, hNH, hN, hB, hob, hon⟩ := h0.lf hk
  have n0 := hN.c0
  have key := bins_full j bit _ hB hlen
  have keyS := bsplit_any _ hB
  have hl2 : l.length / 2 = 64 := by omega
  rw [hl2] at keyS
  have hl64 : (l.take 64).length = 64 := by rw [List.length_take]; omega
  have hr64 : (l.drop 64).length = 64 := by rw [List.length_drop]; omega
  have H := Lib.hid h
  have HK := Lib.hid hk
  have H0 := Lib.hid h0
  have HI := Lib.hid hi
  have HNH := Lib.hid hNH
  have HL := Lib.hid hl
  have hro := h.new (Nat.le_refl _)
  have hbn : ¬ n = b := fun e => by rw [e, hob] at hon; cases hon
  have hbase : base ≤ w.heap.size := by have := h.lt; omega
  have hjc0 : ¬ (j : Int) ≤ 64 := by omega
  have hjm : (j : Int) - 64 = m := by omega
  have hmb : (m : Int) ≤ 64 := by omega
  have HLEN := Lib.hid (And.intro hlen (And.intro hl64 (And.intro hr64 hjc)))
  clear h h0 hN hk hi hB hl hNH hlen hl2 hl64 hr64 hjc
  go_enter Tryd.func56, Tryd.ntmps56
  go_wp2_with fail
  (with_reducible refine key.mono ?_); rintro e w0' ⟨rfl, rfl⟩
  go_wp2_with fail
  (with_reducible refine keyS.mono ?_); rintro e w1 ⟨g2, rfl, hg2, hB1, hG1, hs1⟩
  have hz1 := hs1.size
  have hob' : S.own b = some (.bk k) := hob
  have hog2 : S.own g2 = none := H0.out.new hg2
  obtain ⟨hT1, hV1⟩ := H0.out.leaf HK.out hB1 hs1
  have hn1 := hs1.kept HNH.out hbn
  have n0' := (cellsN hn1).c0
  have hg2n : ¬ g2 = b := fun e => by rw [e, hob'] at hog2; cases hog2
  have hlt2 := hG1.lt
  have HT1 := Lib.hid hT1
  have HV1 := Lib.hid hV1
  have hB1' := hB1.below (Below.allocs (Below.refl _ _) (NZ (some ⟨g2, 0, none⟩))) hB1.lt
  have hG1' := hG1.below (Below.allocs (Below.refl _ _) (NZ (some ⟨g2, 0, none⟩))) hlt2
  have hn1' : (w1.alloc (NZ (some ⟨g2, 0, none⟩))).cell? ⟨n, 0, none⟩ = some (.pointer (some ⟨b, 0, none⟩)) := (World.cell?_alloc_past _ _ _ (lt_of_block hn1)).trans n0'
  have keyL := blen_any _ hB1'
  rw [HLEN.out.2.1] at keyL
  have keyI := bins_yes m bit _ hG1' (by rw [HLEN.out.2.2.1]; decide) (by rw [HLEN.out.2.2.1]; have := HLEN.out.2.2.2; have := HLEN.out.1; omega)
  have HB1 := Lib.hid hB1'
  have HG1 := Lib.hid hG1'
  have HN1 := Lib.hid hn1
  clear hB1 hG1 hs1 hT1 hV1 hn1 key keyS e1 e2 e6 e7 n0 hB1' hG1'
  go_wp2_with (first
    | (go_at_call 67; (with_reducible refine keyL.mono ?_); rintro e w2 ⟨rfl, rfl⟩))
  (with_reducible refine keyI.mono ?_); rintro e w2 ⟨rfl, hI2, hs2⟩
  have hzA : w1.heap.size + 1 ≤ w2.heap.size := by have := hs2.size; simp at this; omega
  have hT1A := HT1.out.below (Below.allocs (Below.refl _ _) (NZ (some ⟨g2, 0, none⟩)))
  have hV1A := HV1.out.below (Below.allocs (Below.refl _ _) (NZ (some ⟨g2, 0, none⟩)))
  have hT2 : TM base w2 t (S.lay k n (.lf b (l.take 64))) := hT1A.stay hs2 (fun i hi e => by subst e; exact hi hog2)
  have hV2 : Mv (w.alloc ZL) w2 S (S.lay k n (.lf b (l.take 64))) := hV1A.fresh hs2 (fun i e => by subst e; exact hg2)
  have hG2 : IsBlk w2 g2 (Blk.ins (l.drop 64) m bit) := hI2
  have hU2 : w2.heap[w1.heap.size]? = some (NZ (some ⟨g2, 0, none⟩)) := hs2.kept alloc_of (fun e => by omega)
  have HU2 := Lib.hid hU2
  have HG2 := Lib.hid hG2
  have HT2 := Lib.hid hT2
  have HV2 := Lib.hid hV2
  have hoU : (S.lay k n (.lf b (l.take 64))).own w1.heap.size = none := H0.out.new hz1
  have hoP : (S.lay k n (.lf b (l.take 64))).own w2.heap.size = none := H0.out.new (by omega)
  have hoG : (S.lay k n (.lf b (l.take 64))).own g2 = none := hog2
  have hpn : ¬ w2.heap.size = w1.heap.size := by omega
  have hpg : ¬ w2.heap.size = g2 := by omega
  clear hs2 hI2 hT2 hV2 hU2 hG2 HB1 HG1 HN1 n0' hn1' keyL keyI hT1A hV1A HT1 HV1
  go_wp2_with fail
  have hT3 := HT2.out.below (Below.allocs (Below.refl _ _) (NZ none))
  have hV3 := HV2.out.below (Below.allocs (Below.refl _ _) (NZ none))
  have hsto2 : (S.lay k n (.lf b (l.take 64))).sto k = some (n, .lf b (l.take 64)) := upd_at _ _ _
  have keyL : Calls Tryd.prog 53 #[.pointer (some ⟨t, 0, none⟩), .int .i64 k] (w2.alloc (NZ none)).drew _ := tlink_lf _ (hT3.drewN 1) hsto2
  unfold lkv at keyL
  have hP3 : (w2.alloc (NZ none)).heap[w2.heap.size]? = some (NZ none) := alloc_of
  have hU3 := Below.keptB (Below.allocs (Below.refl _ w2) (NZ none)) HU2.out (lt_of_block HU2.out)
  have hG3 := HG2.out.below (Below.allocs (Below.refl _ w2) (NZ none)) HG2.out.lt
  have HT3 := Lib.hid hT3
  have HV3 := Lib.hid hV3
  have HP3 := Lib.hid hP3
  have HU3 := Lib.hid hU3
  have HG3 := Lib.hid hG3
  have HZ3 := Lib.hid (show w2.heap.size < (w2.alloc (NZ none)).heap.size by simp)
  clear hT3 hV3 hP3 hU3 hG3
  go_cut [] (fun wx => TM base wx t (S.lay k n (.lf b (l.take 64))) ∧ Mv (w.alloc ZL) wx S (S.lay k n (.lf b (l.take 64))) ∧ wx.heap[w2.heap.size]? = some (.cells (ndv none (lkl k (l.take 64)) ⟨0, 0, 0, 0⟩) 74 (0, 0)) ∧ wx.heap[w1.heap.size]? = some (NZ (some ⟨g2, 0, none⟩)) ∧ IsBlk wx g2 (Blk.ins (l.drop 64) m bit))
  case first =>
    go_region_law (first | (go_simp; (go_at_call 53; (with_reducible refine keyL.mono ?_); rintro e wl ⟨rfl, hbl⟩; (have hbl' := Below.drewed hbl); (have HPL := Lib.hid (Below.keptB hbl' HP3.out HZ3.out)); (have HBL := Lib.hid hbl'); (have p1 := (cell_of (i := 1) HPL.out).trans rfl); (have p2 := (cell_of (i := 2) HPL.out).trans rfl); (have p3 := (cell_of (i := 3) HPL.out).trans rfl); (have p4 := (cell_of (i := 4) HPL.out).trans rfl); (have f1 := free_of (i := 1) HPL.out); (have f2 := free_of (i := 2) HPL.out); (have f3 := free_of (i := 3) HPL.out); (have f4 := free_of (i := 4) HPL.out); clear hbl hbl')))
    all_goals
      go_wp2_with fail
      go_meet
      case rel =>
        have hst4 := Stay.set4 (S := fun i => i = w2.heap.size) (Stay.refl _ wl) rfl 1 2 3 4 (.int .i64 (lkl k (l.take 64)).num) (.int .i64 (lkl k (l.take 64)).len) (.int .i64 (lkl k (l.take 64)).ones) (.int .i64 (lkl k (l.take 64)).ht)
        exact ⟨(HT3.out.below HBL.out).set4 hoP 1 2 3 4 _ _ _ _, (HV3.out.below HBL.out).set4new (by omega) 1 2 3 4 _ _ _ _, set4_of (i := 1) HPL.out _, hst4.kept (Below.keptB HBL.out HU3.out (lt_of_block HU3.out)) (fun e => hpn e.symm), (HG3.out.below HBL.out HG3.out.lt).stay hst4 (fun e => hpg e.symm)⟩
  case rest =>
  obtain ⟨hT4, hV4, hP4, hU4, hG4⟩ := hcut
  have hzV4 := hV4.st.size
  have hlP4 := lt_of_block hP4
  have hlU4 := lt_of_block hU4
  have hsz0 : (w.alloc ZL).heap.size = w.heap.size + 1 := by simp
  have hLone : Lone base wc.drew (S.lay k n (.lf b (l.take 64))) w1.heap.size (.lf g2 (Blk.ins (l.drop 64) m bit)) := ⟨⟨⟨⟨0, 0, 0, 0⟩, ⟨0, 0, 0, 0⟩, hU4⟩, hG4⟩, hoU, by omega, fun b l e => by injection e with e _; subst e; exact ⟨hoG, by omega, hG4.lt⟩, hlU4⟩
  have keyF := tfresh wc.drew (hT4.drewN 1) (by have := HL.out; show S.live < _; omega) hLone trivial (by show S.vis < _; omega)
  have HT4 := Lib.hid hT4
  have HV4 := Lib.hid hV4
  have HP4 := Lib.hid hP4
  unfold lkv at keyF
  clear hT4 hV4 hP4 hU4 hG4 hLone keyL HT3 HV3 HP3 HU3 HG3
  go_wp2_with fail
  go_cut [] (fun wx => ∃ ku S3, TM base wx t S3 ∧ (S.lay k n (.lf b (l.take 64))).sto ku = none ∧ S3.sto = upd (S.lay k n (.lf b (l.take 64))).sto ku (some (w1.heap.size, .lf g2 (Blk.ins (l.drop 64) m bit))) ∧ S3.rt = S.rt ∧ S3.vis = S.vis + 1 ∧ S3.live = S.live + 1 ∧ S3.T.length = max S.T.length (S.live + 1) ∧ Mv (w.alloc ZL) wx S S3 ∧ S3.own w2.heap.size = none ∧ wx.heap[w2.heap.size]? = some (.cells (ndv none (lkl k (l.take 64)) (lkl ku (Blk.ins (l.drop 64) m bit))) 74 (0, 0)))
  case first =>
    go_region_law (first | (go_simp; (go_at_call 73; (with_reducible refine keyF.mono ?_); rintro e wl ⟨ku, S3, rfl, hFr⟩; (have HFR := Lib.hid hFr); (have HPL := Lib.hid (hFr.2.2.2.2.2.2.2.2.kept HP4.out (fun e => e hoP))); (have pN := cellsN HPL.out); (have p1 := pN.c5); (have p2 := pN.c6); (have p3 := pN.c7); (have p4 := pN.c8); clear pN; (have f1 := free_of (i := 5) HPL.out); (have f2 := free_of (i := 6) HPL.out); (have f3 := free_of (i := 7) HPL.out); (have f4 := free_of (i := 8) HPL.out); clear hFr)))
    all_goals
      go_wp2_with fail
      go_meet
      case rel =>
        obtain ⟨a1, a2, a3, a4, a5, a6, a7, a8, a9⟩ := HFR.out
        have hoP3 : S3.own w2.heap.size = none := Freshed.unowned HFR.out hoP hlP4 hpn (fun l e => by injection e with e _; exact hpg e.symm)
        have hV5 := Freshed.mv HFR.out (HV4.out.below (Below.drews (Below.refl _ _))) (by omega) (fun b l e => by injection e with e _; subst e; exact hg2)
        exact ⟨ku, S3, a1.set4 hoP3 5 6 7 8 _ _ _ _, a2, a3, a4, a5, a6, a7, hV5.set4new (by omega) 5 6 7 8 _ _ _ _, hoP3, set4_of (i := 5) HPL.out _⟩
  case rest =>
  obtain ⟨ku, S3, a1, a2, a3, a4, a5, a6, a7, hV5, hoP3, hP5⟩ := hcut
  have hlP5 := lt_of_block hP5
  have hlen0 : (l.take 64).length ≤ 65 := by rw [HLEN.out.2.1]; decide
  have hlen1 : (Blk.ins (l.drop 64) m bit).length ≤ 65 := by rw [Blk.ins_len (by rw [HLEN.out.2.2.1]; have := HLEN.out.2.2.2; have := HLEN.out.1; omega), HLEN.out.2.2.1]; decide
  have hc0 := List.count_le_length (a := true) (l := (l.take 64))
  have hc1 := List.count_le_length (a := true) (l := (Blk.ins (l.drop 64) m bit))
  have hLone : Lone base wc S3 w2.heap.size (.pr (lkl k (l.take 64)) (lkl ku (Blk.ins (l.drop 64) m bit))) := ⟨hP5, hoP3, by omega, (fun b l e => by cases e), hlP5⟩
  have keyF := tfresh wc a1 (by have := HL.out; omega) hLone ⟨by show (l.take 64).length + (Blk.ins (l.drop 64) m bit).length < _; omega, by show (l.take 64).count true + (Blk.ins (l.drop 64) m bit).count true < _; omega, by show 0 < _; decide, by show 0 < _; decide⟩ (by omega)
  unfold lkv at keyF
  have HFR := Lib.hid (And.intro a2 (And.intro a3 (And.intro a4 (And.intro a5 (And.intro a6 a7)))))
  have HV5 := Lib.hid hV5
  clear a1 a2 a3 a4 a5 a6 a7 hV5 hP5 hLone hc0 hc1
  go_wp2_with fail
  (with_reducible refine keyF.mono ?_); rintro e w6 ⟨kp, S4, rfl, hF6⟩
  have hV6 := hF6.mv HV5.out (by omega) (fun b l e => by cases e)
  obtain ⟨b1, b2, b3, b4, b5, b6, b7, b8, b9⟩ := id hF6
  obtain ⟨r0, r1, r2, r3, q0, q1, q2, q3⟩ := Mv.res H.out hV6
  have fin := Lib.hid (Mv.done H.out b1 hV6 (.int .i64 (mk kp (lkl k (l.take 64)) (lkl ku (Blk.ins (l.drop 64) m bit))).num) (.int .i64 (mk kp (lkl k (l.take 64)) (lkl ku (Blk.ins (l.drop 64) m bit))).len) (.int .i64 (mk kp (lkl k (l.take 64)) (lkl ku (Blk.ins (l.drop 64) m bit))).ones) (.int .i64 (mk kp (lkl k (l.take 64)) (lkl ku (Blk.ins (l.drop 64) m bit))).ht))
  have HF6 := Lib.hid (And.intro b2 (And.intro b3 (And.intro b4 (And.intro b5 (And.intro b6 b7)))))
  clear hF6 hV6 b1 b2 b3 b4 b5 b6 b7 b8 b9 keyF
  go_wp2_with fail
  try simp only [Exit.inBlock, Exit.then]
  refine bodyPost_ret (v := lkv (mk kp (lkl k (l.take 64)) (lkl ku (Blk.ins (l.drop 64) m bit)))) (by simp [results, Tryd.results56, go_sem, lkv, lkd, *]) rfl ⟨.node kp (.leaf k (l.take 64)) (.leaf ku (Blk.ins (l.drop 64) m bit)), S4, rfl, fin.out.1, fin.out.2, ?_, ?_⟩
  · obtain ⟨b2, b3, b4, b5, b6, b7⟩ := HF6.out
    obtain ⟨a2, a3, a4, a5, a6, a7⟩ := HFR.out
    refine Chg.split (s2 := (S.lay k n (.lf b (l.take 64))).sto) (by rw [HK.out]; exact fun h => by cases h) (upd_at _ _ _) (fun j hj => upd_ne _ _ hj) a2 a3 b2 b3
  · obtain ⟨b2, b3, b4, b5, b6, b7⟩ := HF6.out
    obtain ⟨a2, a3, a4', a5, a6, a7'⟩ := HFR.out
    have hll := S.live_le
    have e0 : (l.take 64).length ≥ 64 := by rw [HLEN.out.2.1]; decide
    have e1 : (Blk.ins (l.drop 64) m bit).length ≥ 64 := by rw [Blk.ins_len (by rw [HLEN.out.2.2.1]; have := HLEN.out.2.2.2; have := HLEN.out.1; omega), HLEN.out.2.2.1]; decide
    refine ⟨?_, ⟨trivial, trivial, Nat.le_succ _, Nat.le_succ _⟩, fun _ => ⟨⟨by omega, by omega⟩, ⟨by omega, by omega⟩⟩, fun _ => ⟨⟨by omega, by omega⟩, ⟨by omega, by omega⟩⟩, Nat.zero_le _, Nat.le_refl _, b4.trans a4', by omega, ?_, by omega, by omega⟩
    · show (l.take 64) ++ (Blk.ins (l.drop 64) m bit) = Blk.ins l j bit
      rw [← ins_append_hi (j := j) bit (by rw [HLEN.out.2.1]; exact HLEN.out.2.2.2), List.take_append_drop]
    · show S4.live + 1 = S.live + 3
      omega
theorem tinleaf {base t k j : Nat} {S : St} {l : List Bool} (bit : Bool) (w : World) (h : TM base w t S) (hi : Is S.sto (.leaf k l)) (hj : j ≤ l.length) (hlen : l.length ≤ 128) (hl : S.live + 2 ≤ 268435456) (hv : S.vis < 1000000000000) :
    Calls Tryd.prog 56 #[.pointer (some ⟨t, 0, none⟩), .int .i64 k, .int .i64 j, .bool bit] w fun e w' => ∃ t' S', e = .returned (lkv t'.lk) ∧ TM base w' t S' ∧ Mv w w' S S' ∧ Chg S.sto S'.sto (.leaf k l) t' ∧ Ins S S' (.leaf k l) t' j bit 2 := by
  by_cases h1 : l.length < 128
  · exact tinleaf_room bit w h hi hj h1
  · by_cases h2 : j ≤ 64
    · exact tinleaf_lo bit w h hi hj (by omega) h2 hl hv
    · exact tinleaf_hi (m := j - 64) bit w h hi hj (by omega) (by omega) (by omega) hl hv
end Go.Proofs.YtfbhcbcpeocmcaaDoor
