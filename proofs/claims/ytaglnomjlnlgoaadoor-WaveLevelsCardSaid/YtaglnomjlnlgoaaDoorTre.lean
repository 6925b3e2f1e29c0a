/- again: contracts of the walk. feed: contracts of the walk. -/
import Derived.Test.YtaglnomjlnlgoaaDoorTrd
namespace Go.Proofs.YtaglnomjlnlgoaaDoor
open Go Go.RowKit Go.ChangeAt Tr

set_option maxHeartbeats 1600000 in
theorem tagain_lf {base t k n b : Nat} {S : St} {l : List Bool} (s : Int) (w : World) (h : TM base w t S) (hk : S.sto k = some (n, .lf b l)) :
    Calls Tryd.prog 89 #[.pointer (some ⟨t, 0, none⟩), .int .i64 k, .int .i64 s] w fun e w' => e = .returned (lkv (lkl k l)) ∧ TM base w' t S ∧ Mv w w' S S := by
  have hb0 : Below w.heap.size w (w.alloc ZL) := Below.allocs (Below.refl _ _) _
  have h0 := h.below hb0
  obtain ⟨len, c, lb, e1, _, e2, e3, e4, e5, e6, e7⟩ := h0.seen hk
  obtain ⟨A, B, _, hN, _, _, _⟩ := h0.lf hk
  have keyL := tisleaf (w.alloc ZL) hN.c0
  have key := tlink_lf (w.alloc ZL) h0 hk
  have H := Lib.hid h
  have H0 := Lib.hid h0
  unfold lkv at key
  clear h h0 hk hN
  go_enter Tryd.func89, Tryd.ntmps89
  go_wp2_with fail
  (with_reducible refine keyL.mono ?_); rintro e w1 ⟨rfl, rfl⟩
  go_wp2_with fail
  (with_reducible refine key.mono ?_); rintro e w5 ⟨rfl, hb5⟩
  have hT5 := H0.out.below hb5
  have hV5 : Mv (w.alloc ZL) w5 S S := Mv.of_below hb5
  obtain ⟨r0, r1, r2, r3, q0, q1, q2, q3⟩ := Mv.res H.out hV5
  have fin := Lib.hid (Mv.done H.out hT5 hV5 (.int .i64 (lkl k l).num) (.int .i64 (lkl k l).len) (.int .i64 (lkl k l).ones) (.int .i64 (lkl k l).ht))
  clear hT5 hV5 hb5
  go_wp2_with fail
  try simp only [Exit.inBlock, Exit.then]
  refine bodyPost_ret (v := lkv (lkl k l)) (by simp [results, Tryd.results89, go_sem, lkv, *]) rfl ⟨rfl, fin.out⟩
set_option maxHeartbeats 1600000 in
theorem tagain_pr0 {base t k n m : Nat} {S : St} {A B : Lk} {d : Nd} (w : World) (h : TM base w t S) (hk : S.sto k = some (n, .pr A B)) (hm : S.sto A.num = some (m, d)) (hd : NdOk d) (hok : NdOk (.pr (lkd A.num d) B)) :
    Calls Tryd.prog 89 #[.pointer (some ⟨t, 0, none⟩), .int .i64 k, .int .i64 0] w fun e w' => e = .returned (lkv (mk k (lkd A.num d) B)) ∧ TM base w' t (S.lay k n (.pr (lkd A.num d) B)) ∧ Mv w w' S (S.lay k n (.pr (lkd A.num d) B)) := by
  have hb0 : Below w.heap.size w (w.alloc ZL) := Below.allocs (Below.refl _ _) _
  have h0 := h.below hb0
  obtain ⟨len, c, lb, e1, _, e2, e3, e4, e5, e6, e7⟩ := h0.seen hk
  obtain ⟨n0, n1, n2, n3, n4, n5, n6, n7, n8, _⟩ := h0.pr hk
  have keyL := tisleaf (w.alloc ZL) n0
  have h0d : TM base (w.alloc ZL).drew t S := h0.drewN 1
  have keyK := tlink (w.alloc ZL).drew h0d hm hd
  have H := Lib.hid h
  have HK := Lib.hid hk
  have H0 := Lib.hid h0
  unfold lkv at keyK
  clear h h0 h0d hk
  go_enter Tryd.func89, Tryd.ntmps89
  go_wp2_with fail
  (with_reducible refine keyL.mono ?_); rintro e w1 ⟨rfl, rfl⟩
  go_wp2_with fail
  go_cut [] (fun wx => TM base wx t (S.lay k n (.pr (lkd A.num d) B)) ∧ Mv (w.alloc ZL) wx S (S.lay k n (.pr (lkd A.num d) B)))
  case first =>
    go_region_law (first | (go_simp; (go_at_call 68; (with_reducible refine keyK.mono ?_); rintro e w2 ⟨rfl, hb2⟩; (have HB2 := Lib.hid (Below.drewed hb2)); (have HT2 := Lib.hid (H0.out.below HB2.out)); (have M3 := HT2.out.pr HK.out); (have m5 := M3.c1); (have m6 := M3.c2); (have m7 := M3.c3); (have m8 := M3.c4); (have f5 := M3.fz 1); (have f6 := M3.fz 2); (have f7 := M3.fz 3); (have f8 := M3.fz 4); clear M3 hb2)))
    all_goals
      go_wp2_with fail
      go_meet
      case rel => exact ⟨HT2.out.side0 HK.out _, (Mv.of_below HB2.out).trans (Mv.lay HT2.out HK.out (Stay.set4 (S := fun i => i = n) (Stay.refl _ _) rfl 1 2 3 4 _ _ _ _))⟩
  case rest =>
  obtain ⟨hT3, hV3⟩ := hcut
  have key := tlink wc hT3 (upd_at _ _ _) hok
  unfold lkv at key
  have HT3 := Lib.hid hT3
  have HV3 := Lib.hid hV3
  clear hT3 hV3 keyK keyL n0 n1 n2 n3 n4 n5 n6 n7 n8
  go_wp2_with fail
  (with_reducible refine key.mono ?_); rintro e w5 ⟨rfl, hb5⟩
  have hT5 := HT3.out.below hb5
  have hV5 := HV3.out.below hb5
  obtain ⟨r0, r1, r2, r3, q0, q1, q2, q3⟩ := Mv.res H.out hV5
  have fin := Lib.hid (Mv.done H.out hT5 hV5 (.int .i64 (lkd k (.pr (lkd A.num d) B)).num) (.int .i64 (lkd k (.pr (lkd A.num d) B)).len) (.int .i64 (lkd k (.pr (lkd A.num d) B)).ones) (.int .i64 (lkd k (.pr (lkd A.num d) B)).ht))
  clear hT5 hV5 hb5
  go_wp2_with fail
  try simp only [Exit.inBlock, Exit.then]
  refine bodyPost_ret (v := lkv (lkd k (.pr (lkd A.num d) B))) (by simp [results, Tryd.results89, go_sem, lkv, *]) rfl ⟨rfl, fin.out⟩
set_option maxHeartbeats 1600000 in
theorem tagain_pr1 {base t k n m : Nat} {S : St} {A B : Lk} {d : Nd} (w : World) (h : TM base w t S) (hk : S.sto k = some (n, .pr A B)) (hm : S.sto B.num = some (m, d)) (hd : NdOk d) (hok : NdOk (.pr A (lkd B.num d))) :
    Calls Tryd.prog 89 #[.pointer (some ⟨t, 0, none⟩), .int .i64 k, .int .i64 1] w fun e w' => e = .returned (lkv (mk k A (lkd B.num d))) ∧ TM base w' t (S.lay k n (.pr A (lkd B.num d))) ∧ Mv w w' S (S.lay k n (.pr A (lkd B.num d))) := by
  have hb0 : Below w.heap.size w (w.alloc ZL) := Below.allocs (Below.refl _ _) _
  have h0 := h.below hb0
  obtain ⟨len, c, lb, e1, _, e2, e3, e4, e5, e6, e7⟩ := h0.seen hk
  obtain ⟨n0, n1, n2, n3, n4, n5, n6, n7, n8, _⟩ := h0.pr hk
  have keyL := tisleaf (w.alloc ZL) n0
  have h0d : TM base (w.alloc ZL).drew t S := h0.drewN 1
  have keyK := tlink (w.alloc ZL).drew h0d hm hd
  have H := Lib.hid h
  have HK := Lib.hid hk
  have H0 := Lib.hid h0
  unfold lkv at keyK
  clear h h0 h0d hk
  go_enter Tryd.func89, Tryd.ntmps89
  go_wp2_with fail
  (with_reducible refine keyL.mono ?_); rintro e w1 ⟨rfl, rfl⟩
  go_wp2_with fail
  go_cut [] (fun wx => TM base wx t (S.lay k n (.pr A (lkd B.num d))) ∧ Mv (w.alloc ZL) wx S (S.lay k n (.pr A (lkd B.num d))))
  case first =>
    go_region_law (first | (go_simp; (go_at_call 68; (with_reducible refine keyK.mono ?_); rintro e w2 ⟨rfl, hb2⟩; (have HB2 := Lib.hid (Below.drewed hb2)); (have HT2 := Lib.hid (H0.out.below HB2.out)); (have M3 := HT2.out.pr HK.out); (have m5 := M3.c5); (have m6 := M3.c6); (have m7 := M3.c7); (have m8 := M3.c8); (have f5 := M3.fz 5); (have f6 := M3.fz 6); (have f7 := M3.fz 7); (have f8 := M3.fz 8); clear M3 hb2)))
    all_goals
      go_wp2_with fail
      go_meet
      case rel => exact ⟨HT2.out.side1 HK.out _, (Mv.of_below HB2.out).trans (Mv.lay HT2.out HK.out (Stay.set4 (S := fun i => i = n) (Stay.refl _ _) rfl 5 6 7 8 _ _ _ _))⟩
  case rest =>
  obtain ⟨hT3, hV3⟩ := hcut
  have key := tlink wc hT3 (upd_at _ _ _) hok
  unfold lkv at key
  have HT3 := Lib.hid hT3
  have HV3 := Lib.hid hV3
  clear hT3 hV3 keyK keyL n0 n1 n2 n3 n4 n5 n6 n7 n8
  go_wp2_with fail
  (with_reducible refine key.mono ?_); rintro e w5 ⟨rfl, hb5⟩
  have hT5 := HT3.out.below hb5
  have hV5 := HV3.out.below hb5
  obtain ⟨r0, r1, r2, r3, q0, q1, q2, q3⟩ := Mv.res H.out hV5
  have fin := Lib.hid (Mv.done H.out hT5 hV5 (.int .i64 (lkd k (.pr A (lkd B.num d))).num) (.int .i64 (lkd k (.pr A (lkd B.num d))).len) (.int .i64 (lkd k (.pr A (lkd B.num d))).ones) (.int .i64 (lkd k (.pr A (lkd B.num d))).ht))
  clear hT5 hV5 hb5
  go_wp2_with fail
  try simp only [Exit.inBlock, Exit.then]
  refine bodyPost_ret (v := lkv (lkd k (.pr A (lkd B.num d)))) (by simp [results, Tryd.results89, go_sem, lkv, *]) rfl ⟨rfl, fin.out⟩
end Go.Proofs.YtaglnomjlnlgoaaDoor
namespace Go.Proofs.YtaglnomjlnlgoaaDoor
open Go Go.RowKit Go.ChangeAt Tr

/-- What feed makes of two sides. -/
structure Fed (S S' : St) (k : Nat) (a b t : T) : Prop where
  bits : t.bits = a.bits ++ b.bits
  bal : t.bal
  full : t.full
  lo : max a.ht b.ht ≤ t.ht
  hi : t.ht ≤ 1 + max a.ht b.ht
  rt : S'.rt = S.rt
  vis : S'.vis ≤ S.vis + 2
  live : S'.live + (T.node k a b).ks.length = S.live + t.ks.length
  T : S'.T.length = S.T.length
theorem clr_two {s : Sto} {x y j : Nat} (h1 : j ≠ x) (h2 : j ≠ y) : clr s [x, y] j = s j := by
  unfold clr
  rw [if_neg (by simp [h1, h2])]
theorem clr_in {s : Sto} {x y j : Nat} (h : j = x ∨ j = y) : clr s [x, y] j = none := by
  unfold clr
  rw [if_pos (by simp [h])]
theorem St.live_eq {S S' : St} (h1 : S'.T = S.T) (h2 : S'.F = S.F) : S'.live = S.live := by unfold St.live; rw [h1, h2]
set_option maxRecDepth 100000 in
set_option maxHeartbeats 3200000 in
theorem tfeed_leaf_yes0 {base t k kF kO : Nat} {S : St} {lF lO : List Bool} (w : World) (h : TM base w t S) (hi : Is S.sto (T.node k (.leaf kF lF) (.leaf kO lO))) (hn : (T.node k (.leaf kF lF) (.leaf kO lO)).ks.Nodup) (hroom : lF.length + lO.length ≤ 128) (hfO : (T.full (.leaf kO lO))) (hlF : lF.length ≤ 128) (hv : S.vis + 2 ≤ 1000000000) :
    Calls Tryd.prog 73 #[.pointer (some ⟨t, 0, none⟩), .int .i64 k, .int .i64 0] w fun e w' => ∃ t' S', e = .returned (lkv t'.lk) ∧ TM base w' t S' ∧ Mv w w' S S' ∧ Chg S.sto S'.sto (T.node k (.leaf kF lF) (.leaf kO lO)) t' ∧ Fed S S' k (.leaf kF lF) (.leaf kO lO) t' := by
  obtain ⟨⟨n, hk⟩, ⟨nF, bF, hF⟩, ⟨nO, bO, hO⟩⟩ := id hi
  have hnd : (k :: (([kF] ++ [kO]))).Nodup := hn
  simp only [List.cons_append, List.nil_append, List.nodup_cons, List.mem_cons, List.not_mem_nil, or_false, not_or, not_false_eq_true, List.nodup_nil, and_true] at hnd
  obtain ⟨⟨nkF, nkO⟩, nFO⟩ := hnd
  have hb0 : Below w.heap.size w (w.alloc ZL) := Below.allocs (Below.refl _ _) _
  have h0 := h.below hb0
  obtain ⟨len, c, lb, e1, _, e2, e3, e4, e5, e6, e7⟩ := h0.seen hk
  have N := h0.pr hk
  have n1 : (w.alloc ZL).cell? ⟨n, 1, none⟩ = some (.int .i64 kF) := N.c1
  have n5 : (w.alloc ZL).cell? ⟨n, 5, none⟩ = some (.int .i64 kO) := N.c5
  have H := Lib.hid h
  have H0 := Lib.hid h0
  have HI := Lib.hid hi
  have HN := Lib.hid hn
  have z0 : IntKind.i64.wrap 0 = 0 := by decide
  have z1 : IntKind.i64.wrap 1 = 1 := by decide
  have HK : Hid (S.sto k = some (n, .pr (lkl kF lF) (lkl kO lO))) := Lib.hid hk
  have HO : Hid (S.sto kO = some (nO, .lf bO lO)) := Lib.hid hO
  have HF := Lib.hid hF
  clear h h0 hi hn N hk hO hF
  go_enter Tryd.func73, Tryd.ntmps73
  go_wp2_with fail
  go_quiet (fail)
  have hT1 := H0.out.drewN nq
  have hV1 : Mv (w.alloc ZL) ((w.alloc ZL).drewN nq) S S := Mv.of_below ((Below.refl _ _).drewN nq)
  clear n1 n5 e1 e2 e6 e7
  generalize (w.alloc ZL).drewN nq = w1 at *
  have key := tlook w1 hT1 HO.out (by omega)
  have HT1 := Lib.hid hT1
  have HV1 := Lib.hid hV1
  clear hT1 hV1
  go_wp2_with fail
  (with_reducible refine key.mono ?_); rintro e w2 ⟨rfl, hT2, hs2⟩
  have hO2 : (S.see (S.vis + 1)).sto kO = some (nO, .lf bO lO) := HO.out
  have hV2 := HV1.out.trans (Mv.tree HT1.out hs2 S.rt (S.vis + 1))
  obtain ⟨_, _, _, hNO, _, _, _⟩ := hT2.lf hO2
  have keyL := tisleaf w2 hNO.c0
  have HT2 := Lib.hid hT2
  have HV2 := Lib.hid hV2
  clear key hT2 hV2 hs2 hNO hO2
  go_wp2_with fail
  (with_reducible refine keyL.mono ?_); rintro e w2' ⟨rfl, rfl⟩
  have keyJ := tjoin_yes0 w2 HT2.out (show (S.see (S.vis + 1)).sto kF = _ from HF.out) (show (S.see (S.vis + 1)).sto kO = _ from HO.out) nFO hroom
  go_wp2_with fail
  (with_reducible refine keyJ.mono ?_); rintro e w4 ⟨own', g, rfl, hT4, hV4⟩
  obtain ⟨S3, hS3⟩ : ∃ S3, ({ (S.see (S.vis + 1)) with own := own', sto := (upd (upd S.sto kF (some (nF, .dd))) kO (some (nO, .lf g (lF ++ lO)))) } : St) = S3 := ⟨_, rfl⟩
  have s1 : S3.sto = (upd (upd S.sto kF (some (nF, .dd))) kO (some (nO, .lf g (lF ++ lO)))) := by rw [← hS3]
  have s2 : S3.T = S.T := by rw [← hS3]; rfl
  have s3 : S3.F = S.F := by rw [← hS3]; rfl
  have s4 : S3.rt = S.rt := by rw [← hS3]; rfl
  have s5 : S3.vis ≤ S.vis + 2 := by rw [← hS3]; show S.vis + 1 ≤ _; omega
  have hT4' : TM base w4 t S3 := hS3 ▸ hT4
  have hV4' : Mv (w.alloc ZL) w4 S S3 := HV2.out.trans (hS3 ▸ hV4)
  have hT4a := hT4'.below (Below.allocs (Below.refl _ _) (Obj.cells #[.int .i64 kF, .int .i64 k] 3))
  have hrd : RdL (w4.alloc (Obj.cells #[.int .i64 kF, .int .i64 k] 3)) (some ⟨w4.heap.size, 0, none⟩) 2 (nums [kF, k]) := RdL.made (nums [kF, k]) (by show 2 ≤ maxLen; decide)
  have key := tdrop (some ⟨w4.heap.size, 0, none⟩) 2 [kF, k] _ hT4a (List.nodup_cons.2 ⟨fun e => nkF (List.mem_singleton.1 e).symm, List.nodup_cons.2 ⟨List.not_mem_nil, List.nodup_nil⟩⟩) (fun j hj => by
    rw [s1]
    rcases List.mem_cons.1 hj with rfl | hj
    · rw [upd_ne _ _ nFO, upd_at]; exact fun h => by cases h
    · rw [List.mem_singleton.1 hj, upd_ne _ _ nkO, upd_ne _ _ nkF, HK.out]; exact fun h => by cases h) (by show 0 < 2; decide) hrd (fun ad e => by injection e with e; subst e; exact hT4'.new (Nat.le_refl _))
  change Calls _ _ #[_, .slice _ 2 2] _ _ at key
  have HS := Lib.hid (And.intro s1 (And.intro s2 (And.intro s3 (And.intro s4 s5))))
  have HV4 := Lib.hid hV4'
  clear s1 s2 s3 s4 s5 hT4 hV4 hT4' hV4' hT4a hrd keyJ hS3
  go_wp2_with fail
  (with_reducible refine key.mono ?_); rintro e w5 ⟨S4, rfl, hT5, hV5, hD⟩
  have hV5' := (HV4.out.below (Below.allocs (Below.refl _ _) _)).trans hV5
  have d : ∀ j, j ≠ kF → j ≠ k → j ≠ kO → S4.sto j = S.sto j := fun j q1 q2 q3 => by rw [hD.sto, clr_two q1 q2, HS.out.1, upd_ne _ _ q3, upd_ne _ _ q1]
  have dN : S4.sto kO = some (nO, .lf g (lF ++ lO)) := by rw [hD.sto, clr_two (fun e => nFO e.symm) (fun e => nkO e.symm), HS.out.1, upd_at]
  have dz : ∀ j, j = kF ∨ j = k → S4.sto j = none := fun j q => by rw [hD.sto]; exact clr_in q
  have keyA := tagain_lf 0 w5 hT5 dN
  unfold lkv at keyA
  have HV5 := Lib.hid hV5'
  have HD := Lib.hid (And.intro d (And.intro dN (And.intro dz hD)))
  clear key hT5 hV5 hV5' d dN dz hD
  go_wp2_with fail
  (with_reducible refine keyA.mono ?_); rintro e w6 ⟨rfl, hT6, hV6⟩
  have hV6' := HV5.out.trans hV6
  obtain ⟨r0, r1, r2, r3, q0, q1, q2, q3⟩ := Mv.res H.out hV6'
  have fin := Lib.hid (Mv.done H.out hT6 hV6' (.int .i64 (lkl kO (lF ++ lO)).num) (.int .i64 (lkl kO (lF ++ lO)).len) (.int .i64 (lkl kO (lF ++ lO)).ones) (.int .i64 (lkl kO (lF ++ lO)).ht))
  clear hT6 hV6 hV6' keyA
  go_wp2_with fail
  try simp only [Exit.inBlock, Exit.then]
  refine bodyPost_ret (v := lkv (lkl kO (lF ++ lO))) (by simp [results, Tryd.results73, go_sem, lkv, *] <;> exact ⟨rfl, rfl, rfl, rfl⟩) rfl ⟨(T.leaf kO (lF ++ lO)), _, rfl, fin.out.1, fin.out.2, ?_, ?_⟩
  · obtain ⟨d, dN, dz, hD⟩ := HD.out
    refine ⟨⟨nO, g, dN⟩, (List.nodup_cons.2 ⟨List.not_mem_nil, List.nodup_nil⟩), fun j p1 p2 => ?_, fun j p1 p2 => ?_⟩
    · have p1' : j ∉ (k :: (([kF] ++ [kO]))) := p1
      simp only [List.cons_append, List.nil_append, List.mem_cons, List.not_mem_nil, or_false, not_or] at p1'
      exact ⟨d j p1'.2.1 p1'.1 p1'.2.2, fun e => p1'.2.2 (List.mem_singleton.1 e)⟩
    · have p0 : j ≠ kO := fun e => p1 (e ▸ List.mem_singleton.2 rfl)
      by_cases c1 : j = kF
      · exact dz j (.inl c1)
      · by_cases c2 : j = k
        · exact dz j (.inr c2)
        · rw [d j c1 c2 p0]
          rcases p2 with p2 | p2
          · have p2' : j ∈ (k :: (([kF] ++ [kO]))) := p2
            simp only [List.cons_append, List.nil_append, List.mem_cons, List.not_mem_nil, or_false] at p2'
            rcases p2' with p2' | p2' | p2'
            · exact absurd p2' c2
            · exact absurd p2' c1
            · exact absurd p2' p0
          · exact p2
  · obtain ⟨d, dN, dz, hD⟩ := HD.out
    obtain ⟨s1, s2, s3, s4, s5⟩ := HS.out
    have hlv : S4.live + 2 = S3.live := hD.live
    have hlv2 : S3.live = S.live := St.live_eq s2 s3
    have hJl : (lF ++ lO).length = lF.length + lO.length := by rw [List.length_append]
    have hfO' : 32 ≤ lO.length ∧ lO.length ≤ 128 := hfO
    refine ⟨rfl, trivial, ⟨by rw [hJl]; omega, by rw [hJl]; omega⟩, Nat.le_refl _, by show 0 ≤ _; omega, hD.rt.trans s4, by rw [hD.vis]; exact s5, ?_, by rw [hD.T, s2]⟩
    show S4.live + 3 = S.live + 1
    omega
set_option maxRecDepth 100000 in
set_option maxHeartbeats 3200000 in
theorem tfeed_leaf_no0 {base t k kF kO : Nat} {S : St} {lF lO : List Bool} (w : World) (h : TM base w t S) (hi : Is S.sto (T.node k (.leaf kF lF) (.leaf kO lO))) (hn : (T.node k (.leaf kF lF) (.leaf kO lO)).ks.Nodup) (hroom : 128 < lF.length + lO.length) (hfO : (T.full (.leaf kO lO))) (hlF : lF.length ≤ 128) (hv : S.vis + 2 ≤ 1000000000) :
    Calls Tryd.prog 73 #[.pointer (some ⟨t, 0, none⟩), .int .i64 k, .int .i64 0] w fun e w' => ∃ t' S', e = .returned (lkv t'.lk) ∧ TM base w' t S' ∧ Mv w w' S S' ∧ Chg S.sto S'.sto (T.node k (.leaf kF lF) (.leaf kO lO)) t' ∧ Fed S S' k (.leaf kF lF) (.leaf kO lO) t' := by
  obtain ⟨⟨n, hk⟩, ⟨nF, bF, hF⟩, ⟨nO, bO, hO⟩⟩ := id hi
  have hnd : (k :: (([kF] ++ [kO]))).Nodup := hn
  simp only [List.cons_append, List.nil_append, List.nodup_cons, List.mem_cons, List.not_mem_nil, or_false, not_or, not_false_eq_true, List.nodup_nil, and_true] at hnd
  obtain ⟨⟨nkF, nkO⟩, nFO⟩ := hnd
  have hb0 : Below w.heap.size w (w.alloc ZL) := Below.allocs (Below.refl _ _) _
  have h0 := h.below hb0
  obtain ⟨len, c, lb, e1, _, e2, e3, e4, e5, e6, e7⟩ := h0.seen hk
  have N := h0.pr hk
  have n1 : (w.alloc ZL).cell? ⟨n, 1, none⟩ = some (.int .i64 kF) := N.c1
  have n5 : (w.alloc ZL).cell? ⟨n, 5, none⟩ = some (.int .i64 kO) := N.c5
  have H := Lib.hid h
  have H0 := Lib.hid h0
  have HI := Lib.hid hi
  have HN := Lib.hid hn
  have z0 : IntKind.i64.wrap 0 = 0 := by decide
  have z1 : IntKind.i64.wrap 1 = 1 := by decide
  have HK : Hid (S.sto k = some (n, .pr (lkl kF lF) (lkl kO lO))) := Lib.hid hk
  have HO : Hid (S.sto kO = some (nO, .lf bO lO)) := Lib.hid hO
  have HF := Lib.hid hF
  clear h h0 hi hn N hk hO hF
  go_enter Tryd.func73, Tryd.ntmps73
  go_wp2_with fail
  go_quiet (fail)
  have hT1 := H0.out.drewN nq
  have hV1 : Mv (w.alloc ZL) ((w.alloc ZL).drewN nq) S S := Mv.of_below ((Below.refl _ _).drewN nq)
  clear n1 n5 e1 e2 e6 e7
  generalize (w.alloc ZL).drewN nq = w1 at *
  have key := tlook w1 hT1 HO.out (by omega)
  have HT1 := Lib.hid hT1
  have HV1 := Lib.hid hV1
  clear hT1 hV1
  go_wp2_with fail
  (with_reducible refine key.mono ?_); rintro e w2 ⟨rfl, hT2, hs2⟩
  have hO2 : (S.see (S.vis + 1)).sto kO = some (nO, .lf bO lO) := HO.out
  have hV2 := HV1.out.trans (Mv.tree HT1.out hs2 S.rt (S.vis + 1))
  obtain ⟨_, _, _, hNO, _, _, _⟩ := hT2.lf hO2
  have keyL := tisleaf w2 hNO.c0
  have HT2 := Lib.hid hT2
  have HV2 := Lib.hid hV2
  clear key hT2 hV2 hs2 hNO hO2
  go_wp2_with fail
  (with_reducible refine keyL.mono ?_); rintro e w2' ⟨rfl, rfl⟩
  have keyJ := tjoin_no0 w2 HT2.out (show (S.see (S.vis + 1)).sto kF = _ from HF.out) (show (S.see (S.vis + 1)).sto kO = _ from HO.out) nFO hroom
  go_wp2_with fail
  (with_reducible refine keyJ.mono ?_); rintro e w4 ⟨own', g1, g2, rfl, hT4, hV4⟩
  obtain ⟨PF, hPF⟩ : ∃ P, ((lF ++ lO).take ((lF ++ lO).length / 2)) = P := ⟨_, rfl⟩
  obtain ⟨PN, hPN⟩ : ∃ P, ((lF ++ lO).drop ((lF ++ lO).length / 2)) = P := ⟨_, rfl⟩
  rw [hPF, hPN] at hT4 hV4
  have hJJ : PF ++ PN = lF ++ lO := by rw [← hPF, ← hPN, List.take_append_drop]
  obtain ⟨S3, hS3⟩ : ∃ S3, ({ (S.see (S.vis + 1)) with own := own', sto := (upd (upd S.sto kF (some (nF, .lf g1 PF))) kO (some (nO, .lf g2 PN))) } : St) = S3 := ⟨_, rfl⟩
  have s1 : S3.sto = (upd (upd S.sto kF (some (nF, .lf g1 PF))) kO (some (nO, .lf g2 PN))) := by rw [← hS3]
  have s2 : S3.T = S.T := by rw [← hS3]; rfl
  have s3 : S3.F = S.F := by rw [← hS3]; rfl
  have s4 : S3.rt = S.rt := by rw [← hS3]; rfl
  have s5 : S3.vis ≤ S.vis + 2 := by rw [← hS3]; show S.vis + 1 ≤ _; omega
  have hT4' : TM base w4 t S3 := hS3 ▸ hT4
  have hV4' : Mv (w.alloc ZL) w4 S S3 := HV2.out.trans (hS3 ▸ hV4)
  have d : ∀ j, j ≠ kF → j ≠ kO → S3.sto j = S.sto j := fun j q1 q3 => by rw [s1, upd_ne _ _ q3, upd_ne _ _ q1]
  have dN : S3.sto kO = some (nO, .lf g2 PN) := by rw [s1, upd_at]
  have dF : S3.sto kF = some (nF, .lf g1 PF) := by rw [s1, upd_ne _ _ nFO, upd_at]
  have dK : S3.sto k = some (n, .pr (lkl kF lF) (lkl kO lO)) := (d k nkF nkO).trans HK.out
  have hJl : (lF ++ lO).length = lF.length + lO.length := by rw [List.length_append]
  have hlF' : PF.length ≤ 128 ∧ 64 ≤ PF.length := by rw [← hPF]; simp only [List.length_take]; have hfO2 : 32 ≤ lO.length ∧ lO.length ≤ 128 := hfO; omega
  have hlN' : PN.length ≤ 128 ∧ 64 ≤ PN.length := by rw [← hPN]; simp only [List.length_drop]; have hfO2 : 32 ≤ lO.length ∧ lO.length ≤ 128 := hfO; omega
  have hT4d : TM base w4.drew t S3 := hT4'.drewN 1
  have keyK := tlink_lf w4.drew hT4d dF
  unfold lkv at keyK
  have HS := Lib.hid (And.intro s1 (And.intro s2 (And.intro s3 (And.intro s4 s5))))
  have HD := Lib.hid (And.intro d (And.intro dN (And.intro dF dK)))
  have HT4 := Lib.hid hT4'
  have HV4 := Lib.hid hV4'
  have HJ := Lib.hid (And.intro hJJ (And.intro hlF' hlN'))
  clear s1 s2 s3 s4 s5 hT4 hV4 hT4' hV4' hT4d keyJ hS3 d dN dF dK hJl hlF' hlN' hPF hPN hJJ
  go_wp2_with fail
  go_cut [] (fun wx => TM base wx t (S3.lay k n (.pr (lkl kF PF) (lkl kO lO))) ∧ Mv (w.alloc ZL) wx S (S3.lay k n (.pr (lkl kF PF) (lkl kO lO))))
  case first =>
    go_region_law (first | (go_simp; (go_at_call 68; (with_reducible refine keyK.mono ?_); rintro e wl ⟨rfl, hbl⟩; (have HBL := Lib.hid (Below.drewed hbl)); (have HTL := Lib.hid (HT4.out.below HBL.out)); (have M3 := HTL.out.pr HD.out.2.2.2); (have m5 := M3.c1); (have m6 := M3.c2); (have m7 := M3.c3); (have m8 := M3.c4); (have f5 := M3.fz 1); (have f6 := M3.fz 2); (have f7 := M3.fz 3); (have f8 := M3.fz 4); clear M3 hbl)))
    all_goals
      go_wp2_with fail
      go_meet
      case rel => exact ⟨HTL.out.side0 HD.out.2.2.2 _, (HV4.out.below HBL.out).trans (Mv.lay HTL.out HD.out.2.2.2 (Stay.set4 (S := fun i => i = n) (Stay.refl _ _) rfl 1 2 3 4 _ _ _ _))⟩
  case rest =>
  obtain ⟨hT5, hV5⟩ := hcut
  have v5 : ∀ j, j ≠ k → (S3.lay k n (.pr (lkl kF PF) (lkl kO lO))).sto j = S3.sto j := fun j q => upd_ne _ _ q
  have dN5 : (S3.lay k n (.pr (lkl kF PF) (lkl kO lO))).sto kO = some (nO, .lf g2 PN) := (v5 _ (fun e => nkO e.symm)).trans HD.out.2.1
  have hT5d : TM base wc.drew t (S3.lay k n (.pr (lkl kF PF) (lkl kO lO))) := hT5.drewN 1
  have keyA := tagain_lf 0 wc.drew hT5d dN5
  unfold lkv at keyA
  have HT5 := Lib.hid hT5
  have HV5 := Lib.hid hV5
  have k5 : (S3.lay k n (.pr (lkl kF PF) (lkl kO lO))).sto k = some (n, (.pr (lkl kF PF) (lkl kO lO))) := upd_at _ _ _
  have K5 := Lib.hid k5
  clear hT5 hV5 hT5d keyK k5 dN5 v5
  go_wp2_with fail
  go_cut [] (fun wx => TM base wx t ((S3.lay k n (.pr (lkl kF PF) (lkl kO lO))).lay k n (.pr (lkl kF PF) (lkl kO PN))) ∧ Mv (w.alloc ZL) wx S ((S3.lay k n (.pr (lkl kF PF) (lkl kO lO))).lay k n (.pr (lkl kF PF) (lkl kO PN))))
  case first =>
    go_region_law (first | (go_simp; (go_at_call 89; (with_reducible refine keyA.mono ?_); rintro e wl ⟨rfl, hTl, hVl⟩; (have HTL : Hid (TM base wl t (S3.lay k n (.pr (lkl kF PF) (lkl kO lO)))) := Lib.hid hTl); (have HVL : Hid (Mv (w.alloc ZL) wl S (S3.lay k n (.pr (lkl kF PF) (lkl kO lO)))) := Lib.hid ((HV5.out.below (Below.drews (Below.refl _ _))).trans hVl)); (have M3 := HTL.out.pr K5.out); (have m5 := M3.c5); (have m6 := M3.c6); (have m7 := M3.c7); (have m8 := M3.c8); (have f5 := M3.fz 5); (have f6 := M3.fz 6); (have f7 := M3.fz 7); (have f8 := M3.fz 8); clear M3 hTl hVl)))
    all_goals
      go_wp2_with fail
      go_meet
      case rel => exact ⟨HTL.out.side1 K5.out _, HVL.out.trans (Mv.lay HTL.out K5.out (Stay.set4 (S := fun i => i = n) (Stay.refl _ _) rfl 5 6 7 8 _ _ _ _))⟩
  case rest =>
  obtain ⟨hT6, hV6⟩ := hcut
  have hcF := List.count_le_length (a := true) (l := PF)
  have hcN := List.count_le_length (a := true) (l := PN)
  have hq1 : PF.length ≤ 128 := HJ.out.2.1.1
  have hq2 : PN.length ≤ 128 := HJ.out.2.2.1
  have key := tlink_pr wc hT6 (upd_at _ _ _) (by show PF.length + PN.length < _; omega) (by show PF.count true + PN.count true < _; omega) (by show 0 < _; decide) (by show 0 < _; decide)
  unfold lkv at key
  have HT6 := Lib.hid hT6
  have HV6 := Lib.hid hV6
  clear hT6 hV6 keyA hcF hcN hq1 hq2
  go_wp2_with fail
  (with_reducible refine key.mono ?_); rintro e w7 ⟨rfl, hb7⟩
  have hT7 := HT6.out.below hb7
  have hV7 := HV6.out.below hb7
  obtain ⟨r0, r1, r2, r3, q0, q1, q2, q3⟩ := Mv.res H.out hV7
  have fin := Lib.hid (Mv.done H.out hT7 hV7 (.int .i64 (mk k (lkl kF PF) (lkl kO PN)).num) (.int .i64 (mk k (lkl kF PF) (lkl kO PN)).len) (.int .i64 (mk k (lkl kF PF) (lkl kO PN)).ones) (.int .i64 (mk k (lkl kF PF) (lkl kO PN)).ht))
  clear hT7 hV7 hb7 key
  go_wp2_with fail
  try simp only [Exit.inBlock, Exit.then]
  refine bodyPost_ret (v := lkv (mk k (lkl kF PF) (lkl kO PN))) (by simp [results, Tryd.results73, go_sem, lkv, *] <;> exact ⟨rfl, rfl, rfl, rfl⟩) rfl ⟨(T.node k (.leaf kF PF) (.leaf kO PN)), _, rfl, fin.out.1, fin.out.2, ?_, ?_⟩
  · obtain ⟨d, dN, dF, dK⟩ := HD.out
    refine Chg.same ⟨⟨n, upd_at _ _ _⟩, ⟨nF, g1, (upd_ne _ _ (fun e => nkF e.symm)).trans ((upd_ne _ _ (fun e => nkF e.symm)).trans dF)⟩, ⟨nO, g2, (upd_ne _ _ (fun e => nkO e.symm)).trans ((upd_ne _ _ (fun e => nkO e.symm)).trans dN)⟩⟩ HN.out (List.Perm.refl _) (fun j hj => ?_)
    have hj' : j ∉ (k :: ([kF] ++ [kO])) := hj
    simp only [List.cons_append, List.nil_append, List.mem_cons, List.not_mem_nil, or_false, not_or] at hj'
    exact (upd_ne _ _ hj'.1).trans ((upd_ne _ _ hj'.1).trans (d j hj'.2.1 hj'.2.2))
  · obtain ⟨s1, s2, s3, s4, s5⟩ := HS.out
    obtain ⟨hJl, hlF', hlN'⟩ := HJ.out
    have hlv2 : S3.live = S.live := St.live_eq s2 s3
    refine ⟨?_, ⟨trivial, trivial, by show 0 ≤ 0 + 1; omega, by show 0 ≤ 0 + 1; omega⟩, ⟨⟨by omega, by omega⟩, ⟨by omega, by omega⟩⟩, by simp only [T.ht]; omega, by simp only [T.ht]; omega, s4, s5, ?_, congrArg List.length s2⟩
    · simp only [T.bits]
      exact hJl
    · show S3.live + _ = S.live + _
      rw [hlv2]; rfl
set_option maxRecDepth 100000 in
set_option maxHeartbeats 3200000 in
theorem tfeed_node_yes0 {base t k kF kO k1 k2 : Nat} {S : St} {lF l1 l2 : List Bool} (w : World) (h : TM base w t S) (hi : Is S.sto (T.node k (.leaf kF lF) (.node kO (.leaf k1 l1) (.leaf k2 l2)))) (hn : (T.node k (.leaf kF lF) (.node kO (.leaf k1 l1) (.leaf k2 l2))).ks.Nodup) (hroom : lF.length + l1.length ≤ 128) (hfO : (T.full (.node kO (.leaf k1 l1) (.leaf k2 l2)))) (hlF : lF.length ≤ 128) (hv : S.vis + 2 ≤ 1000000000) :
    Calls Tryd.prog 73 #[.pointer (some ⟨t, 0, none⟩), .int .i64 k, .int .i64 0] w fun e w' => ∃ t' S', e = .returned (lkv t'.lk) ∧ TM base w' t S' ∧ Mv w w' S S' ∧ Chg S.sto S'.sto (T.node k (.leaf kF lF) (.node kO (.leaf k1 l1) (.leaf k2 l2))) t' ∧ Fed S S' k (.leaf kF lF) (.node kO (.leaf k1 l1) (.leaf k2 l2)) t' := by
  obtain ⟨⟨n, hk⟩, ⟨nF, bF, hF⟩, ⟨⟨nO, hO⟩, ⟨m1, b1, h1⟩, ⟨m2, b2, h2⟩⟩⟩ := id hi
  have hnd : (k :: (([kF] ++ (kO :: ([k1] ++ [k2]))))).Nodup := hn
  simp only [List.cons_append, List.nil_append, List.nodup_cons, List.mem_cons, List.not_mem_nil, or_false, not_or, not_false_eq_true, List.nodup_nil, and_true] at hnd
  obtain ⟨⟨nkF, nkO, nk1, nk2⟩, ⟨nFO, nF1, nF2⟩, ⟨nO1, nO2⟩, n12⟩ := hnd
  have hb0 : Below w.heap.size w (w.alloc ZL) := Below.allocs (Below.refl _ _) _
  have h0 := h.below hb0
  obtain ⟨len, c, lb, e1, _, e2, e3, e4, e5, e6, e7⟩ := h0.seen hk
  have N := h0.pr hk
  have n1 : (w.alloc ZL).cell? ⟨n, 1, none⟩ = some (.int .i64 kF) := N.c1
  have n5 : (w.alloc ZL).cell? ⟨n, 5, none⟩ = some (.int .i64 kO) := N.c5
  have H := Lib.hid h
  have H0 := Lib.hid h0
  have HI := Lib.hid hi
  have HN := Lib.hid hn
  have z0 : IntKind.i64.wrap 0 = 0 := by decide
  have z1 : IntKind.i64.wrap 1 = 1 := by decide
  have HK : Hid (S.sto k = some (n, .pr (lkl kF lF) (mk kO (lkl k1 l1) (lkl k2 l2)))) := Lib.hid hk
  have HO : Hid (S.sto kO = some (nO, .pr (lkl k1 l1) (lkl k2 l2))) := Lib.hid hO
  have HF := Lib.hid hF
  have H1 := Lib.hid h1
  have H2 := Lib.hid h2
  clear h h0 hi hn N hk hO hF h1 h2
  go_enter Tryd.func73, Tryd.ntmps73
  go_wp2_with fail
  go_quiet (fail)
  have hT1 := H0.out.drewN nq
  have hV1 : Mv (w.alloc ZL) ((w.alloc ZL).drewN nq) S S := Mv.of_below ((Below.refl _ _).drewN nq)
  clear n1 n5 e1 e2 e6 e7
  generalize (w.alloc ZL).drewN nq = w1 at *
  have key := tlook w1 hT1 HO.out (by omega)
  have HT1 := Lib.hid hT1
  have HV1 := Lib.hid hV1
  clear hT1 hV1
  go_wp2_with fail
  (with_reducible refine key.mono ?_); rintro e w2 ⟨rfl, hT2, hs2⟩
  have hO2 : (S.see (S.vis + 1)).sto kO = some (nO, .pr (lkl k1 l1) (lkl k2 l2)) := HO.out
  have hV2 := HV1.out.trans (Mv.tree HT1.out hs2 S.rt (S.vis + 1))
  have NO := hT2.pr hO2
  have keyL := tisleaf w2 NO.c0
  have no : w2.cell? ⟨nO, 1, none⟩ = some (.int .i64 k1) := NO.c1
  have HT2 := Lib.hid hT2
  have HV2 := Lib.hid hV2
  clear key hT2 hV2 hs2 NO hO2
  go_wp2_with fail
  (with_reducible refine keyL.mono ?_); rintro e w2' ⟨rfl, rfl⟩
  have key := tlook w2 HT2.out (show (S.see (S.vis + 1)).sto k1 = _ from H1.out) (by show S.vis + 1 < _; omega)
  clear keyL
  go_wp2_with fail
  (with_reducible refine key.mono ?_); rintro e w3 ⟨rfl, hT3, hs3⟩
  have hT3' : TM base w3 t (S.see (S.vis + 2)) := hT3
  have hV3 : Mv (w.alloc ZL) w3 S (S.see (S.vis + 2)) := HV2.out.trans (Mv.tree HT2.out hs3 S.rt (S.vis + 2))
  have HT3 := Lib.hid hT3'
  have HV3 := Lib.hid hV3
  clear key hT3 hT3' hV3 hs3 no
  have keyJ := tjoin_yes0 w3 HT3.out (show (S.see (S.vis + 2)).sto kF = _ from HF.out) (show (S.see (S.vis + 2)).sto k1 = _ from H1.out) nF1 hroom
  go_wp2_with fail
  (with_reducible refine keyJ.mono ?_); rintro e w4 ⟨own', g, rfl, hT4, hV4⟩
  obtain ⟨S3, hS3⟩ : ∃ S3, ({ (S.see (S.vis + 2)) with own := own', sto := (upd (upd S.sto kF (some (nF, .dd))) k1 (some (m1, .lf g (lF ++ l1)))) } : St) = S3 := ⟨_, rfl⟩
  have s1 : S3.sto = (upd (upd S.sto kF (some (nF, .dd))) k1 (some (m1, .lf g (lF ++ l1)))) := by rw [← hS3]
  have s2 : S3.T = S.T := by rw [← hS3]; rfl
  have s3 : S3.F = S.F := by rw [← hS3]; rfl
  have s4 : S3.rt = S.rt := by rw [← hS3]; rfl
  have s5 : S3.vis ≤ S.vis + 2 := by rw [← hS3]; show S.vis + 2 ≤ _; omega
  have hT4' : TM base w4 t S3 := hS3 ▸ hT4
  have hV4' : Mv (w.alloc ZL) w4 S S3 := HV3.out.trans (hS3 ▸ hV4)
  have hT4a := hT4'.below (Below.allocs (Below.refl _ _) (Obj.cells #[.int .i64 kF, .int .i64 k] 3))
  have hrd : RdL (w4.alloc (Obj.cells #[.int .i64 kF, .int .i64 k] 3)) (some ⟨w4.heap.size, 0, none⟩) 2 (nums [kF, k]) := RdL.made (nums [kF, k]) (by show 2 ≤ maxLen; decide)
  have key := tdrop (some ⟨w4.heap.size, 0, none⟩) 2 [kF, k] _ hT4a (List.nodup_cons.2 ⟨fun e => nkF (List.mem_singleton.1 e).symm, List.nodup_cons.2 ⟨List.not_mem_nil, List.nodup_nil⟩⟩) (fun j hj => by
    rw [s1]
    rcases List.mem_cons.1 hj with rfl | hj
    · rw [upd_ne _ _ nF1, upd_at]; exact fun h => by cases h
    · rw [List.mem_singleton.1 hj, upd_ne _ _ nk1, upd_ne _ _ nkF, HK.out]; exact fun h => by cases h) (by show 0 < 2; decide) hrd (fun ad e => by injection e with e; subst e; exact hT4'.new (Nat.le_refl _))
  change Calls _ _ #[_, .slice _ 2 2] _ _ at key
  have HS := Lib.hid (And.intro s1 (And.intro s2 (And.intro s3 (And.intro s4 s5))))
  have HV4 := Lib.hid hV4'
  clear s1 s2 s3 s4 s5 hT4 hV4 hT4' hV4' hT4a hrd keyJ hS3
  go_wp2_with fail
  (with_reducible refine key.mono ?_); rintro e w5 ⟨S4, rfl, hT5, hV5, hD⟩
  have hV5' := (HV4.out.below (Below.allocs (Below.refl _ _) _)).trans hV5
  have d : ∀ j, j ≠ kF → j ≠ k → j ≠ k1 → S4.sto j = S.sto j := fun j q1 q2 q3 => by rw [hD.sto, clr_two q1 q2, HS.out.1, upd_ne _ _ q3, upd_ne _ _ q1]
  have dN : S4.sto k1 = some (m1, .lf g (lF ++ l1)) := by rw [hD.sto, clr_two (fun e => nF1 e.symm) (fun e => nk1 e.symm), HS.out.1, upd_at]
  have dz : ∀ j, j = kF ∨ j = k → S4.sto j = none := fun j q => by rw [hD.sto]; exact clr_in q
  have dO : S4.sto kO = some (nO, .pr (lkl k1 l1) (lkl k2 l2)) := (d kO (fun e => nFO e.symm) (fun e => nkO e.symm) nO1).trans HO.out
  have hc1 := List.count_le_length (a := true) (l := l1)
  have hc2 := List.count_le_length (a := true) (l := l2)
  have hcJ := List.count_le_length (a := true) (l := (lF ++ l1))
  have hJl : (lF ++ l1).length ≤ 128 := by rw [List.length_append]; omega
  have hf1 : l1.length ≤ 128 := hfO.1.2
  have hf2 : l2.length ≤ 128 := hfO.2.2
  have keyA := tagain_pr0 (d := .lf g (lF ++ l1)) w5 hT5 dO dN trivial ⟨by show (lF ++ l1).length + l2.length < _; omega, by show (lF ++ l1).count true + l2.count true < _; omega, by show 0 < _; decide, by show 0 < _; decide⟩
  unfold lkv at keyA
  have HV5 := Lib.hid hV5'
  have HD := Lib.hid (And.intro d (And.intro dN (And.intro dz (And.intro dO hD))))
  clear key hT5 hV5 hV5' d dN dz hD dO hc1 hc2 hcJ hJl hf1 hf2
  go_wp2_with fail
  (with_reducible refine keyA.mono ?_); rintro e w6 ⟨rfl, hT6, hV6⟩
  have hV6' := HV5.out.trans hV6
  obtain ⟨r0, r1, r2, r3, q0, q1, q2, q3⟩ := Mv.res H.out hV6'
  have fin := Lib.hid (Mv.done H.out hT6 hV6' (.int .i64 (mk kO (lkl k1 (lF ++ l1)) (lkl k2 l2)).num) (.int .i64 (mk kO (lkl k1 (lF ++ l1)) (lkl k2 l2)).len) (.int .i64 (mk kO (lkl k1 (lF ++ l1)) (lkl k2 l2)).ones) (.int .i64 (mk kO (lkl k1 (lF ++ l1)) (lkl k2 l2)).ht))
  clear hT6 hV6 hV6' keyA
  go_wp2_with fail
  try simp only [Exit.inBlock, Exit.then]
  refine bodyPost_ret (v := lkv (mk kO (lkl k1 (lF ++ l1)) (lkl k2 l2))) (by simp [results, Tryd.results73, go_sem, lkv, *] <;> exact ⟨rfl, rfl, rfl, rfl⟩) rfl ⟨(T.node kO (.leaf k1 (lF ++ l1)) (.leaf k2 l2)), _, rfl, fin.out.1, fin.out.2, ?_, ?_⟩
  · obtain ⟨d, dN, dz, dO, hD⟩ := HD.out
    refine ⟨⟨⟨nO, upd_at _ _ _⟩, ⟨m1, g, (upd_ne _ _ (fun e => nO1 e.symm)).trans dN⟩, ⟨m2, b2, (upd_ne _ _ (fun e => nO2 e.symm)).trans ((d k2 (fun e => nF2 e.symm) (fun e => nk2 e.symm) (fun e => n12 e.symm)).trans H2.out)⟩⟩, ?_, fun j p1 p2 => ?_, fun j p1 p2 => ?_⟩
    · show (kO :: ([k1] ++ [k2])).Nodup
      simp [nO1, nO2, n12]
    · have p1' : j ∉ (k :: ([kF] ++ (kO :: ([k1] ++ [k2])))) := p1
      simp only [List.cons_append, List.nil_append, List.mem_cons, List.not_mem_nil, or_false, not_or] at p1'
      refine ⟨(upd_ne _ _ p1'.2.2.1).trans (d j p1'.2.1 p1'.1 p1'.2.2.2.1), fun e => ?_⟩
      have e' : j ∈ (kO :: ([k1] ++ [k2])) := e
      simp only [List.cons_append, List.nil_append, List.mem_cons, List.not_mem_nil, or_false] at e'
      rcases e' with e' | e' | e'
      · exact p1'.2.2.1 e'
      · exact p1'.2.2.2.1 e'
      · exact p1'.2.2.2.2 e'
    · have p1' : j ∉ (kO :: ([k1] ++ [k2])) := p1
      simp only [List.cons_append, List.nil_append, List.mem_cons, List.not_mem_nil, or_false, not_or] at p1'
      refine (upd_ne _ _ p1'.1).trans ?_
      by_cases c1 : j = kF
      · exact dz j (.inl c1)
      · by_cases c2 : j = k
        · exact dz j (.inr c2)
        · rw [d j c1 c2 p1'.2.1]
          rcases p2 with p2 | p2
          · have p2' : j ∈ (k :: ([kF] ++ (kO :: ([k1] ++ [k2])))) := p2
            simp only [List.cons_append, List.nil_append, List.mem_cons, List.not_mem_nil, or_false] at p2'
            rcases p2' with p2' | p2' | p2' | p2' | p2'
            · exact absurd p2' c2
            · exact absurd p2' c1
            · exact absurd p2' p1'.1
            · exact absurd p2' p1'.2.1
            · exact absurd p2' p1'.2.2
          · exact p2
  · obtain ⟨d, dN, dz, dO, hD⟩ := HD.out
    obtain ⟨s1, s2, s3, s4, s5⟩ := HS.out
    have hlv : S4.live + 2 = S3.live := hD.live
    have hlv2 : S3.live = S.live := St.live_eq s2 s3
    have hJl : (lF ++ l1).length = lF.length + l1.length := by rw [List.length_append]
    have hf1 : 32 ≤ l1.length ∧ l1.length ≤ 128 := hfO.1
    have hf2 : 32 ≤ l2.length ∧ l2.length ≤ 128 := hfO.2
    refine ⟨by simp only [T.bits, List.append_assoc], ⟨trivial, trivial, by show 0 ≤ 0 + 1; omega, by show 0 ≤ 0 + 1; omega⟩, ⟨⟨by rw [hJl]; omega, by rw [hJl]; omega⟩, hf2⟩, by simp only [T.ht]; omega, by simp only [T.ht]; omega, hD.rt.trans s4, by show S4.vis ≤ _; rw [hD.vis]; exact s5, ?_, by show S4.T.length = _; rw [hD.T, s2]⟩
    show S4.live + 5 = S.live + 3
    omega
set_option maxRecDepth 100000 in
set_option maxHeartbeats 3200000 in
theorem tfeed_node_no0 {base t k kF kO k1 k2 : Nat} {S : St} {lF l1 l2 : List Bool} (w : World) (h : TM base w t S) (hi : Is S.sto (T.node k (.leaf kF lF) (.node kO (.leaf k1 l1) (.leaf k2 l2)))) (hn : (T.node k (.leaf kF lF) (.node kO (.leaf k1 l1) (.leaf k2 l2))).ks.Nodup) (hroom : 128 < lF.length + l1.length) (hfO : (T.full (.node kO (.leaf k1 l1) (.leaf k2 l2)))) (hlF : lF.length ≤ 128) (hv : S.vis + 2 ≤ 1000000000) :
    Calls Tryd.prog 73 #[.pointer (some ⟨t, 0, none⟩), .int .i64 k, .int .i64 0] w fun e w' => ∃ t' S', e = .returned (lkv t'.lk) ∧ TM base w' t S' ∧ Mv w w' S S' ∧ Chg S.sto S'.sto (T.node k (.leaf kF lF) (.node kO (.leaf k1 l1) (.leaf k2 l2))) t' ∧ Fed S S' k (.leaf kF lF) (.node kO (.leaf k1 l1) (.leaf k2 l2)) t' := by
  obtain ⟨⟨n, hk⟩, ⟨nF, bF, hF⟩, ⟨⟨nO, hO⟩, ⟨m1, b1, h1⟩, ⟨m2, b2, h2⟩⟩⟩ := id hi
  have hnd : (k :: (([kF] ++ (kO :: ([k1] ++ [k2]))))).Nodup := hn
  simp only [List.cons_append, List.nil_append, List.nodup_cons, List.mem_cons, List.not_mem_nil, or_false, not_or, not_false_eq_true, List.nodup_nil, and_true] at hnd
  obtain ⟨⟨nkF, nkO, nk1, nk2⟩, ⟨nFO, nF1, nF2⟩, ⟨nO1, nO2⟩, n12⟩ := hnd
  have hb0 : Below w.heap.size w (w.alloc ZL) := Below.allocs (Below.refl _ _) _
  have h0 := h.below hb0
  obtain ⟨len, c, lb, e1, _, e2, e3, e4, e5, e6, e7⟩ := h0.seen hk
  have N := h0.pr hk
  have n1 : (w.alloc ZL).cell? ⟨n, 1, none⟩ = some (.int .i64 kF) := N.c1
  have n5 : (w.alloc ZL).cell? ⟨n, 5, none⟩ = some (.int .i64 kO) := N.c5
  have H := Lib.hid h
  have H0 := Lib.hid h0
  have HI := Lib.hid hi
  have HN := Lib.hid hn
  have z0 : IntKind.i64.wrap 0 = 0 := by decide
  have z1 : IntKind.i64.wrap 1 = 1 := by decide
  have HK : Hid (S.sto k = some (n, .pr (lkl kF lF) (mk kO (lkl k1 l1) (lkl k2 l2)))) := Lib.hid hk
  have HO : Hid (S.sto kO = some (nO, .pr (lkl k1 l1) (lkl k2 l2))) := Lib.hid hO
  have HF := Lib.hid hF
  have H1 := Lib.hid h1
  have H2 := Lib.hid h2
  clear h h0 hi hn N hk hO hF h1 h2
  go_enter Tryd.func73, Tryd.ntmps73
  go_wp2_with fail
  go_quiet (fail)
  have hT1 := H0.out.drewN nq
  have hV1 : Mv (w.alloc ZL) ((w.alloc ZL).drewN nq) S S := Mv.of_below ((Below.refl _ _).drewN nq)
  clear n1 n5 e1 e2 e6 e7
  generalize (w.alloc ZL).drewN nq = w1 at *
  have key := tlook w1 hT1 HO.out (by omega)
  have HT1 := Lib.hid hT1
  have HV1 := Lib.hid hV1
  clear hT1 hV1
  go_wp2_with fail
  (with_reducible refine key.mono ?_); rintro e w2 ⟨rfl, hT2, hs2⟩
  have hO2 : (S.see (S.vis + 1)).sto kO = some (nO, .pr (lkl k1 l1) (lkl k2 l2)) := HO.out
  have hV2 := HV1.out.trans (Mv.tree HT1.out hs2 S.rt (S.vis + 1))
  have NO := hT2.pr hO2
  have keyL := tisleaf w2 NO.c0
  have no : w2.cell? ⟨nO, 1, none⟩ = some (.int .i64 k1) := NO.c1
  have HT2 := Lib.hid hT2
  have HV2 := Lib.hid hV2
  clear key hT2 hV2 hs2 NO hO2
  go_wp2_with fail
  (with_reducible refine keyL.mono ?_); rintro e w2' ⟨rfl, rfl⟩
  have key := tlook w2 HT2.out (show (S.see (S.vis + 1)).sto k1 = _ from H1.out) (by show S.vis + 1 < _; omega)
  clear keyL
  go_wp2_with fail
  (with_reducible refine key.mono ?_); rintro e w3 ⟨rfl, hT3, hs3⟩
  have hT3' : TM base w3 t (S.see (S.vis + 2)) := hT3
  have hV3 : Mv (w.alloc ZL) w3 S (S.see (S.vis + 2)) := HV2.out.trans (Mv.tree HT2.out hs3 S.rt (S.vis + 2))
  have HT3 := Lib.hid hT3'
  have HV3 := Lib.hid hV3
  clear key hT3 hT3' hV3 hs3 no
  have keyJ := tjoin_no0 w3 HT3.out (show (S.see (S.vis + 2)).sto kF = _ from HF.out) (show (S.see (S.vis + 2)).sto k1 = _ from H1.out) nF1 hroom
  go_wp2_with fail
  (with_reducible refine keyJ.mono ?_); rintro e w4 ⟨own', g1, g2, rfl, hT4, hV4⟩
  obtain ⟨PF, hPF⟩ : ∃ P, ((lF ++ l1).take ((lF ++ l1).length / 2)) = P := ⟨_, rfl⟩
  obtain ⟨PN, hPN⟩ : ∃ P, ((lF ++ l1).drop ((lF ++ l1).length / 2)) = P := ⟨_, rfl⟩
  rw [hPF, hPN] at hT4 hV4
  have hJJ : PF ++ PN = lF ++ l1 := by rw [← hPF, ← hPN, List.take_append_drop]
  obtain ⟨S3, hS3⟩ : ∃ S3, ({ (S.see (S.vis + 2)) with own := own', sto := (upd (upd S.sto kF (some (nF, .lf g1 PF))) k1 (some (m1, .lf g2 PN))) } : St) = S3 := ⟨_, rfl⟩
  have s1 : S3.sto = (upd (upd S.sto kF (some (nF, .lf g1 PF))) k1 (some (m1, .lf g2 PN))) := by rw [← hS3]
  have s2 : S3.T = S.T := by rw [← hS3]; rfl
  have s3 : S3.F = S.F := by rw [← hS3]; rfl
  have s4 : S3.rt = S.rt := by rw [← hS3]; rfl
  have s5 : S3.vis ≤ S.vis + 2 := by rw [← hS3]; show S.vis + 2 ≤ _; omega
  have hT4' : TM base w4 t S3 := hS3 ▸ hT4
  have hV4' : Mv (w.alloc ZL) w4 S S3 := HV3.out.trans (hS3 ▸ hV4)
  have d : ∀ j, j ≠ kF → j ≠ k1 → S3.sto j = S.sto j := fun j q1 q3 => by rw [s1, upd_ne _ _ q3, upd_ne _ _ q1]
  have dN : S3.sto k1 = some (m1, .lf g2 PN) := by rw [s1, upd_at]
  have dF : S3.sto kF = some (nF, .lf g1 PF) := by rw [s1, upd_ne _ _ nF1, upd_at]
  have dK : S3.sto k = some (n, .pr (lkl kF lF) (mk kO (lkl k1 l1) (lkl k2 l2))) := (d k nkF nk1).trans HK.out
  have hJl : (lF ++ l1).length = lF.length + l1.length := by rw [List.length_append]
  have hlF' : PF.length ≤ 128 ∧ 64 ≤ PF.length := by rw [← hPF]; simp only [List.length_take]; have hfO2 : 32 ≤ l1.length ∧ l1.length ≤ 128 := hfO.1; omega
  have hlN' : PN.length ≤ 128 ∧ 64 ≤ PN.length := by rw [← hPN]; simp only [List.length_drop]; have hfO2 : 32 ≤ l1.length ∧ l1.length ≤ 128 := hfO.1; omega
  have hT4d : TM base w4.drew t S3 := hT4'.drewN 1
  have keyK := tlink_lf w4.drew hT4d dF
  unfold lkv at keyK
  have HS := Lib.hid (And.intro s1 (And.intro s2 (And.intro s3 (And.intro s4 s5))))
  have HD := Lib.hid (And.intro d (And.intro dN (And.intro dF dK)))
  have HT4 := Lib.hid hT4'
  have HV4 := Lib.hid hV4'
  have HJ := Lib.hid (And.intro hJJ (And.intro hlF' hlN'))
  clear s1 s2 s3 s4 s5 hT4 hV4 hT4' hV4' hT4d keyJ hS3 d dN dF dK hJl hlF' hlN' hPF hPN hJJ
  go_wp2_with fail
  go_cut [] (fun wx => TM base wx t (S3.lay k n (.pr (lkl kF PF) (mk kO (lkl k1 l1) (lkl k2 l2)))) ∧ Mv (w.alloc ZL) wx S (S3.lay k n (.pr (lkl kF PF) (mk kO (lkl k1 l1) (lkl k2 l2)))))
  case first =>
    go_region_law (first | (go_simp; (go_at_call 68; (with_reducible refine keyK.mono ?_); rintro e wl ⟨rfl, hbl⟩; (have HBL := Lib.hid (Below.drewed hbl)); (have HTL := Lib.hid (HT4.out.below HBL.out)); (have M3 := HTL.out.pr HD.out.2.2.2); (have m5 := M3.c1); (have m6 := M3.c2); (have m7 := M3.c3); (have m8 := M3.c4); (have f5 := M3.fz 1); (have f6 := M3.fz 2); (have f7 := M3.fz 3); (have f8 := M3.fz 4); clear M3 hbl)))
    all_goals
      go_wp2_with fail
      go_meet
      case rel => exact ⟨HTL.out.side0 HD.out.2.2.2 _, (HV4.out.below HBL.out).trans (Mv.lay HTL.out HD.out.2.2.2 (Stay.set4 (S := fun i => i = n) (Stay.refl _ _) rfl 1 2 3 4 _ _ _ _))⟩
  case rest =>
  obtain ⟨hT5, hV5⟩ := hcut
  have v5 : ∀ j, j ≠ k → (S3.lay k n (.pr (lkl kF PF) (mk kO (lkl k1 l1) (lkl k2 l2)))).sto j = S3.sto j := fun j q => upd_ne _ _ q
  have dN5 : (S3.lay k n (.pr (lkl kF PF) (mk kO (lkl k1 l1) (lkl k2 l2)))).sto k1 = some (m1, .lf g2 PN) := (v5 _ (fun e => nk1 e.symm)).trans HD.out.2.1
  have hT5d : TM base wc.drew t (S3.lay k n (.pr (lkl kF PF) (mk kO (lkl k1 l1) (lkl k2 l2)))) := hT5.drewN 1
  have dO5 : (S3.lay k n (.pr (lkl kF PF) (mk kO (lkl k1 l1) (lkl k2 l2)))).sto kO = some (nO, .pr (lkl k1 l1) (lkl k2 l2)) := (v5 _ (fun e => nkO e.symm)).trans ((HD.out.1 kO (fun e => nFO e.symm) nO1).trans HO.out)
  have hc1 := List.count_le_length (a := true) (l := l1)
  have hc2 := List.count_le_length (a := true) (l := l2)
  have hcJ := List.count_le_length (a := true) (l := PN)
  have hJl : PN.length ≤ 128 := HJ.out.2.2.1
  have hf1 : l1.length ≤ 128 := hfO.1.2
  have hf2 : l2.length ≤ 128 := hfO.2.2
  have keyA := tagain_pr0 (d := .lf g2 PN) wc.drew hT5d dO5 dN5 trivial ⟨by show PN.length + l2.length < _; omega, by show PN.count true + l2.count true < _; omega, by show 0 < _; decide, by show 0 < _; decide⟩
  unfold lkv at keyA
  have HT5 := Lib.hid hT5
  have HV5 := Lib.hid hV5
  have k5 : ((S3.lay k n (.pr (lkl kF PF) (mk kO (lkl k1 l1) (lkl k2 l2)))).lay kO nO (.pr (lkl k1 PN) (lkl k2 l2))).sto k = some (n, (.pr (lkl kF PF) (mk kO (lkl k1 l1) (lkl k2 l2)))) := (upd_ne _ _ nkO).trans (upd_at _ _ _)
  have K5 := Lib.hid k5
  clear hT5 hV5 hT5d keyK k5 hc1 hc2 hcJ hJl hf1 hf2 dO5 dN5 v5
  go_wp2_with fail
  go_cut [] (fun wx => TM base wx t (((S3.lay k n (.pr (lkl kF PF) (mk kO (lkl k1 l1) (lkl k2 l2)))).lay kO nO (.pr (lkl k1 PN) (lkl k2 l2))).lay k n (.pr (lkl kF PF) (mk kO (lkl k1 PN) (lkl k2 l2)))) ∧ Mv (w.alloc ZL) wx S (((S3.lay k n (.pr (lkl kF PF) (mk kO (lkl k1 l1) (lkl k2 l2)))).lay kO nO (.pr (lkl k1 PN) (lkl k2 l2))).lay k n (.pr (lkl kF PF) (mk kO (lkl k1 PN) (lkl k2 l2)))))
  case first =>
    go_region_law (first | (go_simp; (go_at_call 89; (with_reducible refine keyA.mono ?_); rintro e wl ⟨rfl, hTl, hVl⟩; (have HTL : Hid (TM base wl t ((S3.lay k n (.pr (lkl kF PF) (mk kO (lkl k1 l1) (lkl k2 l2)))).lay kO nO (.pr (lkl k1 PN) (lkl k2 l2)))) := Lib.hid hTl); (have HVL : Hid (Mv (w.alloc ZL) wl S ((S3.lay k n (.pr (lkl kF PF) (mk kO (lkl k1 l1) (lkl k2 l2)))).lay kO nO (.pr (lkl k1 PN) (lkl k2 l2)))) := Lib.hid ((HV5.out.below (Below.drews (Below.refl _ _))).trans hVl)); (have M3 := HTL.out.pr K5.out); (have m5 := M3.c5); (have m6 := M3.c6); (have m7 := M3.c7); (have m8 := M3.c8); (have f5 := M3.fz 5); (have f6 := M3.fz 6); (have f7 := M3.fz 7); (have f8 := M3.fz 8); clear M3 hTl hVl)))
    all_goals
      go_wp2_with fail
      go_meet
      case rel => exact ⟨HTL.out.side1 K5.out _, HVL.out.trans (Mv.lay HTL.out K5.out (Stay.set4 (S := fun i => i = n) (Stay.refl _ _) rfl 5 6 7 8 _ _ _ _))⟩
  case rest =>
  obtain ⟨hT6, hV6⟩ := hcut
  have hcF := List.count_le_length (a := true) (l := PF)
  have hcN := List.count_le_length (a := true) (l := PN)
  have hq1 : PF.length ≤ 128 := HJ.out.2.1.1
  have hq2 : PN.length ≤ 128 := HJ.out.2.2.1
  have hc1 := List.count_le_length (a := true) (l := l1)
  have hc2 := List.count_le_length (a := true) (l := l2)
  have hf1 : l1.length ≤ 128 := hfO.1.2
  have hf2 : l2.length ≤ 128 := hfO.2.2
  have key := tlink_pr wc hT6 (upd_at _ _ _) (by show PF.length + (PN.length + l2.length) < _; omega) (by show PF.count true + (PN.count true + l2.count true) < _; omega) (by show 0 < _; decide) (by show 1 + max 0 0 < _; decide)
  unfold lkv at key
  have HT6 := Lib.hid hT6
  have HV6 := Lib.hid hV6
  clear hT6 hV6 keyA hcF hcN hq1 hq2 hc1 hc2 hf1 hf2
  go_wp2_with fail
  (with_reducible refine key.mono ?_); rintro e w7 ⟨rfl, hb7⟩
  have hT7 := HT6.out.below hb7
  have hV7 := HV6.out.below hb7
  obtain ⟨r0, r1, r2, r3, q0, q1, q2, q3⟩ := Mv.res H.out hV7
  have fin := Lib.hid (Mv.done H.out hT7 hV7 (.int .i64 (mk k (lkl kF PF) (mk kO (lkl k1 PN) (lkl k2 l2))).num) (.int .i64 (mk k (lkl kF PF) (mk kO (lkl k1 PN) (lkl k2 l2))).len) (.int .i64 (mk k (lkl kF PF) (mk kO (lkl k1 PN) (lkl k2 l2))).ones) (.int .i64 (mk k (lkl kF PF) (mk kO (lkl k1 PN) (lkl k2 l2))).ht))
  clear hT7 hV7 hb7 key
  go_wp2_with fail
  try simp only [Exit.inBlock, Exit.then]
  refine bodyPost_ret (v := lkv (mk k (lkl kF PF) (mk kO (lkl k1 PN) (lkl k2 l2)))) (by simp [results, Tryd.results73, go_sem, lkv, *] <;> exact ⟨rfl, rfl, rfl, rfl⟩) rfl ⟨(T.node k (.leaf kF PF) (.node kO (.leaf k1 PN) (.leaf k2 l2))), _, rfl, fin.out.1, fin.out.2, ?_, ?_⟩
  · obtain ⟨d, dN, dF, dK⟩ := HD.out
    refine Chg.same ⟨⟨n, upd_at _ _ _⟩, ⟨nF, g1, (upd_ne _ _ (fun e => nkF e.symm)).trans ((upd_ne _ _ nFO).trans ((upd_ne _ _ (fun e => nkF e.symm)).trans dF))⟩, ⟨⟨nO, (upd_ne _ _ (fun e => nkO e.symm)).trans (upd_at _ _ _)⟩, ⟨m1, g2, (upd_ne _ _ (fun e => nk1 e.symm)).trans ((upd_ne _ _ (fun e => nO1 e.symm)).trans ((upd_ne _ _ (fun e => nk1 e.symm)).trans dN))⟩, ⟨m2, b2, (upd_ne _ _ (fun e => nk2 e.symm)).trans ((upd_ne _ _ (fun e => nO2 e.symm)).trans ((upd_ne _ _ (fun e => nk2 e.symm)).trans ((d k2 (fun e => nF2 e.symm) (fun e => n12 e.symm)).trans H2.out)))⟩⟩⟩ HN.out (List.Perm.refl _) (fun j hj => ?_)
    have hj' : j ∉ (k :: ([kF] ++ (kO :: ([k1] ++ [k2])))) := hj
    simp only [List.cons_append, List.nil_append, List.mem_cons, List.not_mem_nil, or_false, not_or] at hj'
    exact (upd_ne _ _ hj'.1).trans ((upd_ne _ _ hj'.2.2.1).trans ((upd_ne _ _ hj'.1).trans (d j hj'.2.1 hj'.2.2.2.1)))
  · obtain ⟨s1, s2, s3, s4, s5⟩ := HS.out
    obtain ⟨hJl, hlF', hlN'⟩ := HJ.out
    have hlv2 : S3.live = S.live := St.live_eq s2 s3
    refine ⟨?_, ⟨trivial, ⟨trivial, trivial, by show 0 ≤ 0 + 1; omega, by show 0 ≤ 0 + 1; omega⟩, by show 0 ≤ 1 + max 0 0 + 1; omega, by show 1 + max 0 0 ≤ 0 + 1; omega⟩, ⟨⟨by omega, by omega⟩, ⟨⟨by omega, by omega⟩, hfO.2⟩⟩, by simp only [T.ht]; omega, by simp only [T.ht]; omega, s4, s5, ?_, congrArg List.length s2⟩
    · simp only [T.bits]
      rw [← List.append_assoc, hJl, List.append_assoc]
    · show S3.live + _ = S.live + _
      rw [hlv2]; rfl
set_option maxRecDepth 100000 in
set_option maxHeartbeats 3200000 in
theorem tfeed_leaf_yes1 {base t k kF kO : Nat} {S : St} {lF lO : List Bool} (w : World) (h : TM base w t S) (hi : Is S.sto (T.node k (.leaf kO lO) (.leaf kF lF))) (hn : (T.node k (.leaf kO lO) (.leaf kF lF)).ks.Nodup) (hroom : lF.length + lO.length ≤ 128) (hfO : (T.full (.leaf kO lO))) (hlF : lF.length ≤ 128) (hv : S.vis + 2 ≤ 1000000000) :
    Calls Tryd.prog 73 #[.pointer (some ⟨t, 0, none⟩), .int .i64 k, .int .i64 1] w fun e w' => ∃ t' S', e = .returned (lkv t'.lk) ∧ TM base w' t S' ∧ Mv w w' S S' ∧ Chg S.sto S'.sto (T.node k (.leaf kO lO) (.leaf kF lF)) t' ∧ Fed S S' k (.leaf kO lO) (.leaf kF lF) t' := by
  obtain ⟨⟨n, hk⟩, ⟨nO, bO, hO⟩, ⟨nF, bF, hF⟩⟩ := id hi
  have hnd : (k :: (([kO] ++ [kF]))).Nodup := hn
  simp only [List.cons_append, List.nil_append, List.nodup_cons, List.mem_cons, List.not_mem_nil, or_false, not_or, not_false_eq_true, List.nodup_nil, and_true] at hnd
  obtain ⟨⟨nkO, nkF⟩, nOF⟩ := hnd
  have nFO := fun e => nOF (Eq.symm e)
  have hb0 : Below w.heap.size w (w.alloc ZL) := Below.allocs (Below.refl _ _) _
  have h0 := h.below hb0
  obtain ⟨len, c, lb, e1, _, e2, e3, e4, e5, e6, e7⟩ := h0.seen hk
  have N := h0.pr hk
  have n1 : (w.alloc ZL).cell? ⟨n, 1, none⟩ = some (.int .i64 kO) := N.c1
  have n5 : (w.alloc ZL).cell? ⟨n, 5, none⟩ = some (.int .i64 kF) := N.c5
  have H := Lib.hid h
  have H0 := Lib.hid h0
  have HI := Lib.hid hi
  have HN := Lib.hid hn
  have z0 : IntKind.i64.wrap 0 = 0 := by decide
  have z1 : IntKind.i64.wrap 1 = 1 := by decide
  have HK : Hid (S.sto k = some (n, .pr (lkl kO lO) (lkl kF lF))) := Lib.hid hk
  have HO : Hid (S.sto kO = some (nO, .lf bO lO)) := Lib.hid hO
  have HF := Lib.hid hF
  clear h h0 hi hn N hk hO hF
  go_enter Tryd.func73, Tryd.ntmps73
  go_wp2_with fail
  go_quiet (fail)
  have hT1 := H0.out.drewN nq
  have hV1 : Mv (w.alloc ZL) ((w.alloc ZL).drewN nq) S S := Mv.of_below ((Below.refl _ _).drewN nq)
  clear n1 n5 e1 e2 e6 e7
  generalize (w.alloc ZL).drewN nq = w1 at *
  have key := tlook w1 hT1 HO.out (by omega)
  have HT1 := Lib.hid hT1
  have HV1 := Lib.hid hV1
  clear hT1 hV1
  go_wp2_with fail
  (with_reducible refine key.mono ?_); rintro e w2 ⟨rfl, hT2, hs2⟩
  have hO2 : (S.see (S.vis + 1)).sto kO = some (nO, .lf bO lO) := HO.out
  have hV2 := HV1.out.trans (Mv.tree HT1.out hs2 S.rt (S.vis + 1))
  obtain ⟨_, _, _, hNO, _, _, _⟩ := hT2.lf hO2
  have keyL := tisleaf w2 hNO.c0
  have HT2 := Lib.hid hT2
  have HV2 := Lib.hid hV2
  clear key hT2 hV2 hs2 hNO hO2
  go_wp2_with fail
  (with_reducible refine keyL.mono ?_); rintro e w2' ⟨rfl, rfl⟩
  have keyJ := tjoin_yes1 w2 HT2.out (show (S.see (S.vis + 1)).sto kF = _ from HF.out) (show (S.see (S.vis + 1)).sto kO = _ from HO.out) nFO hroom
  go_wp2_with fail
  (with_reducible refine keyJ.mono ?_); rintro e w4 ⟨own', g, rfl, hT4, hV4⟩
  obtain ⟨S3, hS3⟩ : ∃ S3, ({ (S.see (S.vis + 1)) with own := own', sto := (upd (upd S.sto kF (some (nF, .dd))) kO (some (nO, .lf g (lO ++ lF)))) } : St) = S3 := ⟨_, rfl⟩
  have s1 : S3.sto = (upd (upd S.sto kF (some (nF, .dd))) kO (some (nO, .lf g (lO ++ lF)))) := by rw [← hS3]
  have s2 : S3.T = S.T := by rw [← hS3]; rfl
  have s3 : S3.F = S.F := by rw [← hS3]; rfl
  have s4 : S3.rt = S.rt := by rw [← hS3]; rfl
  have s5 : S3.vis ≤ S.vis + 2 := by rw [← hS3]; show S.vis + 1 ≤ _; omega
  have hT4' : TM base w4 t S3 := hS3 ▸ hT4
  have hV4' : Mv (w.alloc ZL) w4 S S3 := HV2.out.trans (hS3 ▸ hV4)
  have hT4a := hT4'.below (Below.allocs (Below.refl _ _) (Obj.cells #[.int .i64 kF, .int .i64 k] 3))
  have hrd : RdL (w4.alloc (Obj.cells #[.int .i64 kF, .int .i64 k] 3)) (some ⟨w4.heap.size, 0, none⟩) 2 (nums [kF, k]) := RdL.made (nums [kF, k]) (by show 2 ≤ maxLen; decide)
  have key := tdrop (some ⟨w4.heap.size, 0, none⟩) 2 [kF, k] _ hT4a (List.nodup_cons.2 ⟨fun e => nkF (List.mem_singleton.1 e).symm, List.nodup_cons.2 ⟨List.not_mem_nil, List.nodup_nil⟩⟩) (fun j hj => by
    rw [s1]
    rcases List.mem_cons.1 hj with rfl | hj
    · rw [upd_ne _ _ nFO, upd_at]; exact fun h => by cases h
    · rw [List.mem_singleton.1 hj, upd_ne _ _ nkO, upd_ne _ _ nkF, HK.out]; exact fun h => by cases h) (by show 0 < 2; decide) hrd (fun ad e => by injection e with e; subst e; exact hT4'.new (Nat.le_refl _))
  change Calls _ _ #[_, .slice _ 2 2] _ _ at key
  have HS := Lib.hid (And.intro s1 (And.intro s2 (And.intro s3 (And.intro s4 s5))))
  have HV4 := Lib.hid hV4'
  clear s1 s2 s3 s4 s5 hT4 hV4 hT4' hV4' hT4a hrd keyJ hS3
  go_wp2_with fail
  (with_reducible refine key.mono ?_); rintro e w5 ⟨S4, rfl, hT5, hV5, hD⟩
  have hV5' := (HV4.out.below (Below.allocs (Below.refl _ _) _)).trans hV5
  have d : ∀ j, j ≠ kF → j ≠ k → j ≠ kO → S4.sto j = S.sto j := fun j q1 q2 q3 => by rw [hD.sto, clr_two q1 q2, HS.out.1, upd_ne _ _ q3, upd_ne _ _ q1]
  have dN : S4.sto kO = some (nO, .lf g (lO ++ lF)) := by rw [hD.sto, clr_two (fun e => nFO e.symm) (fun e => nkO e.symm), HS.out.1, upd_at]
  have dz : ∀ j, j = kF ∨ j = k → S4.sto j = none := fun j q => by rw [hD.sto]; exact clr_in q
  have keyA := tagain_lf 1 w5 hT5 dN
  unfold lkv at keyA
  have HV5 := Lib.hid hV5'
  have HD := Lib.hid (And.intro d (And.intro dN (And.intro dz hD)))
  clear key hT5 hV5 hV5' d dN dz hD
  go_wp2_with fail
  (with_reducible refine keyA.mono ?_); rintro e w6 ⟨rfl, hT6, hV6⟩
  have hV6' := HV5.out.trans hV6
  obtain ⟨r0, r1, r2, r3, q0, q1, q2, q3⟩ := Mv.res H.out hV6'
  have fin := Lib.hid (Mv.done H.out hT6 hV6' (.int .i64 (lkl kO (lO ++ lF)).num) (.int .i64 (lkl kO (lO ++ lF)).len) (.int .i64 (lkl kO (lO ++ lF)).ones) (.int .i64 (lkl kO (lO ++ lF)).ht))
  clear hT6 hV6 hV6' keyA
  go_wp2_with fail
  try simp only [Exit.inBlock, Exit.then]
  refine bodyPost_ret (v := lkv (lkl kO (lO ++ lF))) (by simp [results, Tryd.results73, go_sem, lkv, *] <;> exact ⟨rfl, rfl, rfl, rfl⟩) rfl ⟨(T.leaf kO (lO ++ lF)), _, rfl, fin.out.1, fin.out.2, ?_, ?_⟩
  · obtain ⟨d, dN, dz, hD⟩ := HD.out
    refine ⟨⟨nO, g, dN⟩, (List.nodup_cons.2 ⟨List.not_mem_nil, List.nodup_nil⟩), fun j p1 p2 => ?_, fun j p1 p2 => ?_⟩
    · have p1' : j ∉ (k :: (([kO] ++ [kF]))) := p1
      simp only [List.cons_append, List.nil_append, List.mem_cons, List.not_mem_nil, or_false, not_or] at p1'
      exact ⟨d j p1'.2.2 p1'.1 p1'.2.1, fun e => p1'.2.1 (List.mem_singleton.1 e)⟩
    · have p0 : j ≠ kO := fun e => p1 (e ▸ List.mem_singleton.2 rfl)
      by_cases c1 : j = kF
      · exact dz j (.inl c1)
      · by_cases c2 : j = k
        · exact dz j (.inr c2)
        · rw [d j c1 c2 p0]
          rcases p2 with p2 | p2
          · have p2' : j ∈ (k :: (([kO] ++ [kF]))) := p2
            simp only [List.cons_append, List.nil_append, List.mem_cons, List.not_mem_nil, or_false] at p2'
            rcases p2' with p2' | p2' | p2'
            · exact absurd p2' c2
            · exact absurd p2' p0
            · exact absurd p2' c1
          · exact p2
  · obtain ⟨d, dN, dz, hD⟩ := HD.out
    obtain ⟨s1, s2, s3, s4, s5⟩ := HS.out
    have hlv : S4.live + 2 = S3.live := hD.live
    have hlv2 : S3.live = S.live := St.live_eq s2 s3
    have hJl : (lO ++ lF).length = lF.length + lO.length := by rw [List.length_append]; exact Nat.add_comm _ _
    have hfO' : 32 ≤ lO.length ∧ lO.length ≤ 128 := hfO
    refine ⟨rfl, trivial, ⟨by rw [hJl]; omega, by rw [hJl]; omega⟩, Nat.le_refl _, by show 0 ≤ _; omega, hD.rt.trans s4, by rw [hD.vis]; exact s5, ?_, by rw [hD.T, s2]⟩
    show S4.live + 3 = S.live + 1
    omega
set_option maxRecDepth 100000 in
set_option maxHeartbeats 3200000 in
theorem tfeed_leaf_no1 {base t k kF kO : Nat} {S : St} {lF lO : List Bool} (w : World) (h : TM base w t S) (hi : Is S.sto (T.node k (.leaf kO lO) (.leaf kF lF))) (hn : (T.node k (.leaf kO lO) (.leaf kF lF)).ks.Nodup) (hroom : 128 < lF.length + lO.length) (hfO : (T.full (.leaf kO lO))) (hlF : lF.length ≤ 128) (hv : S.vis + 2 ≤ 1000000000) :
    Calls Tryd.prog 73 #[.pointer (some ⟨t, 0, none⟩), .int .i64 k, .int .i64 1] w fun e w' => ∃ t' S', e = .returned (lkv t'.lk) ∧ TM base w' t S' ∧ Mv w w' S S' ∧ Chg S.sto S'.sto (T.node k (.leaf kO lO) (.leaf kF lF)) t' ∧ Fed S S' k (.leaf kO lO) (.leaf kF lF) t' := by
  obtain ⟨⟨n, hk⟩, ⟨nO, bO, hO⟩, ⟨nF, bF, hF⟩⟩ := id hi
  have hnd : (k :: (([kO] ++ [kF]))).Nodup := hn
  simp only [List.cons_append, List.nil_append, List.nodup_cons, List.mem_cons, List.not_mem_nil, or_false, not_or, not_false_eq_true, List.nodup_nil, and_true] at hnd
  obtain ⟨⟨nkO, nkF⟩, nOF⟩ := hnd
  have nFO := fun e => nOF (Eq.symm e)
  have hb0 : Below w.heap.size w (w.alloc ZL) := Below.allocs (Below.refl _ _) _
  have h0 := h.below hb0
  obtain ⟨len, c, lb, e1, _, e2, e3, e4, e5, e6, e7⟩ := h0.seen hk
  have N := h0.pr hk
  have n1 : (w.alloc ZL).cell? ⟨n, 1, none⟩ = some (.int .i64 kO) := N.c1
  have n5 : (w.alloc ZL).cell? ⟨n, 5, none⟩ = some (.int .i64 kF) := N.c5
  have H := Lib.hid h
  have H0 := Lib.hid h0
  have HI := Lib.hid hi
  have HN := Lib.hid hn
  have z0 : IntKind.i64.wrap 0 = 0 := by decide
  have z1 : IntKind.i64.wrap 1 = 1 := by decide
  have HK : Hid (S.sto k = some (n, .pr (lkl kO lO) (lkl kF lF))) := Lib.hid hk
  have HO : Hid (S.sto kO = some (nO, .lf bO lO)) := Lib.hid hO
  have HF := Lib.hid hF
  clear h h0 hi hn N hk hO hF
  go_enter Tryd.func73, Tryd.ntmps73
  go_wp2_with fail
  go_quiet (fail)
  have hT1 := H0.out.drewN nq
  have hV1 : Mv (w.alloc ZL) ((w.alloc ZL).drewN nq) S S := Mv.of_below ((Below.refl _ _).drewN nq)
  clear n1 n5 e1 e2 e6 e7
  generalize (w.alloc ZL).drewN nq = w1 at *
  have key := tlook w1 hT1 HO.out (by omega)
  have HT1 := Lib.hid hT1
  have HV1 := Lib.hid hV1
  clear hT1 hV1
  go_wp2_with fail
  (with_reducible refine key.mono ?_); rintro e w2 ⟨rfl, hT2, hs2⟩
  have hO2 : (S.see (S.vis + 1)).sto kO = some (nO, .lf bO lO) := HO.out
  have hV2 := HV1.out.trans (Mv.tree HT1.out hs2 S.rt (S.vis + 1))
  obtain ⟨_, _, _, hNO, _, _, _⟩ := hT2.lf hO2
  have keyL := tisleaf w2 hNO.c0
  have HT2 := Lib.hid hT2
  have HV2 := Lib.hid hV2
  clear key hT2 hV2 hs2 hNO hO2
  go_wp2_with fail
  (with_reducible refine keyL.mono ?_); rintro e w2' ⟨rfl, rfl⟩
  have keyJ := tjoin_no1 w2 HT2.out (show (S.see (S.vis + 1)).sto kF = _ from HF.out) (show (S.see (S.vis + 1)).sto kO = _ from HO.out) nFO hroom
  go_wp2_with fail
  (with_reducible refine keyJ.mono ?_); rintro e w4 ⟨own', g1, g2, rfl, hT4, hV4⟩
  obtain ⟨PF, hPF⟩ : ∃ P, ((lO ++ lF).drop ((lO ++ lF).length / 2)) = P := ⟨_, rfl⟩
  obtain ⟨PN, hPN⟩ : ∃ P, ((lO ++ lF).take ((lO ++ lF).length / 2)) = P := ⟨_, rfl⟩
  rw [hPF, hPN] at hT4 hV4
  have hJJ : PN ++ PF = lO ++ lF := by rw [← hPF, ← hPN, List.take_append_drop]
  obtain ⟨S3, hS3⟩ : ∃ S3, ({ (S.see (S.vis + 1)) with own := own', sto := (upd (upd S.sto kF (some (nF, .lf g1 PF))) kO (some (nO, .lf g2 PN))) } : St) = S3 := ⟨_, rfl⟩
  have s1 : S3.sto = (upd (upd S.sto kF (some (nF, .lf g1 PF))) kO (some (nO, .lf g2 PN))) := by rw [← hS3]
  have s2 : S3.T = S.T := by rw [← hS3]; rfl
  have s3 : S3.F = S.F := by rw [← hS3]; rfl
  have s4 : S3.rt = S.rt := by rw [← hS3]; rfl
  have s5 : S3.vis ≤ S.vis + 2 := by rw [← hS3]; show S.vis + 1 ≤ _; omega
  have hT4' : TM base w4 t S3 := hS3 ▸ hT4
  have hV4' : Mv (w.alloc ZL) w4 S S3 := HV2.out.trans (hS3 ▸ hV4)
  have d : ∀ j, j ≠ kF → j ≠ kO → S3.sto j = S.sto j := fun j q1 q3 => by rw [s1, upd_ne _ _ q3, upd_ne _ _ q1]
  have dN : S3.sto kO = some (nO, .lf g2 PN) := by rw [s1, upd_at]
  have dF : S3.sto kF = some (nF, .lf g1 PF) := by rw [s1, upd_ne _ _ nFO, upd_at]
  have dK : S3.sto k = some (n, .pr (lkl kO lO) (lkl kF lF)) := (d k nkF nkO).trans HK.out
  have hJl : (lO ++ lF).length = lF.length + lO.length := by rw [List.length_append]; exact Nat.add_comm _ _
  have hlF' : PF.length ≤ 128 ∧ 64 ≤ PF.length := by rw [← hPF]; simp only [List.length_drop]; have hfO2 : 32 ≤ lO.length ∧ lO.length ≤ 128 := hfO; omega
  have hlN' : PN.length ≤ 128 ∧ 64 ≤ PN.length := by rw [← hPN]; simp only [List.length_take]; have hfO2 : 32 ≤ lO.length ∧ lO.length ≤ 128 := hfO; omega
  have hT4d : TM base w4.drew t S3 := hT4'.drewN 1
  have keyK := tlink_lf w4.drew hT4d dF
  unfold lkv at keyK
  have HS := Lib.hid (And.intro s1 (And.intro s2 (And.intro s3 (And.intro s4 s5))))
  have HD := Lib.hid (And.intro d (And.intro dN (And.intro dF dK)))
  have HT4 := Lib.hid hT4'
  have HV4 := Lib.hid hV4'
  have HJ := Lib.hid (And.intro hJJ (And.intro hlF' hlN'))
  clear s1 s2 s3 s4 s5 hT4 hV4 hT4' hV4' hT4d keyJ hS3 d dN dF dK hJl hlF' hlN' hPF hPN hJJ
  go_wp2_with fail
  go_cut [] (fun wx => TM base wx t (S3.lay k n (.pr (lkl kO lO) (lkl kF PF))) ∧ Mv (w.alloc ZL) wx S (S3.lay k n (.pr (lkl kO lO) (lkl kF PF))))
  case first =>
    go_region_law (first | (go_simp; (go_at_call 68; (with_reducible refine keyK.mono ?_); rintro e wl ⟨rfl, hbl⟩; (have HBL := Lib.hid (Below.drewed hbl)); (have HTL := Lib.hid (HT4.out.below HBL.out)); (have M3 := HTL.out.pr HD.out.2.2.2); (have m5 := M3.c5); (have m6 := M3.c6); (have m7 := M3.c7); (have m8 := M3.c8); (have f5 := M3.fz 5); (have f6 := M3.fz 6); (have f7 := M3.fz 7); (have f8 := M3.fz 8); clear M3 hbl)))
    all_goals
      go_wp2_with fail
      go_meet
      case rel => exact ⟨HTL.out.side1 HD.out.2.2.2 _, (HV4.out.below HBL.out).trans (Mv.lay HTL.out HD.out.2.2.2 (Stay.set4 (S := fun i => i = n) (Stay.refl _ _) rfl 5 6 7 8 _ _ _ _))⟩
  case rest =>
  obtain ⟨hT5, hV5⟩ := hcut
  have v5 : ∀ j, j ≠ k → (S3.lay k n (.pr (lkl kO lO) (lkl kF PF))).sto j = S3.sto j := fun j q => upd_ne _ _ q
  have dN5 : (S3.lay k n (.pr (lkl kO lO) (lkl kF PF))).sto kO = some (nO, .lf g2 PN) := (v5 _ (fun e => nkO e.symm)).trans HD.out.2.1
  have hT5d : TM base wc.drew t (S3.lay k n (.pr (lkl kO lO) (lkl kF PF))) := hT5.drewN 1
  have keyA := tagain_lf 1 wc.drew hT5d dN5
  unfold lkv at keyA
  have HT5 := Lib.hid hT5
  have HV5 := Lib.hid hV5
  have k5 : (S3.lay k n (.pr (lkl kO lO) (lkl kF PF))).sto k = some (n, (.pr (lkl kO lO) (lkl kF PF))) := upd_at _ _ _
  have K5 := Lib.hid k5
  clear hT5 hV5 hT5d keyK k5 dN5 v5
  go_wp2_with fail
  go_cut [] (fun wx => TM base wx t ((S3.lay k n (.pr (lkl kO lO) (lkl kF PF))).lay k n (.pr (lkl kO PN) (lkl kF PF))) ∧ Mv (w.alloc ZL) wx S ((S3.lay k n (.pr (lkl kO lO) (lkl kF PF))).lay k n (.pr (lkl kO PN) (lkl kF PF))))
  case first =>
    go_region_law (first | (go_simp; (go_at_call 89; (with_reducible refine keyA.mono ?_); rintro e wl ⟨rfl, hTl, hVl⟩; (have HTL : Hid (TM base wl t (S3.lay k n (.pr (lkl kO lO) (lkl kF PF)))) := Lib.hid hTl); (have HVL : Hid (Mv (w.alloc ZL) wl S (S3.lay k n (.pr (lkl kO lO) (lkl kF PF)))) := Lib.hid ((HV5.out.below (Below.drews (Below.refl _ _))).trans hVl)); (have M3 := HTL.out.pr K5.out); (have m5 := M3.c1); (have m6 := M3.c2); (have m7 := M3.c3); (have m8 := M3.c4); (have f5 := M3.fz 1); (have f6 := M3.fz 2); (have f7 := M3.fz 3); (have f8 := M3.fz 4); clear M3 hTl hVl)))
    all_goals
      go_wp2_with fail
      go_meet
      case rel => exact ⟨HTL.out.side0 K5.out _, HVL.out.trans (Mv.lay HTL.out K5.out (Stay.set4 (S := fun i => i = n) (Stay.refl _ _) rfl 1 2 3 4 _ _ _ _))⟩
  case rest =>
  obtain ⟨hT6, hV6⟩ := hcut
  have hcF := List.count_le_length (a := true) (l := PF)
  have hcN := List.count_le_length (a := true) (l := PN)
  have hq1 : PF.length ≤ 128 := HJ.out.2.1.1
  have hq2 : PN.length ≤ 128 := HJ.out.2.2.1
  have key := tlink_pr wc hT6 (upd_at _ _ _) (by show PN.length + PF.length < _; omega) (by show PN.count true + PF.count true < _; omega) (by show 0 < _; decide) (by show 0 < _; decide)
  unfold lkv at key
  have HT6 := Lib.hid hT6
  have HV6 := Lib.hid hV6
  clear hT6 hV6 keyA hcF hcN hq1 hq2
  go_wp2_with fail
  (with_reducible refine key.mono ?_); rintro e w7 ⟨rfl, hb7⟩
  have hT7 := HT6.out.below hb7
  have hV7 := HV6.out.below hb7
  obtain ⟨r0, r1, r2, r3, q0, q1, q2, q3⟩ := Mv.res H.out hV7
  have fin := Lib.hid (Mv.done H.out hT7 hV7 (.int .i64 (mk k (lkl kO PN) (lkl kF PF)).num) (.int .i64 (mk k (lkl kO PN) (lkl kF PF)).len) (.int .i64 (mk k (lkl kO PN) (lkl kF PF)).ones) (.int .i64 (mk k (lkl kO PN) (lkl kF PF)).ht))
  clear hT7 hV7 hb7 key
  go_wp2_with fail
  try simp only [Exit.inBlock, Exit.then]
  refine bodyPost_ret (v := lkv (mk k (lkl kO PN) (lkl kF PF))) (by simp [results, Tryd.results73, go_sem, lkv, *] <;> exact ⟨rfl, rfl, rfl, rfl⟩) rfl ⟨(T.node k (.leaf kO PN) (.leaf kF PF)), _, rfl, fin.out.1, fin.out.2, ?_, ?_⟩
  · obtain ⟨d, dN, dF, dK⟩ := HD.out
    refine Chg.same ⟨⟨n, upd_at _ _ _⟩, ⟨nO, g2, (upd_ne _ _ (fun e => nkO e.symm)).trans ((upd_ne _ _ (fun e => nkO e.symm)).trans dN)⟩, ⟨nF, g1, (upd_ne _ _ (fun e => nkF e.symm)).trans ((upd_ne _ _ (fun e => nkF e.symm)).trans dF)⟩⟩ HN.out (List.Perm.refl _) (fun j hj => ?_)
    have hj' : j ∉ (k :: ([kO] ++ [kF])) := hj
    simp only [List.cons_append, List.nil_append, List.mem_cons, List.not_mem_nil, or_false, not_or] at hj'
    exact (upd_ne _ _ hj'.1).trans ((upd_ne _ _ hj'.1).trans (d j hj'.2.2 hj'.2.1))
  · obtain ⟨s1, s2, s3, s4, s5⟩ := HS.out
    obtain ⟨hJl, hlF', hlN'⟩ := HJ.out
    have hlv2 : S3.live = S.live := St.live_eq s2 s3
    refine ⟨?_, ⟨trivial, trivial, by show 0 ≤ 0 + 1; omega, by show 0 ≤ 0 + 1; omega⟩, ⟨⟨by omega, by omega⟩, ⟨by omega, by omega⟩⟩, by simp only [T.ht]; omega, by simp only [T.ht]; omega, s4, s5, ?_, congrArg List.length s2⟩
    · simp only [T.bits]
      exact hJl
    · show S3.live + _ = S.live + _
      rw [hlv2]; rfl
set_option maxRecDepth 100000 in
set_option maxHeartbeats 3200000 in
theorem tfeed_node_yes1 {base t k kF kO k1 k2 : Nat} {S : St} {lF l1 l2 : List Bool} (w : World) (h : TM base w t S) (hi : Is S.sto (T.node k (.node kO (.leaf k1 l1) (.leaf k2 l2)) (.leaf kF lF))) (hn : (T.node k (.node kO (.leaf k1 l1) (.leaf k2 l2)) (.leaf kF lF)).ks.Nodup) (hroom : lF.length + l2.length ≤ 128) (hfO : (T.full (.node kO (.leaf k1 l1) (.leaf k2 l2)))) (hlF : lF.length ≤ 128) (hv : S.vis + 2 ≤ 1000000000) :
    Calls Tryd.prog 73 #[.pointer (some ⟨t, 0, none⟩), .int .i64 k, .int .i64 1] w fun e w' => ∃ t' S', e = .returned (lkv t'.lk) ∧ TM base w' t S' ∧ Mv w w' S S' ∧ Chg S.sto S'.sto (T.node k (.node kO (.leaf k1 l1) (.leaf k2 l2)) (.leaf kF lF)) t' ∧ Fed S S' k (.node kO (.leaf k1 l1) (.leaf k2 l2)) (.leaf kF lF) t' := by
  obtain ⟨⟨n, hk⟩, ⟨⟨nO, hO⟩, ⟨m1, b1, h1⟩, ⟨m2, b2, h2⟩⟩, ⟨nF, bF, hF⟩⟩ := id hi
  have hnd : (k :: (((kO :: ([k1] ++ [k2])) ++ [kF]))).Nodup := hn
  simp only [List.cons_append, List.nil_append, List.nodup_cons, List.mem_cons, List.not_mem_nil, or_false, not_or, not_false_eq_true, List.nodup_nil, and_true] at hnd
  obtain ⟨⟨nkO, nk1, nk2, nkF⟩, ⟨nO1, nO2, nOF⟩, ⟨n12, n1F⟩, n2F⟩ := hnd
  have nFO := fun e => nOF (Eq.symm e)
  have nF1 := fun e => n1F (Eq.symm e)
  have nF2 := fun e => n2F (Eq.symm e)
  have hb0 : Below w.heap.size w (w.alloc ZL) := Below.allocs (Below.refl _ _) _
  have h0 := h.below hb0
  obtain ⟨len, c, lb, e1, _, e2, e3, e4, e5, e6, e7⟩ := h0.seen hk
  have N := h0.pr hk
  have n1 : (w.alloc ZL).cell? ⟨n, 1, none⟩ = some (.int .i64 kO) := N.c1
  have n5 : (w.alloc ZL).cell? ⟨n, 5, none⟩ = some (.int .i64 kF) := N.c5
  have H := Lib.hid h
  have H0 := Lib.hid h0
  have HI := Lib.hid hi
  have HN := Lib.hid hn
  have z0 : IntKind.i64.wrap 0 = 0 := by decide
  have z1 : IntKind.i64.wrap 1 = 1 := by decide
  have HK : Hid (S.sto k = some (n, .pr (mk kO (lkl k1 l1) (lkl k2 l2)) (lkl kF lF))) := Lib.hid hk
  have HO : Hid (S.sto kO = some (nO, .pr (lkl k1 l1) (lkl k2 l2))) := Lib.hid hO
  have HF := Lib.hid hF
  have H1 := Lib.hid h1
  have H2 := Lib.hid h2
  clear h h0 hi hn N hk hO hF h1 h2
  go_enter Tryd.func73, Tryd.ntmps73
  go_wp2_with fail
  go_quiet (fail)
  have hT1 := H0.out.drewN nq
  have hV1 : Mv (w.alloc ZL) ((w.alloc ZL).drewN nq) S S := Mv.of_below ((Below.refl _ _).drewN nq)
  clear n1 n5 e1 e2 e6 e7
  generalize (w.alloc ZL).drewN nq = w1 at *
  have key := tlook w1 hT1 HO.out (by omega)
  have HT1 := Lib.hid hT1
  have HV1 := Lib.hid hV1
  clear hT1 hV1
  go_wp2_with fail
  (with_reducible refine key.mono ?_); rintro e w2 ⟨rfl, hT2, hs2⟩
  have hO2 : (S.see (S.vis + 1)).sto kO = some (nO, .pr (lkl k1 l1) (lkl k2 l2)) := HO.out
  have hV2 := HV1.out.trans (Mv.tree HT1.out hs2 S.rt (S.vis + 1))
  have NO := hT2.pr hO2
  have keyL := tisleaf w2 NO.c0
  have no : w2.cell? ⟨nO, 5, none⟩ = some (.int .i64 k2) := NO.c5
  have HT2 := Lib.hid hT2
  have HV2 := Lib.hid hV2
  clear key hT2 hV2 hs2 NO hO2
  go_wp2_with fail
  (with_reducible refine keyL.mono ?_); rintro e w2' ⟨rfl, rfl⟩
  have key := tlook w2 HT2.out (show (S.see (S.vis + 1)).sto k2 = _ from H2.out) (by show S.vis + 1 < _; omega)
  clear keyL
  go_wp2_with fail
  (with_reducible refine key.mono ?_); rintro e w3 ⟨rfl, hT3, hs3⟩
  have hT3' : TM base w3 t (S.see (S.vis + 2)) := hT3
  have hV3 : Mv (w.alloc ZL) w3 S (S.see (S.vis + 2)) := HV2.out.trans (Mv.tree HT2.out hs3 S.rt (S.vis + 2))
  have HT3 := Lib.hid hT3'
  have HV3 := Lib.hid hV3
  clear key hT3 hT3' hV3 hs3 no
  have keyJ := tjoin_yes1 w3 HT3.out (show (S.see (S.vis + 2)).sto kF = _ from HF.out) (show (S.see (S.vis + 2)).sto k2 = _ from H2.out) nF2 hroom
  go_wp2_with fail
  (with_reducible refine keyJ.mono ?_); rintro e w4 ⟨own', g, rfl, hT4, hV4⟩
  obtain ⟨S3, hS3⟩ : ∃ S3, ({ (S.see (S.vis + 2)) with own := own', sto := (upd (upd S.sto kF (some (nF, .dd))) k2 (some (m2, .lf g (l2 ++ lF)))) } : St) = S3 := ⟨_, rfl⟩
  have s1 : S3.sto = (upd (upd S.sto kF (some (nF, .dd))) k2 (some (m2, .lf g (l2 ++ lF)))) := by rw [← hS3]
  have s2 : S3.T = S.T := by rw [← hS3]; rfl
  have s3 : S3.F = S.F := by rw [← hS3]; rfl
  have s4 : S3.rt = S.rt := by rw [← hS3]; rfl
  have s5 : S3.vis ≤ S.vis + 2 := by rw [← hS3]; show S.vis + 2 ≤ _; omega
  have hT4' : TM base w4 t S3 := hS3 ▸ hT4
  have hV4' : Mv (w.alloc ZL) w4 S S3 := HV3.out.trans (hS3 ▸ hV4)
  have hT4a := hT4'.below (Below.allocs (Below.refl _ _) (Obj.cells #[.int .i64 kF, .int .i64 k] 3))
  have hrd : RdL (w4.alloc (Obj.cells #[.int .i64 kF, .int .i64 k] 3)) (some ⟨w4.heap.size, 0, none⟩) 2 (nums [kF, k]) := RdL.made (nums [kF, k]) (by show 2 ≤ maxLen; decide)
  have key := tdrop (some ⟨w4.heap.size, 0, none⟩) 2 [kF, k] _ hT4a (List.nodup_cons.2 ⟨fun e => nkF (List.mem_singleton.1 e).symm, List.nodup_cons.2 ⟨List.not_mem_nil, List.nodup_nil⟩⟩) (fun j hj => by
    rw [s1]
    rcases List.mem_cons.1 hj with rfl | hj
    · rw [upd_ne _ _ nF2, upd_at]; exact fun h => by cases h
    · rw [List.mem_singleton.1 hj, upd_ne _ _ nk2, upd_ne _ _ nkF, HK.out]; exact fun h => by cases h) (by show 0 < 2; decide) hrd (fun ad e => by injection e with e; subst e; exact hT4'.new (Nat.le_refl _))
  change Calls _ _ #[_, .slice _ 2 2] _ _ at key
  have HS := Lib.hid (And.intro s1 (And.intro s2 (And.intro s3 (And.intro s4 s5))))
  have HV4 := Lib.hid hV4'
  clear s1 s2 s3 s4 s5 hT4 hV4 hT4' hV4' hT4a hrd keyJ hS3
  go_wp2_with fail
  (with_reducible refine key.mono ?_); rintro e w5 ⟨S4, rfl, hT5, hV5, hD⟩
  have hV5' := (HV4.out.below (Below.allocs (Below.refl _ _) _)).trans hV5
  have d : ∀ j, j ≠ kF → j ≠ k → j ≠ k2 → S4.sto j = S.sto j := fun j q1 q2 q3 => by rw [hD.sto, clr_two q1 q2, HS.out.1, upd_ne _ _ q3, upd_ne _ _ q1]
  have dN : S4.sto k2 = some (m2, .lf g (l2 ++ lF)) := by rw [hD.sto, clr_two (fun e => nF2 e.symm) (fun e => nk2 e.symm), HS.out.1, upd_at]
  have dz : ∀ j, j = kF ∨ j = k → S4.sto j = none := fun j q => by rw [hD.sto]; exact clr_in q
  have dO : S4.sto kO = some (nO, .pr (lkl k1 l1) (lkl k2 l2)) := (d kO (fun e => nFO e.symm) (fun e => nkO e.symm) nO2).trans HO.out
  have hc1 := List.count_le_length (a := true) (l := l1)
  have hc2 := List.count_le_length (a := true) (l := l2)
  have hcJ := List.count_le_length (a := true) (l := (l2 ++ lF))
  have hJl : (l2 ++ lF).length ≤ 128 := by rw [List.length_append]; omega
  have hf1 : l1.length ≤ 128 := hfO.1.2
  have hf2 : l2.length ≤ 128 := hfO.2.2
  have keyA := tagain_pr1 (d := .lf g (l2 ++ lF)) w5 hT5 dO dN trivial ⟨by show l1.length + (l2 ++ lF).length < _; omega, by show l1.count true + (l2 ++ lF).count true < _; omega, by show 0 < _; decide, by show 0 < _; decide⟩
  unfold lkv at keyA
  have HV5 := Lib.hid hV5'
  have HD := Lib.hid (And.intro d (And.intro dN (And.intro dz (And.intro dO hD))))
  clear key hT5 hV5 hV5' d dN dz hD dO hc1 hc2 hcJ hJl hf1 hf2
  go_wp2_with fail
  (with_reducible refine keyA.mono ?_); rintro e w6 ⟨rfl, hT6, hV6⟩
  have hV6' := HV5.out.trans hV6
  obtain ⟨r0, r1, r2, r3, q0, q1, q2, q3⟩ := Mv.res H.out hV6'
  have fin := Lib.hid (Mv.done H.out hT6 hV6' (.int .i64 (mk kO (lkl k1 l1) (lkl k2 (l2 ++ lF))).num) (.int .i64 (mk kO (lkl k1 l1) (lkl k2 (l2 ++ lF))).len) (.int .i64 (mk kO (lkl k1 l1) (lkl k2 (l2 ++ lF))).ones) (.int .i64 (mk kO (lkl k1 l1) (lkl k2 (l2 ++ lF))).ht))
  clear hT6 hV6 hV6' keyA
  go_wp2_with fail
  try simp only [Exit.inBlock, Exit.then]
  refine bodyPost_ret (v := lkv (mk kO (lkl k1 l1) (lkl k2 (l2 ++ lF)))) (by simp [results, Tryd.results73, go_sem, lkv, *] <;> exact ⟨rfl, rfl, rfl, rfl⟩) rfl ⟨(T.node kO (.leaf k1 l1) (.leaf k2 (l2 ++ lF))), _, rfl, fin.out.1, fin.out.2, ?_, ?_⟩
  · obtain ⟨d, dN, dz, dO, hD⟩ := HD.out
    refine ⟨⟨⟨nO, upd_at _ _ _⟩, ⟨m1, b1, (upd_ne _ _ (fun e => nO1 e.symm)).trans ((d k1 (fun e => nF1 e.symm) (fun e => nk1 e.symm) n12).trans H1.out)⟩, ⟨m2, g, (upd_ne _ _ (fun e => nO2 e.symm)).trans dN⟩⟩, ?_, fun j p1 p2 => ?_, fun j p1 p2 => ?_⟩
    · show (kO :: ([k1] ++ [k2])).Nodup
      simp [nO1, nO2, n12]
    · have p1' : j ∉ (k :: ((kO :: ([k1] ++ [k2])) ++ [kF])) := p1
      simp only [List.cons_append, List.nil_append, List.mem_cons, List.not_mem_nil, or_false, not_or] at p1'
      refine ⟨(upd_ne _ _ p1'.2.1).trans (d j p1'.2.2.2.2 p1'.1 p1'.2.2.2.1), fun e => ?_⟩
      have e' : j ∈ (kO :: ([k1] ++ [k2])) := e
      simp only [List.cons_append, List.nil_append, List.mem_cons, List.not_mem_nil, or_false] at e'
      rcases e' with e' | e' | e'
      · exact p1'.2.1 e'
      · exact p1'.2.2.1 e'
      · exact p1'.2.2.2.1 e'
    · have p1' : j ∉ (kO :: ([k1] ++ [k2])) := p1
      simp only [List.cons_append, List.nil_append, List.mem_cons, List.not_mem_nil, or_false, not_or] at p1'
      refine (upd_ne _ _ p1'.1).trans ?_
      by_cases c1 : j = kF
      · exact dz j (.inl c1)
      · by_cases c2 : j = k
        · exact dz j (.inr c2)
        · rw [d j c1 c2 p1'.2.2]
          rcases p2 with p2 | p2
          · have p2' : j ∈ (k :: ((kO :: ([k1] ++ [k2])) ++ [kF])) := p2
            simp only [List.cons_append, List.nil_append, List.mem_cons, List.not_mem_nil, or_false] at p2'
            rcases p2' with p2' | p2' | p2' | p2' | p2'
            · exact absurd p2' c2
            · exact absurd p2' p1'.1
            · exact absurd p2' p1'.2.1
            · exact absurd p2' p1'.2.2
            · exact absurd p2' c1
          · exact p2
  · obtain ⟨d, dN, dz, dO, hD⟩ := HD.out
    obtain ⟨s1, s2, s3, s4, s5⟩ := HS.out
    have hlv : S4.live + 2 = S3.live := hD.live
    have hlv2 : S3.live = S.live := St.live_eq s2 s3
    have hJl : (l2 ++ lF).length = lF.length + l2.length := by rw [List.length_append]; exact Nat.add_comm _ _
    have hf1 : 32 ≤ l1.length ∧ l1.length ≤ 128 := hfO.1
    have hf2 : 32 ≤ l2.length ∧ l2.length ≤ 128 := hfO.2
    refine ⟨by simp only [T.bits, List.append_assoc], ⟨trivial, trivial, by show 0 ≤ 0 + 1; omega, by show 0 ≤ 0 + 1; omega⟩, ⟨hf1, ⟨by rw [hJl]; omega, by rw [hJl]; omega⟩⟩, by simp only [T.ht]; omega, by simp only [T.ht]; omega, hD.rt.trans s4, by show S4.vis ≤ _; rw [hD.vis]; exact s5, ?_, by show S4.T.length = _; rw [hD.T, s2]⟩
    show S4.live + 5 = S.live + 3
    omega
set_option maxRecDepth 100000 in
set_option maxHeartbeats 3200000 in
theorem tfeed_node_no1 {base t k kF kO k1 k2 : Nat} {S : St} {lF l1 l2 : List Bool} (w : World) (h : TM base w t S) (hi : Is S.sto (T.node k (.node kO (.leaf k1 l1) (.leaf k2 l2)) (.leaf kF lF))) (hn : (T.node k (.node kO (.leaf k1 l1) (.leaf k2 l2)) (.leaf kF lF)).ks.Nodup) (hroom : 128 < lF.length + l2.length) (hfO : (T.full (.node kO (.leaf k1 l1) (.leaf k2 l2)))) (hlF : lF.length ≤ 128) (hv : S.vis + 2 ≤ 1000000000) :
    Calls Tryd.prog 73 #[.pointer (some ⟨t, 0, none⟩), .int .i64 k, .int .i64 1] w fun e w' => ∃ t' S', e = .returned (lkv t'.lk) ∧ TM base w' t S' ∧ Mv w w' S S' ∧ Chg S.sto S'.sto (T.node k (.node kO (.leaf k1 l1) (.leaf k2 l2)) (.leaf kF lF)) t' ∧ Fed S S' k (.node kO (.leaf k1 l1) (.leaf k2 l2)) (.leaf kF lF) t' := by
  obtain ⟨⟨n, hk⟩, ⟨⟨nO, hO⟩, ⟨m1, b1, h1⟩, ⟨m2, b2, h2⟩⟩, ⟨nF, bF, hF⟩⟩ := id hi
  have hnd : (k :: (((kO :: ([k1] ++ [k2])) ++ [kF]))).Nodup := hn
  simp only [List.cons_append, List.nil_append, List.nodup_cons, List.mem_cons, List.not_mem_nil, or_false, not_or, not_false_eq_true, List.nodup_nil, and_true] at hnd
  obtain ⟨⟨nkO, nk1, nk2, nkF⟩, ⟨nO1, nO2, nOF⟩, ⟨n12, n1F⟩, n2F⟩ := hnd
  have nFO := fun e => nOF (Eq.symm e)
  have nF1 := fun e => n1F (Eq.symm e)
  have nF2 := fun e => n2F (Eq.symm e)
  have hb0 : Below w.heap.size w (w.alloc ZL) := Below.allocs (Below.refl _ _) _
  have h0 := h.below hb0
  obtain ⟨len, c, lb, e1, _, e2, e3, e4, e5, e6, e7⟩ := h0.seen hk
  have N := h0.pr hk
  have n1 : (w.alloc ZL).cell? ⟨n, 1, none⟩ = some (.int .i64 kO) := N.c1
  have n5 : (w.alloc ZL).cell? ⟨n, 5, none⟩ = some (.int .i64 kF) := N.c5
  have H := Lib.hid h
  have H0 := Lib.hid h0
  have HI := Lib.hid hi
  have HN := Lib.hid hn
  have z0 : IntKind.i64.wrap 0 = 0 := by decide
  have z1 : IntKind.i64.wrap 1 = 1 := by decide
  have HK : Hid (S.sto k = some (n, .pr (mk kO (lkl k1 l1) (lkl k2 l2)) (lkl kF lF))) := Lib.hid hk
  have HO : Hid (S.sto kO = some (nO, .pr (lkl k1 l1) (lkl k2 l2))) := Lib.hid hO
  have HF := Lib.hid hF
  have H1 := Lib.hid h1
  have H2 := Lib.hid h2
  clear h h0 hi hn N hk hO hF h1 h2
  go_enter Tryd.func73, Tryd.ntmps73
  go_wp2_with fail
  go_quiet (fail)
  have hT1 := H0.out.drewN nq
  have hV1 : Mv (w.alloc ZL) ((w.alloc ZL).drewN nq) S S := Mv.of_below ((Below.refl _ _).drewN nq)
  clear n1 n5 e1 e2 e6 e7
  generalize (w.alloc ZL).drewN nq = w1 at *
  have key := tlook w1 hT1 HO.out (by omega)
  have HT1 := Lib.hid hT1
  have HV1 := Lib.hid hV1
  clear hT1 hV1
  go_wp2_with fail
  (with_reducible refine key.mono ?_); rintro e w2 ⟨rfl, hT2, hs2⟩
  have hO2 : (S.see (S.vis + 1)).sto kO = some (nO, .pr (lkl k1 l1) (lkl k2 l2)) := HO.out
  have hV2 := HV1.out.trans (Mv.tree HT1.out hs2 S.rt (S.vis + 1))
  have NO := hT2.pr hO2
  have keyL := tisleaf w2 NO.c0
  have no : w2.cell? ⟨nO, 5, none⟩ = some (.int .i64 k2) := NO.c5
  have HT2 := Lib.hid hT2
  have HV2 := Lib.hid hV2
  clear key hT2 hV2 hs2 NO hO2
  go_wp2_with fail
  (with_reducible refine keyL.mono ?_); rintro e w2' ⟨rfl, rfl⟩
  have key := tlook w2 HT2.out (show (S.see (S.vis + 1)).sto k2 = _ from H2.out) (by show S.vis + 1 < _; omega)
  clear keyL
  go_wp2_with fail
  (with_reducible refine key.mono ?_); rintro e w3 ⟨rfl, hT3, hs3⟩
  have hT3' : TM base w3 t (S.see (S.vis + 2)) := hT3
  have hV3 : Mv (w.alloc ZL) w3 S (S.see (S.vis + 2)) := HV2.out.trans (Mv.tree HT2.out hs3 S.rt (S.vis + 2))
  have HT3 := Lib.hid hT3'
  have HV3 := Lib.hid hV3
  clear key hT3 hT3' hV3 hs3 no
  have keyJ := tjoin_no1 w3 HT3.out (show (S.see (S.vis + 2)).sto kF = _ from HF.out) (show (S.see (S.vis + 2)).sto k2 = _ from H2.out) nF2 hroom
  go_wp2_with fail
  (with_reducible refine keyJ.mono ?_); rintro e w4 ⟨own', g1, g2, rfl, hT4, hV4⟩
  obtain ⟨PF, hPF⟩ : ∃ P, ((l2 ++ lF).drop ((l2 ++ lF).length / 2)) = P := ⟨_, rfl⟩
  obtain ⟨PN, hPN⟩ : ∃ P, ((l2 ++ lF).take ((l2 ++ lF).length / 2)) = P := ⟨_, rfl⟩
  rw [hPF, hPN] at hT4 hV4
  have hJJ : PN ++ PF = l2 ++ lF := by rw [← hPF, ← hPN, List.take_append_drop]
  obtain ⟨S3, hS3⟩ : ∃ S3, ({ (S.see (S.vis + 2)) with own := own', sto := (upd (upd S.sto kF (some (nF, .lf g1 PF))) k2 (some (m2, .lf g2 PN))) } : St) = S3 := ⟨_, rfl⟩
  have s1 : S3.sto = (upd (upd S.sto kF (some (nF, .lf g1 PF))) k2 (some (m2, .lf g2 PN))) := by rw [← hS3]
  have s2 : S3.T = S.T := by rw [← hS3]; rfl
  have s3 : S3.F = S.F := by rw [← hS3]; rfl
  have s4 : S3.rt = S.rt := by rw [← hS3]; rfl
  have s5 : S3.vis ≤ S.vis + 2 := by rw [← hS3]; show S.vis + 2 ≤ _; omega
  have hT4' : TM base w4 t S3 := hS3 ▸ hT4
  have hV4' : Mv (w.alloc ZL) w4 S S3 := HV3.out.trans (hS3 ▸ hV4)
  have d : ∀ j, j ≠ kF → j ≠ k2 → S3.sto j = S.sto j := fun j q1 q3 => by rw [s1, upd_ne _ _ q3, upd_ne _ _ q1]
  have dN : S3.sto k2 = some (m2, .lf g2 PN) := by rw [s1, upd_at]
  have dF : S3.sto kF = some (nF, .lf g1 PF) := by rw [s1, upd_ne _ _ nF2, upd_at]
  have dK : S3.sto k = some (n, .pr (mk kO (lkl k1 l1) (lkl k2 l2)) (lkl kF lF)) := (d k nkF nk2).trans HK.out
  have hJl : (l2 ++ lF).length = lF.length + l2.length := by rw [List.length_append]; exact Nat.add_comm _ _
  have hlF' : PF.length ≤ 128 ∧ 64 ≤ PF.length := by rw [← hPF]; simp only [List.length_drop]; have hfO2 : 32 ≤ l2.length ∧ l2.length ≤ 128 := hfO.2; omega
  have hlN' : PN.length ≤ 128 ∧ 64 ≤ PN.length := by rw [← hPN]; simp only [List.length_take]; have hfO2 : 32 ≤ l2.length ∧ l2.length ≤ 128 := hfO.2; omega
  have hT4d : TM base w4.drew t S3 := hT4'.drewN 1
  have keyK := tlink_lf w4.drew hT4d dF
  unfold lkv at keyK
  have HS := Lib.hid (And.intro s1 (And.intro s2 (And.intro s3 (And.intro s4 s5))))
  have HD := Lib.hid (And.intro d (And.intro dN (And.intro dF dK)))
  have HT4 := Lib.hid hT4'
  have HV4 := Lib.hid hV4'
  have HJ := Lib.hid (And.intro hJJ (And.intro hlF' hlN'))
  clear s1 s2 s3 s4 s5 hT4 hV4 hT4' hV4' hT4d keyJ hS3 d dN dF dK hJl hlF' hlN' hPF hPN hJJ
  go_wp2_with fail
  go_cut [] (fun wx => TM base wx t (S3.lay k n (.pr (mk kO (lkl k1 l1) (lkl k2 l2)) (lkl kF PF))) ∧ Mv (w.alloc ZL) wx S (S3.lay k n (.pr (mk kO (lkl k1 l1) (lkl k2 l2)) (lkl kF PF))))
  case first =>
    go_region_law (first | (go_simp; (go_at_call 68; (with_reducible refine keyK.mono ?_); rintro e wl ⟨rfl, hbl⟩; (have HBL := Lib.hid (Below.drewed hbl)); (have HTL := Lib.hid (HT4.out.below HBL.out)); (have M3 := HTL.out.pr HD.out.2.2.2); (have m5 := M3.c5); (have m6 := M3.c6); (have m7 := M3.c7); (have m8 := M3.c8); (have f5 := M3.fz 5); (have f6 := M3.fz 6); (have f7 := M3.fz 7); (have f8 := M3.fz 8); clear M3 hbl)))
    all_goals
      go_wp2_with fail
      go_meet
      case rel => exact ⟨HTL.out.side1 HD.out.2.2.2 _, (HV4.out.below HBL.out).trans (Mv.lay HTL.out HD.out.2.2.2 (Stay.set4 (S := fun i => i = n) (Stay.refl _ _) rfl 5 6 7 8 _ _ _ _))⟩
  case rest =>
  obtain ⟨hT5, hV5⟩ := hcut
  have v5 : ∀ j, j ≠ k → (S3.lay k n (.pr (mk kO (lkl k1 l1) (lkl k2 l2)) (lkl kF PF))).sto j = S3.sto j := fun j q => upd_ne _ _ q
  have dN5 : (S3.lay k n (.pr (mk kO (lkl k1 l1) (lkl k2 l2)) (lkl kF PF))).sto k2 = some (m2, .lf g2 PN) := (v5 _ (fun e => nk2 e.symm)).trans HD.out.2.1
  have hT5d : TM base wc.drew t (S3.lay k n (.pr (mk kO (lkl k1 l1) (lkl k2 l2)) (lkl kF PF))) := hT5.drewN 1
  have dO5 : (S3.lay k n (.pr (mk kO (lkl k1 l1) (lkl k2 l2)) (lkl kF PF))).sto kO = some (nO, .pr (lkl k1 l1) (lkl k2 l2)) := (v5 _ (fun e => nkO e.symm)).trans ((HD.out.1 kO (fun e => nFO e.symm) nO2).trans HO.out)
  have hc1 := List.count_le_length (a := true) (l := l1)
  have hc2 := List.count_le_length (a := true) (l := l2)
  have hcJ := List.count_le_length (a := true) (l := PN)
  have hJl : PN.length ≤ 128 := HJ.out.2.2.1
  have hf1 : l1.length ≤ 128 := hfO.1.2
  have hf2 : l2.length ≤ 128 := hfO.2.2
  have keyA := tagain_pr1 (d := .lf g2 PN) wc.drew hT5d dO5 dN5 trivial ⟨by show l1.length + PN.length < _; omega, by show l1.count true + PN.count true < _; omega, by show 0 < _; decide, by show 0 < _; decide⟩
  unfold lkv at keyA
  have HT5 := Lib.hid hT5
  have HV5 := Lib.hid hV5
  have k5 : ((S3.lay k n (.pr (mk kO (lkl k1 l1) (lkl k2 l2)) (lkl kF PF))).lay kO nO (.pr (lkl k1 l1) (lkl k2 PN))).sto k = some (n, (.pr (mk kO (lkl k1 l1) (lkl k2 l2)) (lkl kF PF))) := (upd_ne _ _ nkO).trans (upd_at _ _ _)
  have K5 := Lib.hid k5
  clear hT5 hV5 hT5d keyK k5 hc1 hc2 hcJ hJl hf1 hf2 dO5 dN5 v5
  go_wp2_with fail
  go_cut [] (fun wx => TM base wx t (((S3.lay k n (.pr (mk kO (lkl k1 l1) (lkl k2 l2)) (lkl kF PF))).lay kO nO (.pr (lkl k1 l1) (lkl k2 PN))).lay k n (.pr (mk kO (lkl k1 l1) (lkl k2 PN)) (lkl kF PF))) ∧ Mv (w.alloc ZL) wx S (((S3.lay k n (.pr (mk kO (lkl k1 l1) (lkl k2 l2)) (lkl kF PF))).lay kO nO (.pr (lkl k1 l1) (lkl k2 PN))).lay k n (.pr (mk kO (lkl k1 l1) (lkl k2 PN)) (lkl kF PF))))
  case first =>
    go_region_law (first | (go_simp; (go_at_call 89; (with_reducible refine keyA.mono ?_); rintro e wl ⟨rfl, hTl, hVl⟩; (have HTL : Hid (TM base wl t ((S3.lay k n (.pr (mk kO (lkl k1 l1) (lkl k2 l2)) (lkl kF PF))).lay kO nO (.pr (lkl k1 l1) (lkl k2 PN)))) := Lib.hid hTl); (have HVL : Hid (Mv (w.alloc ZL) wl S ((S3.lay k n (.pr (mk kO (lkl k1 l1) (lkl k2 l2)) (lkl kF PF))).lay kO nO (.pr (lkl k1 l1) (lkl k2 PN)))) := Lib.hid ((HV5.out.below (Below.drews (Below.refl _ _))).trans hVl)); (have M3 := HTL.out.pr K5.out); (have m5 := M3.c1); (have m6 := M3.c2); (have m7 := M3.c3); (have m8 := M3.c4); (have f5 := M3.fz 1); (have f6 := M3.fz 2); (have f7 := M3.fz 3); (have f8 := M3.fz 4); clear M3 hTl hVl)))
    all_goals
      go_wp2_with fail
      go_meet
      case rel => exact ⟨HTL.out.side0 K5.out _, HVL.out.trans (Mv.lay HTL.out K5.out (Stay.set4 (S := fun i => i = n) (Stay.refl _ _) rfl 1 2 3 4 _ _ _ _))⟩
  case rest =>
  obtain ⟨hT6, hV6⟩ := hcut
  have hcF := List.count_le_length (a := true) (l := PF)
  have hcN := List.count_le_length (a := true) (l := PN)
  have hq1 : PF.length ≤ 128 := HJ.out.2.1.1
  have hq2 : PN.length ≤ 128 := HJ.out.2.2.1
  have hc1 := List.count_le_length (a := true) (l := l1)
  have hc2 := List.count_le_length (a := true) (l := l2)
  have hf1 : l1.length ≤ 128 := hfO.1.2
  have hf2 : l2.length ≤ 128 := hfO.2.2
  have key := tlink_pr wc hT6 (upd_at _ _ _) (by show (l1.length + PN.length) + PF.length < _; omega) (by show (l1.count true + PN.count true) + PF.count true < _; omega) (by show 1 + max 0 0 < _; decide) (by show 0 < _; decide)
  unfold lkv at key
  have HT6 := Lib.hid hT6
  have HV6 := Lib.hid hV6
  clear hT6 hV6 keyA hcF hcN hq1 hq2 hc1 hc2 hf1 hf2
  go_wp2_with fail
  (with_reducible refine key.mono ?_); rintro e w7 ⟨rfl, hb7⟩
  have hT7 := HT6.out.below hb7
  have hV7 := HV6.out.below hb7
  obtain ⟨r0, r1, r2, r3, q0, q1, q2, q3⟩ := Mv.res H.out hV7
  have fin := Lib.hid (Mv.done H.out hT7 hV7 (.int .i64 (mk k (mk kO (lkl k1 l1) (lkl k2 PN)) (lkl kF PF)).num) (.int .i64 (mk k (mk kO (lkl k1 l1) (lkl k2 PN)) (lkl kF PF)).len) (.int .i64 (mk k (mk kO (lkl k1 l1) (lkl k2 PN)) (lkl kF PF)).ones) (.int .i64 (mk k (mk kO (lkl k1 l1) (lkl k2 PN)) (lkl kF PF)).ht))
  clear hT7 hV7 hb7 key
  go_wp2_with fail
  try simp only [Exit.inBlock, Exit.then]
  refine bodyPost_ret (v := lkv (mk k (mk kO (lkl k1 l1) (lkl k2 PN)) (lkl kF PF))) (by simp [results, Tryd.results73, go_sem, lkv, *] <;> exact ⟨rfl, rfl, rfl, rfl⟩) rfl ⟨(T.node k (.node kO (.leaf k1 l1) (.leaf k2 PN)) (.leaf kF PF)), _, rfl, fin.out.1, fin.out.2, ?_, ?_⟩
  · obtain ⟨d, dN, dF, dK⟩ := HD.out
    refine Chg.same ⟨⟨n, upd_at _ _ _⟩, ⟨⟨nO, (upd_ne _ _ (fun e => nkO e.symm)).trans (upd_at _ _ _)⟩, ⟨m1, b1, (upd_ne _ _ (fun e => nk1 e.symm)).trans ((upd_ne _ _ (fun e => nO1 e.symm)).trans ((upd_ne _ _ (fun e => nk1 e.symm)).trans ((d k1 (fun e => nF1 e.symm) n12).trans H1.out)))⟩, ⟨m2, g2, (upd_ne _ _ (fun e => nk2 e.symm)).trans ((upd_ne _ _ (fun e => nO2 e.symm)).trans ((upd_ne _ _ (fun e => nk2 e.symm)).trans dN))⟩⟩, ⟨nF, g1, (upd_ne _ _ (fun e => nkF e.symm)).trans ((upd_ne _ _ nFO).trans ((upd_ne _ _ (fun e => nkF e.symm)).trans dF))⟩⟩ HN.out (List.Perm.refl _) (fun j hj => ?_)
    have hj' : j ∉ (k :: ((kO :: ([k1] ++ [k2])) ++ [kF])) := hj
    simp only [List.cons_append, List.nil_append, List.mem_cons, List.not_mem_nil, or_false, not_or] at hj'
    exact (upd_ne _ _ hj'.1).trans ((upd_ne _ _ hj'.2.1).trans ((upd_ne _ _ hj'.1).trans (d j hj'.2.2.2.2 hj'.2.2.2.1)))
  · obtain ⟨s1, s2, s3, s4, s5⟩ := HS.out
    obtain ⟨hJl, hlF', hlN'⟩ := HJ.out
    have hlv2 : S3.live = S.live := St.live_eq s2 s3
    refine ⟨?_, ⟨⟨trivial, trivial, by show 0 ≤ 0 + 1; omega, by show 0 ≤ 0 + 1; omega⟩, trivial, by show 1 + max 0 0 ≤ 0 + 1; omega, by show 0 ≤ 1 + max 0 0 + 1; omega⟩, ⟨⟨hfO.1, ⟨by omega, by omega⟩⟩, ⟨by omega, by omega⟩⟩, by simp only [T.ht]; omega, by simp only [T.ht]; omega, s4, s5, ?_, congrArg List.length s2⟩
    · simp only [T.bits, List.append_assoc]
      rw [hJl]
    · show S3.live + _ = S.live + _
      rw [hlv2]; rfl
end Go.Proofs.YtaglnomjlnlgoaaDoor
