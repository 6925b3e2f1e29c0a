/- again: contracts of the walk. -/
import Derived.Test.YtfbhcbcpeocmcaaDoorTmK
namespace Go.Proofs.YtfbhcbcpeocmcaaDoor
open Go Go.RowKit Go.ChangeAt Tr

set_option maxHeartbeats 1600000 in
theorem tagain_lf {base t k n b : Nat} {S : St} {l : List Bool} (s : Int) (w : World) (h : TM base w t S) (hk : S.sto k = some (n, .lf b l)) :
    Calls Tryd.prog 77 #[.pointer (some ⟨t, 0, none⟩), .int .i64 k, .int .i64 s] w fun e w' => e = .returned (lkv (lkl k l)) ∧ TM base w' t S ∧ Mv w w' S S := by
  have hb0 : Below w.heap.size w (w.alloc ZL) := Below.allocs (Below.refl _ _) _
  have h0 := h.below hb0
  obtain ⟨len, c, lb, e1, _, e2, e3, e4, e5, e6, e7⟩ := h0.seen hk
  obtain ⟨A, B, _, hN, _, _, _⟩ := h0.lf hk
  have keyL := tisleaf (w.alloc ZL) hN.c0
  have key := tlink_lf (w.alloc ZL) h0 hk
  have H := Lib.hid h
  have H0 := Lib.hid h0
  unfold lkv at key
  clear h h0 hk hN
  go_enter Tryd.func77, Tryd.ntmps77
  go_wp2_with fail
  (with_reducible refine keyL.mono ?_); rintro e w1 ⟨rfl, rfl⟩
  go_wp2_with fail
  (with_reducible refine key.mono ?_); rintro e w5 ⟨rfl, hb5⟩
  have hT5 := H0.out.below hb5
  have hV5 : Mv (w.alloc ZL) w5 S S := Mv.of_below hb5
  obtain ⟨r0, r1, r2, r3, q0, q1, q2, q3⟩ := Mv.res H.out hV5
  have fin := Lib.hid (Mv.done H.out hT5 hV5 (.int .i64 (lkl k l).num) (.int .i64 (lkl k l).len) (.int .i64 (lkl k l).ones) (.int .i64 (lkl k l).ht))
  clear hT5 hV5 hb5
  go_wp2_with fail
  try simp only [Exit.inBlock, Exit.then]
  refine bodyPost_ret (v := lkv (lkl k l)) (by simp [results, Tryd.results77, go_sem, lkv, *]) rfl ⟨rfl, fin.out⟩
set_option maxHeartbeats 1600000 in
theorem tagain_pr0 {base t k n m : Nat} {S : St} {A B : Lk} {d : Nd} (w : World) (h : TM base w t S) (hk : S.sto k = some (n, .pr A B)) (hm : S.sto A.num = some (m, d)) (hd : NdOk d) (hok : NdOk (.pr (lkd A.num d) B)) :
    Calls Tryd.prog 77 #[.pointer (some ⟨t, 0, none⟩), .int .i64 k, .int .i64 0] w fun e w' => e = .returned (lkv (mk k (lkd A.num d) B)) ∧ TM base w' t (S.lay k n (.pr (lkd A.num d) B)) ∧ Mv w w' S (S.lay k n (.pr (lkd A.num d) B)) := by
  have hb0 : Below w.heap.size w (w.alloc ZL) := Below.allocs (Below.refl _ _) _
  have h0 := h.below hb0
  obtain ⟨len, c, lb, e1, _, e2, e3, e4, e5, e6, e7⟩ := h0.seen hk
  obtain ⟨n0, n1, n2, n3, n4, n5, n6, n7, n8, _⟩ := h0.pr hk
  have keyL := tisleaf (w.alloc ZL) n0
  have h0d : TM base (w.alloc ZL).drew t S := h0.drewN 1
  have keyK := tlink (w.alloc ZL).drew h0d hm hd
  have H := Lib.hid h
  have HK := Lib.hid hk
  have H0 := Lib.hid h0
  unfold lkv at keyK
  clear h h0 h0d hk
  go_enter Tryd.func77, Tryd.ntmps77
  go_wp2_with fail
  (with_reducible refine keyL.mono ?_); rintro e w1 ⟨rfl, rfl⟩
  go_wp2_with fail
  go_cut [] (fun wx => TM base wx t (S.lay k n (.pr (lkd A.num d) B)) ∧ Mv (w.alloc ZL) wx S (S.lay k n (.pr (lkd A.num d) B)))
  case first =>
    go_region_law (first | (go_simp; (go_at_call 53; (with_reducible refine keyK.mono ?_); rintro e w2 ⟨rfl, hb2⟩; (have HB2 := Lib.hid (Below.drewed hb2)); (have HT2 := Lib.hid (H0.out.below HB2.out)); (have M3 := HT2.out.pr HK.out); (have m5 := M3.c1); (have m6 := M3.c2); (have m7 := M3.c3); (have m8 := M3.c4); (have f5 := M3.fz 1); (have f6 := M3.fz 2); (have f7 := M3.fz 3); (have f8 := M3.fz 4); clear M3 hb2)))
    all_goals
      go_wp2_with fail
      go_meet
      case rel => exact ⟨HT2.out.side0 HK.out _, (Mv.of_below HB2.out).trans (Mv.lay HT2.out HK.out (Stay.set4 (S := fun i => i = n) (Stay.refl _ _) rfl 1 2 3 4 _ _ _ _))⟩
  case rest =>
  obtain ⟨hT3, hV3⟩ := hcut
  have key := tlink wc hT3 (upd_at _ _ _) hok
  unfold lkv at key
  have HT3 := Lib.hid hT3
  have HV3 := Lib.hid hV3
  clear hT3 hV3 keyK keyL n0 n1 n2 n3 n4 n5 n6 n7 n8
  go_wp2_with fail
  (with_reducible refine key.mono ?_); rintro e w5 ⟨rfl, hb5⟩
  have hT5 := HT3.out.below hb5
  have hV5 := HV3.out.below hb5
  obtain ⟨r0, r1, r2, r3, q0, q1, q2, q3⟩ := Mv.res H.out hV5
  have fin := Lib.hid (Mv.done H.out hT5 hV5 (.int .i64 (lkd k (.pr (lkd A.num d) B)).num) (.int .i64 (lkd k (.pr (lkd A.num d) B)).len) (.int .i64 (lkd k (.pr (lkd A.num d) B)).ones) (.int .i64 (lkd k (.pr (lkd A.num d) B)).ht))
  clear hT5 hV5 hb5
  go_wp2_with fail
  try simp only [Exit.inBlock, Exit.then]
  refine bodyPost_ret (v := lkv (lkd k (.pr (lkd A.num d) B))) (by simp [results, Tryd.results77, go_sem, lkv, *]) rfl ⟨rfl, fin.out⟩
set_option maxHeartbeats 1600000 in
theorem tagain_pr1 {base t k n m : Nat} {S : St} {A B : Lk} {d : Nd} (w : World) (h : TM base w t S) (hk : S.sto k = some (n, .pr A B)) (hm : S.sto B.num = some (m, d)) (hd : NdOk d) (hok : NdOk (.pr A (lkd B.num d))) :
    Calls Tryd.prog 77 #[.pointer (some ⟨t, 0, none⟩), .int .i64 k, .int .i64 1] w fun e w' => e = .returned (lkv (mk k A (lkd B.num d))) ∧ TM base w' t (S.lay k n (.pr A (lkd B.num d))) ∧ Mv w w' S (S.lay k n (.pr A (lkd B.num d))) := by
  have hb0 : Below w.heap.size w (w.alloc ZL) := Below.allocs (Below.refl _ _) _
  have h0 := h.below hb0
  obtain ⟨len, c, lb, e1, _, e2, e3, e4, e5, e6, e7⟩ := h0.seen hk
  obtain ⟨n0, n1, n2, n3, n4, n5, n6, n7, n8, _⟩ := h0.pr hk
  have keyL := tisleaf (w.alloc ZL) n0
  have h0d : TM base (w.alloc ZL).drew t S := h0.drewN 1
  have keyK := tlink (w.alloc ZL).drew h0d hm hd
  have H := Lib.hid h
  have HK := Lib.hid hk
  have H0 := Lib.hid h0
  unfold lkv at keyK
  clear h h0 h0d hk
  go_enter Tryd.func77, Tryd.ntmps77
  go_wp2_with fail
  (with_reducible refine keyL.mono ?_); rintro e w1 ⟨rfl, rfl⟩
  go_wp2_with fail
  go_cut [] (fun wx => TM base wx t (S.lay k n (.pr A (lkd B.num d))) ∧ Mv (w.alloc ZL) wx S (S.lay k n (.pr A (lkd B.num d))))
  case first =>
    go_region_law (first | (go_simp; (go_at_call 53; (with_reducible refine keyK.mono ?_); rintro e w2 ⟨rfl, hb2⟩; (have HB2 := Lib.hid (Below.drewed hb2)); (have HT2 := Lib.hid (H0.out.below HB2.out)); (have M3 := HT2.out.pr HK.out); (have m5 := M3.c5); (have m6 := M3.c6); (have m7 := M3.c7); (have m8 := M3.c8); (have f5 := M3.fz 5); (have f6 := M3.fz 6); (have f7 := M3.fz 7); (have f8 := M3.fz 8); clear M3 hb2)))
    all_goals
      go_wp2_with fail
      go_meet
      case rel => exact ⟨HT2.out.side1 HK.out _, (Mv.of_below HB2.out).trans (Mv.lay HT2.out HK.out (Stay.set4 (S := fun i => i = n) (Stay.refl _ _) rfl 5 6 7 8 _ _ _ _))⟩
  case rest =>
  obtain ⟨hT3, hV3⟩ := hcut
  have key := tlink wc hT3 (upd_at _ _ _) hok
  unfold lkv at key
  have HT3 := Lib.hid hT3
  have HV3 := Lib.hid hV3
  clear hT3 hV3 keyK keyL n0 n1 n2 n3 n4 n5 n6 n7 n8
  go_wp2_with fail
  (with_reducible refine key.mono ?_); rintro e w5 ⟨rfl, hb5⟩
  have hT5 := HT3.out.below hb5
  have hV5 := HV3.out.below hb5
  obtain ⟨r0, r1, r2, r3, q0, q1, q2, q3⟩ := Mv.res H.out hV5
  have fin := Lib.hid (Mv.done H.out hT5 hV5 (.int .i64 (lkd k (.pr A (lkd B.num d))).num) (.int .i64 (lkd k (.pr A (lkd B.num d))).len) (.int .i64 (lkd k (.pr A (lkd B.num d))).ones) (.int .i64 (lkd k (.pr A (lkd B.num d))).ht))
  clear hT5 hV5 hb5
  go_wp2_with fail
  try simp only [Exit.inBlock, Exit.then]
  refine bodyPost_ret (v := lkv (lkd k (.pr A (lkd B.num d)))) (by simp [results, Tryd.results77, go_sem, lkv, *]) rfl ⟨rfl, fin.out⟩
end Go.Proofs.YtfbhcbcpeocmcaaDoor
