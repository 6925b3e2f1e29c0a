/- even: contracts of the walk. -/
import Derived.Test.YtfbhcbcpeocmcaaDoorTmB
import Derived.LoopTactic
import Derived.BigQuiet
import Derived.Deep.DeepCutAuto
namespace Go.Proofs.YtfbhcbcpeocmcaaDoor
open Go Go.RowKit Go.ChangeAt Tr

/-- Of a tree's state the arena, and the root, are as they were; at most c nodes more were looked at. -/
structure Sm (S S' : St) (c : Nat) : Prop where
  T : S'.T = S.T
  F : S'.F = S.F
  rt : S'.rt = S.rt
  vis : S'.vis ≤ S.vis + c
theorem Sm.refl (S : St) (c : Nat) : Sm S S c := ⟨rfl, rfl, rfl, by omega⟩
theorem Sm.trans {S S' S'' : St} {c d : Nat} (h : Sm S S' c) (h' : Sm S' S'' d) : Sm S S'' (c + d) := ⟨h'.T.trans h.T, h'.F.trans h.F, h'.rt.trans h.rt, by have := h.vis; have := h'.vis; omega⟩
set_option maxHeartbeats 1600000 in
theorem teven_flat {base t k n N : Nat} {S : St} {A B : Lk} (w : World) (h : TM base w t S) (hk : S.sto k = some (n, .pr A B)) (hN : N ≤ 288230376151711744) (bA : Bd N A) (bB : Bd N B) (h1 : A.ht ≤ B.ht + 1) (h2 : B.ht ≤ A.ht + 1) :
    Calls Tryd.prog 57 #[.pointer (some ⟨t, 0, none⟩), .int .i64 k] w fun e w' => e = .returned (lkv (mk k A B)) ∧ TM base w' t S ∧ Mv w w' S S := by
  have b1 := bA.ht
  have b2 := bB.ht
  have hd0 : decide ((A.ht : Int) - B.ht < 2) = true := by simp; omega
  have hd1 : decide ((B.ht : Int) - A.ht < 2) = true := by simp; omega
  have hb0 : Below w.heap.size w (w.alloc ZL) := Below.allocs (Below.refl _ _) _
  have h0 := h.below hb0
  obtain ⟨len, c, lb, e1, _, e2, e3, e4, e5, e6, e7⟩ := h0.seen hk
  have key0 := fun w' (hb : Below (w.alloc ZL).heap.size (w.alloc ZL) w') => tlink_pr w' (h0.below hb) hk (by have := bA.len; have := bB.len; omega) (by have := bA.ones; have := bB.ones; omega) (by omega) (by omega)
  have w0 : IntKind.i64.wrap ((A.ht : Int) - B.ht) = (A.ht : Int) - B.ht := IntWalk.i64_in _ (by omega)
  have w1 : IntKind.i64.wrap ((B.ht : Int) - A.ht) = (B.ht : Int) - A.ht := IntWalk.i64_in _ (by omega)
  have W0 := Lib.hid w0
  have W1 := Lib.hid w1
  have H := Lib.hid h
  have HK := Lib.hid hk
  have H0 := Lib.hid h0
  have z0 : IntKind.i64.wrap 0 = 0 := by decide
  have z1 : IntKind.i64.wrap 1 = 1 := by decide
  clear h h0 hk h1 h2 b1 b2 bA bB w0 w1
  go_enter Tryd.func57, Tryd.ntmps57
  go_wp2_with fail
  go_loopw [6, 7, 16] (fun _ _ i wr => ∃ j : Nat, j ≤ 2 ∧ i = .int .i64 j ∧ Below (w.alloc ZL).heap.size (w.alloc ZL) wr) (fun _ _ i _ => 2 - (intOf i).toNat)
  case atStart => exact ⟨0, by omega, rfl, Below.refl _ _⟩
  case round =>
    obtain ⟨j, hj, rfl, hb⟩ := hrel
    have hT := H0.out.below hb
    obtain ⟨n0, n1, n2, n3, n4, n5, n6, n7, n8, _⟩ := hT.pr HK.out
    match j, hj with
    | 0, _ =>
      clear hT
      have ww := W0.out
      go_wp2_with fail
      go_quiet (fail)
      go_wp2_with fail
      go_roundw
      case rel => exact ⟨1, by omega, by go_num, hb.drewN _⟩
      case measure => simp [intOf]
    | 1, _ =>
      clear hT
      have ww := W1.out
      go_wp2_with fail
      go_quiet (fail)
      go_wp2_with fail
      go_roundw
      case rel => exact ⟨2, by omega, by go_num, hb.drewN _⟩
      case measure => simp [intOf]
    | 2, _ =>
      have key := key0 _ hb
      unfold lkv at key
      go_wp2_with fail
      (with_reducible refine key.mono ?_); rintro e w5 ⟨rfl, hb5⟩
      have hT5 := hT.below hb5
      have hV5 : Mv (w.alloc ZL) w5 S S := (Mv.of_below hb).below hb5
      obtain ⟨r0, r1, r2, r3, q0, q1, q2, q3⟩ := Mv.res H.out hV5
      have fin := Lib.hid (Mv.done H.out hT5 hV5 (.int .i64 (mk k A B).num) (.int .i64 (mk k A B).len) (.int .i64 (mk k A B).ones) (.int .i64 (mk k A B).ht))
      clear hT5 hV5 hb5 hT
      go_wp2_with fail
      try simp only [Exit.inBlock, Exit.then]
      refine bodyPost_ret (v := lkv (mk k A B)) (by simp [results, Tryd.results57, go_sem, lkv, *]) rfl ⟨rfl, fin.out⟩

set_option maxHeartbeats 1600000 in
theorem teven_one0 {base t k n m N : Nat} {S : St} {A B O I : Lk} (w : World) (h : TM base w t S) (hk : S.sto k = some (n, .pr A B)) (hm : S.sto A.num = some (m, .pr O I)) (hne : A.num ≠ k) (hv : S.vis < 1000000000000) (hN : N ≤ 288230376151711744) (bA : Bd N A) (bB : Bd N B) (bO : Bd N O) (bI : Bd N I)
    (h1 : B.ht + 2 ≤ A.ht) (h2 : I.ht ≤ O.ht) :
    Calls Tryd.prog 57 #[.pointer (some ⟨t, 0, none⟩), .int .i64 k] w fun e w' => e = .returned (lkv (mk A.num O (mk k I B))) ∧ TM base w' t (((S.see (S.vis + 2)).lay k n (.pr I B)).lay A.num m (.pr O (mk k I B))) ∧ Mv w w' S (((S.see (S.vis + 2)).lay k n (.pr I B)).lay A.num m (.pr O (mk k I B))) := by
  have b1 := bA.ht
  have b2 := bB.ht
  have b3 := bO.ht
  have b4 := bI.ht
  have hd0 : decide (((A.ht : Int) - B.ht) < 2) = false := by simp; omega
  have hd2 : decide ((I.ht : Int) > O.ht) = false := by simp; omega
  have hd3 : decide ((O.ht : Int) < I.ht) = false := by simp; omega
  have hd4 : decide (O.ht < I.ht) = false := by simp; omega
  have hd5 : ¬ O.ht < I.ht := by omega
  have hb0 : Below w.heap.size w (w.alloc ZL) := Below.allocs (Below.refl _ _) _
  have h0 := h.below hb0
  obtain ⟨len, c, lb, e1, _, e2, e3, e4, e5, e6, e7⟩ := h0.seen hk
  have w0 : IntKind.i64.wrap ((A.ht : Int) - B.ht) = ((A.ht : Int) - B.ht) := IntWalk.i64_in _ (by omega)
  have W0 := Lib.hid w0
  have H := Lib.hid h
  have HK := Lib.hid hk
  have HM := Lib.hid hm
  have H0 := Lib.hid h0
  have HB := Lib.hid (And.intro bA (And.intro bB (And.intro bO bI)))
  have z0 : IntKind.i64.wrap 0 = 0 := by decide
  have z1 : IntKind.i64.wrap 1 = 1 := by decide
  clear h h0 hk hm h1 h2 b1 b2 b3 b4 bA bB bO bI w0
  go_enter Tryd.func57, Tryd.ntmps57
  go_wp2_with fail
  go_loopw [6, 7, 16] (fun _ _ i wr => ∃ j : Nat, j ≤ 0 ∧ i = .int .i64 j ∧ Below (w.alloc ZL).heap.size (w.alloc ZL) wr) (fun _ _ i _ => 2 - (intOf i).toNat)
  case atStart => exact ⟨0, by omega, rfl, Below.refl _ _⟩
  case round =>
    obtain ⟨j, hj, rfl, hb⟩ := hrel
    have hT := H0.out.below hb
    have HT := Lib.hid hT
    obtain ⟨n0, n1, n2, n3, n4, n5, n6, n7, n8, _⟩ := hT.pr HK.out
    obtain rfl : j = 0 := by omega
    clear hT
    have ww := W0.out
    go_wp2_with fail
    go_quiet (fail)
    have hT1 := HT.out.drewN nq
    have key := tlook _ hT1 HM.out (by omega)
    have hV1 : Mv (w.alloc ZL) (wr.drewN nq) S S := (Mv.of_below hb).below ((Below.refl _ _).drewN _)
    have N1 := hT1.pr HK.out
    have n1' := N1.c1
    have n5' := N1.c5
    have HT1 := Lib.hid hT1
    have HV1 := Lib.hid hV1
    clear hT1 hV1 N1 ww n0 n1 n2 n3 n4 n5 n6 n7 n8
    go_wp2_with (first | (go_at_call 37; (with_reducible refine key.mono ?_); rintro e w2 ⟨rfl, hT2, hs2⟩))
    have hm2 : (S.see (S.vis + 1)).sto A.num = some (m, .pr O I) := HM.out
    have M2 := hT2.pr hm2
    have m4 := M2.c4
    have m8 := M2.c8
    have HV2 : Hid (Mv (w.alloc ZL) w2 S (S.see (S.vis + 1))) := Lib.hid (HV1.out.trans (Mv.tree HT1.out hs2 S.rt (S.vis + 1)))
    have HT2 := Lib.hid hT2
    clear hT2 M2 hm2 hs2 key n1' n5'
    go_quiet (fail)
    have hT3 := HT2.out.drewN nq
    have hn3 : (S.see (S.vis + 1)).sto k = some (n, .pr A B) := HK.out
    have hm3 : (S.see (S.vis + 1)).sto A.num = some (m, .pr O I) := HM.out
    have key := tlift0 _ hT3 hn3 hm3 hne (by show S.vis + 1 < _; omega) hN HB.out.2.2.1 HB.out.2.2.2 HB.out.2.1
    unfold lkv at key
    have hV3 := HV2.out.below ((Below.refl _ _).drewN nq)
    clear hT3 hn3 hm3 m4 m8
    go_wp2_with (first | (go_at_call 74; (with_reducible refine key.mono ?_); rintro e w5 ⟨rfl, hT5, hV5'⟩; (have hV5 := hV3.trans hV5'); (obtain ⟨r0, r1, r2, r3, q0, q1, q2, q3⟩ := Mv.res H.out hV5); (have fin := Lib.hid (Mv.done H.out hT5 hV5 (.int .i64 (mk A.num O (mk k I B)).num) (.int .i64 (mk A.num O (mk k I B)).len) (.int .i64 (mk A.num O (mk k I B)).ones) (.int .i64 (mk A.num O (mk k I B)).ht))); clear hT5 hV5 hV5' hV3))
    try simp only [Exit.inBlock, Exit.then]
    refine bodyPost_ret (v := lkv (mk A.num O (mk k I B))) (by simp [results, Tryd.results57, go_sem, lkv, *]) rfl ⟨rfl, fin.out⟩

set_option maxHeartbeats 1600000 in
theorem teven_one1 {base t k n m N : Nat} {S : St} {A B O I : Lk} (w : World) (h : TM base w t S) (hk : S.sto k = some (n, .pr A B)) (hm : S.sto B.num = some (m, .pr I O)) (hne : B.num ≠ k) (hv : S.vis < 1000000000000) (hN : N ≤ 288230376151711744) (bA : Bd N A) (bB : Bd N B) (bO : Bd N O) (bI : Bd N I)
    (h1 : A.ht + 2 ≤ B.ht) (h2 : I.ht ≤ O.ht) :
    Calls Tryd.prog 57 #[.pointer (some ⟨t, 0, none⟩), .int .i64 k] w fun e w' => e = .returned (lkv (mk B.num (mk k A I) O)) ∧ TM base w' t (((S.see (S.vis + 2)).lay k n (.pr A I)).lay B.num m (.pr (mk k A I) O)) ∧ Mv w w' S (((S.see (S.vis + 2)).lay k n (.pr A I)).lay B.num m (.pr (mk k A I) O)) := by
  have b1 := bA.ht
  have b2 := bB.ht
  have b3 := bO.ht
  have b4 := bI.ht
  have hd0 : decide (((B.ht : Int) - A.ht) < 2) = false := by simp; omega
  have hd1 : decide (((A.ht : Int) - B.ht) < 2) = true := by simp; omega
  have hd2 : decide ((I.ht : Int) > O.ht) = false := by simp; omega
  have hd3 : decide ((O.ht : Int) < I.ht) = false := by simp; omega
  have hd4 : decide (O.ht < I.ht) = false := by simp; omega
  have hd5 : ¬ O.ht < I.ht := by omega
  have hb0 : Below w.heap.size w (w.alloc ZL) := Below.allocs (Below.refl _ _) _
  have h0 := h.below hb0
  obtain ⟨len, c, lb, e1, _, e2, e3, e4, e5, e6, e7⟩ := h0.seen hk
  have w0 : IntKind.i64.wrap ((B.ht : Int) - A.ht) = ((B.ht : Int) - A.ht) := IntWalk.i64_in _ (by omega)
  have W0 := Lib.hid w0
  have W1 := Lib.hid (show IntKind.i64.wrap ((A.ht : Int) - B.ht) = (A.ht : Int) - B.ht from IntWalk.i64_in _ (by omega))
  have H := Lib.hid h
  have HK := Lib.hid hk
  have HM := Lib.hid hm
  have H0 := Lib.hid h0
  have HB := Lib.hid (And.intro bA (And.intro bB (And.intro bO bI)))
  have z0 : IntKind.i64.wrap 0 = 0 := by decide
  have z1 : IntKind.i64.wrap 1 = 1 := by decide
  clear h h0 hk hm h1 h2 b1 b2 b3 b4 bA bB bO bI w0
  go_enter Tryd.func57, Tryd.ntmps57
  go_wp2_with fail
  go_loopw [6, 7, 16] (fun _ _ i wr => ∃ j : Nat, j ≤ 1 ∧ i = .int .i64 j ∧ Below (w.alloc ZL).heap.size (w.alloc ZL) wr) (fun _ _ i _ => 2 - (intOf i).toNat)
  case atStart => exact ⟨0, by omega, rfl, Below.refl _ _⟩
  case round =>
    obtain ⟨j, hj, rfl, hb⟩ := hrel
    have hT := H0.out.below hb
    have HT := Lib.hid hT
    obtain ⟨n0, n1, n2, n3, n4, n5, n6, n7, n8, _⟩ := hT.pr HK.out
    by_cases hj0 : j = 0
    · subst hj0
      clear hT
      have ww := W1.out
      go_wp2_with fail
      go_quiet (fail)
      go_wp2_with fail
      go_roundw
      case rel => exact ⟨1, by omega, by go_num, hb.drewN _⟩
      case measure => simp [intOf]
    obtain rfl : j = 1 := by omega
    clear hj0
    clear hT
    have ww := W0.out
    go_wp2_with fail
    go_quiet (fail)
    have hT1 := HT.out.drewN nq
    have key := tlook _ hT1 HM.out (by omega)
    have hV1 : Mv (w.alloc ZL) (wr.drewN nq) S S := (Mv.of_below hb).below ((Below.refl _ _).drewN _)
    have N1 := hT1.pr HK.out
    have n1' := N1.c1
    have n5' := N1.c5
    have HT1 := Lib.hid hT1
    have HV1 := Lib.hid hV1
    clear hT1 hV1 N1 ww n0 n1 n2 n3 n4 n5 n6 n7 n8
    go_wp2_with (first | (go_at_call 37; (with_reducible refine key.mono ?_); rintro e w2 ⟨rfl, hT2, hs2⟩))
    have hm2 : (S.see (S.vis + 1)).sto B.num = some (m, .pr I O) := HM.out
    have M2 := hT2.pr hm2
    have m4 := M2.c4
    have m8 := M2.c8
    have HV2 : Hid (Mv (w.alloc ZL) w2 S (S.see (S.vis + 1))) := Lib.hid (HV1.out.trans (Mv.tree HT1.out hs2 S.rt (S.vis + 1)))
    have HT2 := Lib.hid hT2
    clear hT2 M2 hm2 hs2 key n1' n5'
    go_quiet (fail)
    have hT3 := HT2.out.drewN nq
    have hn3 : (S.see (S.vis + 1)).sto k = some (n, .pr A B) := HK.out
    have hm3 : (S.see (S.vis + 1)).sto B.num = some (m, .pr I O) := HM.out
    have key := tlift1 _ hT3 hn3 hm3 hne (by show S.vis + 1 < _; omega) hN HB.out.2.2.2 HB.out.2.2.1 HB.out.1
    unfold lkv at key
    have hV3 := HV2.out.below ((Below.refl _ _).drewN nq)
    clear hT3 hn3 hm3 m4 m8
    go_wp2_with (first | (go_at_call 74; (with_reducible refine key.mono ?_); rintro e w5 ⟨rfl, hT5, hV5'⟩; (have hV5 := hV3.trans hV5'); (obtain ⟨r0, r1, r2, r3, q0, q1, q2, q3⟩ := Mv.res H.out hV5); (have fin := Lib.hid (Mv.done H.out hT5 hV5 (.int .i64 (mk B.num (mk k A I) O).num) (.int .i64 (mk B.num (mk k A I) O).len) (.int .i64 (mk B.num (mk k A I) O).ones) (.int .i64 (mk B.num (mk k A I) O).ht))); clear hT5 hV5 hV5' hV3))
    try simp only [Exit.inBlock, Exit.then]
    refine bodyPost_ret (v := lkv (mk B.num (mk k A I) O)) (by simp [results, Tryd.results57, go_sem, lkv, *]) rfl ⟨rfl, fin.out⟩

set_option maxHeartbeats 1600000 in
theorem teven_two0 {base t k n m q N : Nat} {S : St} {A B O I E F : Lk} (w : World) (h : TM base w t S) (hk : S.sto k = some (n, .pr A B)) (hm : S.sto A.num = some (m, .pr O I)) (hq : S.sto I.num = some (q, .pr E F)) (hne2 : I.num ≠ k) (hne3 : I.num ≠ A.num) (hne : A.num ≠ k) (hv : S.vis < 1000000000000) (hN : N ≤ 72057594037927936) (bA : Bd N A) (bB : Bd N B) (bO : Bd N O) (bI : Bd N I) (bE : Bd N E) (bF : Bd N F)
    (h1 : B.ht + 2 ≤ A.ht) (h2 : O.ht < I.ht) :
    Calls Tryd.prog 57 #[.pointer (some ⟨t, 0, none⟩), .int .i64 k] w fun e w' => e = .returned (lkv (mk I.num (mk A.num O E) (mk k F B))) ∧ TM base w' t (((((((S.see (S.vis + 2)).lay A.num m (.pr O E)).lay I.num q (.pr (mk A.num O E) F)).lay k n (.pr (mk I.num (mk A.num O E) F) B)).see (S.vis + 3)).lay k n (.pr F B)).lay I.num q (.pr (mk A.num O E) (mk k F B))) ∧ Mv w w' S (((((((S.see (S.vis + 2)).lay A.num m (.pr O E)).lay I.num q (.pr (mk A.num O E) F)).lay k n (.pr (mk I.num (mk A.num O E) F) B)).see (S.vis + 3)).lay k n (.pr F B)).lay I.num q (.pr (mk A.num O E) (mk k F B))) := by
  have b1 := bA.ht
  have b2 := bB.ht
  have b3 := bO.ht
  have b4 := bI.ht
  have hd0 : decide (((A.ht : Int) - B.ht) < 2) = false := by simp; omega
  have hd2 : decide ((I.ht : Int) > O.ht) = true := by simp; omega
  have hd3 : decide ((O.ht : Int) < I.ht) = true := by simp; omega
  have hd4 : decide (O.ht < I.ht) = true := by simp; omega
  have hd5 : O.ht < I.ht := by omega
  have hb0 : Below w.heap.size w (w.alloc ZL) := Below.allocs (Below.refl _ _) _
  have h0 := h.below hb0
  obtain ⟨len, c, lb, e1, _, e2, e3, e4, e5, e6, e7⟩ := h0.seen hk
  have w0 : IntKind.i64.wrap ((A.ht : Int) - B.ht) = ((A.ht : Int) - B.ht) := IntWalk.i64_in _ (by omega)
  have W0 := Lib.hid w0
  have H := Lib.hid h
  have HK := Lib.hid hk
  have HM := Lib.hid hm
  have H0 := Lib.hid h0
  have HB := Lib.hid (And.intro bA (And.intro bB (And.intro bO (And.intro bI (And.intro bE bF)))))
  have HQ := Lib.hid hq
  have z0 : IntKind.i64.wrap 0 = 0 := by decide
  have z1 : IntKind.i64.wrap 1 = 1 := by decide
  clear h h0 hk hm hq h1 h2 b1 b2 b3 b4 bA bB bO bI bE bF w0
  go_enter Tryd.func57, Tryd.ntmps57
  go_wp2_with fail
  go_loopw [6, 7, 16] (fun _ _ i wr => ∃ j : Nat, j ≤ 0 ∧ i = .int .i64 j ∧ Below (w.alloc ZL).heap.size (w.alloc ZL) wr) (fun _ _ i _ => 2 - (intOf i).toNat)
  case atStart => exact ⟨0, by omega, rfl, Below.refl _ _⟩
  case round =>
    obtain ⟨j, hj, rfl, hb⟩ := hrel
    have hT := H0.out.below hb
    have HT := Lib.hid hT
    obtain ⟨n0, n1, n2, n3, n4, n5, n6, n7, n8, _⟩ := hT.pr HK.out
    obtain rfl : j = 0 := by omega
    clear hT
    have ww := W0.out
    go_wp2_with fail
    go_quiet (fail)
    have hT1 := HT.out.drewN nq
    have key := tlook _ hT1 HM.out (by omega)
    have hV1 : Mv (w.alloc ZL) (wr.drewN nq) S S := (Mv.of_below hb).below ((Below.refl _ _).drewN _)
    have N1 := hT1.pr HK.out
    have n1' := N1.c1
    have n5' := N1.c5
    have HT1 := Lib.hid hT1
    have HV1 := Lib.hid hV1
    clear hT1 hV1 N1 ww n0 n1 n2 n3 n4 n5 n6 n7 n8
    go_wp2_with (first | (go_at_call 37; (with_reducible refine key.mono ?_); rintro e w2 ⟨rfl, hT2, hs2⟩))
    have hm2 : (S.see (S.vis + 1)).sto A.num = some (m, .pr O I) := HM.out
    have M2 := hT2.pr hm2
    have m4 := M2.c4
    have m8 := M2.c8
    have HV2 : Hid (Mv (w.alloc ZL) w2 S (S.see (S.vis + 1))) := Lib.hid (HV1.out.trans (Mv.tree HT1.out hs2 S.rt (S.vis + 1)))
    have HT2 := Lib.hid hT2
    clear hT2 M2 hm2 hs2 key n1' n5'
    go_quiet (fail)
    have hT3 := HT2.out.drewN nq
    have hm3 : (S.see (S.vis + 1)).sto A.num = some (m, .pr O I) := HM.out
    have hq3 : (S.see (S.vis + 1)).sto I.num = some (q, .pr E F) := HQ.out
    have hk3 : (S.see (S.vis + 1)).sto k = some (n, .pr A B) := HK.out
    have N3 := hT3.pr hk3
    have hV3 := HV2.out.below ((Below.refl _ _).drewN nq)
    have HT3 := Lib.hid hT3
    have HV3 := Lib.hid hV3
    clear m4 m8 hT3 hV3
    have HM3 := Lib.hid hm3
    have HQ3 := Lib.hid hq3
    clear hm3 hq3 hk3
    go_wp2_with fail
    obtain ⟨n0, n1, n2, n3, n4, n5, n6, n7, n8, _⟩ := N3
    generalize w2.drewN nq = w3 at *
    have hT3 : TM base w3.drew t (S.see (S.vis + 1)) := HT3.out.drewN 1
    have hm3 := HM3.out
    have hq3 := HQ3.out
    have key := tlift1 _ hT3 hm3 hq3 hne3 (by show S.vis + 1 < _; omega) (N := N) (by omega) HB.out.2.2.2.2.1 HB.out.2.2.2.2.2 HB.out.2.2.1
    clear hT3 hm3 hq3
    unfold lkv at key
    have hk5 : (((S.see (S.vis + 2)).lay A.num m (.pr O E)).lay I.num q (.pr (mk A.num O E) F)).sto k = some (n, .pr A B) := (upd_ne _ _ hne2.symm).trans ((upd_ne _ _ hne.symm).trans HK.out)
    have HK5 := Lib.hid hk5
    clear hk5
    go_cut [] (fun wx => TM base wx t ((((S.see (S.vis + 2)).lay A.num m (.pr O E)).lay I.num q (.pr (mk A.num O E) F)).lay k n (.pr (mk I.num (mk A.num O E) F) B)) ∧ Mv (w.alloc ZL) wx S ((((S.see (S.vis + 2)).lay A.num m (.pr O E)).lay I.num q (.pr (mk A.num O E) F)).lay k n (.pr (mk I.num (mk A.num O E) F) B)))
    case first =>
      go_region_law (first | (go_simp; (go_at_call 74; (with_reducible refine key.mono ?_); rintro e w4 ⟨rfl, hT4, hV4⟩; (have HT4 : Hid (TM base w4 t (((S.see (S.vis + 2)).lay A.num m (.pr O E)).lay I.num q (.pr (mk A.num O E) F))) := Lib.hid hT4); (have HV4 : Hid (Mv (w.alloc ZL) w4 S (((S.see (S.vis + 2)).lay A.num m (.pr O E)).lay I.num q (.pr (mk A.num O E) F))) := Lib.hid ((HV3.out.below (Below.drews (Below.refl _ _))).trans hV4)); (have M3 := HT4.out.pr HK5.out); (have m5 := M3.c1); (have m6 := M3.c2); (have m7 := M3.c3); (have m8 := M3.c4); (have f5 := M3.fz 1); (have f6 := M3.fz 2); (have f7 := M3.fz 3); (have f8 := M3.fz 4); clear M3 hT4 hV4)))
      all_goals
        go_wp2_with fail
        go_meet
        case rel => exact ⟨HT4.out.side0 HK5.out _, HV4.out.trans (Mv.lay HT4.out HK5.out (Stay.set4 (S := fun i => i = n) (Stay.refl _ _) rfl 1 2 3 4 _ _ _ _))⟩
    case rest =>
    obtain ⟨hT4, hV4⟩ := hcut
    have hn4 : ((((S.see (S.vis + 2)).lay A.num m (.pr O E)).lay I.num q (.pr (mk A.num O E) F)).lay k n (.pr (mk I.num (mk A.num O E) F) B)).sto k = some (n, .pr (mk I.num (mk A.num O E) F) B) := upd_at _ _ _
    have hq4 : ((((S.see (S.vis + 2)).lay A.num m (.pr O E)).lay I.num q (.pr (mk A.num O E) F)).lay k n (.pr (mk I.num (mk A.num O E) F) B)).sto (mk I.num (mk A.num O E) F).num = some (q, .pr (mk A.num O E) F) := (upd_ne _ _ hne2).trans (upd_at _ _ _)
    have key := tlift0 (A := mk I.num (mk A.num O E) F) _ hT4 hn4 hq4 hne2 (by show S.vis + 2 < _; omega) (N := 2 * N + 1) (by omega) (HB.out.2.2.1.both _ HB.out.2.2.2.2.1) (HB.out.2.2.2.2.2.mono (by omega)) (HB.out.2.1.mono (by omega))
    unfold lkv at key
    clear n0 n1 n2 n3 n4 n5 n6 n7 n8
    go_wp2_with (first | (go_at_call 74; (with_reducible refine key.mono ?_); rintro e w5 ⟨rfl, hT5, hV5'⟩; (have hV5 := hV4.trans hV5'); (obtain ⟨r0, r1, r2, r3, q0, q1, q2, q3⟩ := Mv.res H.out hV5); (have fin := Lib.hid (Mv.done H.out hT5 hV5 (.int .i64 (mk I.num (mk A.num O E) (mk k F B)).num) (.int .i64 (mk I.num (mk A.num O E) (mk k F B)).len) (.int .i64 (mk I.num (mk A.num O E) (mk k F B)).ones) (.int .i64 (mk I.num (mk A.num O E) (mk k F B)).ht))); clear hT5 hV5 hV5' hT4 hV4))
    try simp only [Exit.inBlock, Exit.then]
    refine bodyPost_ret (v := lkv (mk I.num (mk A.num O E) (mk k F B))) (by simp [results, Tryd.results57, go_sem, lkv, *] <;> exact ⟨rfl, rfl, rfl, rfl⟩) rfl ⟨rfl, fin.out⟩

set_option maxHeartbeats 1600000 in
theorem teven_two1 {base t k n m q N : Nat} {S : St} {A B O I E F : Lk} (w : World) (h : TM base w t S) (hk : S.sto k = some (n, .pr A B)) (hm : S.sto B.num = some (m, .pr I O)) (hq : S.sto I.num = some (q, .pr E F)) (hne2 : I.num ≠ k) (hne3 : I.num ≠ B.num) (hne : B.num ≠ k) (hv : S.vis < 1000000000000) (hN : N ≤ 72057594037927936) (bA : Bd N A) (bB : Bd N B) (bO : Bd N O) (bI : Bd N I) (bE : Bd N E) (bF : Bd N F)
    (h1 : A.ht + 2 ≤ B.ht) (h2 : O.ht < I.ht) :
    Calls Tryd.prog 57 #[.pointer (some ⟨t, 0, none⟩), .int .i64 k] w fun e w' => e = .returned (lkv (mk I.num (mk k A E) (mk B.num F O))) ∧ TM base w' t (((((((S.see (S.vis + 2)).lay B.num m (.pr F O)).lay I.num q (.pr E (mk B.num F O))).lay k n (.pr A (mk I.num E (mk B.num F O)))).see (S.vis + 3)).lay k n (.pr A E)).lay I.num q (.pr (mk k A E) (mk B.num F O))) ∧ Mv w w' S (((((((S.see (S.vis + 2)).lay B.num m (.pr F O)).lay I.num q (.pr E (mk B.num F O))).lay k n (.pr A (mk I.num E (mk B.num F O)))).see (S.vis + 3)).lay k n (.pr A E)).lay I.num q (.pr (mk k A E) (mk B.num F O))) := by
  have b1 := bA.ht
  have b2 := bB.ht
  have b3 := bO.ht
  have b4 := bI.ht
  have hd0 : decide (((B.ht : Int) - A.ht) < 2) = false := by simp; omega
  have hd1 : decide (((A.ht : Int) - B.ht) < 2) = true := by simp; omega
  have hd2 : decide ((I.ht : Int) > O.ht) = true := by simp; omega
  have hd3 : decide ((O.ht : Int) < I.ht) = true := by simp; omega
  have hd4 : decide (O.ht < I.ht) = true := by simp; omega
  have hd5 : O.ht < I.ht := by omega
  have hb0 : Below w.heap.size w (w.alloc ZL) := Below.allocs (Below.refl _ _) _
  have h0 := h.below hb0
  obtain ⟨len, c, lb, e1, _, e2, e3, e4, e5, e6, e7⟩ := h0.seen hk
  have w0 : IntKind.i64.wrap ((B.ht : Int) - A.ht) = ((B.ht : Int) - A.ht) := IntWalk.i64_in _ (by omega)
  have W0 := Lib.hid w0
  have W1 := Lib.hid (show IntKind.i64.wrap ((A.ht : Int) - B.ht) = (A.ht : Int) - B.ht from IntWalk.i64_in _ (by omega))
  have H := Lib.hid h
  have HK := Lib.hid hk
  have HM := Lib.hid hm
  have H0 := Lib.hid h0
  have HB := Lib.hid (And.intro bA (And.intro bB (And.intro bO (And.intro bI (And.intro bE bF)))))
  have HQ := Lib.hid hq
  have z0 : IntKind.i64.wrap 0 = 0 := by decide
  have z1 : IntKind.i64.wrap 1 = 1 := by decide
  clear h h0 hk hm hq h1 h2 b1 b2 b3 b4 bA bB bO bI bE bF w0
  go_enter Tryd.func57, Tryd.ntmps57
  go_wp2_with fail
  go_loopw [6, 7, 16] (fun _ _ i wr => ∃ j : Nat, j ≤ 1 ∧ i = .int .i64 j ∧ Below (w.alloc ZL).heap.size (w.alloc ZL) wr) (fun _ _ i _ => 2 - (intOf i).toNat)
  case atStart => exact ⟨0, by omega, rfl, Below.refl _ _⟩
  case round =>
    obtain ⟨j, hj, rfl, hb⟩ := hrel
    have hT := H0.out.below hb
    have HT := Lib.hid hT
    obtain ⟨n0, n1, n2, n3, n4, n5, n6, n7, n8, _⟩ := hT.pr HK.out
    by_cases hj0 : j = 0
    · subst hj0
      clear hT
      have ww := W1.out
      go_wp2_with fail
      go_quiet (fail)
      go_wp2_with fail
      go_roundw
      case rel => exact ⟨1, by omega, by go_num, hb.drewN _⟩
      case measure => simp [intOf]
    obtain rfl : j = 1 := by omega
    clear hj0
    clear hT
    have ww := W0.out
    go_wp2_with fail
    go_quiet (fail)
    have hT1 := HT.out.drewN nq
    have key := tlook _ hT1 HM.out (by omega)
    have hV1 : Mv (w.alloc ZL) (wr.drewN nq) S S := (Mv.of_below hb).below ((Below.refl _ _).drewN _)
    have N1 := hT1.pr HK.out
    have n1' := N1.c1
    have n5' := N1.c5
    have HT1 := Lib.hid hT1
    have HV1 := Lib.hid hV1
    clear hT1 hV1 N1 ww n0 n1 n2 n3 n4 n5 n6 n7 n8
    go_wp2_with (first | (go_at_call 37; (with_reducible refine key.mono ?_); rintro e w2 ⟨rfl, hT2, hs2⟩))
    have hm2 : (S.see (S.vis + 1)).sto B.num = some (m, .pr I O) := HM.out
    have M2 := hT2.pr hm2
    have m4 := M2.c4
    have m8 := M2.c8
    have HV2 : Hid (Mv (w.alloc ZL) w2 S (S.see (S.vis + 1))) := Lib.hid (HV1.out.trans (Mv.tree HT1.out hs2 S.rt (S.vis + 1)))
    have HT2 := Lib.hid hT2
    clear hT2 M2 hm2 hs2 key n1' n5'
    go_quiet (fail)
    have hT3 := HT2.out.drewN nq
    have hm3 : (S.see (S.vis + 1)).sto B.num = some (m, .pr I O) := HM.out
    have hq3 : (S.see (S.vis + 1)).sto I.num = some (q, .pr E F) := HQ.out
    have hk3 : (S.see (S.vis + 1)).sto k = some (n, .pr A B) := HK.out
    have N3 := hT3.pr hk3
    have hV3 := HV2.out.below ((Below.refl _ _).drewN nq)
    have HT3 := Lib.hid hT3
    have HV3 := Lib.hid hV3
    clear m4 m8 hT3 hV3
    have HM3 := Lib.hid hm3
    have HQ3 := Lib.hid hq3
    clear hm3 hq3 hk3
    go_wp2_with fail
    obtain ⟨n0, n1, n2, n3, n4, n5, n6, n7, n8, _⟩ := N3
    generalize w2.drewN nq = w3 at *
    have hT3 : TM base w3.drew t (S.see (S.vis + 1)) := HT3.out.drewN 1
    have hm3 := HM3.out
    have hq3 := HQ3.out
    have key := tlift0 _ hT3 hm3 hq3 hne3 (by show S.vis + 1 < _; omega) (N := N) (by omega) HB.out.2.2.2.2.1 HB.out.2.2.2.2.2 HB.out.2.2.1
    clear hT3 hm3 hq3
    unfold lkv at key
    have hk5 : (((S.see (S.vis + 2)).lay B.num m (.pr F O)).lay I.num q (.pr E (mk B.num F O))).sto k = some (n, .pr A B) := (upd_ne _ _ hne2.symm).trans ((upd_ne _ _ hne.symm).trans HK.out)
    have HK5 := Lib.hid hk5
    clear hk5
    go_cut [] (fun wx => TM base wx t ((((S.see (S.vis + 2)).lay B.num m (.pr F O)).lay I.num q (.pr E (mk B.num F O))).lay k n (.pr A (mk I.num E (mk B.num F O)))) ∧ Mv (w.alloc ZL) wx S ((((S.see (S.vis + 2)).lay B.num m (.pr F O)).lay I.num q (.pr E (mk B.num F O))).lay k n (.pr A (mk I.num E (mk B.num F O)))))
    case first =>
      go_region_law (first | (go_simp; (go_at_call 74; (with_reducible refine key.mono ?_); rintro e w4 ⟨rfl, hT4, hV4⟩; (have HT4 : Hid (TM base w4 t (((S.see (S.vis + 2)).lay B.num m (.pr F O)).lay I.num q (.pr E (mk B.num F O)))) := Lib.hid hT4); (have HV4 : Hid (Mv (w.alloc ZL) w4 S (((S.see (S.vis + 2)).lay B.num m (.pr F O)).lay I.num q (.pr E (mk B.num F O)))) := Lib.hid ((HV3.out.below (Below.drews (Below.refl _ _))).trans hV4)); (have M3 := HT4.out.pr HK5.out); (have m5 := M3.c5); (have m6 := M3.c6); (have m7 := M3.c7); (have m8 := M3.c8); (have f5 := M3.fz 5); (have f6 := M3.fz 6); (have f7 := M3.fz 7); (have f8 := M3.fz 8); clear M3 hT4 hV4)))
      all_goals
        go_wp2_with fail
        go_meet
        case rel => exact ⟨HT4.out.side1 HK5.out _, HV4.out.trans (Mv.lay HT4.out HK5.out (Stay.set4 (S := fun i => i = n) (Stay.refl _ _) rfl 5 6 7 8 _ _ _ _))⟩
    case rest =>
    obtain ⟨hT4, hV4⟩ := hcut
    have hn4 : ((((S.see (S.vis + 2)).lay B.num m (.pr F O)).lay I.num q (.pr E (mk B.num F O))).lay k n (.pr A (mk I.num E (mk B.num F O)))).sto k = some (n, .pr A (mk I.num E (mk B.num F O))) := upd_at _ _ _
    have hq4 : ((((S.see (S.vis + 2)).lay B.num m (.pr F O)).lay I.num q (.pr E (mk B.num F O))).lay k n (.pr A (mk I.num E (mk B.num F O)))).sto (mk I.num E (mk B.num F O)).num = some (q, .pr E (mk B.num F O)) := (upd_ne _ _ hne2).trans (upd_at _ _ _)
    have key := tlift1 (B := mk I.num E (mk B.num F O)) _ hT4 hn4 hq4 hne2 (by show S.vis + 2 < _; omega) (N := 2 * N + 1) (by omega) (HB.out.2.2.2.2.1.mono (by omega)) (HB.out.2.2.2.2.2.both _ HB.out.2.2.1) (HB.out.1.mono (by omega))
    unfold lkv at key
    clear n0 n1 n2 n3 n4 n5 n6 n7 n8
    go_wp2_with (first | (go_at_call 74; (with_reducible refine key.mono ?_); rintro e w5 ⟨rfl, hT5, hV5'⟩; (have hV5 := hV4.trans hV5'); (obtain ⟨r0, r1, r2, r3, q0, q1, q2, q3⟩ := Mv.res H.out hV5); (have fin := Lib.hid (Mv.done H.out hT5 hV5 (.int .i64 (mk I.num (mk k A E) (mk B.num F O)).num) (.int .i64 (mk I.num (mk k A E) (mk B.num F O)).len) (.int .i64 (mk I.num (mk k A E) (mk B.num F O)).ones) (.int .i64 (mk I.num (mk k A E) (mk B.num F O)).ht))); clear hT5 hV5 hV5' hT4 hV4))
    try simp only [Exit.inBlock, Exit.then]
    refine bodyPost_ret (v := lkv (mk I.num (mk k A E) (mk B.num F O))) (by simp [results, Tryd.results57, go_sem, lkv, *] <;> exact ⟨rfl, rfl, rfl, rfl⟩) rfl ⟨rfl, fin.out⟩
end Go.Proofs.YtfbhcbcpeocmcaaDoor
