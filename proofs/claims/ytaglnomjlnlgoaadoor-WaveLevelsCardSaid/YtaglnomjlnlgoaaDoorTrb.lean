/- even: contracts of the walk. even, of a tree: what stands in the node's place is balanced, and holds the same bits. A node more in a tree's store: how the memory must lie behind it. -/
import Derived.Test.YtaglnomjlnlgoaaDoorTra
import Derived.LoopTactic
import Derived.BigQuiet
import Derived.Deep.DeepCutAuto
import Derived.Maps.AppendAt
namespace Go.Proofs.YtaglnomjlnlgoaaDoor
open Go Go.RowKit Go.ChangeAt Tr

/-- Of a tree's state the arena, and the root, are as they were; at most c nodes more were looked at. -/
structure Sm (S S' : St) (c : Nat) : Prop where
  T : S'.T = S.T
  F : S'.F = S.F
  rt : S'.rt = S.rt
  vis : S'.vis ≤ S.vis + c
theorem Sm.refl (S : St) (c : Nat) : Sm S S c := ⟨rfl, rfl, rfl, by omega⟩
theorem Sm.trans {S S' S'' : St} {c d : Nat} (h : Sm S S' c) (h' : Sm S' S'' d) : Sm S S'' (c + d) := ⟨h'.T.trans h.T, h'.F.trans h.F, h'.rt.trans h.rt, by have := h.vis; have := h'.vis; omega⟩
set_option maxHeartbeats 1600000 in
theorem teven_flat {base t k n N : Nat} {S : St} {A B : Lk} (w : World) (h : TM base w t S) (hk : S.sto k = some (n, .pr A B)) (hN : N ≤ 288230376151711744) (bA : Bd N A) (bB : Bd N B) (h1 : A.ht ≤ B.ht + 1) (h2 : B.ht ≤ A.ht + 1) :
    Calls Tryd.prog 71 #[.pointer (some ⟨t, 0, none⟩), .int .i64 k] w fun e w' => e = .returned (lkv (mk k A B)) ∧ TM base w' t S ∧ Mv w w' S S := by
  have b1 := bA.ht
  have b2 := bB.ht
  have hd0 : decide ((A.ht : Int) - B.ht < 2) = true := by simp; omega
  have hd1 : decide ((B.ht : Int) - A.ht < 2) = true := by simp; omega
  have hb0 : Below w.heap.size w (w.alloc ZL) := Below.allocs (Below.refl _ _) _
  have h0 := h.below hb0
  obtain ⟨len, c, lb, e1, _, e2, e3, e4, e5, e6, e7⟩ := h0.seen hk
  have key0 := fun w' (hb : Below (w.alloc ZL).heap.size (w.alloc ZL) w') => tlink_pr w' (h0.below hb) hk (by have := bA.len; have := bB.len; omega) (by have := bA.ones; have := bB.ones; omega) (by omega) (by omega)
  have w0 : IntKind.i64.wrap ((A.ht : Int) - B.ht) = (A.ht : Int) - B.ht := IntWalk.i64_in _ (by omega)
  have w1 : IntKind.i64.wrap ((B.ht : Int) - A.ht) = (B.ht : Int) - A.ht := IntWalk.i64_in _ (by omega)
  have W0 := Lib.hid w0
  have W1 := Lib.hid w1
  have H := Lib.hid h
  have HK := Lib.hid hk
  have H0 := Lib.hid h0
  have z0 : IntKind.i64.wrap 0 = 0 := by decide
  have z1 : IntKind.i64.wrap 1 = 1 := by decide
  clear h h0 hk h1 h2 b1 b2 bA bB w0 w1
  go_enter Tryd.func71, Tryd.ntmps71
  go_wp2_with fail
  go_loopw [6, 7, 16] (fun _ _ i wr => ∃ j : Nat, j ≤ 2 ∧ i = .int .i64 j ∧ Below (w.alloc ZL).heap.size (w.alloc ZL) wr) (fun _ _ i _ => 2 - (intOf i).toNat)
  case atStart => exact ⟨0, by omega, rfl, Below.refl _ _⟩
  case round =>
    obtain ⟨j, hj, rfl, hb⟩ := hrel
    have hT := H0.out.below hb
    obtain ⟨n0, n1, n2, n3, n4, n5, n6, n7, n8, _⟩ := hT.pr HK.out
    match j, hj with
    | 0, _ =>
      clear hT
      have ww := W0.out
      go_wp2_with fail
      go_quiet (fail)
      go_wp2_with fail
      go_roundw
      case rel => exact ⟨1, by omega, by go_num, hb.drewN _⟩
      case measure => simp [intOf]
    | 1, _ =>
      clear hT
      have ww := W1.out
      go_wp2_with fail
      go_quiet (fail)
      go_wp2_with fail
      go_roundw
      case rel => exact ⟨2, by omega, by go_num, hb.drewN _⟩
      case measure => simp [intOf]
    | 2, _ =>
      have key := key0 _ hb
      unfold lkv at key
      go_wp2_with fail
      (with_reducible refine key.mono ?_); rintro e w5 ⟨rfl, hb5⟩
      have hT5 := hT.below hb5
      have hV5 : Mv (w.alloc ZL) w5 S S := (Mv.of_below hb).below hb5
      obtain ⟨r0, r1, r2, r3, q0, q1, q2, q3⟩ := Mv.res H.out hV5
      have fin := Lib.hid (Mv.done H.out hT5 hV5 (.int .i64 (mk k A B).num) (.int .i64 (mk k A B).len) (.int .i64 (mk k A B).ones) (.int .i64 (mk k A B).ht))
      clear hT5 hV5 hb5 hT
      go_wp2_with fail
      try simp only [Exit.inBlock, Exit.then]
      refine bodyPost_ret (v := lkv (mk k A B)) (by simp [results, Tryd.results71, go_sem, lkv, *]) rfl ⟨rfl, fin.out⟩

set_option maxHeartbeats 1600000 in
theorem teven_one0 {base t k n m N : Nat} {S : St} {A B O I : Lk} (w : World) (h : TM base w t S) (hk : S.sto k = some (n, .pr A B)) (hm : S.sto A.num = some (m, .pr O I)) (hne : A.num ≠ k) (hv : S.vis < 1000000000000) (hN : N ≤ 288230376151711744) (bA : Bd N A) (bB : Bd N B) (bO : Bd N O) (bI : Bd N I)
    (h1 : B.ht + 2 ≤ A.ht) (h2 : I.ht ≤ O.ht) :
    Calls Tryd.prog 71 #[.pointer (some ⟨t, 0, none⟩), .int .i64 k] w fun e w' => e = .returned (lkv (mk A.num O (mk k I B))) ∧ TM base w' t (((S.see (S.vis + 2)).lay k n (.pr I B)).lay A.num m (.pr O (mk k I B))) ∧ Mv w w' S (((S.see (S.vis + 2)).lay k n (.pr I B)).lay A.num m (.pr O (mk k I B))) := by
  have b1 := bA.ht
  have b2 := bB.ht
  have b3 := bO.ht
  have b4 := bI.ht
  have hd0 : decide (((A.ht : Int) - B.ht) < 2) = false := by simp; omega
  have hd2 : decide ((I.ht : Int) > O.ht) = false := by simp; omega
  have hd3 : decide ((O.ht : Int) < I.ht) = false := by simp; omega
  have hd4 : decide (O.ht < I.ht) = false := by simp; omega
  have hd5 : ¬ O.ht < I.ht := by omega
  have hb0 : Below w.heap.size w (w.alloc ZL) := Below.allocs (Below.refl _ _) _
  have h0 := h.below hb0
  obtain ⟨len, c, lb, e1, _, e2, e3, e4, e5, e6, e7⟩ := h0.seen hk
  have w0 : IntKind.i64.wrap ((A.ht : Int) - B.ht) = ((A.ht : Int) - B.ht) := IntWalk.i64_in _ (by omega)
  have W0 := Lib.hid w0
  have H := Lib.hid h
  have HK := Lib.hid hk
  have HM := Lib.hid hm
  have H0 := Lib.hid h0
  have HB := Lib.hid (And.intro bA (And.intro bB (And.intro bO bI)))
  have z0 : IntKind.i64.wrap 0 = 0 := by decide
  have z1 : IntKind.i64.wrap 1 = 1 := by decide
  clear h h0 hk hm h1 h2 b1 b2 b3 b4 bA bB bO bI w0
  go_enter Tryd.func71, Tryd.ntmps71
  go_wp2_with fail
  go_loopw [6, 7, 16] (fun _ _ i wr => ∃ j : Nat, j ≤ 0 ∧ i = .int .i64 j ∧ Below (w.alloc ZL).heap.size (w.alloc ZL) wr) (fun _ _ i _ => 2 - (intOf i).toNat)
  case atStart => exact ⟨0, by omega, rfl, Below.refl _ _⟩
  case round =>
    obtain ⟨j, hj, rfl, hb⟩ := hrel
    have hT := H0.out.below hb
    have HT := Lib.hid hT
    obtain ⟨n0, n1, n2, n3, n4, n5, n6, n7, n8, _⟩ := hT.pr HK.out
    obtain rfl : j = 0 := by omega
    clear hT
    have ww := W0.out
    go_wp2_with fail
    go_quiet (fail)
    have hT1 := HT.out.drewN nq
    have key := tlook _ hT1 HM.out (by omega)
    have hV1 : Mv (w.alloc ZL) (wr.drewN nq) S S := (Mv.of_below hb).below ((Below.refl _ _).drewN _)
    have N1 := hT1.pr HK.out
    have n1' := N1.c1
    have n5' := N1.c5
    have HT1 := Lib.hid hT1
    have HV1 := Lib.hid hV1
    clear hT1 hV1 N1 ww n0 n1 n2 n3 n4 n5 n6 n7 n8
    go_wp2_with (first | (go_at_call 46; (with_reducible refine key.mono ?_); rintro e w2 ⟨rfl, hT2, hs2⟩))
    have hm2 : (S.see (S.vis + 1)).sto A.num = some (m, .pr O I) := HM.out
    have M2 := hT2.pr hm2
    have m4 := M2.c4
    have m8 := M2.c8
    have HV2 : Hid (Mv (w.alloc ZL) w2 S (S.see (S.vis + 1))) := Lib.hid (HV1.out.trans (Mv.tree HT1.out hs2 S.rt (S.vis + 1)))
    have HT2 := Lib.hid hT2
    clear hT2 M2 hm2 hs2 key n1' n5'
    go_quiet (fail)
    have hT3 := HT2.out.drewN nq
    have hn3 : (S.see (S.vis + 1)).sto k = some (n, .pr A B) := HK.out
    have hm3 : (S.see (S.vis + 1)).sto A.num = some (m, .pr O I) := HM.out
    have key := tlift0 _ hT3 hn3 hm3 hne (by show S.vis + 1 < _; omega) hN HB.out.2.2.1 HB.out.2.2.2 HB.out.2.1
    unfold lkv at key
    have hV3 := HV2.out.below ((Below.refl _ _).drewN nq)
    clear hT3 hn3 hm3 m4 m8
    go_wp2_with (first | (go_at_call 86; (with_reducible refine key.mono ?_); rintro e w5 ⟨rfl, hT5, hV5'⟩; (have hV5 := hV3.trans hV5'); (obtain ⟨r0, r1, r2, r3, q0, q1, q2, q3⟩ := Mv.res H.out hV5); (have fin := Lib.hid (Mv.done H.out hT5 hV5 (.int .i64 (mk A.num O (mk k I B)).num) (.int .i64 (mk A.num O (mk k I B)).len) (.int .i64 (mk A.num O (mk k I B)).ones) (.int .i64 (mk A.num O (mk k I B)).ht))); clear hT5 hV5 hV5' hV3))
    try simp only [Exit.inBlock, Exit.then]
    refine bodyPost_ret (v := lkv (mk A.num O (mk k I B))) (by simp [results, Tryd.results71, go_sem, lkv, *]) rfl ⟨rfl, fin.out⟩

set_option maxHeartbeats 1600000 in
theorem teven_one1 {base t k n m N : Nat} {S : St} {A B O I : Lk} (w : World) (h : TM base w t S) (hk : S.sto k = some (n, .pr A B)) (hm : S.sto B.num = some (m, .pr I O)) (hne : B.num ≠ k) (hv : S.vis < 1000000000000) (hN : N ≤ 288230376151711744) (bA : Bd N A) (bB : Bd N B) (bO : Bd N O) (bI : Bd N I)
    (h1 : A.ht + 2 ≤ B.ht) (h2 : I.ht ≤ O.ht) :
    Calls Tryd.prog 71 #[.pointer (some ⟨t, 0, none⟩), .int .i64 k] w fun e w' => e = .returned (lkv (mk B.num (mk k A I) O)) ∧ TM base w' t (((S.see (S.vis + 2)).lay k n (.pr A I)).lay B.num m (.pr (mk k A I) O)) ∧ Mv w w' S (((S.see (S.vis + 2)).lay k n (.pr A I)).lay B.num m (.pr (mk k A I) O)) := by
  have b1 := bA.ht
  have b2 := bB.ht
  have b3 := bO.ht
  have b4 := bI.ht
  have hd0 : decide (((B.ht : Int) - A.ht) < 2) = false := by simp; omega
  have hd1 : decide (((A.ht : Int) - B.ht) < 2) = true := by simp; omega
  have hd2 : decide ((I.ht : Int) > O.ht) = false := by simp; omega
  have hd3 : decide ((O.ht : Int) < I.ht) = false := by simp; omega
  have hd4 : decide (O.ht < I.ht) = false := by simp; omega
  have hd5 : ¬ O.ht < I.ht := by omega
  have hb0 : Below w.heap.size w (w.alloc ZL) := Below.allocs (Below.refl _ _) _
  have h0 := h.below hb0
  obtain ⟨len, c, lb, e1, _, e2, e3, e4, e5, e6, e7⟩ := h0.seen hk
  have w0 : IntKind.i64.wrap ((B.ht : Int) - A.ht) = ((B.ht : Int) - A.ht) := IntWalk.i64_in _ (by omega)
  have W0 := Lib.hid w0
  have W1 := Lib.hid (show IntKind.i64.wrap ((A.ht : Int) - B.ht) = (A.ht : Int) - B.ht from IntWalk.i64_in _ (by omega))
  have H := Lib.hid h
  have HK := Lib.hid hk
  have HM := Lib.hid hm
  have H0 := Lib.hid h0
  have HB := Lib.hid (And.intro bA (And.intro bB (And.intro bO bI)))
  have z0 : IntKind.i64.wrap 0 = 0 := by decide
  have z1 : IntKind.i64.wrap 1 = 1 := by decide
  clear h h0 hk hm h1 h2 b1 b2 b3 b4 bA bB bO bI w0
  go_enter Tryd.func71, Tryd.ntmps71
  go_wp2_with fail
  go_loopw [6, 7, 16] (fun _ _ i wr => ∃ j : Nat, j ≤ 1 ∧ i = .int .i64 j ∧ Below (w.alloc ZL).heap.size (w.alloc ZL) wr) (fun _ _ i _ => 2 - (intOf i).toNat)
  case atStart => exact ⟨0, by omega, rfl, Below.refl _ _⟩
  case round =>
    obtain ⟨j, hj, rfl, hb⟩ := hrel
    have hT := H0.out.below hb
    have HT := Lib.hid hT
    obtain ⟨n0, n1, n2, n3, n4, n5, n6, n7, n8, _⟩ := hT.pr HK.out
    by_cases hj0 : j = 0
    · subst hj0
      clear hT
      have ww := W1.out
      go_wp2_with fail
      go_quiet (fail)
      go_wp2_with fail
      go_roundw
      case rel => exact ⟨1, by omega, by go_num, hb.drewN _⟩
      case measure => simp [intOf]
    obtain rfl : j = 1 := by omega
    clear hj0
    clear hT
    have ww := W0.out
    go_wp2_with fail
    go_quiet (fail)
    have hT1 := HT.out.drewN nq
    have key := tlook _ hT1 HM.out (by omega)
    have hV1 : Mv (w.alloc ZL) (wr.drewN nq) S S := (Mv.of_below hb).below ((Below.refl _ _).drewN _)
    have N1 := hT1.pr HK.out
    have n1' := N1.c1
    have n5' := N1.c5
    have HT1 := Lib.hid hT1
    have HV1 := Lib.hid hV1
    clear hT1 hV1 N1 ww n0 n1 n2 n3 n4 n5 n6 n7 n8
    go_wp2_with (first | (go_at_call 46; (with_reducible refine key.mono ?_); rintro e w2 ⟨rfl, hT2, hs2⟩))
    have hm2 : (S.see (S.vis + 1)).sto B.num = some (m, .pr I O) := HM.out
    have M2 := hT2.pr hm2
    have m4 := M2.c4
    have m8 := M2.c8
    have HV2 : Hid (Mv (w.alloc ZL) w2 S (S.see (S.vis + 1))) := Lib.hid (HV1.out.trans (Mv.tree HT1.out hs2 S.rt (S.vis + 1)))
    have HT2 := Lib.hid hT2
    clear hT2 M2 hm2 hs2 key n1' n5'
    go_quiet (fail)
    have hT3 := HT2.out.drewN nq
    have hn3 : (S.see (S.vis + 1)).sto k = some (n, .pr A B) := HK.out
    have hm3 : (S.see (S.vis + 1)).sto B.num = some (m, .pr I O) := HM.out
    have key := tlift1 _ hT3 hn3 hm3 hne (by show S.vis + 1 < _; omega) hN HB.out.2.2.2 HB.out.2.2.1 HB.out.1
    unfold lkv at key
    have hV3 := HV2.out.below ((Below.refl _ _).drewN nq)
    clear hT3 hn3 hm3 m4 m8
    go_wp2_with (first | (go_at_call 86; (with_reducible refine key.mono ?_); rintro e w5 ⟨rfl, hT5, hV5'⟩; (have hV5 := hV3.trans hV5'); (obtain ⟨r0, r1, r2, r3, q0, q1, q2, q3⟩ := Mv.res H.out hV5); (have fin := Lib.hid (Mv.done H.out hT5 hV5 (.int .i64 (mk B.num (mk k A I) O).num) (.int .i64 (mk B.num (mk k A I) O).len) (.int .i64 (mk B.num (mk k A I) O).ones) (.int .i64 (mk B.num (mk k A I) O).ht))); clear hT5 hV5 hV5' hV3))
    try simp only [Exit.inBlock, Exit.then]
    refine bodyPost_ret (v := lkv (mk B.num (mk k A I) O)) (by simp [results, Tryd.results71, go_sem, lkv, *]) rfl ⟨rfl, fin.out⟩

set_option maxHeartbeats 1600000 in
theorem teven_two0 {base t k n m q N : Nat} {S : St} {A B O I E F : Lk} (w : World) (h : TM base w t S) (hk : S.sto k = some (n, .pr A B)) (hm : S.sto A.num = some (m, .pr O I)) (hq : S.sto I.num = some (q, .pr E F)) (hne2 : I.num ≠ k) (hne3 : I.num ≠ A.num) (hne : A.num ≠ k) (hv : S.vis < 1000000000000) (hN : N ≤ 72057594037927936) (bA : Bd N A) (bB : Bd N B) (bO : Bd N O) (bI : Bd N I) (bE : Bd N E) (bF : Bd N F)
    (h1 : B.ht + 2 ≤ A.ht) (h2 : O.ht < I.ht) :
    Calls Tryd.prog 71 #[.pointer (some ⟨t, 0, none⟩), .int .i64 k] w fun e w' => e = .returned (lkv (mk I.num (mk A.num O E) (mk k F B))) ∧ TM base w' t (((((((S.see (S.vis + 2)).lay A.num m (.pr O E)).lay I.num q (.pr (mk A.num O E) F)).lay k n (.pr (mk I.num (mk A.num O E) F) B)).see (S.vis + 3)).lay k n (.pr F B)).lay I.num q (.pr (mk A.num O E) (mk k F B))) ∧ Mv w w' S (((((((S.see (S.vis + 2)).lay A.num m (.pr O E)).lay I.num q (.pr (mk A.num O E) F)).lay k n (.pr (mk I.num (mk A.num O E) F) B)).see (S.vis + 3)).lay k n (.pr F B)).lay I.num q (.pr (mk A.num O E) (mk k F B))) := by
  have b1 := bA.ht
  have b2 := bB.ht
  have b3 := bO.ht
  have b4 := bI.ht
  have hd0 : decide (((A.ht : Int) - B.ht) < 2) = false := by simp; omega
  have hd2 : decide ((I.ht : Int) > O.ht) = true := by simp; omega
  have hd3 : decide ((O.ht : Int) < I.ht) = true := by simp; omega
  have hd4 : decide (O.ht < I.ht) = true := by simp; omega
  have hd5 : O.ht < I.ht := by omega
  have hb0 : Below w.heap.size w (w.alloc ZL) := Below.allocs (Below.refl _ _) _
  have h0 := h.below hb0
  obtain ⟨len, c, lb, e1, _, e2, e3, e4, e5, e6, e7⟩ := h0.seen hk
  have w0 : IntKind.i64.wrap ((A.ht : Int) - B.ht) = ((A.ht : Int) - B.ht) := IntWalk.i64_in _ (by omega)
  have W0 := Lib.hid w0
  have H := Lib.hid h
  have HK := Lib.hid hk
  have HM := Lib.hid hm
  have H0 := Lib.hid h0
  have HB := Lib.hid (And.intro bA (And.intro bB (And.intro bO (And.intro bI (And.intro bE bF)))))
  have HQ := Lib.hid hq
  have z0 : IntKind.i64.wrap 0 = 0 := by decide
  have z1 : IntKind.i64.wrap 1 = 1 := by decide
  clear h h0 hk hm hq h1 h2 b1 b2 b3 b4 bA bB bO bI bE bF w0
  go_enter Tryd.func71, Tryd.ntmps71
  go_wp2_with fail
  go_loopw [6, 7, 16] (fun _ _ i wr => ∃ j : Nat, j ≤ 0 ∧ i = .int .i64 j ∧ Below (w.alloc ZL).heap.size (w.alloc ZL) wr) (fun _ _ i _ => 2 - (intOf i).toNat)
  case atStart => exact ⟨0, by omega, rfl, Below.refl _ _⟩
  case round =>
    obtain ⟨j, hj, rfl, hb⟩ := hrel
    have hT := H0.out.below hb
    have HT := Lib.hid hT
    obtain ⟨n0, n1, n2, n3, n4, n5, n6, n7, n8, _⟩ := hT.pr HK.out
    obtain rfl : j = 0 := by omega
    clear hT
    have ww := W0.out
    go_wp2_with fail
    go_quiet (fail)
    have hT1 := HT.out.drewN nq
    have key := tlook _ hT1 HM.out (by omega)
    have hV1 : Mv (w.alloc ZL) (wr.drewN nq) S S := (Mv.of_below hb).below ((Below.refl _ _).drewN _)
    have N1 := hT1.pr HK.out
    have n1' := N1.c1
    have n5' := N1.c5
    have HT1 := Lib.hid hT1
    have HV1 := Lib.hid hV1
    clear hT1 hV1 N1 ww n0 n1 n2 n3 n4 n5 n6 n7 n8
    go_wp2_with (first | (go_at_call 46; (with_reducible refine key.mono ?_); rintro e w2 ⟨rfl, hT2, hs2⟩))
    have hm2 : (S.see (S.vis + 1)).sto A.num = some (m, .pr O I) := HM.out
    have M2 := hT2.pr hm2
    have m4 := M2.c4
    have m8 := M2.c8
    have HV2 : Hid (Mv (w.alloc ZL) w2 S (S.see (S.vis + 1))) := Lib.hid (HV1.out.trans (Mv.tree HT1.out hs2 S.rt (S.vis + 1)))
    have HT2 := Lib.hid hT2
    clear hT2 M2 hm2 hs2 key n1' n5'
    go_quiet (fail)
    have hT3 := HT2.out.drewN nq
    have hm3 : (S.see (S.vis + 1)).sto A.num = some (m, .pr O I) := HM.out
    have hq3 : (S.see (S.vis + 1)).sto I.num = some (q, .pr E F) := HQ.out
    have hk3 : (S.see (S.vis + 1)).sto k = some (n, .pr A B) := HK.out
    have N3 := hT3.pr hk3
    have hV3 := HV2.out.below ((Below.refl _ _).drewN nq)
    have HT3 := Lib.hid hT3
    have HV3 := Lib.hid hV3
    clear m4 m8 hT3 hV3
    have HM3 := Lib.hid hm3
    have HQ3 := Lib.hid hq3
    clear hm3 hq3 hk3
    go_wp2_with fail
    obtain ⟨n0, n1, n2, n3, n4, n5, n6, n7, n8, _⟩ := N3
    generalize w2.drewN nq = w3 at *
    have hT3 : TM base w3.drew t (S.see (S.vis + 1)) := HT3.out.drewN 1
    have hm3 := HM3.out
    have hq3 := HQ3.out
    have key := tlift1 _ hT3 hm3 hq3 hne3 (by show S.vis + 1 < _; omega) (N := N) (by omega) HB.out.2.2.2.2.1 HB.out.2.2.2.2.2 HB.out.2.2.1
    clear hT3 hm3 hq3
    unfold lkv at key
    have hk5 : (((S.see (S.vis + 2)).lay A.num m (.pr O E)).lay I.num q (.pr (mk A.num O E) F)).sto k = some (n, .pr A B) := (upd_ne _ _ hne2.symm).trans ((upd_ne _ _ hne.symm).trans HK.out)
    have HK5 := Lib.hid hk5
    clear hk5
    go_cut [] (fun wx => TM base wx t ((((S.see (S.vis + 2)).lay A.num m (.pr O E)).lay I.num q (.pr (mk A.num O E) F)).lay k n (.pr (mk I.num (mk A.num O E) F) B)) ∧ Mv (w.alloc ZL) wx S ((((S.see (S.vis + 2)).lay A.num m (.pr O E)).lay I.num q (.pr (mk A.num O E) F)).lay k n (.pr (mk I.num (mk A.num O E) F) B)))
    case first =>
      go_region_law (first | (go_simp; (go_at_call 86; (with_reducible refine key.mono ?_); rintro e w4 ⟨rfl, hT4, hV4⟩; (have HT4 : Hid (TM base w4 t (((S.see (S.vis + 2)).lay A.num m (.pr O E)).lay I.num q (.pr (mk A.num O E) F))) := Lib.hid hT4); (have HV4 : Hid (Mv (w.alloc ZL) w4 S (((S.see (S.vis + 2)).lay A.num m (.pr O E)).lay I.num q (.pr (mk A.num O E) F))) := Lib.hid ((HV3.out.below (Below.drews (Below.refl _ _))).trans hV4)); (have M3 := HT4.out.pr HK5.out); (have m5 := M3.c1); (have m6 := M3.c2); (have m7 := M3.c3); (have m8 := M3.c4); (have f5 := M3.fz 1); (have f6 := M3.fz 2); (have f7 := M3.fz 3); (have f8 := M3.fz 4); clear M3 hT4 hV4)))
      all_goals
        go_wp2_with fail
        go_meet
        case rel => exact ⟨HT4.out.side0 HK5.out _, HV4.out.trans (Mv.lay HT4.out HK5.out (Stay.set4 (S := fun i => i = n) (Stay.refl _ _) rfl 1 2 3 4 _ _ _ _))⟩
    case rest =>
    obtain ⟨hT4, hV4⟩ := hcut
    have hn4 : ((((S.see (S.vis + 2)).lay A.num m (.pr O E)).lay I.num q (.pr (mk A.num O E) F)).lay k n (.pr (mk I.num (mk A.num O E) F) B)).sto k = some (n, .pr (mk I.num (mk A.num O E) F) B) := upd_at _ _ _
    have hq4 : ((((S.see (S.vis + 2)).lay A.num m (.pr O E)).lay I.num q (.pr (mk A.num O E) F)).lay k n (.pr (mk I.num (mk A.num O E) F) B)).sto (mk I.num (mk A.num O E) F).num = some (q, .pr (mk A.num O E) F) := (upd_ne _ _ hne2).trans (upd_at _ _ _)
    have key := tlift0 (A := mk I.num (mk A.num O E) F) _ hT4 hn4 hq4 hne2 (by show S.vis + 2 < _; omega) (N := 2 * N + 1) (by omega) (HB.out.2.2.1.both _ HB.out.2.2.2.2.1) (HB.out.2.2.2.2.2.mono (by omega)) (HB.out.2.1.mono (by omega))
    unfold lkv at key
    clear n0 n1 n2 n3 n4 n5 n6 n7 n8
    go_wp2_with (first | (go_at_call 86; (with_reducible refine key.mono ?_); rintro e w5 ⟨rfl, hT5, hV5'⟩; (have hV5 := hV4.trans hV5'); (obtain ⟨r0, r1, r2, r3, q0, q1, q2, q3⟩ := Mv.res H.out hV5); (have fin := Lib.hid (Mv.done H.out hT5 hV5 (.int .i64 (mk I.num (mk A.num O E) (mk k F B)).num) (.int .i64 (mk I.num (mk A.num O E) (mk k F B)).len) (.int .i64 (mk I.num (mk A.num O E) (mk k F B)).ones) (.int .i64 (mk I.num (mk A.num O E) (mk k F B)).ht))); clear hT5 hV5 hV5' hT4 hV4))
    try simp only [Exit.inBlock, Exit.then]
    refine bodyPost_ret (v := lkv (mk I.num (mk A.num O E) (mk k F B))) (by simp [results, Tryd.results71, go_sem, lkv, *] <;> exact ⟨rfl, rfl, rfl, rfl⟩) rfl ⟨rfl, fin.out⟩

set_option maxHeartbeats 1600000 in
theorem teven_two1 {base t k n m q N : Nat} {S : St} {A B O I E F : Lk} (w : World) (h : TM base w t S) (hk : S.sto k = some (n, .pr A B)) (hm : S.sto B.num = some (m, .pr I O)) (hq : S.sto I.num = some (q, .pr E F)) (hne2 : I.num ≠ k) (hne3 : I.num ≠ B.num) (hne : B.num ≠ k) (hv : S.vis < 1000000000000) (hN : N ≤ 72057594037927936) (bA : Bd N A) (bB : Bd N B) (bO : Bd N O) (bI : Bd N I) (bE : Bd N E) (bF : Bd N F)
    (h1 : A.ht + 2 ≤ B.ht) (h2 : O.ht < I.ht) :
    Calls Tryd.prog 71 #[.pointer (some ⟨t, 0, none⟩), .int .i64 k] w fun e w' => e = .returned (lkv (mk I.num (mk k A E) (mk B.num F O))) ∧ TM base w' t (((((((S.see (S.vis + 2)).lay B.num m (.pr F O)).lay I.num q (.pr E (mk B.num F O))).lay k n (.pr A (mk I.num E (mk B.num F O)))).see (S.vis + 3)).lay k n (.pr A E)).lay I.num q (.pr (mk k A E) (mk B.num F O))) ∧ Mv w w' S (((((((S.see (S.vis + 2)).lay B.num m (.pr F O)).lay I.num q (.pr E (mk B.num F O))).lay k n (.pr A (mk I.num E (mk B.num F O)))).see (S.vis + 3)).lay k n (.pr A E)).lay I.num q (.pr (mk k A E) (mk B.num F O))) := by
  have b1 := bA.ht
  have b2 := bB.ht
  have b3 := bO.ht
  have b4 := bI.ht
  have hd0 : decide (((B.ht : Int) - A.ht) < 2) = false := by simp; omega
  have hd1 : decide (((A.ht : Int) - B.ht) < 2) = true := by simp; omega
  have hd2 : decide ((I.ht : Int) > O.ht) = true := by simp; omega
  have hd3 : decide ((O.ht : Int) < I.ht) = true := by simp; omega
  have hd4 : decide (O.ht < I.ht) = true := by simp; omega
  have hd5 : O.ht < I.ht := by omega
  have hb0 : Below w.heap.size w (w.alloc ZL) := Below.allocs (Below.refl _ _) _
  have h0 := h.below hb0
  obtain ⟨len, c, lb, e1, _, e2, e3, e4, e5, e6, e7⟩ := h0.seen hk
  have w0 : IntKind.i64.wrap ((B.ht : Int) - A.ht) = ((B.ht : Int) - A.ht) := IntWalk.i64_in _ (by omega)
  have W0 := Lib.hid w0
  have W1 := Lib.hid (show IntKind.i64.wrap ((A.ht : Int) - B.ht) = (A.ht : Int) - B.ht from IntWalk.i64_in _ (by omega))
  have H := Lib.hid h
  have HK := Lib.hid hk
  have HM := Lib.hid hm
  have H0 := Lib.hid h0
  have HB := Lib.hid (And.intro bA (And.intro bB (And.intro bO (And.intro bI (And.intro bE bF)))))
  have HQ := Lib.hid hq
  have z0 : IntKind.i64.wrap 0 = 0 := by decide
  have z1 : IntKind.i64.wrap 1 = 1 := by decide
  clear h h0 hk hm hq h1 h2 b1 b2 b3 b4 bA bB bO bI bE bF w0
  go_enter Tryd.func71, Tryd.ntmps71
  go_wp2_with fail
  go_loopw [6, 7, 16] (fun _ _ i wr => ∃ j : Nat, j ≤ 1 ∧ i = .int .i64 j ∧ Below (w.alloc ZL).heap.size (w.alloc ZL) wr) (fun _ _ i _ => 2 - (intOf i).toNat)
  case atStart => exact ⟨0, by omega, rfl, Below.refl _ _⟩
  case round =>
    obtain ⟨j, hj, rfl, hb⟩ := hrel
    have hT := H0.out.below hb
    have HT := Lib.hid hT
    obtain ⟨n0, n1, n2, n3, n4, n5, n6, n7, n8, _⟩ := hT.pr HK.out
    by_cases hj0 : j = 0
    · subst hj0
      clear hT
      have ww := W1.out
      go_wp2_with fail
      go_quiet (fail)
      go_wp2_with fail
      go_roundw
      case rel => exact ⟨1, by omega, by go_num, hb.drewN _⟩
      case measure => simp [intOf]
    obtain rfl : j = 1 := by omega
    clear hj0
    clear hT
    have ww := W0.out
    go_wp2_with fail
    go_quiet (fail)
    have hT1 := HT.out.drewN nq
    have key := tlook _ hT1 HM.out (by omega)
    have hV1 : Mv (w.alloc ZL) (wr.drewN nq) S S := (Mv.of_below hb).below ((Below.refl _ _).drewN _)
    have N1 := hT1.pr HK.out
    have n1' := N1.c1
    have n5' := N1.c5
    have HT1 := Lib.hid hT1
    have HV1 := Lib.hid hV1
    clear hT1 hV1 N1 ww n0 n1 n2 n3 n4 n5 n6 n7 n8
    go_wp2_with (first | (go_at_call 46; (with_reducible refine key.mono ?_); rintro e w2 ⟨rfl, hT2, hs2⟩))
    have hm2 : (S.see (S.vis + 1)).sto B.num = some (m, .pr I O) := HM.out
    have M2 := hT2.pr hm2
    have m4 := M2.c4
    have m8 := M2.c8
    have HV2 : Hid (Mv (w.alloc ZL) w2 S (S.see (S.vis + 1))) := Lib.hid (HV1.out.trans (Mv.tree HT1.out hs2 S.rt (S.vis + 1)))
    have HT2 := Lib.hid hT2
    clear hT2 M2 hm2 hs2 key n1' n5'
    go_quiet (fail)
    have hT3 := HT2.out.drewN nq
    have hm3 : (S.see (S.vis + 1)).sto B.num = some (m, .pr I O) := HM.out
    have hq3 : (S.see (S.vis + 1)).sto I.num = some (q, .pr E F) := HQ.out
    have hk3 : (S.see (S.vis + 1)).sto k = some (n, .pr A B) := HK.out
    have N3 := hT3.pr hk3
    have hV3 := HV2.out.below ((Below.refl _ _).drewN nq)
    have HT3 := Lib.hid hT3
    have HV3 := Lib.hid hV3
    clear m4 m8 hT3 hV3
    have HM3 := Lib.hid hm3
    have HQ3 := Lib.hid hq3
    clear hm3 hq3 hk3
    go_wp2_with fail
    obtain ⟨n0, n1, n2, n3, n4, n5, n6, n7, n8, _⟩ := N3
    generalize w2.drewN nq = w3 at *
    have hT3 : TM base w3.drew t (S.see (S.vis + 1)) := HT3.out.drewN 1
    have hm3 := HM3.out
    have hq3 := HQ3.out
    have key := tlift0 _ hT3 hm3 hq3 hne3 (by show S.vis + 1 < _; omega) (N := N) (by omega) HB.out.2.2.2.2.1 HB.out.2.2.2.2.2 HB.out.2.2.1
    clear hT3 hm3 hq3
    unfold lkv at key
    have hk5 : (((S.see (S.vis + 2)).lay B.num m (.pr F O)).lay I.num q (.pr E (mk B.num F O))).sto k = some (n, .pr A B) := (upd_ne _ _ hne2.symm).trans ((upd_ne _ _ hne.symm).trans HK.out)
    have HK5 := Lib.hid hk5
    clear hk5
    go_cut [] (fun wx => TM base wx t ((((S.see (S.vis + 2)).lay B.num m (.pr F O)).lay I.num q (.pr E (mk B.num F O))).lay k n (.pr A (mk I.num E (mk B.num F O)))) ∧ Mv (w.alloc ZL) wx S ((((S.see (S.vis + 2)).lay B.num m (.pr F O)).lay I.num q (.pr E (mk B.num F O))).lay k n (.pr A (mk I.num E (mk B.num F O)))))
    case first =>
      go_region_law (first | (go_simp; (go_at_call 86; (with_reducible refine key.mono ?_); rintro e w4 ⟨rfl, hT4, hV4⟩; (have HT4 : Hid (TM base w4 t (((S.see (S.vis + 2)).lay B.num m (.pr F O)).lay I.num q (.pr E (mk B.num F O)))) := Lib.hid hT4); (have HV4 : Hid (Mv (w.alloc ZL) w4 S (((S.see (S.vis + 2)).lay B.num m (.pr F O)).lay I.num q (.pr E (mk B.num F O)))) := Lib.hid ((HV3.out.below (Below.drews (Below.refl _ _))).trans hV4)); (have M3 := HT4.out.pr HK5.out); (have m5 := M3.c5); (have m6 := M3.c6); (have m7 := M3.c7); (have m8 := M3.c8); (have f5 := M3.fz 5); (have f6 := M3.fz 6); (have f7 := M3.fz 7); (have f8 := M3.fz 8); clear M3 hT4 hV4)))
      all_goals
        go_wp2_with fail
        go_meet
        case rel => exact ⟨HT4.out.side1 HK5.out _, HV4.out.trans (Mv.lay HT4.out HK5.out (Stay.set4 (S := fun i => i = n) (Stay.refl _ _) rfl 5 6 7 8 _ _ _ _))⟩
    case rest =>
    obtain ⟨hT4, hV4⟩ := hcut
    have hn4 : ((((S.see (S.vis + 2)).lay B.num m (.pr F O)).lay I.num q (.pr E (mk B.num F O))).lay k n (.pr A (mk I.num E (mk B.num F O)))).sto k = some (n, .pr A (mk I.num E (mk B.num F O))) := upd_at _ _ _
    have hq4 : ((((S.see (S.vis + 2)).lay B.num m (.pr F O)).lay I.num q (.pr E (mk B.num F O))).lay k n (.pr A (mk I.num E (mk B.num F O)))).sto (mk I.num E (mk B.num F O)).num = some (q, .pr E (mk B.num F O)) := (upd_ne _ _ hne2).trans (upd_at _ _ _)
    have key := tlift1 (B := mk I.num E (mk B.num F O)) _ hT4 hn4 hq4 hne2 (by show S.vis + 2 < _; omega) (N := 2 * N + 1) (by omega) (HB.out.2.2.2.2.1.mono (by omega)) (HB.out.2.2.2.2.2.both _ HB.out.2.2.1) (HB.out.1.mono (by omega))
    unfold lkv at key
    clear n0 n1 n2 n3 n4 n5 n6 n7 n8
    go_wp2_with (first | (go_at_call 86; (with_reducible refine key.mono ?_); rintro e w5 ⟨rfl, hT5, hV5'⟩; (have hV5 := hV4.trans hV5'); (obtain ⟨r0, r1, r2, r3, q0, q1, q2, q3⟩ := Mv.res H.out hV5); (have fin := Lib.hid (Mv.done H.out hT5 hV5 (.int .i64 (mk I.num (mk k A E) (mk B.num F O)).num) (.int .i64 (mk I.num (mk k A E) (mk B.num F O)).len) (.int .i64 (mk I.num (mk k A E) (mk B.num F O)).ones) (.int .i64 (mk I.num (mk k A E) (mk B.num F O)).ht))); clear hT5 hV5 hV5' hT4 hV4))
    try simp only [Exit.inBlock, Exit.then]
    refine bodyPost_ret (v := lkv (mk I.num (mk k A E) (mk B.num F O))) (by simp [results, Tryd.results71, go_sem, lkv, *] <;> exact ⟨rfl, rfl, rfl, rfl⟩) rfl ⟨rfl, fin.out⟩
end Go.Proofs.YtaglnomjlnlgoaaDoor
namespace Go.Proofs.YtaglnomjlnlgoaaDoor
open Go Go.RowKit Go.ChangeAt Tr

theorem Tr.nd_node {k : Nat} {a b : T} (h : (T.node k a b).ks.Nodup) : k ∉ a.ks ∧ k ∉ b.ks ∧ a.ks.Nodup ∧ b.ks.Nodup ∧ ∀ j ∈ a.ks, j ∉ b.ks := by
  have hn' : (k :: (a.ks ++ b.ks)).Nodup := h
  obtain ⟨hk, hab⟩ := List.nodup_cons.1 hn'
  obtain ⟨ha, hb, hd⟩ := List.nodup_append.1 hab
  exact ⟨fun h => hk (List.mem_append_left _ h), fun h => hk (List.mem_append_right _ h), ha, hb, fun j h1 h2 => hd j h1 j h2 rfl⟩
theorem Tr.Is.keep {s s' : Sto} {t : T} (h : Is s t) (hs : ∀ j ∈ t.ks, s' j = s j) : Is s' t := h.congr hs
/-- Not too great, of a tree. -/
theorem Tr.bd {N : Nat} {t : T} (h : t.bits.length ≤ N) (h2 : t.ht ≤ N) : Bd N t.lk :=
  ⟨by rw [T.lk_len]; exact h, Nat.le_trans T.full.ones (by rw [T.lk_len]; exact h), by rw [T.lk_ht]; exact h2⟩
theorem Tr.bd_node {N k : Nat} {a b : T} (h : Bd N (T.node k a b).lk) : Bd N a.lk ∧ Bd N b.lk := by
  have h1 : a.lk.len + b.lk.len ≤ N := h.len
  have h2 : a.lk.ones + b.lk.ones ≤ N := h.ones
  have h3 : 1 + max a.lk.ht b.lk.ht ≤ N := h.ht
  exact ⟨⟨by omega, by omega, by omega⟩, ⟨by omega, by omega, by omega⟩⟩
/-- What even makes of two sides. -/
structure Ev (a b t : T) : Prop where
  bits : t.bits = a.bits ++ b.bits
  bal : t.bal
  full : a.full → b.full → t.full
  lvs : t.lvs = a.lvs + b.lvs
  lo : max a.ht b.ht ≤ t.ht
  hi : t.ht ≤ 1 + max a.ht b.ht
  pos : 1 ≤ t.ht
  flat : a.ht ≤ b.ht + 1 → b.ht ≤ a.ht + 1 → t.ht = 1 + max a.ht b.ht
theorem teven {base t k N : Nat} {S : St} {a b : T} (w : World) (h : TM base w t S) (hi : Is S.sto (.node k a b)) (hn : (T.node k a b).ks.Nodup) (ha : a.bal) (hb : b.bal) (h1 : a.ht ≤ b.ht + 2) (h2 : b.ht ≤ a.ht + 2) (hv : S.vis < 1000000000000) (hN : N ≤ 72057594037927936) (bA : Bd N a.lk) (bB : Bd N b.lk) :
    Calls Tryd.prog 71 #[.pointer (some ⟨t, 0, none⟩), .int .i64 k] w fun e w' => ∃ t' S', e = .returned (lkv t'.lk) ∧ TM base w' t S' ∧ Mv w w' S S' ∧ Sm S S' 3 ∧ Chg S.sto S'.sto (.node k a b) t' ∧ Ev a b t' := by
  obtain ⟨⟨n, hk⟩, hia, hib⟩ := id hi
  obtain ⟨nk1, nk2, na, nb, nab⟩ := nd_node hn
  by_cases c1 : a.ht ≤ b.ht + 1
  · by_cases c2 : b.ht ≤ a.ht + 1
    · refine (teven_flat w h hk (by omega) bA bB (by rw [T.lk_ht, T.lk_ht]; exact c1) (by rw [T.lk_ht, T.lk_ht]; exact c2)).mono ?_
      rintro e w' ⟨rfl, hT, hV⟩
      refine ⟨.node k a b, S, rfl, hT, hV, Sm.refl _ _, Chg.refl hi hn, ⟨rfl, ⟨ha, hb, c1, c2⟩, fun f1 f2 => ⟨f1, f2⟩, rfl, ?_, ?_, ?_, fun _ _ => rfl⟩⟩
      · show _ ≤ 1 + max a.ht b.ht; omega
      · exact Nat.le_refl _
      · show 1 ≤ 1 + max a.ht b.ht; omega
    · -- the upper side is too high
      cases b with
      | leaf c l => exact absurd (show (0 : Nat) ≤ a.ht + 1 by omega) c2
      | node c x y =>
        have e0 : (T.node c x y).ht = 1 + max x.ht y.ht := rfl
        rw [e0] at c2 h2 h1
        obtain ⟨bx, byy, hxy, hyx⟩ := hb
        obtain ⟨⟨m, hm⟩, hix, hiy⟩ := id hib
        obtain ⟨nc1, nc2, nx, ny, nxy⟩ := nd_node nb
        have hck : c ≠ k := fun e => nk2 (e ▸ List.mem_cons_self)
        have hca : c ∉ a.ks := fun h => nab c h List.mem_cons_self
        have hkx : k ∉ x.ks := fun h => nk2 (List.mem_cons_of_mem _ (List.mem_append_left _ h))
        have hky : k ∉ y.ks := fun h => nk2 (List.mem_cons_of_mem _ (List.mem_append_right _ h))
        obtain ⟨bX, bY⟩ := bd_node bB
        by_cases c3 : x.ht ≤ y.ht
        · refine (teven_one1 (A := a.lk) (B := (T.node c x y).lk) (I := x.lk) (O := y.lk) w h hk hm hck hv (by omega) bA bB bY bX (by rw [T.lk_ht, T.lk_ht, e0]; omega) (by rw [T.lk_ht, T.lk_ht]; exact c3)).mono ?_
          rintro e w' ⟨rfl, hT, hV⟩
          have S1 : ∀ j, j ≠ c → j ≠ k → ((((S.see (S.vis + 2)).lay k n (.pr a.lk x.lk)).lay (T.node c x y).lk.num m (.pr (mk k a.lk x.lk) y.lk)).sto j = S.sto j) := fun j h1 h2 => (upd_ne _ _ h1).trans (upd_ne _ _ h2)
          refine ⟨.node c (.node k a x) y, _, rfl, hT, hV, ⟨rfl, rfl, rfl, by show S.vis + 2 ≤ S.vis + 3; omega⟩, Chg.same ⟨⟨m, upd_at _ _ _⟩, ⟨⟨n, (upd_ne _ _ hck.symm).trans (upd_at _ _ _)⟩, ?_, ?_⟩, ?_⟩ hn ?_ ?_, ?_⟩
          · exact hia.congr (fun j hj => S1 j (fun e => hca (e ▸ hj)) (fun e => nk1 (e ▸ hj)))
          · exact hix.congr (fun j hj => S1 j (fun e => nc1 (e ▸ hj)) (fun e => hkx (e ▸ hj)))
          · exact hiy.congr (fun j hj => S1 j (fun e => nc2 (e ▸ hj)) (fun e => hky (e ▸ hj)))
          · refine List.perm_iff_count.2 fun z => ?_
            simp only [T.ks, List.count_cons, List.count_append]
            omega
          · intro j hj
            have hj' : j ∉ k :: (a.ks ++ (c :: (x.ks ++ y.ks))) := hj
            simp only [List.mem_cons, List.mem_append, not_or] at hj'
            exact S1 j hj'.2.2.1 hj'.1
          · refine ⟨by simp only [T.bits, List.append_assoc], ⟨⟨ha, bx, ?_, ?_⟩, byy, ?_, ?_⟩, fun f1 f2 => ⟨⟨f1, f2.1⟩, f2.2⟩, by simp only [T.lvs]; omega, ?_, ?_, ?_, fun f1 f2 => by simp only [T.ht] at f1 f2; omega⟩ <;> (try simp only [T.ht]) <;> omega
        · cases x with
          | leaf d l => exact absurd (show (0 : Nat) ≤ y.ht by omega) c3
          | node d u v =>
            have e1 : (T.node d u v).ht = 1 + max u.ht v.ht := rfl
            rw [e1] at c2 h2 h1 c3 hxy hyx
            obtain ⟨bu, bv, huv, hvu⟩ := bx
            obtain ⟨⟨q, hq⟩, hiu, hiv⟩ := id hix
            obtain ⟨nd1, nd2, nu, nv, nuv⟩ := nd_node nx
            have hdk : d ≠ k := fun e => hkx (e ▸ List.mem_cons_self)
            have hdc : d ≠ c := fun e => nc1 (e ▸ List.mem_cons_self)
            have hda : d ∉ a.ks := fun h => nab d h (List.mem_cons_of_mem _ (List.mem_append_left _ List.mem_cons_self))
            have hdy : d ∉ y.ks := fun h => nxy d List.mem_cons_self h
            have hku : k ∉ u.ks := fun h => hkx (List.mem_cons_of_mem _ (List.mem_append_left _ h))
            have hkv : k ∉ v.ks := fun h => hkx (List.mem_cons_of_mem _ (List.mem_append_right _ h))
            have hcu : c ∉ u.ks := fun h => nc1 (List.mem_cons_of_mem _ (List.mem_append_left _ h))
            have hcv : c ∉ v.ks := fun h => nc1 (List.mem_cons_of_mem _ (List.mem_append_right _ h))
            obtain ⟨bU, bV⟩ := bd_node bX
            refine (teven_two1 (A := a.lk) (B := (T.node c (.node d u v) y).lk) (I := (T.node d u v).lk) (O := y.lk) (E := u.lk) (F := v.lk) w h hk hm hq hdk hdc hck hv (by omega) bA bB bY bX bU bV (by rw [T.lk_ht, T.lk_ht, e0]; omega) (by rw [T.lk_ht, T.lk_ht]; simp only [T.ht]; omega)).mono ?_
            rintro e w' ⟨rfl, hT, hV⟩
            have S1 : ∀ j, j ≠ c → j ≠ k → j ≠ d → (upd (upd (upd (upd (upd S.sto c (some (m, .pr v.lk y.lk))) d (some (q, .pr u.lk (mk c v.lk y.lk)))) k (some (n, .pr a.lk (mk d u.lk (mk c v.lk y.lk))))) k (some (n, .pr a.lk u.lk))) d (some (q, .pr (mk k a.lk u.lk) (mk c v.lk y.lk)))) j = S.sto j := fun j h1 h2 h3 => (upd_ne _ _ h3).trans ((upd_ne _ _ h2).trans ((upd_ne _ _ h2).trans ((upd_ne _ _ h3).trans (upd_ne _ _ h1))))
            refine ⟨.node d (.node k a u) (.node c v y), _, rfl, hT, hV, ⟨rfl, rfl, rfl, by show S.vis + 3 ≤ S.vis + 3; omega⟩, Chg.same ⟨⟨q, upd_at _ _ _⟩, ⟨⟨n, (upd_ne _ _ hdk.symm).trans (upd_at _ _ _)⟩, ?_, ?_⟩, ⟨⟨m, (upd_ne _ _ hdc.symm).trans ((upd_ne _ _ hck).trans ((upd_ne _ _ hck).trans ((upd_ne _ _ hdc.symm).trans (upd_at _ _ _))))⟩, ?_, ?_⟩⟩ hn ?_ ?_, ?_⟩
            · exact hia.congr (fun j hj => S1 j (fun e => hca (e ▸ hj)) (fun e => nk1 (e ▸ hj)) (fun e => hda (e ▸ hj)))
            · exact hiu.congr (fun j hj => S1 j (fun e => hcu (e ▸ hj)) (fun e => hku (e ▸ hj)) (fun e => nd1 (e ▸ hj)))
            · exact hiv.congr (fun j hj => S1 j (fun e => hcv (e ▸ hj)) (fun e => hkv (e ▸ hj)) (fun e => nd2 (e ▸ hj)))
            · exact hiy.congr (fun j hj => S1 j (fun e => nc2 (e ▸ hj)) (fun e => hky (e ▸ hj)) (fun e => hdy (e ▸ hj)))
            · refine List.perm_iff_count.2 fun z => ?_
              simp only [T.ks, List.count_cons, List.count_append]
              omega
            · intro j hj
              have hj' : j ∉ k :: (a.ks ++ (c :: ((d :: (u.ks ++ v.ks)) ++ y.ks))) := hj
              simp only [List.mem_cons, List.mem_append, not_or] at hj'
              exact S1 j hj'.2.2.1 hj'.1 hj'.2.2.2.1.1
            · refine ⟨by simp only [T.bits, List.append_assoc], ⟨⟨ha, bu, ?_, ?_⟩, ⟨bv, byy, ?_, ?_⟩, ?_, ?_⟩, fun f1 f2 => ⟨⟨f1, f2.1.1⟩, ⟨f2.1.2, f2.2⟩⟩, by simp only [T.lvs]; omega, ?_, ?_, ?_, fun f1 f2 => by simp only [T.ht] at f1 f2; omega⟩ <;> (try simp only [T.ht]) <;> omega
  · cases a with
    | leaf c l => exact absurd (show (0 : Nat) ≤ b.ht + 1 by omega) c1
    | node c x y =>
      have e0 : (T.node c x y).ht = 1 + max x.ht y.ht := rfl
      rw [e0] at c1 h2 h1
      obtain ⟨bx, byy, hxy, hyx⟩ := ha
      obtain ⟨⟨m, hm⟩, hix, hiy⟩ := id hia
      obtain ⟨nc1, nc2, nx, ny, nxy⟩ := nd_node na
      have hck : c ≠ k := fun e => nk1 (e ▸ List.mem_cons_self)
      have hcb : c ∉ b.ks := nab c List.mem_cons_self
      have hkx : k ∉ x.ks := fun h => nk1 (List.mem_cons_of_mem _ (List.mem_append_left _ h))
      have hky : k ∉ y.ks := fun h => nk1 (List.mem_cons_of_mem _ (List.mem_append_right _ h))
      obtain ⟨bX, bY⟩ := bd_node bA
      by_cases c3 : y.ht ≤ x.ht
      · refine (teven_one0 (A := (T.node c x y).lk) (B := b.lk) (O := x.lk) (I := y.lk) w h hk hm hck hv (by omega) bA bB bX bY (by rw [T.lk_ht, T.lk_ht, e0]; omega) (by rw [T.lk_ht, T.lk_ht]; exact c3)).mono ?_
        rintro e w' ⟨rfl, hT, hV⟩
        have S1 : ∀ j, j ≠ c → j ≠ k → (upd (upd S.sto k (some (n, .pr y.lk b.lk))) c (some (m, .pr x.lk (mk k y.lk b.lk)))) j = S.sto j := fun j h1 h2 => (upd_ne _ _ h1).trans (upd_ne _ _ h2)
        refine ⟨.node c x (.node k y b), _, rfl, hT, hV, ⟨rfl, rfl, rfl, by show S.vis + 2 ≤ S.vis + 3; omega⟩, Chg.same ⟨⟨m, upd_at _ _ _⟩, ?_, ⟨⟨n, (upd_ne _ _ hck.symm).trans (upd_at _ _ _)⟩, ?_, ?_⟩⟩ hn ?_ ?_, ?_⟩
        · exact hix.congr (fun j hj => S1 j (fun e => nc1 (e ▸ hj)) (fun e => hkx (e ▸ hj)))
        · exact hiy.congr (fun j hj => S1 j (fun e => nc2 (e ▸ hj)) (fun e => hky (e ▸ hj)))
        · exact hib.congr (fun j hj => S1 j (fun e => hcb (e ▸ hj)) (fun e => nk2 (e ▸ hj)))
        · refine List.perm_iff_count.2 fun z => ?_
          simp only [T.ks, List.count_cons, List.count_append]
          omega
        · intro j hj
          have hj' : j ∉ k :: ((c :: (x.ks ++ y.ks)) ++ b.ks) := hj
          simp only [List.mem_cons, List.mem_append, not_or] at hj'
          exact S1 j hj'.2.1.1 hj'.1
        · refine ⟨by simp only [T.bits, List.append_assoc], ⟨bx, ⟨byy, hb, ?_, ?_⟩, ?_, ?_⟩, fun f1 f2 => ⟨f1.1, ⟨f1.2, f2⟩⟩, by simp only [T.lvs]; omega, ?_, ?_, ?_, fun f1 f2 => by simp only [T.ht] at f1 f2; omega⟩ <;> (try simp only [T.ht]) <;> omega
      · cases y with
        | leaf d l => exact absurd (show (0 : Nat) ≤ x.ht by omega) c3
        | node d u v =>
          have e1 : (T.node d u v).ht = 1 + max u.ht v.ht := rfl
          rw [e1] at c1 h2 h1 c3 hxy hyx
          obtain ⟨bu, bv, huv, hvu⟩ := byy
          obtain ⟨⟨q, hq⟩, hiu, hiv⟩ := id hiy
          obtain ⟨nd1, nd2, nu, nv, nuv⟩ := nd_node ny
          have hdk : d ≠ k := fun e => hky (e ▸ List.mem_cons_self)
          have hdc : d ≠ c := fun e => nc2 (e ▸ List.mem_cons_self)
          have hdb : d ∉ b.ks := nab d (List.mem_cons_of_mem _ (List.mem_append_right _ List.mem_cons_self))
          have hdx : d ∉ x.ks := fun h => nxy d h List.mem_cons_self
          have hku : k ∉ u.ks := fun h => hky (List.mem_cons_of_mem _ (List.mem_append_left _ h))
          have hkv : k ∉ v.ks := fun h => hky (List.mem_cons_of_mem _ (List.mem_append_right _ h))
          have hcu : c ∉ u.ks := fun h => nc2 (List.mem_cons_of_mem _ (List.mem_append_left _ h))
          have hcv : c ∉ v.ks := fun h => nc2 (List.mem_cons_of_mem _ (List.mem_append_right _ h))
          obtain ⟨bU, bV⟩ := bd_node bY
          refine (teven_two0 (A := (T.node c x (.node d u v)).lk) (B := b.lk) (O := x.lk) (I := (T.node d u v).lk) (E := u.lk) (F := v.lk) w h hk hm hq hdk hdc hck hv (by omega) bA bB bX bY bU bV (by rw [T.lk_ht, T.lk_ht, e0]; omega) (by rw [T.lk_ht, T.lk_ht]; simp only [T.ht]; omega)).mono ?_
          rintro e w' ⟨rfl, hT, hV⟩
          have S1 : ∀ j, j ≠ c → j ≠ k → j ≠ d → (upd (upd (upd (upd (upd S.sto c (some (m, .pr x.lk u.lk))) d (some (q, .pr (mk c x.lk u.lk) v.lk))) k (some (n, .pr (mk d (mk c x.lk u.lk) v.lk) b.lk))) k (some (n, .pr v.lk b.lk))) d (some (q, .pr (mk c x.lk u.lk) (mk k v.lk b.lk)))) j = S.sto j := fun j h1 h2 h3 => (upd_ne _ _ h3).trans ((upd_ne _ _ h2).trans ((upd_ne _ _ h2).trans ((upd_ne _ _ h3).trans (upd_ne _ _ h1))))
          refine ⟨.node d (.node c x u) (.node k v b), _, rfl, hT, hV, ⟨rfl, rfl, rfl, by show S.vis + 3 ≤ S.vis + 3; omega⟩, Chg.same ⟨⟨q, upd_at _ _ _⟩, ⟨⟨m, (upd_ne _ _ hdc.symm).trans ((upd_ne _ _ hck).trans ((upd_ne _ _ hck).trans ((upd_ne _ _ hdc.symm).trans (upd_at _ _ _))))⟩, ?_, ?_⟩, ⟨⟨n, (upd_ne _ _ hdk.symm).trans (upd_at _ _ _)⟩, ?_, ?_⟩⟩ hn ?_ ?_, ?_⟩
          · exact hix.congr (fun j hj => S1 j (fun e => nc1 (e ▸ hj)) (fun e => hkx (e ▸ hj)) (fun e => hdx (e ▸ hj)))
          · exact hiu.congr (fun j hj => S1 j (fun e => hcu (e ▸ hj)) (fun e => hku (e ▸ hj)) (fun e => nd1 (e ▸ hj)))
          · exact hiv.congr (fun j hj => S1 j (fun e => hcv (e ▸ hj)) (fun e => hkv (e ▸ hj)) (fun e => nd2 (e ▸ hj)))
          · exact hib.congr (fun j hj => S1 j (fun e => hcb (e ▸ hj)) (fun e => nk2 (e ▸ hj)) (fun e => hdb (e ▸ hj)))
          · refine List.perm_iff_count.2 fun z => ?_
            simp only [T.ks, List.count_cons, List.count_append]
            omega
          · intro j hj
            have hj' : j ∉ k :: ((c :: (x.ks ++ (d :: (u.ks ++ v.ks)))) ++ b.ks) := hj
            simp only [List.mem_cons, List.mem_append, not_or] at hj'
            exact S1 j hj'.2.1.1 hj'.1 hj'.2.1.2.2.1
          · refine ⟨by simp only [T.bits, List.append_assoc], ⟨⟨bx, bu, ?_, ?_⟩, ⟨bv, hb, ?_, ?_⟩, ?_, ?_⟩, fun f1 f2 => ⟨⟨f1.1, f1.2.1⟩, ⟨f1.2.2, f2⟩⟩, by simp only [T.lvs]; omega, ?_, ?_, ?_, fun f1 f2 => by simp only [T.ht] at f1 f2; omega⟩ <;> (try simp only [T.ht]) <;> omega
end Go.Proofs.YtaglnomjlnlgoaaDoor
namespace Go.Proofs.YtaglnomjlnlgoaaDoor
open Go Go.RowKit Go.ChangeAt Tr

theorem infoP : (Tryd.prog.info? 83).map (fun i => (i.zero, i.size, i.bytes)) = some (some (.pointer none), 1, 8) := by kernel_rfl
/-- How many nodes are taken. -/
def St.live (S : St) : Nat := S.T.length - S.F.length
theorem ptrs_len (s : Sto) (n : Nat) : (ptrs s n).length = n := by unfold ptrs; simp
theorem ptrs_set {s : Sto} {k n : Nat} {x : Nat × Nd} (hk : k < n) : (ptrs s n).set k (ptr (some x)) = ptrs (upd s k (some x)) n := by
  apply List.ext_getElem?
  intro j
  unfold ptrs
  rw [List.getElem?_set]
  by_cases hj : k = j
  · subst hj
    simp [hk, upd_at]
  · rw [if_neg hj, List.getElem?_map, List.getElem?_map]
    by_cases h2 : j < n
    · rw [List.getElem?_range h2]
      show some (ptr (s j)) = some (ptr (upd s k (some x) j))
      rw [upd_ne _ _ (fun e => hj e.symm)]
    · rw [List.getElem?_eq_none (by simp; omega)]
      rfl
theorem ptrs_none {s : Sto} {k n : Nat} (hk : k < n) : (ptrs s n).set k (.pointer none) = ptrs (upd s k none) n := by
  apply List.ext_getElem?
  intro j
  unfold ptrs
  rw [List.getElem?_set]
  by_cases hj : k = j
  · subst hj
    simp [hk, upd_at, ptr]
  · rw [if_neg hj, List.getElem?_map, List.getElem?_map]
    by_cases h2 : j < n
    · rw [List.getElem?_range h2]
      show some (ptr (s j)) = some (ptr (upd s k none j))
      rw [upd_ne _ _ (fun e => hj e.symm)]
    · rw [List.getElem?_eq_none (by simp; omega)]
      rfl
theorem ptrs_push {s : Sto} {n : Nat} (hn : s n = none) : ptrs s n ++ [.pointer none] = ptrs s (n + 1) := by
  unfold ptrs
  rw [List.range_succ, List.map_append]
  show _ = _ ++ [ptr (s n)]
  rw [hn]
  rfl
open Classical in
/-- A node was laid at number k. -/
theorem TMx.put {base : Nat} {w w' : World} {t g nb k c1 : Nat} {S : St} {a a1 : Option Addr} {c : Nat} {A' : Nat → Prop} {T' : List Bool} {F' : List Int} {Z : Nat → Prop} {d : Nd} (h : TMx base w t S (some g) a c)
    (hk : S.sto k = none) (hdom : ∀ j, T'.getD j false = if j = k then true else S.T.getD j false) (hsar : Ar.S 268435456 T' F')
    (hst : Stay Z w w') (hz : ∀ b, Z b → S.own b = some .tr ∨ S.own b = some .ar ∨ S.own b = some .li ∨ w.heap.size ≤ b)
    (hcells : w'.heap[t]? = some (.cells (trv (some ⟨g, 0, none⟩) a1 T'.length c1 S.rt S.vis) 81 (0, 0)))
    (har : ArM base 99 A' w' g 268435456 T' F') (hA : ∀ b, A' b → S.own b = some .ar ∨ w.heap.size ≤ b)
    (hrow : w'.ownsRow base 83 1 (.slice a1 T'.length c1) T'.length (ptrs (upd S.sto k (some (nb, d))) T'.length))
    (hrl : ∀ b, (Value.slice a1 T'.length c1).ownBlock = some b → (S.own b = some .li ∨ w.heap.size ≤ b) ∧ ¬ A' b)
    (hd : NdM w nb d) (hn0 : S.own nb = none) (hn1 : base ≤ nb) (hl0 : ∀ b l, d = .lf b l → S.own b = none ∧ base ≤ b ∧ b < w.heap.size) (hnb : nb < w.heap.size) :
    ∃ own', TM base w' t ⟨own', upd S.sto k (some (nb, d)), T', F', S.rt, S.vis⟩ ∧ ∀ b, own' b ≠ none → S.own b ≠ none ∨ w.heap.size ≤ b ∨ b = nb ∨ ∃ l, d = .lf b l := by
  have hne : ∀ b l, d = .lf b l → b ≠ nb := by
    rintro b l rfl rfl
    obtain ⟨⟨A, B, e⟩, _, x, y, e2, _⟩ := hd
    rw [e] at e2
    injection e2 with e2
    injection e2 with _ e2
    exact absurd e2 (by decide)
  have hAn : ∀ b, b < w.heap.size → S.own b = none → ¬ A' b := fun b h1 h2 h3 => by
    rcases hA b h3 with h4 | h4
    · rw [h2] at h4; cases h4
    · omega
  let own' : Nat → Option Who := fun b => if A' b then some .ar else if b = nb then some (.nd k) else if (∃ l, d = .lf b l) then some (.bk k) else if (Value.slice a1 T'.length c1).ownBlock = some b then some .li else S.own b
  have o_ar : ∀ b, A' b → own' b = some .ar := fun b h => if_pos h
  have o_nb : own' nb = some (.nd k) := (if_neg (hAn _ hnb hn0)).trans (if_pos rfl)
  have o_bk : ∀ b l, d = .lf b l → own' b = some (.bk k) := fun b l e => (if_neg (hAn _ (hl0 b l e).2.2 (hl0 b l e).1)).trans ((if_neg (hne b l e)).trans (if_pos ⟨l, e⟩))
  have o_li : ∀ b, (Value.slice a1 T'.length c1).ownBlock = some b → own' b = some .li := fun b e => by
    obtain ⟨h1, h2⟩ := hrl b e
    have h3 : b ≠ nb := fun e2 => by subst e2; rcases h1 with h1 | h1; (rw [hn0] at h1; cases h1); omega
    have h4 : ¬ ∃ l, d = .lf b l := fun ⟨l, e2⟩ => by rcases h1 with h1 | h1; (rw [(hl0 b l e2).1] at h1; cases h1); (have := (hl0 b l e2).2.2; omega)
    exact (if_neg h2).trans ((if_neg h3).trans ((if_neg h4).trans (if_pos e)))
  have o_old : ∀ b x, S.own b = some x → own' b = some x ∨ (x = .ar ∧ ¬ A' b) ∨ x = .li ∨ A' b := fun b x e => by
    by_cases h1 : A' b
    · exact .inr (.inr (.inr h1))
    · by_cases h2 : b = nb
      · subst h2; rw [hn0] at e; cases e
      · by_cases h3 : ∃ l, d = .lf b l
        · obtain ⟨l, e2⟩ := h3; rw [(hl0 b l e2).1] at e; cases e
        · by_cases h4 : (Value.slice a1 T'.length c1).ownBlock = some b
          · rcases (hrl b h4).1 with h5 | h5
            · rw [h5] at e; injection e with e; exact .inr (.inr (.inl e.symm))
            · have := (h.lab b x e).2; omega
          · exact .inl ((if_neg h1).trans ((if_neg h2).trans ((if_neg h3).trans ((if_neg h4).trans e))))
  have o_keep : ∀ b x, S.own b = some x → x ≠ .ar → x ≠ .li → own' b = some x := fun b x e h1 h2 => by
    rcases o_old b x e with h3 | h3 | h3 | h3
    · exact h3
    · exact absurd h3.1 h1
    · exact absurd h3 h2
    · rcases hA b h3 with h4 | h4
      · rw [h4] at e; injection e with e; exact absurd e.symm h1
      · have := (h.lab b x e).2; omega
  have hz' : ∀ b x, S.own b = some x → x ≠ .tr → x ≠ .ar → x ≠ .li → ¬ Z b := fun b x e h1 h2 h3 hb => by
    rcases hz b hb with h4 | h4 | h4 | h4
    · rw [h4] at e; injection e with e; exact h1 e.symm
    · rw [h4] at e; injection e with e; exact h2 e.symm
    · rw [h4] at e; injection e with e; exact h3 e.symm
    · have := (h.lab b x e).2; omega
  have hzn : ∀ b, b < w.heap.size → S.own b = none → ¬ Z b := fun b h1 h2 hb => by
    rcases hz b hb with h4 | h4 | h4 | h4
    · rw [h2] at h4; cases h4
    · rw [h2] at h4; cases h4
    · rw [h2] at h4; cases h4
    · omega
  have hlt := hrow.lt
  refine ⟨own', ⟨some g, a1, c1, fun b x e => ?_, o_keep _ _ h.ownt (fun h => by cases h) (fun h => by cases h), hcells, .inr ⟨g, rfl, ?_⟩, hrow, o_li, hsar, fun j => ?_, fun j m e he => ?_, fun j m b l he => ?_⟩, fun b hb => ?_⟩
  · have e' : own' b = some x := e
    by_cases h1 : A' b
    · exact har.lt b h1
    · by_cases h2 : b = nb
      · subst h2; exact ⟨hn1, Nat.lt_of_lt_of_le hnb hst.size⟩
      · by_cases h3 : ∃ l, d = .lf b l
        · obtain ⟨l, e2⟩ := h3
          exact ⟨(hl0 b l e2).2.1, Nat.lt_of_lt_of_le (hl0 b l e2).2.2 hst.size⟩
        · by_cases h4 : (Value.slice a1 T'.length c1).ownBlock = some b
          · exact hlt b h4
          · have e2 : own' b = S.own b := (if_neg h1).trans ((if_neg h2).trans ((if_neg h3).trans (if_neg h4)))
            rw [e2] at e'
            exact ⟨(h.lab b x e').1, Nat.lt_of_lt_of_le (h.lab b x e').2 hst.size⟩
  · have e : (fun b => own' b = some Who.ar) = fun b => A' b ∨ (S.own b = some .ar ∧ own' b = some .ar) := by
      funext b
      refine propext ⟨fun e => ?_, fun e => e.elim (o_ar b) (fun h => h.2)⟩
      by_cases h1 : A' b
      · exact .inl h1
      · refine .inr ⟨?_, e⟩
        by_cases h2 : b = nb
        · subst h2; rw [o_nb] at e; cases e
        · by_cases h3 : ∃ l, d = .lf b l
          · obtain ⟨l, e2⟩ := h3; rw [o_bk b l e2] at e; cases e
          · by_cases h4 : (Value.slice a1 T'.length c1).ownBlock = some b
            · rw [o_li b h4] at e; cases e
            · have e2 : own' b = S.own b := (if_neg h1).trans ((if_neg h2).trans ((if_neg h3).trans (if_neg h4)))
              rw [← e2]; exact e
    show ArM base _ (fun b => own' b = some Who.ar) w' g 268435456 T' F'
    rw [e]
    obtain ⟨h1, h2, a', c', a2, c2, h3, h4, h5, h6, h7⟩ := har
    refine ⟨.inl h1, fun b hb => ?_, a', c', a2, c2, h3, h4, h5, fun b hb => .inl (h6 b hb), fun b hb => .inl (h7 b hb)⟩
    rcases hb with hb | hb
    · exact h2 b hb
    · exact ⟨(h.lab b _ hb.1).1, Nat.lt_of_lt_of_le (h.lab b _ hb.1).2 hst.size⟩
  · show upd S.sto k (some (nb, d)) j = none ↔ T'.getD j false = false
    rw [hdom j]
    by_cases hj : j = k
    · subst hj; rw [upd_at, if_pos rfl]; simp
    · rw [upd_ne _ _ hj, if_neg hj]; exact h.dom j
  · have he' : upd S.sto k (some (nb, d)) j = some (m, e) := he
    by_cases hj : j = k
    · subst hj
      rw [upd_at] at he'
      injection he' with he'
      injection he' with e1 e2
      subst e1 e2
      exact ⟨o_nb, hd.stay hst (hzn _ hnb hn0) (fun b l e2 => hzn _ (hl0 b l e2).2.2 (hl0 b l e2).1)⟩
    · rw [upd_ne _ _ hj] at he'
      obtain ⟨h1, h2⟩ := h.nds j m e he'
      refine ⟨o_keep _ _ h1 (fun h => by cases h) (fun h => by cases h), h2.stay hst (hz' _ _ h1 (fun h => by cases h) (fun h => by cases h) (fun h => by cases h)) (fun b l e2 => hz' _ _ (h.bks j m b l (e2 ▸ he')) (fun h => by cases h) (fun h => by cases h) (fun h => by cases h))⟩
  · have he' : upd S.sto k (some (nb, d)) j = some (m, .lf b l) := he
    by_cases hj : j = k
    · subst hj
      rw [upd_at] at he'
      injection he' with he'
      injection he' with e1 e2
      exact o_bk b l e2
    · rw [upd_ne _ _ hj] at he'
      exact o_keep _ _ (h.bks j m b l he') (fun h => by cases h) (fun h => by cases h)
  · by_cases h1 : A' b
    · rcases hA b h1 with h2 | h2
      · exact .inl (by rw [h2]; exact fun h => by cases h)
      · exact .inr (.inl h2)
    · by_cases h2 : b = nb
      · exact .inr (.inr (.inl h2))
      · by_cases h3 : ∃ l, d = .lf b l
        · exact .inr (.inr (.inr h3))
        · by_cases h4 : (Value.slice a1 T'.length c1).ownBlock = some b
          · rcases (hrl b h4).1 with h5 | h5
            · exact .inl (by rw [h5]; exact fun h => by cases h)
            · exact .inr (.inl h5)
          · have e2 : own' b = S.own b := (if_neg h1).trans ((if_neg h2).trans ((if_neg h3).trans (if_neg h4)))
            rw [← e2]; exact .inl hb
end Go.Proofs.YtaglnomjlnlgoaaDoor
