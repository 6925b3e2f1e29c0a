/- Stores into nodes, what a walk reads of a tree, the cell that a link is handed back in; lift: contracts of the walk. -/
import Derived.Test.YtfbhcbcpeocmcaaDoorTmA
import Derived.Deep.DeepCutAuto
namespace Go.Proofs.YtfbhcbcpeocmcaaDoor
open Go Go.RowKit Go.ChangeAt Tr

theorem set4_of {w : World} {g i : Nat} {c : Array Value} {t : TypeId} {f : Nat × Nat} (h : w.heap[g]? = some (.cells c t f)) (A : Lk) :
    ((((w.setCell ⟨g, i, none⟩ (.int .i64 A.num)).setCell ⟨g, i + 1, none⟩ (.int .i64 A.len)).setCell ⟨g, i + 2, none⟩ (.int .i64 A.ones)).setCell ⟨g, i + 3, none⟩ (.int .i64 A.ht)).heap[g]? =
      some (.cells ((((c.setIfInBounds i (.int .i64 A.num)).setIfInBounds (i + 1) (.int .i64 A.len)).setIfInBounds (i + 2) (.int .i64 A.ones)).setIfInBounds (i + 3) (.int .i64 A.ht)) t f) :=
  set_of (set_of (set_of (set_of h _) _) _) _
theorem Stay.set4 {w w0 : World} {S : Nat → Prop} {g : Nat} (h : Stay S w0 w) (hg : S g) (i j k l : Nat) (a b c d : Value) : Stay S w0 ((((w.setCell ⟨g, i, none⟩ a).setCell ⟨g, j, none⟩ b).setCell ⟨g, k, none⟩ c).setCell ⟨g, l, none⟩ d) :=
  (((h.setCell (p := ⟨g, i, none⟩) (.inr hg) _).setCell (p := ⟨g, j, none⟩) (.inr hg) _).setCell (p := ⟨g, k, none⟩) (.inr hg) _).setCell (p := ⟨g, l, none⟩) (.inr hg) _
/-- A store. -/
def St.lay (S : St) (k n : Nat) (d : Nd) : St := { S with sto := upd S.sto k (some (n, d)) }
theorem TM.side0 {base : Nat} {w : World} {t : Nat} {S : St} {k n : Nat} {A B : Lk} (h : TM base w t S) (hk : S.sto k = some (n, .pr A B)) (C : Lk) :
    TM base ((((w.setCell ⟨n, 1, none⟩ (.int .i64 C.num)).setCell ⟨n, 2, none⟩ (.int .i64 C.len)).setCell ⟨n, 3, none⟩ (.int .i64 C.ones)).setCell ⟨n, 4, none⟩ (.int .i64 C.ht)) t (S.lay k n (.pr C B)) := by
  have h' := h
  obtain ⟨g, a, c, hx⟩ := h'
  obtain ⟨h1, h2⟩ := hx.nds _ _ _ hk
  have hst : Stay (fun i => i = n) w ((((w.setCell ⟨n, 1, none⟩ (.int .i64 C.num)).setCell ⟨n, 2, none⟩ (.int .i64 C.len)).setCell ⟨n, 3, none⟩ (.int .i64 C.ones)).setCell ⟨n, 4, none⟩ (.int .i64 C.ht)) := Stay.set4 (S := fun i => i = n) (Stay.refl _ _) rfl 1 2 3 4 _ _ _ _
  exact h.turn0 hk hst (fun b x e e2 => by subst e; rw [h1] at e2; injection e2 with e2; exact .inl e2.symm) (set4_of (i := 1) h2 C) (fun b l e => by cases e)
theorem TM.side1 {base : Nat} {w : World} {t : Nat} {S : St} {k n : Nat} {A B : Lk} (h : TM base w t S) (hk : S.sto k = some (n, .pr A B)) (C : Lk) :
    TM base ((((w.setCell ⟨n, 5, none⟩ (.int .i64 C.num)).setCell ⟨n, 6, none⟩ (.int .i64 C.len)).setCell ⟨n, 7, none⟩ (.int .i64 C.ones)).setCell ⟨n, 8, none⟩ (.int .i64 C.ht)) t (S.lay k n (.pr A C)) := by
  have h' := h
  obtain ⟨g, a, c, hx⟩ := h'
  obtain ⟨h1, h2⟩ := hx.nds _ _ _ hk
  have hst : Stay (fun i => i = n) w ((((w.setCell ⟨n, 5, none⟩ (.int .i64 C.num)).setCell ⟨n, 6, none⟩ (.int .i64 C.len)).setCell ⟨n, 7, none⟩ (.int .i64 C.ones)).setCell ⟨n, 8, none⟩ (.int .i64 C.ht)) := Stay.set4 (S := fun i => i = n) (Stay.refl _ _) rfl 5 6 7 8 _ _ _ _
  exact h.turn0 hk hst (fun b x e e2 => by subst e; rw [h1] at e2; injection e2 with e2; exact .inl e2.symm) (set4_of (i := 5) h2 C) (fun b l e => by cases e)
theorem Mv.lay {base : Nat} {w w' : World} {t : Nat} {S : St} {k n : Nat} {d d' : Nd} (h : TM base w t S) (hk : S.sto k = some (n, d)) (hst : Stay (fun i => i = n) w w') : Mv w w' S (S.lay k n d') := by
  obtain ⟨g, a, c, hx⟩ := h
  obtain ⟨h1, h2⟩ := hx.nds _ _ _ hk
  exact ⟨hst.mono (fun i _ e => by subst e; show S.own i ≠ none; rw [h1]; exact fun h => by cases h), fun b hb => .inl hb⟩
/-- What the walk reads of a tree: the list, and node k's cells. -/
structure Seen (w : World) (t n k len c lb : Nat) (a : Option Addr) : Prop where
  c1 : w.cell? ⟨t, 1, none⟩ = some (.slice a len c)
  ha : a = some ⟨lb, 0, none⟩
  cl : w.cell? ⟨lb, k, none⟩ = some (.pointer (some ⟨n, 0, none⟩))
  k1 : (k : Int) < len
  lc : (len : Int) ≤ c
  cm : (c : Int) ≤ 9223372036854775807
  tl : t < w.heap.size
  ll : lb < w.heap.size
theorem TM.seen {base : Nat} {w : World} {t : Nat} {S : St} {k n : Nat} {d : Nd} (h : TM base w t S) (hk : S.sto k = some (n, d)) : ∃ len c lb, Seen w t n k len c lb (some ⟨lb, 0, none⟩) := by
  obtain ⟨g, a, c, hx⟩ := h
  have hin := hx.inT hk
  obtain ⟨lb, rfl, hlc, hcm, hcell, hfz, hown⟩ := hx.list hin
  rw [hk] at hcell
  have hcell' : w.cell? ⟨lb, k, none⟩ = some (.pointer (some ⟨n, 0, none⟩)) := hcell
  have c1 := (cellsT hx.cells).c1
  unfold maxLen at hcm
  exact ⟨_, _, _, c1, rfl, hcell', by omega, by omega, by omega, block_lt_of_cell c1, block_lt_of_cell hcell'⟩
theorem Seen.below {w w' : World} {t n k len c lb : Nat} {a : Option Addr} (h : Seen w t n k len c lb a) (hb : Below w.heap.size w w') : Seen w' t n k len c lb a :=
  ⟨(hb.cell (p := ⟨t, 1, none⟩) h.tl).trans h.c1, h.ha, (hb.cell (p := ⟨lb, k, none⟩) h.ll).trans h.cl, h.k1, h.lc, h.cm, Nat.lt_of_lt_of_le h.tl hb.size, Nat.lt_of_lt_of_le h.ll hb.size⟩
theorem TM.pr {base : Nat} {w : World} {t : Nat} {S : St} {k n : Nat} {A B : Lk} (h : TM base w t S) (hk : S.sto k = some (n, .pr A B)) : CellsN w n none A B := by
  obtain ⟨g, a, c, hx⟩ := h
  exact cellsN (hx.nds _ _ _ hk).2
theorem TM.ndlt {base : Nat} {w : World} {t : Nat} {S : St} {k n : Nat} {d : Nd} (h : TM base w t S) (hk : S.sto k = some (n, d)) : n < w.heap.size := by
  obtain ⟨g, a, c, hx⟩ := h
  exact (hx.lab _ _ (hx.nds _ _ _ hk).1).2
theorem TM.ndne {base : Nat} {w : World} {t : Nat} {S : St} {k n j m : Nat} {d e : Nd} (h : TM base w t S) (hk : S.sto k = some (n, d)) (hj : S.sto j = some (m, e)) (hne : k ≠ j) : n ≠ m := by
  obtain ⟨g, a, c, hx⟩ := h
  intro e2
  subst e2
  have h1 := (hx.nds _ _ _ hk).1
  rw [(hx.nds _ _ _ hj).1] at h1
  injection h1 with h1
  injection h1 with h1
  exact hne h1.symm
/-- The cell that a link is handed back in, as it lies when a function is entered. -/
abbrev ZL : Obj := Obj.cells #[.int .i64 0, .int .i64 0, .int .i64 0, .int .i64 0] 59
structure Res (w : World) (r : Nat) : Prop where
  c0 : w.cell? ⟨r, 0, none⟩ = some (.int .i64 0)
  c1 : w.cell? ⟨r, 1, none⟩ = some (.int .i64 0)
  c2 : w.cell? ⟨r, 2, none⟩ = some (.int .i64 0)
  c3 : w.cell? ⟨r, 3, none⟩ = some (.int .i64 0)
  f0 : w.frozen? ⟨r, 0, none⟩ = false
  f1 : w.frozen? ⟨r, 1, none⟩ = false
  f2 : w.frozen? ⟨r, 2, none⟩ = false
  f3 : w.frozen? ⟨r, 3, none⟩ = false
theorem TM.new {base : Nat} {w : World} {t : Nat} {S : St} (h : TM base w t S) {b : Nat} (hb : w.heap.size ≤ b) : S.own b = none := by
  obtain ⟨g, a, c, hx⟩ := h
  cases e : S.own b with
  | none => rfl
  | some x => have := (hx.lab _ _ e).2; omega
theorem Mv.res {base : Nat} {w w5 : World} {t : Nat} {S S' : St} (h : TM base w t S) (hV : Mv (w.alloc ZL) w5 S S') : Res w5 w.heap.size := by
  have hr : w5.heap[w.heap.size]? = some ZL := hV.keep alloc_of (h.new (Nat.le_refl _))
  exact ⟨(cell_of hr).trans rfl, (cell_of hr).trans rfl, (cell_of hr).trans rfl, (cell_of hr).trans rfl, free_of hr, free_of hr, free_of hr, free_of hr⟩
theorem TM.set4 {base : Nat} {w : World} {t : Nat} {S : St} (h : TM base w t S) {r : Nat} (hr : S.own r = none) (i j k l : Nat) (a b c d : Value) : TM base ((((w.setCell ⟨r, i, none⟩ a).setCell ⟨r, j, none⟩ b).setCell ⟨r, k, none⟩ c).setCell ⟨r, l, none⟩ d) t S :=
  h.stay (Stay.set4 (S := fun i => i = r) (Stay.refl _ _) rfl i j k l a b c d) (fun _ hx e => hx (e ▸ hr))
theorem Mv.alloc {base : Nat} {w w5 : World} {t : Nat} {S S' : St} (_h : TM base w t S) {o : Obj} (hV : Mv (w.alloc o) w5 S S') : Mv w w5 S S' := (Mv.of_below (Below.allocs (Below.refl _ _) _)).trans hV
theorem Mv.done {base : Nat} {w w5 : World} {t : Nat} {S S' : St} (h : TM base w t S) (h5 : TM base w5 t S') (hV : Mv (w.alloc ZL) w5 S S') (a b c d : Value) :
    TM base ((((w5.setCell ⟨w.heap.size, 0, none⟩ a).setCell ⟨w.heap.size, 1, none⟩ b).setCell ⟨w.heap.size, 2, none⟩ c).setCell ⟨w.heap.size, 3, none⟩ d) t S' ∧ Mv w ((((w5.setCell ⟨w.heap.size, 0, none⟩ a).setCell ⟨w.heap.size, 1, none⟩ b).setCell ⟨w.heap.size, 2, none⟩ c).setCell ⟨w.heap.size, 3, none⟩ d) S S' := by
  have hn : S'.own w.heap.size = none := hV.outer (by simp) (h.new (Nat.le_refl _))
  have hV' := Mv.alloc h hV
  refine ⟨h5.set4 hn 0 1 2 3 a b c d, ⟨?_, hV'.ne⟩⟩
  exact (((hV'.st.setCell (p := ⟨w.heap.size, 0, none⟩) (.inl (Nat.le_refl _)) _).setCell (p := ⟨w.heap.size, 1, none⟩) (.inl (Nat.le_refl _)) _).setCell (p := ⟨w.heap.size, 2, none⟩) (.inl (Nat.le_refl _)) _).setCell (p := ⟨w.heap.size, 3, none⟩) (.inl (Nat.le_refl _)) _
/-- A link whose numbers are not too great. -/
structure Bd (N : Nat) (A : Lk) : Prop where
  len : A.len ≤ N
  ones : A.ones ≤ N
  ht : A.ht ≤ N
theorem Bd.both {N : Nat} {A B : Lk} (k : Nat) (h : Bd N A) (h' : Bd N B) : Bd (2 * N + 1) (Tr.mk k A B) := by
  have h1 := h.len; have h2 := h.ones; have h3 := h.ht; have h4 := h'.len; have h5 := h'.ones; have h6 := h'.ht
  exact ⟨by show A.len + B.len ≤ _; omega, by show A.ones + B.ones ≤ _; omega, by show 1 + max A.ht B.ht ≤ _; omega⟩
theorem Bd.mono {N M : Nat} {A : Lk} (h : Bd N A) (hm : N ≤ M) : Bd M A := ⟨Nat.le_trans h.len hm, Nat.le_trans h.ones hm, Nat.le_trans h.ht hm⟩
set_option maxHeartbeats 1600000 in
theorem tlift0 {base t k n m N : Nat} {S : St} {A B C D : Lk} (w : World) (h : TM base w t S) (hk : S.sto k = some (n, .pr A B)) (hm : S.sto A.num = some (m, .pr C D)) (hne : A.num ≠ k) (hv : S.vis < 4611686018427387904)
    (hN : N ≤ 288230376151711744) (bC : Bd N C) (bD : Bd N D) (bB : Bd N B) :
    Calls Tryd.prog 74 #[.pointer (some ⟨t, 0, none⟩), .int .i64 k, .int .i64 0] w fun e w' => e = .returned (lkv (mk A.num C (mk k D B))) ∧ TM base w' t (((S.see (S.vis + 1)).lay k n (.pr D B)).lay A.num m (.pr C (mk k D B))) ∧ Mv w w' S (((S.see (S.vis + 1)).lay k n (.pr D B)).lay A.num m (.pr C (mk k D B))) := by
  have hb1 := bD.both k bB
  have h1 : D.len + B.len < 4611686018427387904 := by have := hb1.len; have h : (mk k D B).len = D.len + B.len := rfl; omega
  have h2 : D.ones + B.ones < 4611686018427387904 := by have := hb1.ones; have h : (mk k D B).ones = D.ones + B.ones := rfl; omega
  have h3 : D.ht < 4611686018427387904 := by have := bD.ht; omega
  have h4 : B.ht < 4611686018427387904 := by have := bB.ht; omega
  have h5 : C.len + (mk k D B).len < 4611686018427387904 := by have := hb1.len; have := bC.len; omega
  have h6 : C.ones + (mk k D B).ones < 4611686018427387904 := by have := hb1.ones; have := bC.ones; omega
  have h7 : C.ht < 4611686018427387904 := by have := bC.ht; omega
  have h8 : (mk k D B).ht < 4611686018427387904 := by have := hb1.ht; omega
  clear hb1 bC bD bB hN
  have hnm := h.ndne hk hm hne.symm
  have hb0 : Below w.heap.size w (w.alloc (Obj.cells #[.int .i64 0, .int .i64 0, .int .i64 0, .int .i64 0] 59)) := Below.allocs (Below.refl _ _) _
  have h0 := h.below hb0
  obtain ⟨len, c, lb, e1, _, e2, e3, e4, e5, e6, e7⟩ := h0.seen hk
  have n0 := h0.pr hk
  have hn1 := n0.c1
  have key := tlook _ h0 hm hv
  have H := Lib.hid h
  have HK := Lib.hid hk
  have HM := Lib.hid hm
  clear h h0 n0 hk hm
  go_enter Tryd.func74, Tryd.ntmps74
  go_wp2_with (first | (go_at_call 37; (with_reducible refine key.mono ?_); rintro e w1 ⟨rfl, hT1, hs1⟩))
  have hz1 := hs1.size
  have hn' : (S.see (S.vis + 1)).sto k = some (n, .pr A B) := HK.out
  have hm' : (S.see (S.vis + 1)).sto A.num = some (m, .pr C D) := HM.out
  have M1 := hT1.pr hm'
  have m5 := M1.c5
  have m6 := M1.c6
  have m7 := M1.c7
  have m8 := M1.c8
  have N1 := hT1.pr hn'
  have k1 := N1.c1
  have k2 := N1.c2
  have k3 := N1.c3
  have k4 := N1.c4
  have f1 := N1.fz 1
  have f2 := N1.fz 2
  have f3 := N1.fz 3
  have f4 := N1.fz 4
  have HT1 := Lib.hid hT1
  clear hT1 M1 N1 hn' hm' key
  go_cut [] (fun wx => wx = (((((w1.setCell ⟨n, 1, none⟩ (.int .i64 D.num)).setCell ⟨n, 2, none⟩ (.int .i64 D.len)).setCell ⟨n, 3, none⟩ (.int .i64 D.ones)).setCell ⟨n, 4, none⟩ (.int .i64 D.ht))).drew)
  case first =>
    go_region
    all_goals
      go_wp2_with fail
      go_meet
      case rel => rfl
  case rest =>
  have hn1' : (S.see (S.vis + 1)).sto k = some (n, .pr A B) := HK.out
  have HT2 := Lib.hid ((hcut ▸ (HT1.out.side0 hn1' D).drewN 1 : TM base wc t ((S.see (S.vis + 1)).lay k n (.pr D B))))
  have HV2 : Hid (Mv (w.alloc ZL) wc S ((S.see (S.vis + 1)).lay k n (.pr D B))) := Lib.hid ((Mv.tree (H.out.below hb0) hs1 S.rt (S.vis + 1)).trans (hcut ▸ (Mv.lay HT1.out hn1' (Stay.set4 (S := fun i => i = n) (Stay.refl _ _) rfl 1 2 3 4 _ _ _ _)).below (Below.drews (Below.refl _ _))))
  clear hcut m5 m6 m7 m8 k1 k2 k3 k4 f1 f2 f3 f4 hs1 HT1 hz1 e1 e2 e6 e7 hn1
  have hn2 : ((S.see (S.vis + 1)).lay k n (.pr D B)).sto k = some (n, .pr D B) := upd_at _ _ _
  have hm2 : ((S.see (S.vis + 1)).lay k n (.pr D B)).sto A.num = some (m, .pr C D) := (upd_ne _ _ hne).trans HM.out
  have key := tlink_pr wc.drew (HT2.out.drewN 1) hn2 h1 h2 h3 h4
  have HN2 := Lib.hid hn2
  have HM2 := Lib.hid hm2
  clear hn2 hm2 hn1'
  unfold lkv at key
  have z1 : IntKind.i64.wrap 1 = 1 := by decide
  go_wp2_with fail
  go_cut [] (fun wx => TM base wx t (((S.see (S.vis + 1)).lay k n (.pr D B)).lay A.num m (.pr C (mk k D B))) ∧ Mv (w.alloc ZL) wx S (((S.see (S.vis + 1)).lay k n (.pr D B)).lay A.num m (.pr C (mk k D B))))
  case first =>
    go_region_law (first | (go_simp; (go_at_call 53; (with_reducible refine key.mono ?_); rintro e w3 ⟨rfl, hb3⟩; (have hb3' : Below wc.heap.size wc w3 := (Below.drews (Below.refl _ wc)).trans hb3); (have HT3 := Lib.hid (HT2.out.below hb3')); (have M3 := HT3.out.pr HM2.out); (have m5 := M3.c5); (have m6 := M3.c6); (have m7 := M3.c7); (have m8 := M3.c8); (have f5 := M3.fz 5); (have f6 := M3.fz 6); (have f7 := M3.fz 7); (have f8 := M3.fz 8); clear M3)))
    all_goals
      go_wp2_with fail
      go_meet
      case rel => exact ⟨HT3.out.side1 HM2.out _, (HV2.out.below hb3').trans (Mv.lay HT3.out HM2.out (Stay.set4 (S := fun i => i = m) (Stay.refl _ _) rfl 5 6 7 8 _ _ _ _))⟩
  case rest =>
  obtain ⟨hT4, hV4⟩ := hcut
  have hn4 : (((S.see (S.vis + 1)).lay k n (.pr D B)).lay A.num m (.pr C (mk k D B))).sto A.num = some (m, .pr C (mk k D B)) := upd_at _ _ _
  have key := tlink_pr _ hT4 hn4 h5 h6 h7 h8
  unfold lkv at key
  go_wp2_with fail
  (with_reducible refine key.mono ?_); rintro e w5 ⟨rfl, hb5⟩
  have hT5 := hT4.below hb5
  have hV5 := hV4.below hb5
  obtain ⟨r0, r1, r2, r3, q0, q1, q2, q3⟩ := Mv.res H.out hV5
  have fin := Lib.hid (Mv.done H.out hT5 hV5 (.int .i64 (mk A.num C (mk k D B)).num) (.int .i64 (mk A.num C (mk k D B)).len) (.int .i64 (mk A.num C (mk k D B)).ones) (.int .i64 (mk A.num C (mk k D B)).ht))
  clear hT5 hV5 hb5 hT4 hV4
  go_wp2_with fail
  try simp only [Exit.inBlock, Exit.then]
  refine bodyPost_ret (v := lkv (mk A.num C (mk k D B))) (by simp [results, Tryd.results74, go_sem, lkv, *]) rfl ⟨rfl, fin.out⟩
set_option maxHeartbeats 1600000 in
theorem tlift1 {base t k n m N : Nat} {S : St} {A B C D : Lk} (w : World) (h : TM base w t S) (hk : S.sto k = some (n, .pr A B)) (hm : S.sto B.num = some (m, .pr C D)) (hne : B.num ≠ k) (hv : S.vis < 4611686018427387904)
    (hN : N ≤ 288230376151711744) (bC : Bd N C) (bD : Bd N D) (bA : Bd N A) :
    Calls Tryd.prog 74 #[.pointer (some ⟨t, 0, none⟩), .int .i64 k, .int .i64 1] w fun e w' => e = .returned (lkv (mk B.num (mk k A C) D)) ∧ TM base w' t (((S.see (S.vis + 1)).lay k n (.pr A C)).lay B.num m (.pr (mk k A C) D)) ∧ Mv w w' S (((S.see (S.vis + 1)).lay k n (.pr A C)).lay B.num m (.pr (mk k A C) D)) := by
  have hb1 := bA.both k bC
  have h1 : A.len + C.len < 4611686018427387904 := by have := hb1.len; have h : (mk k A C).len = A.len + C.len := rfl; omega
  have h2 : A.ones + C.ones < 4611686018427387904 := by have := hb1.ones; have h : (mk k A C).ones = A.ones + C.ones := rfl; omega
  have h3 : A.ht < 4611686018427387904 := by have := bA.ht; omega
  have h4 : C.ht < 4611686018427387904 := by have := bC.ht; omega
  have h5 : (mk k A C).len + D.len < 4611686018427387904 := by have := hb1.len; have := bD.len; omega
  have h6 : (mk k A C).ones + D.ones < 4611686018427387904 := by have := hb1.ones; have := bD.ones; omega
  have h7 : (mk k A C).ht < 4611686018427387904 := by have := hb1.ht; omega
  have h8 : D.ht < 4611686018427387904 := by have := bD.ht; omega
  clear hb1 bC bD bA hN
  have hnm := h.ndne hk hm hne.symm
  have hb0 : Below w.heap.size w (w.alloc (Obj.cells #[.int .i64 0, .int .i64 0, .int .i64 0, .int .i64 0] 59)) := Below.allocs (Below.refl _ _) _
  have h0 := h.below hb0
  obtain ⟨len, c, lb, e1, _, e2, e3, e4, e5, e6, e7⟩ := h0.seen hk
  have n0 := h0.pr hk
  have hn1 := n0.c5
  have key := tlook _ h0 hm hv
  have H := Lib.hid h
  have HK := Lib.hid hk
  have HM := Lib.hid hm
  clear h h0 n0 hk hm
  go_enter Tryd.func74, Tryd.ntmps74
  go_wp2_with (first | (go_at_call 37; (with_reducible refine key.mono ?_); rintro e w1 ⟨rfl, hT1, hs1⟩))
  have hz1 := hs1.size
  have hn' : (S.see (S.vis + 1)).sto k = some (n, .pr A B) := HK.out
  have hm' : (S.see (S.vis + 1)).sto B.num = some (m, .pr C D) := HM.out
  have M1 := hT1.pr hm'
  have m5 := M1.c1
  have m6 := M1.c2
  have m7 := M1.c3
  have m8 := M1.c4
  have N1 := hT1.pr hn'
  have k1 := N1.c5
  have k2 := N1.c6
  have k3 := N1.c7
  have k4 := N1.c8
  have f1 := N1.fz 5
  have f2 := N1.fz 6
  have f3 := N1.fz 7
  have f4 := N1.fz 8
  have HT1 := Lib.hid hT1
  clear hT1 M1 N1 hn' hm' key
  go_cut [] (fun wx => wx = (((((w1.setCell ⟨n, 5, none⟩ (.int .i64 C.num)).setCell ⟨n, 6, none⟩ (.int .i64 C.len)).setCell ⟨n, 7, none⟩ (.int .i64 C.ones)).setCell ⟨n, 8, none⟩ (.int .i64 C.ht))).drew)
  case first =>
    go_region
    all_goals
      go_wp2_with fail
      go_meet
      case rel => rfl
  case rest =>
  have hn1' : (S.see (S.vis + 1)).sto k = some (n, .pr A B) := HK.out
  have HT2 := Lib.hid ((hcut ▸ (HT1.out.side1 hn1' C).drewN 1 : TM base wc t ((S.see (S.vis + 1)).lay k n (.pr A C))))
  have HV2 : Hid (Mv (w.alloc ZL) wc S ((S.see (S.vis + 1)).lay k n (.pr A C))) := Lib.hid ((Mv.tree (H.out.below hb0) hs1 S.rt (S.vis + 1)).trans (hcut ▸ (Mv.lay HT1.out hn1' (Stay.set4 (S := fun i => i = n) (Stay.refl _ _) rfl 5 6 7 8 _ _ _ _)).below (Below.drews (Below.refl _ _))))
  clear hcut m5 m6 m7 m8 k1 k2 k3 k4 f1 f2 f3 f4 hs1 HT1 hz1 e1 e2 e6 e7 hn1
  have hn2 : ((S.see (S.vis + 1)).lay k n (.pr A C)).sto k = some (n, .pr A C) := upd_at _ _ _
  have hm2 : ((S.see (S.vis + 1)).lay k n (.pr A C)).sto B.num = some (m, .pr C D) := (upd_ne _ _ hne).trans HM.out
  have key := tlink_pr wc.drew (HT2.out.drewN 1) hn2 h1 h2 h3 h4
  have HN2 := Lib.hid hn2
  have HM2 := Lib.hid hm2
  clear hn2 hm2 hn1'
  unfold lkv at key
  have z1 : IntKind.i64.wrap 0 = 0 := by decide
  go_wp2_with fail
  go_cut [] (fun wx => TM base wx t (((S.see (S.vis + 1)).lay k n (.pr A C)).lay B.num m (.pr (mk k A C) D)) ∧ Mv (w.alloc ZL) wx S (((S.see (S.vis + 1)).lay k n (.pr A C)).lay B.num m (.pr (mk k A C) D)))
  case first =>
    go_region_law (first | (go_simp; (go_at_call 53; (with_reducible refine key.mono ?_); rintro e w3 ⟨rfl, hb3⟩; (have hb3' : Below wc.heap.size wc w3 := (Below.drews (Below.refl _ wc)).trans hb3); (have HT3 := Lib.hid (HT2.out.below hb3')); (have M3 := HT3.out.pr HM2.out); (have m5 := M3.c1); (have m6 := M3.c2); (have m7 := M3.c3); (have m8 := M3.c4); (have f5 := M3.fz 1); (have f6 := M3.fz 2); (have f7 := M3.fz 3); (have f8 := M3.fz 4); clear M3)))
    all_goals
      go_wp2_with fail
      go_meet
      case rel => exact ⟨HT3.out.side0 HM2.out _, (HV2.out.below hb3').trans (Mv.lay HT3.out HM2.out (Stay.set4 (S := fun i => i = m) (Stay.refl _ _) rfl 1 2 3 4 _ _ _ _))⟩
  case rest =>
  obtain ⟨hT4, hV4⟩ := hcut
  have hn4 : (((S.see (S.vis + 1)).lay k n (.pr A C)).lay B.num m (.pr (mk k A C) D)).sto B.num = some (m, .pr (mk k A C) D) := upd_at _ _ _
  have key := tlink_pr _ hT4 hn4 h5 h6 h7 h8
  unfold lkv at key
  go_wp2_with fail
  (with_reducible refine key.mono ?_); rintro e w5 ⟨rfl, hb5⟩
  have hT5 := hT4.below hb5
  have hV5 := hV4.below hb5
  obtain ⟨r0, r1, r2, r3, q0, q1, q2, q3⟩ := Mv.res H.out hV5
  have fin := Lib.hid (Mv.done H.out hT5 hV5 (.int .i64 (mk B.num (mk k A C) D).num) (.int .i64 (mk B.num (mk k A C) D).len) (.int .i64 (mk B.num (mk k A C) D).ones) (.int .i64 (mk B.num (mk k A C) D).ht))
  clear hT5 hV5 hb5 hT4 hV4
  go_wp2_with fail
  try simp only [Exit.inBlock, Exit.then]
  refine bodyPost_ret (v := lkv (mk B.num (mk k A C) D)) (by simp [results, Tryd.results74, go_sem, lkv, *]) rfl ⟨rfl, fin.out⟩
end Go.Proofs.YtfbhcbcpeocmcaaDoor
