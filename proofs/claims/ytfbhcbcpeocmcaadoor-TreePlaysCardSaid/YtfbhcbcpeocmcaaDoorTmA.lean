/- What the small functions of package tree do: look, link, isLeaf, toward, count, and those that only tell: contracts of the walk. -/
import Derived.Test.YtfbhcbcpeocmcaaDoorTm
import Derived.IntWalk
namespace Go.Proofs.YtfbhcbcpeocmcaaDoor
open Go Go.RowKit Go.ChangeAt Tr

theorem Below.allocs {a w : World} (hb : Below a.heap.size a w) (o : Obj) : Below a.heap.size a (w.alloc o) := hb.alloc hb.size o
theorem Below.drews {a w : World} (hb : Below a.heap.size a w) : Below a.heap.size a w.drew := hb.drewN 1
theorem ret_ptr {a b : Option Addr} (h : a = b) : Ending.returned (.pointer a) = .returned (.pointer b) := by rw [h]
theorem Mv.tree {base : Nat} {w w' : World} {t : Nat} {S : St} (h : TM base w t S) (hb : Stay (· = t) w w') (A : Lk) (v : Nat) : Mv w w' S { S with rt := A, vis := v } := by
  obtain ⟨g, a, c, h⟩ := h
  exact ⟨hb.mono (fun i _ e => by subst e; show S.own i ≠ none; rw [h.ownt]; exact fun h => by cases h), fun b hb => .inl hb⟩
/-- The state with another number of nodes looked at. -/
def St.see (S : St) (v : Nat) : St := { S with vis := v }
theorem tlook {base t k n : Nat} {S : St} {d : Nd} (w : World) (h : TM base w t S) (hk : S.sto k = some (n, d)) (hv : S.vis < 4611686018427387904) :
    Calls Tryd.prog 37 #[.pointer (some ⟨t, 0, none⟩), .int .i64 k] w fun e w' => e = .returned (.pointer (some ⟨n, 0, none⟩)) ∧ TM base w' t (S.see (S.vis + 1)) ∧ Stay (· = t) w w' := by
  have H := Lib.hid h
  obtain ⟨g, a, c, hx⟩ := h
  have hin := hx.inT hk
  obtain ⟨lb, rfl, hlc, hcm, hcell, hfz, hown⟩ := hx.list hin
  have hne : ¬ lb = t := fun e => by rw [e, hx.ownt] at hown; cases hown
  rw [hk] at hcell
  have hcell' : w.cell? ⟨lb, k, none⟩ = some (.pointer (some ⟨n, 0, none⟩)) := hcell
  have C := cellsT hx.cells
  have c1 := C.c1
  have c6 := C.c6
  have f6 := C.fz 6
  have hk1 : (k : Int) < S.T.length := by omega
  unfold maxLen at hcm
  have hcm2 : (c : Int) ≤ 9223372036854775807 := by omega
  have hlc2 : (S.T.length : Int) ≤ c := by omega
  clear hcell hx hk hown hfz C hcm
  go_enter Tryd.func37, Tryd.ntmps37
  go_wp2
  go_ret
  have hst : Stay (· = t) w (w.setCell ⟨t, 6, none⟩ (.int .i64 ((S.vis + 1 : Nat) : Int))) := Stay.setCell (S := (· = t)) (Stay.refl _ _) (p := ⟨t, 6, none⟩) (.inr rfl) _
  exact ⟨rfl, H.out.setT S.rt (S.vis + 1) hst (fun p a n c e => set_of e _), hst⟩
theorem tisleaf {n : Nat} {p : Option Addr} (w : World) (h : w.cell? ⟨n, 0, none⟩ = some (.pointer p)) :
    Calls Tryd.prog 41 #[.pointer (some ⟨n, 0, none⟩)] w fun e w' => e = .returned (.bool p.isSome) ∧ w = w' := by
  cases p with
  | none =>
    go_enter Tryd.func41, Tryd.ntmps41
    go_wp2
    go_ret
    exact ⟨rfl, rfl⟩
  | some a =>
    go_enter Tryd.func41, Tryd.ntmps41
    go_wp2
    go_ret
    exact ⟨rfl, rfl⟩
theorem ttoward_0 {n k len : Nat} (w : World) (h : w.cell? ⟨n, 2, none⟩ = some (.int .i64 len)) (hk : k < len) :
    Calls Tryd.prog 42 #[.pointer (some ⟨n, 0, none⟩), .int .i64 k] w fun e w' => e = .returned (.tuple #[.int .i64 0, .int .i64 k]) ∧ w = w' := by
  have h1 : (k : Int) < len := by omega
  go_enter Tryd.func42, Tryd.ntmps42
  go_wp2
  go_ret2
  exact ⟨rfl, rfl⟩
theorem ttoward_1 {n k len m : Nat} (w : World) (h : w.cell? ⟨n, 2, none⟩ = some (.int .i64 len)) (hk : k = len + m) (hm : k < 4611686018427387904) :
    Calls Tryd.prog 42 #[.pointer (some ⟨n, 0, none⟩), .int .i64 k] w fun e w' => e = .returned (.tuple #[.int .i64 1, .int .i64 m]) ∧ ∃ x, w' = w.drewN x := by
  have h1 : ¬ (k : Int) < len := by omega
  have h2 : (k : Int) - len = m := by omega
  have h3 : (m : Int) < 4611686018427387904 := by omega
  clear hk
  go_enter Tryd.func42, Tryd.ntmps42
  go_wp2_with fail
  go_quiet (fail)
  go_wp2_with fail
  go_ret2
  exact ⟨rfl, _, rfl⟩
theorem tcount (A : Lk) (b : Bool) (w : World) (h1 : A.ones ≤ A.len) (h2 : A.len < 4611686018427387904) :
    Calls Tryd.prog 48 #[lkv A, .bool b] w fun e w' => e = .returned (.int .i64 ((if b then A.ones else A.len - A.ones : Nat) : Int)) ∧ Below w.heap.size w w' := by
  obtain ⟨num, len, ones, ht⟩ := A
  have h3 : ((len - ones : Nat) : Int) = len - ones := by simp only at h1; omega
  have H3 := Lib.hid h3
  simp only at h1 h2
  clear h3
  unfold lkv
  simp only
  cases b
  · go_enter Tryd.func48, Tryd.ntmps48
    go_wp2
    go_ret
    exact ⟨ret_int H3.out.symm, (Below.refl _ _).alloc (Nat.le_refl _) _⟩
  · go_enter Tryd.func48, Tryd.ntmps48
    go_wp2
    go_ret
    exact ⟨rfl, (Below.refl _ _).alloc (Nat.le_refl _) _⟩
set_option maxHeartbeats 1600000 in
theorem tlink_lf {base t k n b : Nat} {S : St} {l : List Bool} (w : World) (h : TM base w t S) (hk : S.sto k = some (n, .lf b l)) :
    Calls Tryd.prog 53 #[.pointer (some ⟨t, 0, none⟩), .int .i64 k] w fun e w' => e = .returned (lkv (lkl k l)) ∧ Below w.heap.size w w' := by
  obtain ⟨g, a, c, hx⟩ := h
  have hin := hx.inT hk
  obtain ⟨lb, rfl, hlc, hcm, hcell, hfz, hown⟩ := hx.list hin
  obtain ⟨hon, ⟨A, B, hn⟩, hblk⟩ := hx.nds _ _ _ hk
  rw [hk] at hcell
  have hcell' : w.cell? ⟨lb, k, none⟩ = some (.pointer (some ⟨n, 0, none⟩)) := hcell
  have c1 := (cellsT hx.cells).c1
  have n0 := (cellsN hn).c0
  have hk1 : (k : Int) < S.T.length := by omega
  have hlt := hblk.lt
  unfold maxLen at hcm
  have hcm2 : (c : Int) ≤ 9223372036854775807 := by omega
  have hlc2 : (S.T.length : Int) ≤ c := by omega
  have HB := Lib.hid hblk
  have hlb := block_lt_of_cell hcell'
  have hnb := block_lt_of_cell n0
  have htb := block_lt_of_cell c1
  clear hcell hx hk hown hfz hcm hn hblk hon
  have d1 : (w.alloc (Obj.cells #[.int .i64 0, .int .i64 0, .int .i64 0, .int .i64 0] 59)).cell? ⟨n, 0, none⟩ = some (.pointer (some ⟨b, 0, none⟩)) := (World.cell?_alloc_past _ _ _ hnb).trans n0
  have hb1 := (Below.refl w.heap.size w).alloc (Nat.le_refl _) (Obj.cells #[.int .i64 0, .int .i64 0, .int .i64 0, .int .i64 0] 59)
  have hi1 := HB.out.below hb1 hlt
  go_enter Tryd.func53, Tryd.ntmps53
  go_wp2_with (first
    | (go_at_call 41; (have cc := tisleaf _ d1); (with_reducible refine cc.mono ?_); rintro e w' ⟨rfl, rfl⟩))
  have hi2 : IsBlk (w.alloc (Obj.cells #[.int .i64 0, .int .i64 0, .int .i64 0, .int .i64 0] 59)).drew b l := hi1
  go_region_law (first
    | (go_simp; (go_at_call 67; (have cc := blen_any _ hi2); (with_reducible refine cc.mono ?_); rintro e w' ⟨rfl, rfl⟩))
    | (go_simp; (go_at_call 68; (have cc := bones_any _ hi2); (with_reducible refine cc.mono ?_); rintro e w' ⟨rfl, rfl⟩)))
  all_goals
    go_wp2_with fail
    try simp only [Exit.inBlock, Exit.then]
    refine bodyPost_ret (v := lkv (lkl k l)) (by simp [results, Tryd.results53, go_sem, lkv, lkl]) rfl ⟨rfl, ?_⟩
    exact ((Below.refl _ _).alloc (Nat.le_refl _) _).drewN 1
set_option maxHeartbeats 1600000 in
theorem tlink_pr {base t k n : Nat} {S : St} {A B : Lk} (w : World) (h : TM base w t S) (hk : S.sto k = some (n, .pr A B)) (h1 : A.len + B.len < 4611686018427387904) (h2 : A.ones + B.ones < 4611686018427387904) (h3 : A.ht < 4611686018427387904) (h4 : B.ht < 4611686018427387904) :
    Calls Tryd.prog 53 #[.pointer (some ⟨t, 0, none⟩), .int .i64 k] w fun e w' => e = .returned (lkv (mk k A B)) ∧ Below w.heap.size w w' := by
  obtain ⟨g, a, c, hx⟩ := h
  have hin := hx.inT hk
  obtain ⟨lb, rfl, hlc, hcm, hcell, hfz, hown⟩ := hx.list hin
  obtain ⟨hon, hn⟩ := hx.nds _ _ _ hk
  rw [hk] at hcell
  have hcell' : w.cell? ⟨lb, k, none⟩ = some (.pointer (some ⟨n, 0, none⟩)) := hcell
  have c1 := (cellsT hx.cells).c1
  have hn' : w.heap[n]? = some (.cells (ndv none A B) 74 (0, 0)) := hn
  obtain ⟨n0, n1, n2, n3, n4, n5, n6, n7, n8, _⟩ := cellsN hn'
  have hk1 : (k : Int) < S.T.length := by omega
  unfold maxLen at hcm
  have hcm2 : (c : Int) ≤ 9223372036854775807 := by omega
  have hlc2 : (S.T.length : Int) ≤ c := by omega
  have hlb := block_lt_of_cell hcell'
  have hnb := block_lt_of_cell n0
  have htb := block_lt_of_cell c1
  clear hcell hx hk hown hfz hcm hn hon hn'
  obtain ⟨a0, a1, a2, a3⟩ := A
  obtain ⟨b0, b1, b2, b3⟩ := B
  simp only at n1 n2 n3 n4 n5 n6 n7 n8 h1 h2 h3 h4
  have h1a : (a1 : Int) + b1 < 4611686018427387904 := by omega
  have h2a : (a2 : Int) + b2 < 4611686018427387904 := by omega
  have d1 : (w.alloc (Obj.cells #[.int .i64 0, .int .i64 0, .int .i64 0, .int .i64 0] 59)).cell? ⟨n, 0, none⟩ = some (.pointer none) := (World.cell?_alloc_past _ _ _ hnb).trans n0
  have K : ∀ w', Below w.heap.size w w' → w'.cell? ⟨n, 1, none⟩ = some (.int .i64 a0) ∧ w'.cell? ⟨n, 2, none⟩ = some (.int .i64 a1) ∧ w'.cell? ⟨n, 3, none⟩ = some (.int .i64 a2) ∧ w'.cell? ⟨n, 4, none⟩ = some (.int .i64 a3) ∧ w'.cell? ⟨n, 5, none⟩ = some (.int .i64 b0) ∧ w'.cell? ⟨n, 6, none⟩ = some (.int .i64 b1) ∧ w'.cell? ⟨n, 7, none⟩ = some (.int .i64 b2) ∧ w'.cell? ⟨n, 8, none⟩ = some (.int .i64 b3) :=
    fun w' h => ⟨(h.cell (p := ⟨n, 1, none⟩) hnb).trans n1, (h.cell (p := ⟨n, 2, none⟩) hnb).trans n2, (h.cell (p := ⟨n, 3, none⟩) hnb).trans n3, (h.cell (p := ⟨n, 4, none⟩) hnb).trans n4, (h.cell (p := ⟨n, 5, none⟩) hnb).trans n5, (h.cell (p := ⟨n, 6, none⟩) hnb).trans n6, (h.cell (p := ⟨n, 7, none⟩) hnb).trans n7, (h.cell (p := ⟨n, 8, none⟩) hnb).trans n8⟩
  clear n1 n2 n3 n4 n5 n6 n7 n8
  rcases Nat.lt_or_ge a3 b3 with hlt | hlt
  · have hm : (a3 : Int) < b3 := by omega
    have HM := Lib.hid (show max a3 b3 = b3 by omega)
    go_enter Tryd.func53, Tryd.ntmps53
    go_wp2_with (first
      | (go_at_call 41; (have cc := tisleaf _ d1); (with_reducible refine cc.mono ?_); rintro e w' ⟨rfl, rfl⟩))
    go_region_held3 (fun w' => w'.cell? ⟨n, 1, none⟩ = some (.int .i64 a0) ∧ w'.cell? ⟨n, 2, none⟩ = some (.int .i64 a1) ∧ w'.cell? ⟨n, 3, none⟩ = some (.int .i64 a2) ∧ w'.cell? ⟨n, 4, none⟩ = some (.int .i64 a3) ∧ w'.cell? ⟨n, 5, none⟩ = some (.int .i64 b0) ∧ w'.cell? ⟨n, 6, none⟩ = some (.int .i64 b1) ∧ w'.cell? ⟨n, 7, none⟩ = some (.int .i64 b2) ∧ w'.cell? ⟨n, 8, none⟩ = some (.int .i64 b3))
      (first | (refine K _ ?_; (repeat (first | exact Below.refl _ _ | refine Below.drews ?_ | refine Below.allocs ?_ _))) | go_keep) (fail)
    all_goals
      go_wp2_with fail
      try simp only [Exit.inBlock, Exit.then]
      refine bodyPost_ret (v := .agg #[.int .i64 k, .int .i64 (a1 + b1), .int .i64 (a2 + b2), .int .i64 (1 + b3)]) (by simp [results, Tryd.results53, go_sem]) rfl ⟨?_, ?_⟩
      · unfold lkv mk
        simp only
        rw [HM.out]
        congr 2
      · repeat (first | exact Below.refl _ _ | refine Below.drews ?_ | refine Below.allocs ?_ _)
  · have hm : ¬ (a3 : Int) < b3 := by omega
    have HM := Lib.hid (show max a3 b3 = a3 by omega)
    go_enter Tryd.func53, Tryd.ntmps53
    go_wp2_with (first
      | (go_at_call 41; (have cc := tisleaf _ d1); (with_reducible refine cc.mono ?_); rintro e w' ⟨rfl, rfl⟩))
    go_region_held3 (fun w' => w'.cell? ⟨n, 1, none⟩ = some (.int .i64 a0) ∧ w'.cell? ⟨n, 2, none⟩ = some (.int .i64 a1) ∧ w'.cell? ⟨n, 3, none⟩ = some (.int .i64 a2) ∧ w'.cell? ⟨n, 4, none⟩ = some (.int .i64 a3) ∧ w'.cell? ⟨n, 5, none⟩ = some (.int .i64 b0) ∧ w'.cell? ⟨n, 6, none⟩ = some (.int .i64 b1) ∧ w'.cell? ⟨n, 7, none⟩ = some (.int .i64 b2) ∧ w'.cell? ⟨n, 8, none⟩ = some (.int .i64 b3))
      (first | (refine K _ ?_; (repeat (first | exact Below.refl _ _ | refine Below.drews ?_ | refine Below.allocs ?_ _))) | go_keep) (fail)
    all_goals
      go_wp2_with fail
      try simp only [Exit.inBlock, Exit.then]
      refine bodyPost_ret (v := .agg #[.int .i64 k, .int .i64 (a1 + b1), .int .i64 (a2 + b2), .int .i64 (1 + a3)]) (by simp [results, Tryd.results53, go_sem]) rfl ⟨?_, ?_⟩
      · unfold lkv mk
        simp only
        rw [HM.out]
        congr 2
      · repeat (first | exact Below.refl _ _ | refine Below.drews ?_ | refine Below.allocs ?_ _)
end Go.Proofs.YtfbhcbcpeocmcaaDoor
