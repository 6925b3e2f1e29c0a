/- gather and All; New; Live, Made and Shape: contracts of the walk. New, Insert and Delete of a tree: contracts of the walk. A tree's calls, as the statements make them. -/
import Derived.Test.YthbbokoeiifjdaaGreatDoorTrf
import Derived.Test.YthbbokoeiifjdaaGreatDoorTrd
import Derived.Laws.MakeOwn
import Derived.Test.YthbbokoeiifjdaaGreatDoorBlo
namespace Go.Proofs.YthbbokoeiifjdaaGreatDoor
open Go Go.RowKit Go.ChangeAt Tr

theorem ret_val {a b : Value} (h : a = b) : Ending.returned a = .returned b := by rw [h]
/-- What is known of gathering a smaller tree. -/
def GathIH (base t : Nat) (a : T) : Prop :=
  ∀ (w : World) (S : St) (v : Value) (m : List Bool) (B : Nat), TM base w t S → Is S.sto a → (∀ b x, S.own b = some x → b < B) → OwnB B w v m → B ≤ w.heap.size → m.length + a.bits.length ≤ 1000000000 →
    Calls Tryz.prog 88 #[.pointer (some ⟨t, 0, none⟩), v, .int .i64 a.lk.num] w fun e w' => ∃ v', e = .returned v' ∧ OwnB B w' v' (m ++ a.bits) ∧ Below B w w'
theorem TM.low {base t B : Nat} {w w' : World} {S : St} (h : TM base w t S) (hB : ∀ b x, S.own b = some x → b < B) (hb : Below B w w') : TM base w' t S :=
  h.stay (Z := fun i => B ≤ i) ⟨hb.os, hb.tape, hb.output, hb.size, fun k _ hs => hb.block k (by omega)⟩ (fun b hb2 hs => by
    cases e : S.own b with
    | none => exact hb2 e
    | some x => have := hB b x e; omega)
set_option maxHeartbeats 1600000 in
theorem tgather_leaf {base t k B : Nat} {S : St} {l m : List Bool} {v : Value} (w : World) (h : TM base w t S) (hi : Is S.sto (.leaf k l)) (hpos : 0 < l.length) (hown : OwnB B w v m) (hBw : B ≤ w.heap.size) (hlen : m.length + l.length ≤ 1000000000) :
    Calls Tryz.prog 88 #[.pointer (some ⟨t, 0, none⟩), v, .int .i64 k] w fun e w' => ∃ v', e = .returned v' ∧ OwnB B w' v' (m ++ l) ∧ Below B w w' := by
  obtain ⟨i0, ii, hz0, hz1, hz2⟩ := info_parts infoB
  obtain ⟨n, b, hk⟩ := hi
  obtain ⟨len, c, lb, e1, _, e2, e3, e4, e5, e6, e7⟩ := h.seen hk
  obtain ⟨_, _, _, hN, hBl, _, _⟩ := h.lf hk
  have n0 := hN.c0
  have keyL := tisleaf w n0
  have keyA := ball_any w hBl
  have HOWN := Lib.hid hown
  clear h hk hN hBl hown
  go_enter Tryz.func88, Tryz.ntmps88
  go_wp2_with fail
  (with_reducible refine keyL.mono ?_); rintro e w1' ⟨rfl, rfl⟩
  go_wp2_with fail
  (with_reducible refine keyA.mono ?_); rintro e w1 ⟨v1, rfl, hown1, hnil1, hb1⟩
  obtain ⟨b2, cap2, rfl, _, hlt2, hc2, hm2, hcell2⟩ := OwnB.long hown1 hpos
  have hz := hb1.size
  have hownv := ownsRow_below HOWN.out hb1
  have HB1 := Lib.hid hb1
  have HOV := Lib.hid hownv
  clear hown1 hnil1 hb1 hownv keyL keyA
  go_wp2_with (first
    | (at_builtin; (refine wpList_append_own _ rfl (.tmp 17) (.tmp 22) 116 rfl B 4 i0 (.bool false) 1 1 Tryz.underlying116 ii hz0 hz1 hz2 rfl (by decide) _ _ _ rfl HOV.out ⟨b2, 0, none⟩ l.length cap2 (l.map Value.bool) rfl (by rw [List.length_map, Nat.mul_one]) (row_cells hcell2) (bools_one _) (by unfold maxLen; omega) (by omega) (by omega) ?_); intro v3 w3 hown3 hgrow3 hnil3))
  go_ret
  exact ⟨v3, rfl, OwnB.app hown3, (HB1.out.mono hBw).grown hgrow3 (by omega) (fun q hq => (HOV.out.lt q hq).1)⟩
set_option maxHeartbeats 3200000 in
theorem tgather_node {base t k B : Nat} {S : St} {a b : T} {m : List Bool} {v : Value} (w : World) (iha : GathIH base t a) (ihb : GathIH base t b) (h : TM base w t S) (hi : Is S.sto (.node k a b)) (hB : ∀ b x, S.own b = some x → b < B) (hown : OwnB B w v m) (hBw : B ≤ w.heap.size) (hlen : m.length + (T.node k a b).bits.length ≤ 1000000000) :
    Calls Tryz.prog 88 #[.pointer (some ⟨t, 0, none⟩), v, .int .i64 k] w fun e w' => ∃ v', e = .returned v' ∧ OwnB B w' v' (m ++ (T.node k a b).bits) ∧ Below B w w' := by
  obtain ⟨⟨n, hk⟩, hia, hib⟩ := hi
  obtain ⟨len, c, lb, e1, _, e2, e3, e4, e5, e6, e7⟩ := h.seen hk
  obtain ⟨n0, n1, n2, n3, n4, n5, n6, n7, n8, _⟩ := h.pr hk
  have keyL := tisleaf w n0
  have el : (T.node k a b).bits = a.bits ++ b.bits := rfl
  rw [el] at hlen ⊢
  rw [List.length_append] at hlen
  have key1 := iha w.drew S v m B (h.drewN 1) hia hB hown hBw (by omega)
  have HOWN := Lib.hid hown
  have H := Lib.hid h
  have HK := Lib.hid hk
  have HB := Lib.hid hB
  have HIB := Lib.hid hib
  clear h hk hown hB hia hib el
  go_enter Tryz.func88, Tryz.ntmps88
  go_wp2_with fail
  (with_reducible refine keyL.mono ?_); rintro e w1' ⟨rfl, rfl⟩
  go_wp2_with fail
  go_region_law (first
    | (go_simp; (go_at_call 88; (with_reducible refine key1.mono ?_); rintro e w2 ⟨v1, rfl, hown1, hb1⟩; (have hb1' : Below B w w2 := (Below.drew (Below.refl _ w)).trans hb1); (have hT2 := H.out.low HB.out hb1'); (have N2 := hT2.pr HK.out); (have m5 := N2.c5); (have hz2 := hb1'.size); (have key2 := ihb w2 S v1 (m ++ a.bits) B hT2 HIB.out HB.out hown1 (by omega) (by rw [List.length_append]; omega)); (have HB1 := Lib.hid hb1'); clear hown1 hb1 hb1' hT2 N2))
    | (go_simp; (go_at_call 88; (with_reducible refine key2.mono ?_); rintro e w3 ⟨v2, rfl, hown2, hb2⟩; (have HO2 := Lib.hid hown2); (have HB2 := Lib.hid (HB1.out.trans hb2)); clear hown2 hb2)))
  all_goals
    go_wp2_with fail
    go_ret
    exact ⟨v2, rfl, by rw [← List.append_assoc]; exact HO2.out, HB2.out⟩
theorem tgather_full (base t : Nat) : ∀ a : T, a.full → GathIH base t a := by
  intro a
  induction a with
  | leaf k l =>
    intro f w S v m B h hi hB ho hw hl
    have f1 : 32 ≤ l.length := f.1
    exact tgather_leaf w h hi (Nat.lt_of_lt_of_le (by decide) f1) ho hw (by exact hl)
  | node k a b iha ihb =>
    intro f w S v m B h hi hB ho hw hl
    exact tgather_node w (iha f.1) (ihb f.2) h hi hB ho hw hl
theorem tgather {base t : Nat} (a : T) (ho : a.ok) (hpos : 0 < a.bits.length) : GathIH base t a := by
  cases a with
  | leaf k l =>
    intro w S v m B h hi hB ho hw hl
    exact tgather_leaf w h hi hpos ho hw (by exact hl)
  | node k a b => exact tgather_full base t (.node k a b) ho
theorem make_bools (n : Nat) (hn : n ≤ 1000000000) : ∃ C : Array Value, C.size = n ∧ ∀ w, (Instr.makeSlice 116 (.int .i64 0) (.int .i64 (n : Int))).run Tryz.prog w = .ok (.slice (some ⟨w.heap.size, 0, none⟩) 0 n) (w.alloc (.cells C 4)) := by
  obtain ⟨i0, ii, hz0, hz1, hz2⟩ := info_parts infoB
  refine ⟨madeCells (Value.bool false).cells (n * 1), ?_, fun w => ?_⟩
  · have := size_madeCells (Value.bool false).cells (n * 1)
    omega
  · have hr := run_make (P := Tryz.prog) w 116 4 i0 (.bool false) Tryz.underlying116 ii hz0 .i64 .i64 0 n (Int.le_refl _) (by omega) (by rw [hz2]; omega) (by omega)
    rw [hz1, Int.toNat_natCast] at hr
    exact hr
theorem tall_nil (w : World) : Calls Tryz.prog 77 #[.pointer none] w fun e w' => e = .returned (.slice none 0 0) ∧ w = w' := by
  have key := tlen_nil w
  go_enter Tryz.func77, Tryz.ntmps77
  go_wp2_with fail
  (with_reducible refine key.mono ?_); rintro e w1' ⟨rfl, rfl⟩
  go_wp2_with fail
  go_ret
  exact ⟨rfl, rfl⟩
set_option maxHeartbeats 1600000 in
theorem tall {base t : Nat} {S : St} {m : List Bool} (w : World) (h : Tre base w t S m) (hlen : m.length ≤ 1000000000) :
    Calls Tryz.prog 77 #[.pointer (some ⟨t, 0, none⟩)] w fun e w' => ∃ v, e = .returned v ∧ OwnB w.heap.size w' v m ∧ Below w.heap.size w w' := by
  have keyN := tlen w h
  rcases h.2 with ⟨rfl, h1, _, h3, _⟩ | ⟨a, h1, h2, h3, h4, rfl, h6, h7, _⟩
  · have keyN : Calls Tryz.prog 61 #[.pointer (some ⟨t, 0, none⟩)] w fun e w' => e = .returned (.int .i64 0) ∧ w = w' := keyN
    go_enter Tryz.func77, Tryz.ntmps77
    go_wp2_with fail
    (with_reducible refine keyN.mono ?_); rintro e w1' ⟨rfl, rfl⟩
    go_wp2_with fail
    go_ret
    exact ⟨_, rfl, World.ownsRow_nil _ _ _ _, Below.refl _ _⟩
  · obtain ⟨L, hL⟩ : ∃ L, a.bits.length = L := ⟨_, rfl⟩
    rw [hL] at keyN hlen h6
    obtain ⟨C, hC, hmk⟩ := make_bools L hlen
    have hcc : ∃ p q n c, w.heap[t]? = some (.cells (trv p q n c S.rt S.vis) 108 (0, 0)) := by
      obtain ⟨⟨g, q, c, hh⟩, _⟩ := h
      exact ⟨_, _, _, _, hh.cells⟩
    obtain ⟨p, q, n, c, hc⟩ := hcc
    rw [h7] at hc
    have K : ∀ w', Below w.heap.size w w' → w'.cell? ⟨t, 2, none⟩ = some (.int .i64 a.lk.num) ∧ w'.cell? ⟨t, 3, none⟩ = some (.int .i64 L) := fun w' hb => by
      have hc' := Below.keptB hb hc (lt_of_block hc)
      refine ⟨(cellsT hc').c2, ?_⟩
      have := (cellsT hc').c3
      rw [T.lk_len, hL] at this
      exact this
    have hLi : ¬ (L : Int) = 0 := by omega
    have hLb : ((L : Int) == 0) = false := by simp; omega
    have hT1 : TM base (w.alloc (.cells C 4)).drew t S := h.1.below (Below.drews (Below.allocs (Below.refl _ _) _))
    have hown : OwnB w.heap.size (w.alloc (.cells C 4)).drew (.slice (some ⟨w.heap.size, 0, none⟩) 0 L) [] := World.ownsRow_made w C L (Nat.le_refl _) (by unfold maxLen; omega) (by rw [hC, Nat.mul_one])
    have key := tgather (base := base) (t := t) a h4 (by omega) _ S _ [] w.heap.size hT1 h1 (fun b x e => by obtain ⟨⟨g, q, c, hh⟩, _⟩ := h; exact (hh.lab b x e).2) hown (by simp) (by rw [hL]; simpa using hlen)
    have hb1 : Below w.heap.size w (w.alloc (.cells C 4)).drew := Below.drews (Below.allocs (Below.refl _ _) _)
    have HB1 := Lib.hid hb1
    clear hC hc h h1 h2 h3 h4 h7 hT1 hown hb1 hL
    go_enter Tryz.func77, Tryz.ntmps77
    go_wp2_with fail
    (with_reducible refine keyN.mono ?_); rintro e w1' ⟨rfl, rfl⟩
    go_wp2_with fail
    have k0 := K _ (Below.refl _ w)
    have k1 := K _ (Below.allocs (Below.refl _ w) (.cells C 4))
    obtain ⟨k2, k3⟩ := k0
    obtain ⟨k4, k5⟩ := k1
    go_region_law (first | (go_simp; (go_at_call 88; (with_reducible refine key.mono ?_); rintro e w2 ⟨v1, rfl, hown1, hb2⟩; (have HO := Lib.hid hown1); (have HB2 := Lib.hid (HB1.out.trans hb2)); clear hown1 hb2)))
    all_goals
      go_wp2_with fail
      go_ret
      exact ⟨_, rfl, HO.out, HB2.out⟩
theorem TM.arena {base t : Nat} {w : World} {S : St} (h : TM base w t S) : ∃ g : Option Nat, w.cell? ⟨t, 0, none⟩ = some (.pointer (g.map fun g => ⟨g, 0, none⟩)) ∧ ((g = none ∧ S.T = [] ∧ S.F = []) ∨ ∃ h, g = some h ∧ ArM base 146 (fun b => S.own b = some .ar) w h 268435456 S.T S.F) ∧ Ar.S 268435456 S.T S.F := by
  obtain ⟨g, a, c, hx⟩ := h
  exact ⟨g, (cellsT hx.cells).c0, hx.ar, hx.sar⟩
theorem TM.talive {base t : Nat} {w : World} {S : St} (h : TM base w t S) : ∃ p, w.cell? ⟨t, 0, none⟩ = some (.pointer p) ∧ Calls Tryz.prog 108 #[.pointer p] w fun e w' => e = .returned (.int .i64 S.live) ∧ ∃ n, w' = w.drewN n := by
  obtain ⟨g, c0, har, hs⟩ := h.arena
  refine ⟨_, c0, ?_⟩
  rcases har with ⟨rfl, hT, hF⟩ | ⟨gg, rfl, har⟩
  · have hl : S.live = 0 := by unfold St.live; rw [hT, hF]; rfl
    rw [hl]
    exact (alive_nil w).mono fun _ _ ⟨h1, h2⟩ => ⟨h1, 0, h2.symm⟩
  · exact alive_n w har hs rfl
/-- The shape that the document asks for, of a tree. -/
def shapeOf (S : St) : Value := .agg #[.int .i64 S.rt.len, .int .i64 S.rt.ht, .int .i64 ((S.live + 1) / 2 : Nat), .int .i64 S.live]
end Go.Proofs.YthbbokoeiifjdaaGreatDoor
namespace Go.Proofs.YthbbokoeiifjdaaGreatDoor
open Go Go.RowKit Go.ChangeAt Tr

/-- A tree that was made just now: nothing hangs in it. -/
def bare (t : Nat) : St := ⟨fun b => if b = t then some .tr else none, fun _ => none, [], [], ⟨0, 0, 0, 0⟩, 0⟩
abbrev ZT : Obj := Obj.cells #[.pointer none, .slice none 0 0, .int .i64 0, .int .i64 0, .int .i64 0, .int .i64 0, .int .i64 0] 108
theorem TM.bare (w : World) : TM w.heap.size (w.alloc ZT) w.heap.size (bare w.heap.size) := by
  refine ⟨none, none, 0, fun b x e => ?_, if_pos rfl, alloc_of, .inl ⟨rfl, rfl, rfl⟩, World.ownsRow_nil _ _ _ _, fun b e => by simp [Value.ownBlock] at e, Ar.S.nil (by decide), fun k => ⟨fun _ => by simp [Go.Proofs.YthbbokoeiifjdaaGreatDoor.bare], fun _ => rfl⟩, (fun k n d e => by cases e), (fun k n b l e => by cases e)⟩
  have e' : (if b = w.heap.size then some Who.tr else none) = some x := e
  by_cases h : b = w.heap.size
  · subst h; simp
  · rw [if_neg h] at e'; cases e'
theorem TM.root {base : Nat} {w : World} {t : Nat} {S : St} (h : TM base w t S) (A : Lk) :
    TM base ((((w.setCell ⟨t, 2, none⟩ (.int .i64 A.num)).setCell ⟨t, 3, none⟩ (.int .i64 A.len)).setCell ⟨t, 4, none⟩ (.int .i64 A.ones)).setCell ⟨t, 5, none⟩ (.int .i64 A.ht)) t { S with rt := A } ∧ Stay (· = t) w ((((w.setCell ⟨t, 2, none⟩ (.int .i64 A.num)).setCell ⟨t, 3, none⟩ (.int .i64 A.len)).setCell ⟨t, 4, none⟩ (.int .i64 A.ones)).setCell ⟨t, 5, none⟩ (.int .i64 A.ht)) := by
  have hst := Stay.set4 (S := (· = t)) (Stay.refl _ w) rfl 2 3 4 5 (.int .i64 A.num) (.int .i64 A.len) (.int .i64 A.ones) (.int .i64 A.ht)
  exact ⟨h.setT A S.vis hst (fun p a n c e => set4_of (i := 2) e A), hst⟩
theorem TM.cT {base : Nat} {w : World} {t : Nat} {S : St} (h : TM base w t S) : ∃ p a n c, CellsT w t p a n c S.rt S.vis := by
  obtain ⟨g, a, c, hx⟩ := h
  exact ⟨_, _, _, _, cellsT hx.cells⟩
/-- What is told of a new tree. -/
structure Newly (base : Nat) (w w' : World) (t : Nat) (S : St) (m : List Bool) : Prop where
  tre : Tre base w' t S m
  below : Below base w w'
  vis : S.vis = 0
  made : S.T.length = S.live
theorem tnew_none (w : World) :
    Calls Tryz.prog 89 #[.slice none 0 0] w fun e w' => ∃ S, e = .returned (.pointer (some ⟨w.heap.size, 0, none⟩)) ∧ Newly w.heap.size w w' w.heap.size S [] := by
  go_enter Tryz.func89, Tryz.ntmps89
  go_wp2_with fail
  go_ret
  exact ⟨bare w.heap.size, rfl, ⟨TM.bare w, .inl ⟨rfl, rfl, rfl, rfl, rfl⟩⟩, Below.allocs (Below.refl _ _) _, rfl, rfl⟩
theorem tnew_zero (a : Option Addr) (cap : Nat) (w : World) :
    Calls Tryz.prog 89 #[.slice a 0 cap] w fun e w' => ∃ S, e = .returned (.pointer (some ⟨w.heap.size, 0, none⟩)) ∧ Newly w.heap.size w w' w.heap.size S [] := by
  go_enter Tryz.func89, Tryz.ntmps89
  go_wp2_with fail
  go_ret
  exact ⟨bare w.heap.size, rfl, ⟨TM.bare w, .inl ⟨rfl, rfl, rfl, rfl, rfl⟩⟩, Below.allocs (Below.refl _ _) _, rfl, rfl⟩
set_option maxHeartbeats 1600000 in
theorem tnew_some {b off cap : Nat} {m : List Bool} (w : World) (hr : RdB w (.slice (some ⟨b, off, none⟩) m.length cap) m) (hpos : 0 < m.length) (hlen : m.length ≤ 100000000) :
    Calls Tryz.prog 89 #[.slice (some ⟨b, off, none⟩) m.length cap] w fun e w' => ∃ S, e = .returned (.pointer (some ⟨w.heap.size, 0, none⟩)) ∧ Newly w.heap.size w w' w.heap.size S m := by
  have hb0 : Below w.heap.size w (w.alloc ZT) := Below.allocs (Below.refl _ _) _
  have hbl := hr.form.2.1
  have key := tbuild w.heap.size w.heap.size m.length (w.alloc ZT) (bare w.heap.size) m b off cap (Nat.le_refl _) (TM.bare w) (hr.below hb0) (if_neg (Nat.ne_of_lt hbl)) hpos (by show 0 - 0 + _ ≤ _; omega)
  have hp1 : (0 : Int) < m.length := by omega
  unfold lkv at key
  clear hr hbl
  go_enter Tryz.func89, Tryz.ntmps89
  go_wp2_with fail
  (with_reducible refine key.mono ?_); rintro e w1 ⟨a, S, rfl, hT, hV, hB, hE⟩
  obtain ⟨p, q, n, c, C⟩ := hT.cT
  obtain ⟨_, _, c2, c3, c4, c5, _, fz⟩ := C
  have f2 := fz 2
  have f3 := fz 3
  have f4 := fz 4
  have f5 := fz 5
  have HR := Lib.hid (hT.root a.lk)
  have HV := Lib.hid hV
  have HB := Lib.hid hB
  have HE := Lib.hid hE
  clear hT hV hB hE fz key
  go_wp2_with fail
  go_ret
  have hl : S.live = a.ks.length := by have := HB.out.live; rw [this]; show 0 - 0 + _ = _; omega
  refine ⟨{ S with rt := a.lk }, rfl, ⟨⟨HR.out.1, .inr ⟨a, HB.out.is, HB.out.nd, HE.out.bal, HE.out.ok, HE.out.bits, hpos, rfl, hl⟩⟩, ?_, HB.out.vis, ?_⟩⟩
  · refine Stay.below (S := fun i => w.heap.size ≤ i) ?_ (Nat.le_refl _) (fun i _ h => h)
    have hV0 := HV.out.st
    refine ((Stay.of_below (S := fun i => w.heap.size ≤ i) hb0).trans hV0 (fun i hi hs => ?_)).trans HR.out.2 (fun i _ e => by rw [e]; exact Nat.le_refl _)
    have hs' : (if i = w.heap.size then some Who.tr else none) ≠ none := hs
    by_cases h : i = w.heap.size
    · omega
    · rw [if_neg h] at hs'; exact absurd rfl hs'
  · have h1 := HB.out.made
    have h2 : (bare w.heap.size).T.length = 0 := rfl
    show S.T.length = S.live
    omega
theorem tnew {v : Value} {m : List Bool} (w : World) (hr : RdB w v m) (hlen : m.length ≤ 100000000) :
    Calls Tryz.prog 89 #[v] w fun e w' => ∃ S, e = .returned (.pointer (some ⟨w.heap.size, 0, none⟩)) ∧ Newly w.heap.size w w' w.heap.size S m := by
  rcases id hr with ⟨rfl, rfl⟩ | ⟨b, off, cap, rfl, _⟩
  · exact tnew_none w
  · by_cases h0 : m = []
    · subst h0; exact tnew_zero _ _ w
    · exact tnew_some w hr (List.length_pos_iff.2 h0) hlen
/-- What an insertion did to a tree of the bits m. -/
structure Insd (base : Nat) (w w' : World) (t : Nat) (S S' : St) (m : List Bool) : Prop where
  tre : Tre base w' t S' m
  mv : Mv w w' S S'
  vis : S'.vis ≤ 4 * S.rt.ht + 3
  up : S.live ≤ S'.live
  made : S'.T.length = max S.T.length S'.live
theorem TM.mvt {base : Nat} {w w' : World} {t : Nat} {S S' : St} (h : TM base w t S) (hst : Stay (· = t) w w') (ho : S'.own = S.own) : Mv w w' S S' := by
  obtain ⟨g, a, c, hx⟩ := h
  exact ⟨hst.mono (fun i _ e => by subst e; show S.own i ≠ none; rw [hx.ownt]; exact fun h => by cases h), fun b hb => .inl (ho ▸ hb)⟩
/-- What a removal did to a tree. -/
structure Deld (base : Nat) (w w' : World) (t : Nat) (S S' : St) (m : List Bool) : Prop where
  tre : Tre base w' t S' m
  mv : Mv w w' S S'
  vis : S'.vis ≤ 4 * S.rt.ht + 1
  made : S'.T.length = S.T.length
theorem T.ok.leaf {a : T} (h : a.ok) (hl : a.bits.length < 64) : ∃ k l, a = .leaf k l := by
  cases a with
  | leaf k l => exact ⟨k, l, rfl⟩
  | node k x y =>
    have h1 := h.1.len.1
    have h2 := h.2.len.1
    have h3 := x.lvs_pos
    have h4 := y.lvs_pos
    have e : (T.node k x y).bits.length = x.bits.length + y.bits.length := List.length_append
    omega
end Go.Proofs.YthbbokoeiifjdaaGreatDoor
namespace Go.Proofs.YthbbokoeiifjdaaGreatDoor
open Go Go.RowKit Go.ChangeAt Tr

theorem TM.wide {base t : Nat} {w w' : World} {S S' : St} (h : TM base w t S) (hV : Mv w w' S S') : Below base w w' := by
  have hl := h.lt
  obtain ⟨g, a, c, hx⟩ := h
  refine hV.st.below (by omega) (fun i _ hs => ?_)
  cases e : S.own i with
  | none => exact absurd e hs
  | some x => exact (hx.lab i x e).1
theorem TM.wide1 {base t : Nat} {w w' : World} {S : St} (h : TM base w t S) (hs : Stay (· = t) w w') : Below base w w' := hs.below (by have := h.lt; omega) (fun i _ e => by rw [e]; exact h.lt.1)
theorem Tre.below {base t : Nat} {w w' : World} {S : St} {m : List Bool} (h : Tre base w t S m) (hb : Below w.heap.size w w') : Tre base w' t S m := ⟨h.1.below hb, h.2⟩
theorem Tre.drewN {base t : Nat} {w : World} {S : St} {m : List Bool} (h : Tre base w t S m) (n : Nat) : Tre base (w.drewN n) t S m := ⟨h.1.drewN n, h.2⟩
theorem kget {base t : Nat} {S : St} {m : List Bool} (k : Int) (w : World) (h : Tre base w t S m) (hlen : m.length ≤ 100000000) :
    Calls Tryz.prog 50 #[.pointer (some ⟨t, 0, none⟩), .int .i64 k] w fun e w' => e = .returned (.tuple #[.bool (Blk.getB m k), .int .i64 (Blk.getE m k)]) ∧ ∃ v, Tre base w' t (S.see v) m ∧ Below base w w' ∧ v ≤ S.rt.ht + 1 ∧ Stay (· = t) w w' := by
  unfold Blk.getB Blk.getE
  by_cases hk : 0 ≤ k ∧ k < m.length
  · rw [if_pos hk, if_pos hk]
    obtain ⟨n, rfl⟩ := Int.eq_ofNat_of_zero_le hk.1
    rcases h.2 with ⟨rfl, _⟩ | ⟨a, h1, h2, h3, h4, rfl, h6, h7, h8⟩
    · have := hk.2; simp at this; omega
    · have hh := h.2.ht
      rw [h7, T.lk_ht] at hh
      exact (tget_in w h.1 h1 h7 (by omega) (by omega) (by omega)).mono fun _ _ ⟨v, q1, q2, q3, q4⟩ => ⟨q1, v, ⟨q2, h.2⟩, h.1.wide1 q3, by rw [h7, T.lk_ht]; exact q4, q3⟩
  · rw [if_neg hk, if_neg hk]
    exact (tget_out k w h (by omega)).mono fun _ _ ⟨q1, q2, q3⟩ => ⟨q1, 0, ⟨q2, h.2⟩, h.1.wide1 q3, Nat.zero_le _, q3⟩
theorem kget_at {base t : Nat} {S : St} {m : List Bool} (k : Int) (b : Bool) (e0 : Int) (w : World) (h : Tre base w t S m) (hlen : m.length ≤ 100000000) (hb : Blk.getB m k = b) (he : Blk.getE m k = e0) :
    Calls Tryz.prog 50 #[.pointer (some ⟨t, 0, none⟩), .int .i64 k] w fun e w' => e = .returned (.tuple #[.bool b, .int .i64 e0]) ∧ ∃ v, Tre base w' t (S.see v) m ∧ Below base w w' ∧ v ≤ S.rt.ht + 1 ∧ Stay (· = t) w w' := by
  subst hb he; exact kget k w h hlen
theorem krank {base t : Nat} {S : St} {m : List Bool} (k : Int) (b : Bool) (r : Int) (w : World) (h : Tre base w t S m) (hlen : m.length ≤ 100000000) (hr : (Blk.rk b m (place m.length k) : Int) = r) :
    Calls Tryz.prog 75 #[.pointer (some ⟨t, 0, none⟩), .int .i64 k, .bool b] w fun e w' => e = .returned (.int .i64 r) ∧ ∃ v, Tre base w' t (S.see v) m ∧ Below base w w' ∧ v ≤ S.rt.ht + 1 ∧ Stay (· = t) w w' := by
  subst hr
  exact (trank k b w h (by omega)).mono fun _ _ ⟨v, q1, q2, q3, q4⟩ => ⟨q1, v, ⟨q2, h.2⟩, h.1.wide1 q3, q4, q3⟩
theorem kselect {base t : Nat} {S : St} {m : List Bool} (j : Int) (b : Bool) (r : Int) (w : World) (h : Tre base w t S m) (hlen : m.length ≤ 100000000) (hT : TabAt w) (hb : 0 < base) (hr : Blk.sl b m j = r) :
    Calls Tryz.prog 76 #[.pointer (some ⟨t, 0, none⟩), .int .i64 j, .bool b] w fun e w' => e = .returned (.int .i64 r) ∧ ∃ v, Tre base w' t (S.see v) m ∧ Below base w w' ∧ v ≤ S.rt.ht + 1 ∧ Stay (· = t) w w' := by
  subst hr
  exact (tselect j b w h (by omega) hT hb).mono fun _ _ ⟨v, q1, q2, q3, q4⟩ => ⟨q1, v, ⟨q2, h.2⟩, h.1.wide1 q3, q4, q3⟩
theorem klen {base t : Nat} {S : St} {m : List Bool} (n : Int) (w : World) (h : Tre base w t S m) (hn : (m.length : Int) = n) :
    Calls Tryz.prog 61 #[.pointer (some ⟨t, 0, none⟩)] w fun e w' => e = .returned (.int .i64 n) ∧ w = w' := by
  subst hn; exact tlen w h
/-- A tree beside another that was read. -/
theorem Tre.apart {base t n : Nat} {w w' : World} {S : St} {m : List Bool} (h : Tre base w n S m) (hs : Stay (· = t) w w') (ht : t < base) : Tre base w' n S m :=
  ⟨h.1.stay hs (fun b hb e => by
    obtain ⟨g, a, c, hx⟩ := h.1
    cases e2 : S.own b with
    | none => exact hb e2
    | some x => have := (hx.lab b x e2).1; omega), h.2⟩
/-- Of few bits there is one node. -/
theorem Root.few {S : St} {m : List Bool} (h : Root S m) (h1 : 0 < m.length) (h2 : m.length < 64) : S.rt.ht = 0 ∧ S.live = 1 := by
  rcases h with ⟨rfl, _⟩ | ⟨a, q1, q2, q3, q4, rfl, q6, q7, q8⟩
  · simp at h1
  · obtain ⟨k, l, rfl⟩ := T.ok.leaf q4 h2
    exact ⟨by rw [q7]; rfl, q8⟩
theorem Root.none {S : St} (h : Root S []) : shapeOf S = .agg #[.int .i64 0, .int .i64 0, .int .i64 0, .int .i64 0] ∧ S.live = 0 ∧ S.rt.ht = 0 := by
  rcases h with ⟨_, h1, _, h3, h4⟩ | ⟨a, _, _, _, _, _, q6, _⟩
  · refine ⟨?_, h4, h3⟩
    unfold shapeOf; rw [h1, h3, h4]; rfl
  · simp at q6
theorem rd_lits (w : World) (l : List Bool) (hl : l.length ≤ maxLen) : RdB (w.alloc (.cells (l.map Value.bool).toArray 4)) (.slice (some ⟨w.heap.size, 0, none⟩) l.length l.length) l := by
  refine .inr ⟨w.heap.size, 0, l.length, rfl, by simp, Nat.le_refl _, hl, fun i hi => new_cell rfl ?_⟩
  simp [hi]
end Go.Proofs.YthbbokoeiifjdaaGreatDoor
