/- New, Insert and Delete of a tree: contracts of the walk. -/
import Derived.Test.YtfbhcbcpeocmcaaDoorTmS
import Derived.Test.YtfbhcbcpeocmcaaDoorTmN
import Derived.Test.YtfbhcbcpeocmcaaDoorTmJ
import Derived.Test.YtfbhcbcpeocmcaaDoorTmQ
namespace Go.Proofs.YtfbhcbcpeocmcaaDoor
open Go Go.RowKit Go.ChangeAt Tr

/-- A tree that was made just now: nothing hangs in it. -/
def bare (t : Nat) : St := ⟨fun b => if b = t then some .tr else none, fun _ => none, [], [], ⟨0, 0, 0, 0⟩, 0⟩
abbrev ZT : Obj := Obj.cells #[.pointer none, .slice none 0 0, .int .i64 0, .int .i64 0, .int .i64 0, .int .i64 0, .int .i64 0] 61
theorem TM.bare (w : World) : TM w.heap.size (w.alloc ZT) w.heap.size (bare w.heap.size) := by
  refine ⟨none, none, 0, fun b x e => ?_, if_pos rfl, alloc_of, .inl ⟨rfl, rfl, rfl⟩, World.ownsRow_nil _ _ _ _, fun b e => by simp [Value.ownBlock] at e, Ar.S.nil (by decide), fun k => ⟨fun _ => by simp [Go.Proofs.YtfbhcbcpeocmcaaDoor.bare], fun _ => rfl⟩, (fun k n d e => by cases e), (fun k n b l e => by cases e)⟩
  have e' : (if b = w.heap.size then some Who.tr else none) = some x := e
  by_cases h : b = w.heap.size
  · subst h; simp
  · rw [if_neg h] at e'; cases e'
theorem TM.root {base : Nat} {w : World} {t : Nat} {S : St} (h : TM base w t S) (A : Lk) :
    TM base ((((w.setCell ⟨t, 2, none⟩ (.int .i64 A.num)).setCell ⟨t, 3, none⟩ (.int .i64 A.len)).setCell ⟨t, 4, none⟩ (.int .i64 A.ones)).setCell ⟨t, 5, none⟩ (.int .i64 A.ht)) t { S with rt := A } ∧ Stay (· = t) w ((((w.setCell ⟨t, 2, none⟩ (.int .i64 A.num)).setCell ⟨t, 3, none⟩ (.int .i64 A.len)).setCell ⟨t, 4, none⟩ (.int .i64 A.ones)).setCell ⟨t, 5, none⟩ (.int .i64 A.ht)) := by
  have hst := Stay.set4 (S := (· = t)) (Stay.refl _ w) rfl 2 3 4 5 (.int .i64 A.num) (.int .i64 A.len) (.int .i64 A.ones) (.int .i64 A.ht)
  exact ⟨h.setT A S.vis hst (fun p a n c e => set4_of (i := 2) e A), hst⟩
theorem TM.cT {base : Nat} {w : World} {t : Nat} {S : St} (h : TM base w t S) : ∃ p a n c, CellsT w t p a n c S.rt S.vis := by
  obtain ⟨g, a, c, hx⟩ := h
  exact ⟨_, _, _, _, cellsT hx.cells⟩
/-- What is told of a new tree. -/
structure Newly (base : Nat) (w w' : World) (t : Nat) (S : St) (m : List Bool) : Prop where
  tre : Tre base w' t S m
  below : Below base w w'
  vis : S.vis = 0
  made : S.T.length = S.live
theorem tnew_none (w : World) :
    Calls Tryd.prog 12 #[.slice none 0 0] w fun e w' => ∃ S, e = .returned (.pointer (some ⟨w.heap.size, 0, none⟩)) ∧ Newly w.heap.size w w' w.heap.size S [] := by
  go_enter Tryd.func12, Tryd.ntmps12
  go_wp2_with fail
  go_ret
  exact ⟨bare w.heap.size, rfl, ⟨TM.bare w, .inl ⟨rfl, rfl, rfl, rfl, rfl⟩⟩, Below.allocs (Below.refl _ _) _, rfl, rfl⟩
theorem tnew_zero (a : Option Addr) (cap : Nat) (w : World) :
    Calls Tryd.prog 12 #[.slice a 0 cap] w fun e w' => ∃ S, e = .returned (.pointer (some ⟨w.heap.size, 0, none⟩)) ∧ Newly w.heap.size w w' w.heap.size S [] := by
  go_enter Tryd.func12, Tryd.ntmps12
  go_wp2_with fail
  go_ret
  exact ⟨bare w.heap.size, rfl, ⟨TM.bare w, .inl ⟨rfl, rfl, rfl, rfl, rfl⟩⟩, Below.allocs (Below.refl _ _) _, rfl, rfl⟩
set_option maxHeartbeats 1600000 in
theorem tnew_some {b off cap : Nat} {m : List Bool} (w : World) (hr : RdB w (.slice (some ⟨b, off, none⟩) m.length cap) m) (hpos : 0 < m.length) (hlen : m.length ≤ 100000000) :
    Calls Tryd.prog 12 #[.slice (some ⟨b, off, none⟩) m.length cap] w fun e w' => ∃ S, e = .returned (.pointer (some ⟨w.heap.size, 0, none⟩)) ∧ Newly w.heap.size w w' w.heap.size S m := by
  have hb0 : Below w.heap.size w (w.alloc ZT) := Below.allocs (Below.refl _ _) _
  have hbl := hr.form.2.1
  have key := tbuild w.heap.size w.heap.size m.length (w.alloc ZT) (bare w.heap.size) m b off cap (Nat.le_refl _) (TM.bare w) (hr.below hb0) (if_neg (Nat.ne_of_lt hbl)) hpos (by show 0 - 0 + _ ≤ _; omega)
  have hp1 : (0 : Int) < m.length := by omega
  unfold lkv at key
  clear hr hbl
  go_enter Tryd.func12, Tryd.ntmps12
  go_wp2_with fail
  (with_reducible refine key.mono ?_); rintro e w1 ⟨a, S, rfl, hT, hV, hB, hE⟩
  obtain ⟨p, q, n, c, C⟩ := hT.cT
  obtain ⟨_, _, c2, c3, c4, c5, _, fz⟩ := C
  have f2 := fz 2
  have f3 := fz 3
  have f4 := fz 4
  have f5 := fz 5
  have HR := Lib.hid (hT.root a.lk)
  have HV := Lib.hid hV
  have HB := Lib.hid hB
  have HE := Lib.hid hE
  clear hT hV hB hE fz key
  go_wp2_with fail
  go_ret
  have hl : S.live = a.ks.length := by have := HB.out.live; rw [this]; show 0 - 0 + _ = _; omega
  refine ⟨{ S with rt := a.lk }, rfl, ⟨⟨HR.out.1, .inr ⟨a, HB.out.is, HB.out.nd, HE.out.bal, HE.out.ok, HE.out.bits, hpos, rfl, hl⟩⟩, ?_, HB.out.vis, ?_⟩⟩
  · refine Stay.below (S := fun i => w.heap.size ≤ i) ?_ (Nat.le_refl _) (fun i _ h => h)
    have hV0 := HV.out.st
    refine ((Stay.of_below (S := fun i => w.heap.size ≤ i) hb0).trans hV0 (fun i hi hs => ?_)).trans HR.out.2 (fun i _ e => by rw [e]; exact Nat.le_refl _)
    have hs' : (if i = w.heap.size then some Who.tr else none) ≠ none := hs
    by_cases h : i = w.heap.size
    · omega
    · rw [if_neg h] at hs'; exact absurd rfl hs'
  · have h1 := HB.out.made
    have h2 : (bare w.heap.size).T.length = 0 := rfl
    show S.T.length = S.live
    omega
theorem tnew {v : Value} {m : List Bool} (w : World) (hr : RdB w v m) (hlen : m.length ≤ 100000000) :
    Calls Tryd.prog 12 #[v] w fun e w' => ∃ S, e = .returned (.pointer (some ⟨w.heap.size, 0, none⟩)) ∧ Newly w.heap.size w w' w.heap.size S m := by
  rcases id hr with ⟨rfl, rfl⟩ | ⟨b, off, cap, rfl, _⟩
  · exact tnew_none w
  · by_cases h0 : m = []
    · subst h0; exact tnew_zero _ _ w
    · exact tnew_some w hr (List.length_pos_iff.2 h0) hlen
theorem tinsert_nil (k : Int) (b : Bool) (w : World) : Calls Tryd.prog 19 #[.pointer none, .int .i64 k, .bool b] w fun e w' => e = .returned (.int .i64 6) ∧ w = w' := by
  go_enter Tryd.func19, Tryd.ntmps19
  go_wp2
  go_ret
  exact ⟨rfl, rfl⟩
theorem tinsert_out {base t : Nat} {S : St} {m : List Bool} (k : Int) (b : Bool) (w : World) (h : Tre base w t S m) (hk : k < 0 ∨ (m.length : Int) < k) :
    Calls Tryd.prog 19 #[.pointer (some ⟨t, 0, none⟩), .int .i64 k, .bool b] w fun e w' => e = .returned (.int .i64 2) ∧ TM base w' t (S.see 0) ∧ Stay (· = t) w w' := by
  obtain ⟨p, q, n, c, _, _, c2, c3, _, _, c6, fz⟩ := h.1.cT
  rw [h.2.len] at c3
  have f6 := fz 6
  have Z := Lib.hid h.1.zero
  clear h fz
  by_cases h0 : k < 0
  · clear hk
    go_enter Tryd.func19, Tryd.ntmps19
    go_wp2_with fail
    go_ret
    exact ⟨rfl, Z.out⟩
  · have h1 : (m.length : Int) < k := by omega
    clear hk
    go_enter Tryd.func19, Tryd.ntmps19
    go_wp2_with fail
    go_ret
    exact ⟨rfl, Z.out⟩
/-- What an insertion did to a tree of the bits m. -/
structure Insd (base : Nat) (w w' : World) (t : Nat) (S S' : St) (m : List Bool) : Prop where
  tre : Tre base w' t S' m
  mv : Mv w w' S S'
  vis : S'.vis ≤ 4 * S.rt.ht + 3
  up : S.live ≤ S'.live
  made : S'.T.length = max S.T.length S'.live
theorem TM.mvt {base : Nat} {w w' : World} {t : Nat} {S S' : St} (h : TM base w t S) (hst : Stay (· = t) w w') (ho : S'.own = S.own) : Mv w w' S S' := by
  obtain ⟨g, a, c, hx⟩ := h
  exact ⟨hst.mono (fun i _ e => by subst e; show S.own i ≠ none; rw [hx.ownt]; exact fun h => by cases h), fun b hb => .inl (ho ▸ hb)⟩
set_option maxHeartbeats 1600000 in
theorem tinsert_in {base t k : Nat} {S : St} {a : T} (b : Bool) (w : World) (h : TM base w t S) (hi : Is S.sto a) (hn : a.ks.Nodup) (hbal : a.bal) (hok : a.ok) (hpos : 0 < a.bits.length) (hrt : S.rt = a.lk) (hlive : S.live = a.ks.length) (hk : k ≤ a.bits.length) (hlen : a.bits.length ≤ 100000000) :
    Calls Tryd.prog 19 #[.pointer (some ⟨t, 0, none⟩), .int .i64 k, .bool b] w fun e w' => ∃ S', e = .returned (.int .i64 0) ∧ Insd base w w' t S S' (Blk.ins a.bits k b) := by
  obtain ⟨p, q, n, c, _, _, c2, c3, _, _, c6, fz⟩ := h.cT
  rw [hrt] at c2 c3
  rw [T.lk_len] at c3
  have f6 := fz 6
  have Z := h.zero
  have g1 := a.ht_le
  have g2 := hok.len.1
  have g3 := a.ks_len
  have hl : S.live + 2 ≤ 268435456 := by omega
  have key := tins (t := t) (S := S.see 0) (j := k) a b _ Z.1 hi hn hbal hok hk hl (by show 0 + 8 * a.ht + 8 ≤ _; omega) (by omega)
  obtain ⟨L, hL⟩ : ∃ L, a.bits.length = L := ⟨_, rfl⟩
  rw [hL] at c3 hk hpos
  have hk1 : ¬ (L : Int) < k := by omega
  have hk2 : ¬ (k : Int) < 0 := by omega
  have hk3 : ¬ (L : Int) = 0 := by omega
  have hk4 : ((L : Int) == 0) = false := by simp; omega
  unfold lkv at key
  have HZ := Lib.hid Z
  have H := Lib.hid h
  have HG := Lib.hid (And.intro hL (And.intro hk hpos))
  have HOK := hok
  clear h Z fz hi hn hbal hL
  go_enter Tryd.func19, Tryd.ntmps19
  go_wp2_with fail
  (with_reducible refine key.mono ?_); rintro e w1 ⟨a', S1, rfl, hT, hV, hC, hI⟩
  obtain ⟨p', q', n', c', _, _, d2, d3, d4, d5, _, fz⟩ := hT.cT
  have f2 := fz 2
  have f3 := fz 3
  have f4 := fz 4
  have f5 := fz 5
  have HR := Lib.hid (hT.root a'.lk)
  have HT := Lib.hid hT
  have HV := Lib.hid hV
  have HC := Lib.hid hC
  have HI := Lib.hid hI
  clear hT hV hC hI fz key c2 c3 c6 f6
  go_wp2_with fail
  go_ret
  have hI := HI.out
  have hbits := hI.bits
  have i1 : S1.live + a.ks.length = (S.see 0).live + a'.ks.length := hI.live
  have i2 : (S.see 0).live = S.live := rfl
  have i3 : S1.vis ≤ 0 + (4 * a.ht + 3) := hI.vis
  refine ⟨{ S1 with rt := a'.lk }, rfl, ⟨⟨HR.out.1, .inr ⟨a', HC.out.is, HC.out.nd, hI.bal, hI.ok HOK, hbits, ?_, rfl, by show S1.live = _; omega⟩⟩, ?_, ?_, hI.up, hI.made⟩⟩
  · rw [Blk.ins_len (by rw [HG.out.1]; exact HG.out.2.1)]; omega
  · exact ((H.out.mvt HZ.out.2 (S' := S.see 0) rfl).trans HV.out).trans (HT.out.mvt HR.out.2 rfl)
  · show S1.vis ≤ _
    rw [hrt, T.lk_ht]; omega
set_option maxHeartbeats 1600000 in
theorem tinsert_new {base t : Nat} {S : St} (b : Bool) (w : World) (h : TM base w t S) (hrt : S.rt.len = 0) (hlive : S.live = 0) :
    Calls Tryd.prog 19 #[.pointer (some ⟨t, 0, none⟩), .int .i64 0, .bool b] w fun e w' => ∃ S', e = .returned (.int .i64 0) ∧ Insd base w w' t S S' [b] := by
  obtain ⟨p, q, n, c, _, _, c2, c3, _, _, c6, fz⟩ := h.cT
  rw [hrt] at c3
  have f6 := fz 6
  have Z := h.zero
  have hb1 : Below (w.setCell ⟨t, 6, none⟩ (.int .i64 0)).heap.size (w.setCell ⟨t, 6, none⟩ (.int .i64 0)) ((w.setCell ⟨t, 6, none⟩ (.int .i64 0)).alloc (Obj.cells #[.bool b] 4)) := Below.allocs (Below.refl _ _) _
  have hsz := Z.2.size
  have hsz2 : (w.setCell ⟨t, 6, none⟩ (.int .i64 0)).heap.size = w.heap.size := by simp [World.setCell]
  have hT0 := Z.1.below hb1
  have hrd : RdB ((w.setCell ⟨t, 6, none⟩ (.int .i64 0)).alloc (Obj.cells #[.bool b] 4)) (.slice (some ⟨w.heap.size, 0, none⟩) [b].length 1) [b] := .inr ⟨w.heap.size, 0, 1, rfl, by simp [hsz2], Nat.le_refl _, by decide, fun i hi => by
    have hi' : i < 1 := hi
    obtain rfl : i = 0 := by omega
    exact new_cell hsz2.symm rfl⟩
  have key := tbuild base t 1 _ (S.see 0) [b] w.heap.size 0 1 (Nat.le_refl _) hT0 hrd (h.new (Nat.le_refl _)) (by show 0 < 1; decide) (by show S.live + 2 * 1 ≤ _; omega)
  change Calls _ _ #[_, .slice _ 1 1] _ _ at key
  unfold lkv at key
  have HZ := Lib.hid Z
  have H := Lib.hid h
  have HB1 := Lib.hid hb1
  clear h Z fz hT0 hrd hb1
  go_enter Tryd.func19, Tryd.ntmps19
  go_wp2_with fail
  (with_reducible refine key.mono ?_); rintro e w1 ⟨a', S1, rfl, hT, hV, hB, hE⟩
  obtain ⟨p', q', n', c', _, _, d2, d3, d4, d5, _, fz⟩ := hT.cT
  have f2 := fz 2
  have f3 := fz 3
  have f4 := fz 4
  have f5 := fz 5
  have HR := Lib.hid (hT.root a'.lk)
  have HT := Lib.hid hT
  have HV := Lib.hid hV
  have HB := Lib.hid hB
  have HE := Lib.hid hE
  obtain ⟨nd, d, hd⟩ := hB.is.at
  have hvis : S1.vis = 0 := hB.vis
  have keyL := tlook _ HR.out.1 (show ({ S1 with rt := a'.lk } : St).sto a'.lk.num = _ from hd) (by show S1.vis < _; omega)
  clear hT hV hB hE fz key c2 c3 c6 f6
  go_wp2_with fail
  (with_reducible refine keyL.mono ?_); rintro e w2 ⟨rfl, hT2, hs2⟩
  go_wp2_with fail
  go_ret
  have i1 : S1.live = (S.see 0).live + a'.ks.length := HB.out.live
  have i2 : (S.see 0).live = S.live := rfl
  have i4 : S1.T.length = max S.T.length S1.live := HB.out.made
  refine ⟨_, rfl, ⟨⟨hT2, .inr ⟨a', HB.out.is, HB.out.nd, HE.out.bal, HE.out.ok, HE.out.bits, by show 0 < 1; decide, rfl, by show S1.live = _; omega⟩⟩, ?_, ?_, ?_, ?_⟩⟩
  · exact ((((H.out.mvt HZ.out.2 (S' := S.see 0) rfl).below HB1.out).trans HV.out).trans (HT.out.mvt HR.out.2 (S' := { S1 with rt := a'.lk }) rfl)).trans (HR.out.1.mvt hs2 rfl)
  · show S1.vis + 1 ≤ _; omega
  · show S.live ≤ S1.live; omega
  · exact i4
theorem tinsert {base t k : Nat} {S : St} {m : List Bool} (b : Bool) (w : World) (h : Tre base w t S m) (hk : k ≤ m.length) (hlen : m.length ≤ 100000000) :
    Calls Tryd.prog 19 #[.pointer (some ⟨t, 0, none⟩), .int .i64 k, .bool b] w fun e w' => ∃ S', e = .returned (.int .i64 0) ∧ Insd base w w' t S S' (Blk.ins m k b) := by
  rcases h.2 with ⟨rfl, h1, _, h3, h4⟩ | ⟨a, h1, h2, h3, h4, rfl, h6, h7, h8⟩
  · obtain rfl : k = 0 := by simpa using hk
    exact tinsert_new b w h.1 h1 h4
  · exact tinsert_in b w h.1 h1 h2 h3 h4 h6 h7 h8 hk hlen
theorem tdelete_nil (k : Int) (w : World) : Calls Tryd.prog 21 #[.pointer none, .int .i64 k] w fun e w' => e = .returned (.tuple #[.bool false, .int .i64 6]) ∧ w = w' := by
  go_enter Tryd.func21, Tryd.ntmps21
  go_wp2
  go_ret2
  exact ⟨rfl, rfl⟩
theorem tdelete_out {base t : Nat} {S : St} {m : List Bool} (k : Int) (w : World) (h : Tre base w t S m) (hk : k < 0 ∨ (m.length : Int) ≤ k) :
    Calls Tryd.prog 21 #[.pointer (some ⟨t, 0, none⟩), .int .i64 k] w fun e w' => e = .returned (.tuple #[.bool false, .int .i64 2]) ∧ TM base w' t (S.see 0) ∧ Stay (· = t) w w' := by
  obtain ⟨p, q, n, c, _, _, c2, c3, _, _, c6, fz⟩ := h.1.cT
  rw [h.2.len] at c3
  have f6 := fz 6
  have Z := Lib.hid h.1.zero
  clear h fz
  by_cases h0 : k < 0
  · clear hk
    go_enter Tryd.func21, Tryd.ntmps21
    go_wp2_with fail
    go_ret2
    exact ⟨rfl, Z.out⟩
  · have h1 : (m.length : Int) ≤ k := by omega
    clear hk
    go_enter Tryd.func21, Tryd.ntmps21
    go_wp2_with fail
    go_ret2
    exact ⟨rfl, Z.out⟩
/-- What a removal did to a tree. -/
structure Deld (base : Nat) (w w' : World) (t : Nat) (S S' : St) (m : List Bool) : Prop where
  tre : Tre base w' t S' m
  mv : Mv w w' S S'
  vis : S'.vis ≤ 4 * S.rt.ht + 1
  made : S'.T.length = S.T.length
theorem T.ok.leaf {a : T} (h : a.ok) (hl : a.bits.length < 64) : ∃ k l, a = .leaf k l := by
  cases a with
  | leaf k l => exact ⟨k, l, rfl⟩
  | node k x y =>
    have h1 := h.1.len.1
    have h2 := h.2.len.1
    have h3 := x.lvs_pos
    have h4 := y.lvs_pos
    have e : (T.node k x y).bits.length = x.bits.length + y.bits.length := List.length_append
    omega
set_option maxRecDepth 100000 in
set_option maxHeartbeats 3200000 in
theorem tdelete_in {base t k : Nat} {S : St} {a : T} (w : World) (h : TM base w t S) (hi : Is S.sto a) (hn : a.ks.Nodup) (hbal : a.bal) (hok : a.ok) (hrt : S.rt = a.lk) (hlive : S.live = a.ks.length) (hk : k < a.bits.length) (hlen : a.bits.length ≤ 100000000) :
    Calls Tryd.prog 21 #[.pointer (some ⟨t, 0, none⟩), .int .i64 k] w fun e w' => ∃ S', e = .returned (.tuple #[.bool (a.bits.getD k false), .int .i64 0]) ∧ Deld base w w' t S S' (Blk.del a.bits k) := by
  obtain ⟨x, hx⟩ : ∃ x, a.bits.getD k false = x := ⟨_, rfl⟩
  rw [hx]
  obtain ⟨p, q, n, c, _, _, c2, c3, _, _, c6, fz⟩ := h.cT
  rw [hrt] at c2 c3
  rw [T.lk_len] at c3
  have f6 := fz 6
  have Z := h.zero
  have g1 := a.ht_le
  have g2 := hok.len.1
  have g3 := a.ks_len
  have key := trem (t := t) (S := S.see 0) (j := k) a _ Z.1 hi hn hbal hok hk (by show 0 + 8 * a.ht + 8 ≤ _; omega) (by omega)
  rw [hx] at key
  obtain ⟨L, hL⟩ : ∃ L, a.bits.length = L := ⟨_, rfl⟩
  rw [hL] at c3 hk
  have hk1 : ¬ (L : Int) ≤ k := by omega
  have hk2 : ¬ (k : Int) < 0 := by omega
  unfold lkv at key
  have HZ := Lib.hid Z
  have H := Lib.hid h
  have HG := Lib.hid (And.intro hL hk)
  have HOK := hok
  clear h Z fz hi hn hbal hL hx
  go_enter Tryd.func21, Tryd.ntmps21
  go_wp2_with fail
  (with_reducible refine key.mono ?_); rintro e w1 ⟨a', S1, rfl, hT, hV, hC, hI⟩
  have hi4 : a'.bits.length + 1 = a.bits.length := by rw [hI.bits, Blk.del_len (by rw [HG.out.1]; exact HG.out.2)]; have := HG.out.1; have := HG.out.2; omega
  have hi3 : S1.vis ≤ 0 + (4 * a.ht + 1) := hI.vis
  have hi1 : S1.live + a.ks.length = S.live + a'.ks.length := hI.live
  have hVall := (H.out.mvt HZ.out.2 (S' := S.see 0) rfl).trans hV
  have hbw : Below w1.heap.size w1 (w1.alloc (Obj.cells #[.int .i64 a'.lk.num, .int .i64 a'.lk.len, .int .i64 a'.lk.ones, .int .i64 a'.lk.ht] 59)) := Below.allocs (Below.refl _ _) _
  have hT2 := hT.below hbw
  obtain ⟨p', q', n', c', _, _, d2, d3, d4, d5, _, fz⟩ := hT2.cT
  have f2 := fz 2
  have f3 := fz 3
  have f4 := fz 4
  have f5 := fz 5
  have hqo : S1.own w1.heap.size = none := hT.new (Nat.le_refl _)
  by_cases hz : a'.bits.length = 0
  · obtain ⟨k0, l0, rfl⟩ := T.ok.leaf (hI.ok HOK) (by omega)
    have hl0 : l0 = [] := List.eq_nil_of_length_eq_zero hz
    subst hl0
    obtain ⟨n0, b0, hs0⟩ := hC.is
    have hbw3 : Below w1.heap.size w1 ((w1.alloc (Obj.cells #[.int .i64 k0, .int .i64 0, .int .i64 0, .int .i64 0] 59)).alloc (Obj.cells #[.int .i64 k0] 3)).drew := Below.drews (Below.allocs (Below.allocs (Below.refl _ _) _) _)
    have hrd : RdL ((w1.alloc (Obj.cells #[.int .i64 k0, .int .i64 0, .int .i64 0, .int .i64 0] 59)).alloc (Obj.cells #[.int .i64 k0] 3)).drew (some ⟨w1.heap.size + 1, 0, none⟩) 1 (nums [k0]) := by
      have := RdL.made (w := w1.alloc (Obj.cells #[.int .i64 k0, .int .i64 0, .int .i64 0, .int .i64 0] 59)) (nums [k0]) (by show 1 ≤ maxLen; decide)
      have e : (w1.alloc (Obj.cells #[.int .i64 k0, .int .i64 0, .int .i64 0, .int .i64 0] 59)).heap.size = w1.heap.size + 1 := by simp
      rw [e] at this
      exact this
    have keyD := tdrop (some ⟨w1.heap.size + 1, 0, none⟩) 1 [k0] _ (hT.below hbw3) (List.nodup_cons.2 ⟨List.not_mem_nil, List.nodup_nil⟩) (fun j hj => by rw [List.mem_singleton.1 hj, hs0]; exact fun h => by cases h) (by show 0 < 1; decide) hrd (fun ad e => by injection e with e; subst e; exact hT.new (by show w1.heap.size ≤ w1.heap.size + 1; omega))
    change Calls _ _ #[_, .slice _ 1 1] _ _ at keyD
    have hqk : ((w1.alloc (Obj.cells #[.int .i64 k0, .int .i64 0, .int .i64 0, .int .i64 0] 59)).alloc (Obj.cells #[.int .i64 k0] 3)).drew.heap[w1.heap.size]? = some (Obj.cells #[.int .i64 k0, .int .i64 0, .int .i64 0, .int .i64 0] 59) := by
      have h1 : (w1.alloc (Obj.cells #[.int .i64 k0, .int .i64 0, .int .i64 0, .int .i64 0] 59)).heap[w1.heap.size]? = some (Obj.cells #[.int .i64 k0, .int .i64 0, .int .i64 0, .int .i64 0] 59) := alloc_of
      exact Below.keptB (Below.drews (Below.allocs (Below.refl _ _) _)) h1 (lt_of_block h1)
    have HQK := Lib.hid hqk
    have HBW3 := Lib.hid hbw3
    have HT := Lib.hid hT
    have HVA := Lib.hid hVall
    have HC := Lib.hid hC
    have HI := Lib.hid hI
    have hq3 : (w1.alloc (Obj.cells #[.int .i64 k0, .int .i64 0, .int .i64 0, .int .i64 0] 59)).cell? ⟨w1.heap.size, 0, none⟩ = some (.int .i64 k0) := new_cell rfl rfl
    clear hT hV hC hI fz key c2 c3 c6 f6 d2 d3 d4 d5 f2 f3 f4 f5 hT2 hbw hbw3 hrd hqk hVall
    simp only [show (T.leaf k0 ([] : List Bool)).lk.num = k0 from rfl, show (T.leaf k0 ([] : List Bool)).lk.len = 0 from rfl, show (T.leaf k0 ([] : List Bool)).lk.ones = 0 from rfl, show (T.leaf k0 ([] : List Bool)).lk.ht = 0 from rfl, show ((0 : Nat) : Int) = 0 from rfl]
    go_wp2_with fail
    go_cut [] (fun wx => ∃ S2, TM base wx t S2 ∧ Mv w wx S S2 ∧ Dropped S1 S2 [k0] ∧ wx.heap[w1.heap.size]? = some (Obj.cells #[.int .i64 k0, .int .i64 0, .int .i64 0, .int .i64 0] 59))
    case first =>
      go_region_law (first | (go_simp; (go_at_call 40; (with_reducible refine keyD.mono ?_); rintro e w3 ⟨S2, rfl, hT3, hV3, hD3⟩; (have HE := Lib.hid (And.intro hT3 (And.intro hV3 hD3))); clear hT3 hV3 hD3)))
      all_goals
        go_wp2_with fail
        go_meet
        case rel => exact ⟨S2, HE.out.1, (HVA.out.below HBW3.out).trans HE.out.2.1, HE.out.2.2, HE.out.2.1.keep HQK.out hqo⟩
    case rest =>
    obtain ⟨S2, hT3, hV3, hD3, hq4⟩ := hcut
    obtain ⟨p', q', n', c', _, _, d2, d3, d4, d5, _, fz⟩ := hT3.cT
    have f2 := fz 2
    have f3 := fz 3
    have f4 := fz 4
    have f5 := fz 5
    have s0 : wc.cell? ⟨w1.heap.size, 0, none⟩ = some (.int .i64 k0) := (cell_of hq4).trans rfl
    have s1 : wc.cell? ⟨w1.heap.size, 1, none⟩ = some (.int .i64 0) := (cell_of hq4).trans rfl
    have s2 : wc.cell? ⟨w1.heap.size, 2, none⟩ = some (.int .i64 0) := (cell_of hq4).trans rfl
    have s3 : wc.cell? ⟨w1.heap.size, 3, none⟩ = some (.int .i64 0) := (cell_of hq4).trans rfl
    have HR := Lib.hid (hT3.root ⟨k0, 0, 0, 0⟩)
    have HT3 := Lib.hid (And.intro hT3 (And.intro hV3 hD3))
    clear hT3 hV3 hD3 hq4 fz keyD hq3
    go_wp2_with fail
    go_ret2
    obtain ⟨hT3, hV3, hD3⟩ := HT3.out
    have j1 : S2.live + 1 = S1.live := hD3.live
    have j2 : S1.live + a.ks.length = S.live + 1 := hi1
    have j3 : (T.leaf k0 []).bits = [] := rfl
    have jb : Blk.del a.bits k = [] := HI.out.bits.symm
    refine ⟨rfl, { S2 with rt := ⟨k0, 0, 0, 0⟩ }, ⟨⟨HR.out.1, .inl ⟨jb, rfl, rfl, rfl, by show S2.live = 0; omega⟩⟩, hV3.trans (hT3.mvt HR.out.2 rfl), ?_, hD3.T.trans HI.out.T⟩⟩
    show S2.vis ≤ _
    rw [hD3.vis, hrt, T.lk_ht]
    omega
  · have hlz : a'.lk.len ≠ 0 := by rw [T.lk_len]; exact hz
    have hlz1 : ¬ (a'.lk.len : Int) = 0 := by omega
    have hlz2 : ((a'.lk.len : Int) == 0) = false := by simp; omega
    have HR := Lib.hid (hT2.root a'.lk)
    have HT2 := Lib.hid hT2
    have HBW := Lib.hid hbw
    have HVA := Lib.hid hVall
    have HC := Lib.hid hC
    have HI := Lib.hid hI
    clear hT hV hC hI fz key c2 c3 c6 f6 hT2 hbw hVall hlz
    go_wp2_with fail
    go_ret2
    have hI := HI.out
    refine ⟨{ S1 with rt := a'.lk }, rfl, ⟨⟨HR.out.1, .inr ⟨a', HC.out.is, HC.out.nd, hI.bal, hI.ok HOK, hI.bits, ?_, rfl, by show S1.live = _; omega⟩⟩, (HVA.out.below HBW.out).trans (HT2.out.mvt HR.out.2 rfl), ?_, hI.T⟩⟩
    · rw [← hI.bits]; omega
    · show S1.vis ≤ _
      rw [hrt, T.lk_ht]; omega
theorem tdelete {base t k : Nat} {S : St} {m : List Bool} (w : World) (h : Tre base w t S m) (hk : k < m.length) (hlen : m.length ≤ 100000000) :
    Calls Tryd.prog 21 #[.pointer (some ⟨t, 0, none⟩), .int .i64 k] w fun e w' => ∃ S', e = .returned (.tuple #[.bool (m.getD k false), .int .i64 0]) ∧ Deld base w w' t S S' (Blk.del m k) := by
  rcases h.2 with ⟨rfl, _⟩ | ⟨a, h1, h2, h3, h4, rfl, h6, h7, h8⟩
  · simp at hk
  · exact tdelete_in w h.1 h1 h2 h3 h4 h7 h8 hk hlen
end Go.Proofs.YtfbhcbcpeocmcaaDoor
