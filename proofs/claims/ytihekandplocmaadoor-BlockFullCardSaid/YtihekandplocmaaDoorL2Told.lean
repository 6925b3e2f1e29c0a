/- The few fixed answers that every statement of layer 2 asks for. -/
import Derived.Test.YtihekandplocmaaDoorBlkE
import Derived.Test.YtihekandplocmaaDoorLstB
namespace Go.Proofs.YtihekandplocmaaDoor
open Go Go.RowKit

theorem bsplit_nil (w : World) : Calls Tryd.prog 16 #[.pointer none] w fun e w' => e = .returned (.pointer none) ∧ w = w' := by
  go_enter Tryd.func16, Tryd.ntmps16
  go_wp2
  go_ret
  exact ⟨rfl, rfl⟩
theorem bins_to {l : List Bool} (l' : List Bool) {g : Nat} (k : Int) (n : Nat) (b : Bool) (w : World) (h : IsBlk w g l) (hl : l.length < 128) (hk : k = n) (hn : n ≤ l.length) (hl' : Blk.ins l n b = l') :
    Calls Tryd.prog 11 #[.pointer (some ⟨g, 0, none⟩), .int .i64 k, .bool b] w fun e w' => e = .returned (.int .i64 0) ∧ IsBlk w' g l' ∧ Stay (· = g) w w' := by
  subst hk hl'; exact bins_yes n b w h hl hn
theorem bdel_to {l : List Bool} (l' : List Bool) {g : Nat} (k : Int) (n : Nat) (b : Bool) (w : World) (h : IsBlk w g l) (hk : k = n) (hn : n < l.length) (hb : l.getD n false = b) (hl' : Blk.del l n = l') :
    Calls Tryd.prog 13 #[.pointer (some ⟨g, 0, none⟩), .int .i64 k] w fun e w' => e = .returned (.tuple #[.bool b, .int .i64 0]) ∧ IsBlk w' g l' ∧ Stay (· = g) w w' := by
  subst hk hl' hb; exact bdel_yes n w h hn
theorem bsplit_to {l : List Bool} (l1 l2 : List Bool) {g : Nat} (w : World) (h : IsBlk w g l) (h1 : l.take (l.length / 2) = l1) (h2 : l.drop (l.length / 2) = l2) :
    Calls Tryd.prog 16 #[.pointer (some ⟨g, 0, none⟩)] w fun e w' => ∃ g2, e = .returned (.pointer (some ⟨g2, 0, none⟩)) ∧ w.heap.size ≤ g2 ∧ IsBlk w' g l1 ∧ IsBlk w' g2 l2 ∧ Stay (· = g) w w' := by
  subst h1 h2; exact bsplit_any w h
theorem blen_to {l : List Bool} {g : Nat} (n : Int) (w : World) (h : IsBlk w g l) (hn : (l.length : Int) = n) :
    Calls Tryd.prog 19 #[.pointer (some ⟨g, 0, none⟩)] w fun e w' => e = .returned (.int .i64 n) ∧ w = w' := by
  subst hn; exact blen_any w h
theorem bones_to {l : List Bool} {g : Nat} (n : Int) (w : World) (h : IsBlk w g l) (hn : (l.count true : Int) = n) :
    Calls Tryd.prog 24 #[.pointer (some ⟨g, 0, none⟩)] w fun e w' => e = .returned (.int .i64 n) ∧ w = w' := by
  subst hn; exact bones_any w h
theorem brank_to {l : List Bool} {g : Nat} (k n : Int) (w : World) (h : IsBlk w g l) (hn : (Blk.rk true l k.toNat : Int) = n) :
    Calls Tryd.prog 22 #[.pointer (some ⟨g, 0, none⟩), .int .i64 k] w fun e w' => e = .returned (.int .i64 n) ∧ w = w' := by
  subst hn; exact brank_any k w h
theorem bsel_to {l : List Bool} {g : Nat} (j n : Int) (b : Bool) (w : World) (h : IsBlk w g l) (hT : TabAt w) (hw0 : 0 < w.heap.size) (hj63 : j ≤ 9223372036854775807) (hn : Blk.sl b l j = n) :
    Calls Tryd.prog 23 #[.pointer (some ⟨g, 0, none⟩), .int .i64 j, .bool b] w fun e w' => e = .returned (.int .i64 n) ∧ Below w.heap.size w w' := by
  subst hn; exact bsel_any j b w h hT hw0 hj63
theorem bjoin_to {l m : List Bool} (l' : List Bool) {g g2 : Nat} (w : World) (h : IsBlk w g l) (h2 : IsBlk w g2 m) (hne : g ≠ g2) (hn : l.length + m.length ≤ 128) (hl' : l ++ m = l') :
    Calls Tryd.prog 18 #[.pointer (some ⟨g, 0, none⟩), .pointer (some ⟨g2, 0, none⟩)] w fun e w' => e = .returned (.int .i64 0) ∧ IsBlk w' g l' ∧ IsBlk w' g2 [] ∧ Stay (fun i => i = g ∨ i = g2) w w' := by
  subst hl'; exact bjoin_yes w h h2 hne hn
/-- A list that has just been laid. -/
theorem rd_lit (w : World) (l : List Bool) (n : Nat) (hn : n = w.heap.size) (c : Array Value) (hc : c = (l.map Value.bool).toArray) (hl : l.length ≤ maxLen) : RdB (w.alloc (.cells c 4)) (.slice (some ⟨n, 0, none⟩) l.length l.length) l := by
  subst hn hc
  refine .inr ⟨_, 0, _, rfl, by simp, Nat.le_refl _, hl, fun i hi => ?_⟩
  rw [Nat.zero_add, World.cell?_alloc_at _ _ _ _ rfl]
  simp [hi]

set_option maxHeartbeats 1600000 in
theorem told_any (w : World) (hT : TabAt w) (hw0 : 0 < w.heap.size) :
    Calls Tryd.prog 10 #[] w fun e w' => e = .returned (.bool true) ∧ Below w.heap.size w w' := by
  obtain ⟨i0, hi, hz0, hz1, hz2⟩ := info_parts infoB
  go_enter Tryd.func10, Tryd.ntmps10
  go_wp2_with fail
  have B0 : Below w.heap.size w (w.alloc (Obj.cells #[Value.bool true, Value.bool false, Value.bool true] 4)) := (Below.refl _ _).alloc (Nat.le_refl _) _
  refine (bnew_rd _ (rd_lit w [true, false, true] _ rfl _ rfl (by decide)) (by decide)).mono ?_
  rintro e w1 ⟨g, rfl, hg, hblk, hb1⟩
  have hgw : w.heap.size < g := by simp at hg; omega
  have B1 : Below w.heap.size w w1 := B0.trans (hb1.mono B0.size)
  clear B0 hb1 hg
  go_wp2_with fail
  refine (bins_to [true, true, false, true] 1 1 true _ hblk (by decide) rfl (by decide) (by decide)).mono ?_
  rintro e w2 ⟨rfl, hblk2, hs2⟩
  have B2 : Below w.heap.size w w2 := B1.trans (hs2.below B1.size (fun i _ h => by omega))
  clear B1 hs2 hblk
  go_wp2_with fail
  refine (bdel_to [true, false, true] 0 0 true _ hblk2 rfl (by decide) (by decide) (by decide)).mono ?_
  rintro e w3 ⟨rfl, hblk3, hs3⟩
  have B3 : Below w.heap.size w w3 := B2.trans (hs3.below B2.size (fun i _ h => by omega))
  clear B2 hs3 hblk2
  go_wp2_with fail
  refine (brange 3 _ hblk3 (by decide)).mono ?_
  rintro e w' ⟨rfl, rfl⟩
  go_wp2_with fail
  refine (bones_to 2 _ hblk3 (by decide)).mono ?_
  rintro e w' ⟨rfl, rfl⟩
  go_wp2_with fail
  refine (bsplit_to [true] [false, true] _ hblk3 (by decide) (by decide)).mono ?_
  rintro e w4 ⟨g2, rfl, hg2, hblk4, hblk4', hs4⟩
  have hne : g ≠ g2 := by have := hblk3.lt; omega
  have hgw2 : w.heap.size < g2 := by have := hblk3.lt; omega
  have B4 : Below w.heap.size w w4 := B3.trans (hs4.below B3.size (fun i _ h => by omega))
  clear B3 hs4 hblk3 hg2
  have HNE := Lib.hid hne
  clear hne
  go_wp2_with fail
  refine (blen_to 1 _ hblk4 (by decide)).mono ?_
  rintro e w' ⟨rfl, rfl⟩
  go_wp2_with fail
  refine (blen_to 2 _ hblk4' (by decide)).mono ?_
  rintro e w' ⟨rfl, rfl⟩
  go_wp2_with fail
  refine (bjoin_self _ hblk4 (by decide)).mono ?_
  rintro e w' ⟨rfl, n5, rfl⟩
  have hblk5 := hblk4.drewN n5
  have hblk5' := hblk4'.drewN n5
  have B5 := B4.drewN n5
  clear hblk4 hblk4' B4
  go_wp2_with fail
  refine (bjoin_to [true, false, true] _ hblk5 hblk5' HNE.out (by decide) rfl).mono ?_
  rintro e w6 ⟨rfl, hblk6, hblk6', hs6⟩
  have B6 : Below w.heap.size w w6 := B5.trans (hs6.below B5.size (fun i _ h => by omega))
  clear B5 hs6 hblk5 hblk5'
  have hbase : w.heap.size ≤ w6.heap.size := B6.size
  go_wp2_with (first | (at_make; refine wpList_make_full _ rfl _ _ 24 rfl w.heap.size 4 i0 (.bool false) 1 Tryd.underlying24 hi hz0 hz1 .i64 .i64 129 129 129 rfl rfl rfl rfl (by rw [hz2]; decide) (by decide) hbase ?_; intro w7 hown7 hgrow7))
  have B7 : Below w.heap.size w w7 := B6.grown hgrow7 hbase (fun k h => by cases h)
  have hs7 : Below w6.heap.size w6 w7 := (Below.refl w6.heap.size w6).grown hgrow7 (Nat.le_refl _) (fun k h => by cases h)
  have hblk7 := hblk6.below hs7 hblk6.lt
  have hblk7' := hblk6'.below hs7 hblk6'.lt
  have hT7 := hT.below B7 hw0
  have hp7 : 0 < w7.heap.size := by have := B7.size; omega
  clear hown7 hgrow7 hblk6 hblk6' B6
  refine (bnew_full _ _ _ _ (by decide)).mono ?_
  rintro e w' ⟨rfl, rfl⟩
  go_wp2_with fail
  refine (blen_to 3 _ hblk7 (by decide)).mono ?_
  rintro e w' ⟨rfl, rfl⟩
  go_wp2_with fail
  refine (blen_to 0 _ hblk7' (by decide)).mono ?_
  rintro e w' ⟨rfl, rfl⟩
  go_wp2_with fail
  refine (brank_to 2 1 _ hblk7 (by decide)).mono ?_
  rintro e w' ⟨rfl, rfl⟩
  go_wp2_with fail
  refine (bsel_to 0 1 false _ hblk7 hT7 hp7 (by decide) ?_).mono ?_
  · have := Blk.sl_of (b := false) (l := [true, false, true]) (k := 1) (j := 0) (by decide) (by decide) (by decide)
    exact this
  rintro e w8 ⟨rfl, hb8⟩
  have B8 : Below w.heap.size w w8 := B7.trans (hb8.mono B7.size)
  clear B7 hb8
  go_wp2_with fail
  refine (blen_nil _).mono ?_
  rintro e w' ⟨rfl, rfl⟩
  go_wp2_with fail
  refine (bins_nil _ _ _).mono ?_
  rintro e w' ⟨rfl, rfl⟩
  go_wp2_with fail
  refine (bsplit_nil _).mono ?_
  rintro e w' ⟨rfl, rfl⟩
  go_wp2_with fail
  refine (bsel_nil _ _ _).mono ?_
  rintro e w' ⟨rfl, rfl⟩
  go_wp2_with fail
  go_ret
  exact ⟨rfl, B8⟩
end Go.Proofs.YtihekandplocmaaDoor
