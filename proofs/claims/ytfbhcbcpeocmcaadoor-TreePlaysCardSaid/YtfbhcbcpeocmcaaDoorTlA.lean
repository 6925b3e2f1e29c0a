/- A tree's calls, as the statements make them; told. -/
import Derived.Test.YtfbhcbcpeocmcaaDoorTmT
import Derived.Test.YtfbhcbcpeocmcaaDoorLstB
namespace Go.Proofs.YtfbhcbcpeocmcaaDoor
open Go Go.RowKit Go.ChangeAt Tr

theorem TM.wide {base t : Nat} {w w' : World} {S S' : St} (h : TM base w t S) (hV : Mv w w' S S') : Below base w w' := by
  have hl := h.lt
  obtain ⟨g, a, c, hx⟩ := h
  refine hV.st.below (by omega) (fun i _ hs => ?_)
  cases e : S.own i with
  | none => exact absurd e hs
  | some x => exact (hx.lab i x e).1
theorem TM.wide1 {base t : Nat} {w w' : World} {S : St} (h : TM base w t S) (hs : Stay (· = t) w w') : Below base w w' := hs.below (by have := h.lt; omega) (fun i _ e => by rw [e]; exact h.lt.1)
theorem Tre.below {base t : Nat} {w w' : World} {S : St} {m : List Bool} (h : Tre base w t S m) (hb : Below w.heap.size w w') : Tre base w' t S m := ⟨h.1.below hb, h.2⟩
theorem Tre.drewN {base t : Nat} {w : World} {S : St} {m : List Bool} (h : Tre base w t S m) (n : Nat) : Tre base (w.drewN n) t S m := ⟨h.1.drewN n, h.2⟩
/-- The contracts, with the numbers and the lists named. -/
theorem kins {base t : Nat} {S : St} {m : List Bool} (m' : List Bool) (k : Int) (n : Nat) (b : Bool) (w : World) (h : Tre base w t S m) (hk : k = n) (hn : n ≤ m.length) (hlen : m.length ≤ 100000000) (hm : Blk.ins m n b = m') :
    Calls Tryd.prog 19 #[.pointer (some ⟨t, 0, none⟩), .int .i64 k, .bool b] w fun e w' => e = .returned (.int .i64 0) ∧ ∃ S', Insd base w w' t S S' m' ∧ Below base w w' := by
  subst hk hm
  exact (tinsert b w h hn hlen).mono fun _ _ ⟨S', h1, h2⟩ => ⟨h1, S', h2, h.1.wide h2.mv⟩
theorem kins_out {base t : Nat} {S : St} {m : List Bool} (k : Int) (b : Bool) (w : World) (h : Tre base w t S m) (hk : k < 0 ∨ (m.length : Int) < k) :
    Calls Tryd.prog 19 #[.pointer (some ⟨t, 0, none⟩), .int .i64 k, .bool b] w fun e w' => e = .returned (.int .i64 2) ∧ Tre base w' t (S.see 0) m ∧ Below base w w' :=
  (tinsert_out k b w h hk).mono fun _ _ ⟨h1, h2, h3⟩ => ⟨h1, ⟨h2, h.2⟩, h.1.wide1 h3⟩
theorem kdel {base t : Nat} {S : St} {m : List Bool} (m' : List Bool) (k : Int) (n : Nat) (b : Bool) (w : World) (h : Tre base w t S m) (hk : k = n) (hn : n < m.length) (hlen : m.length ≤ 100000000) (hb : m.getD n false = b) (hm : Blk.del m n = m') :
    Calls Tryd.prog 21 #[.pointer (some ⟨t, 0, none⟩), .int .i64 k] w fun e w' => e = .returned (.tuple #[.bool b, .int .i64 0]) ∧ ∃ S', Deld base w w' t S S' m' ∧ Below base w w' := by
  subst hk hm hb
  exact (tdelete w h hn hlen).mono fun _ _ ⟨S', h1, h2⟩ => ⟨h1, S', h2, h.1.wide h2.mv⟩
theorem kdel_out {base t : Nat} {S : St} {m : List Bool} (k : Int) (w : World) (h : Tre base w t S m) (hk : k < 0 ∨ (m.length : Int) ≤ k) :
    Calls Tryd.prog 21 #[.pointer (some ⟨t, 0, none⟩), .int .i64 k] w fun e w' => e = .returned (.tuple #[.bool false, .int .i64 2]) ∧ Tre base w' t (S.see 0) m ∧ Below base w w' :=
  (tdelete_out k w h hk).mono fun _ _ ⟨h1, h2, h3⟩ => ⟨h1, ⟨h2, h.2⟩, h.1.wide1 h3⟩
theorem kget {base t : Nat} {S : St} {m : List Bool} (k : Int) (w : World) (h : Tre base w t S m) (hlen : m.length ≤ 100000000) :
    Calls Tryd.prog 24 #[.pointer (some ⟨t, 0, none⟩), .int .i64 k] w fun e w' => e = .returned (.tuple #[.bool (Blk.getB m k), .int .i64 (Blk.getE m k)]) ∧ ∃ v, Tre base w' t (S.see v) m ∧ Below base w w' ∧ v ≤ S.rt.ht + 1 ∧ Stay (· = t) w w' := by
  unfold Blk.getB Blk.getE
  by_cases hk : 0 ≤ k ∧ k < m.length
  · rw [if_pos hk, if_pos hk]
    obtain ⟨n, rfl⟩ := Int.eq_ofNat_of_zero_le hk.1
    rcases h.2 with ⟨rfl, _⟩ | ⟨a, h1, h2, h3, h4, rfl, h6, h7, h8⟩
    · have := hk.2; simp at this; omega
    · have hh := h.2.ht
      rw [h7, T.lk_ht] at hh
      exact (tget_in w h.1 h1 h7 (by omega) (by omega) (by omega)).mono fun _ _ ⟨v, q1, q2, q3, q4⟩ => ⟨q1, v, ⟨q2, h.2⟩, h.1.wide1 q3, by rw [h7, T.lk_ht]; exact q4, q3⟩
  · rw [if_neg hk, if_neg hk]
    exact (tget_out k w h (by omega)).mono fun _ _ ⟨q1, q2, q3⟩ => ⟨q1, 0, ⟨q2, h.2⟩, h.1.wide1 q3, Nat.zero_le _, q3⟩
theorem kget_at {base t : Nat} {S : St} {m : List Bool} (k : Int) (b : Bool) (e0 : Int) (w : World) (h : Tre base w t S m) (hlen : m.length ≤ 100000000) (hb : Blk.getB m k = b) (he : Blk.getE m k = e0) :
    Calls Tryd.prog 24 #[.pointer (some ⟨t, 0, none⟩), .int .i64 k] w fun e w' => e = .returned (.tuple #[.bool b, .int .i64 e0]) ∧ ∃ v, Tre base w' t (S.see v) m ∧ Below base w w' ∧ v ≤ S.rt.ht + 1 ∧ Stay (· = t) w w' := by
  subst hb he; exact kget k w h hlen
theorem krank {base t : Nat} {S : St} {m : List Bool} (k : Int) (b : Bool) (r : Int) (w : World) (h : Tre base w t S m) (hlen : m.length ≤ 100000000) (hr : (Blk.rk b m (place m.length k) : Int) = r) :
    Calls Tryd.prog 30 #[.pointer (some ⟨t, 0, none⟩), .int .i64 k, .bool b] w fun e w' => e = .returned (.int .i64 r) ∧ ∃ v, Tre base w' t (S.see v) m ∧ Below base w w' ∧ v ≤ S.rt.ht + 1 ∧ Stay (· = t) w w' := by
  subst hr
  exact (trank k b w h (by omega)).mono fun _ _ ⟨v, q1, q2, q3, q4⟩ => ⟨q1, v, ⟨q2, h.2⟩, h.1.wide1 q3, q4, q3⟩
theorem kselect {base t : Nat} {S : St} {m : List Bool} (j : Int) (b : Bool) (r : Int) (w : World) (h : Tre base w t S m) (hlen : m.length ≤ 100000000) (hT : TabAt w) (hb : 0 < base) (hr : Blk.sl b m j = r) :
    Calls Tryd.prog 31 #[.pointer (some ⟨t, 0, none⟩), .int .i64 j, .bool b] w fun e w' => e = .returned (.int .i64 r) ∧ ∃ v, Tre base w' t (S.see v) m ∧ Below base w w' ∧ v ≤ S.rt.ht + 1 ∧ Stay (· = t) w w' := by
  subst hr
  exact (tselect j b w h (by omega) hT hb).mono fun _ _ ⟨v, q1, q2, q3, q4⟩ => ⟨q1, v, ⟨q2, h.2⟩, h.1.wide1 q3, q4, q3⟩
theorem klen {base t : Nat} {S : St} {m : List Bool} (n : Int) (w : World) (h : Tre base w t S m) (hn : (m.length : Int) = n) :
    Calls Tryd.prog 27 #[.pointer (some ⟨t, 0, none⟩)] w fun e w' => e = .returned (.int .i64 n) ∧ w = w' := by
  subst hn; exact tlen w h
theorem kones {base t : Nat} {S : St} {m : List Bool} (n : Int) (w : World) (h : Tre base w t S m) (hn : (m.count true : Int) = n) :
    Calls Tryd.prog 29 #[.pointer (some ⟨t, 0, none⟩)] w fun e w' => e = .returned (.int .i64 n) ∧ w = w' := by
  subst hn; exact tones w h
theorem kshape {base t : Nat} {S : St} {m : List Bool} (s : Value) (w : World) (h : Tre base w t S m) (hlen : m.length ≤ 100000000) (hs : shapeOf S = s) :
    Calls Tryd.prog 17 #[.pointer (some ⟨t, 0, none⟩)] w fun e w' => e = .returned s ∧ Below w.heap.size w w' := by
  subst hs; exact tshape w h (by omega)
theorem klive {base t : Nat} {S : St} {m : List Bool} (n : Int) (w : World) (h : Tre base w t S m) (hn : (S.live : Int) = n) :
    Calls Tryd.prog 26 #[.pointer (some ⟨t, 0, none⟩)] w fun e w' => e = .returned (.int .i64 n) ∧ ∃ x, w' = w.drewN x := by
  subst hn; exact tlive w h.1
/-- A tree beside another that was read. -/
theorem Tre.apart {base t n : Nat} {w w' : World} {S : St} {m : List Bool} (h : Tre base w n S m) (hs : Stay (· = t) w w') (ht : t < base) : Tre base w' n S m :=
  ⟨h.1.stay hs (fun b hb e => by
    obtain ⟨g, a, c, hx⟩ := h.1
    cases e2 : S.own b with
    | none => exact hb e2
    | some x => have := (hx.lab b x e2).1; omega), h.2⟩
/-- Of few bits there is one node. -/
theorem Root.few {S : St} {m : List Bool} (h : Root S m) (h1 : 0 < m.length) (h2 : m.length < 64) : S.rt.ht = 0 ∧ S.live = 1 := by
  rcases h with ⟨rfl, _⟩ | ⟨a, q1, q2, q3, q4, rfl, q6, q7, q8⟩
  · simp at h1
  · obtain ⟨k, l, rfl⟩ := T.ok.leaf q4 h2
    exact ⟨by rw [q7]; rfl, q8⟩
theorem Root.none {S : St} (h : Root S []) : shapeOf S = .agg #[.int .i64 0, .int .i64 0, .int .i64 0, .int .i64 0] ∧ S.live = 0 ∧ S.rt.ht = 0 := by
  rcases h with ⟨_, h1, _, h3, h4⟩ | ⟨a, _, _, _, _, _, q6, _⟩
  · refine ⟨?_, h4, h3⟩
    unfold shapeOf; rw [h1, h3, h4]; rfl
  · simp at q6
theorem rd_lits (w : World) (l : List Bool) (hl : l.length ≤ maxLen) : RdB (w.alloc (.cells (l.map Value.bool).toArray 4)) (.slice (some ⟨w.heap.size, 0, none⟩) l.length l.length) l := by
  refine .inr ⟨w.heap.size, 0, l.length, rfl, by simp, Nat.le_refl _, hl, fun i hi => new_cell rfl ?_⟩
  simp [hi]
set_option maxHeartbeats 6400000 in
theorem told_any (w : World) (hT : TabAt w) (hw0 : 0 < w.heap.size) :
    Calls Tryd.prog 16 #[] w fun e w' => e = .returned (.bool true) ∧ Below w.heap.size w w' := by
  have HT := Lib.hid hT
  have hr0 : RdB (w.alloc (Obj.cells #[.bool true, .bool false] 4)) (.slice (some ⟨w.heap.size, 0, none⟩) 2 2) [true, false] := rd_lits w [true, false] (by show 2 ≤ maxLen; decide)
  have key := tnew _ hr0 (by show 2 ≤ _; decide)
  have hbA : Below w.heap.size w (w.alloc (Obj.cells #[.bool true, .bool false] 4)) := Below.allocs (Below.refl _ _) _
  clear hT hr0
  go_enter Tryd.func16, Tryd.ntmps16
  go_wp2_with fail
  (with_reducible refine key.mono ?_); rintro e w1 ⟨S1, rfl, hN⟩
  have hB1 : Below w.heap.size w w1 := hbA.trans (hN.below.mono hbA.size)
  have hz1 : w.heap.size ≤ (w.alloc (Obj.cells #[.bool true, .bool false] 4)).heap.size := hbA.size
  have hTr := hN.tre
  clear hN key
  generalize (w.alloc (Obj.cells #[.bool true, .bool false] 4)).heap.size = t at *
  have key := kins [true, true, false] 1 1 true w1 hTr rfl (by show 1 ≤ 2; decide) (by show 2 ≤ _; decide) rfl
  go_wp2_with fail
  (with_reducible refine key.mono ?_); rintro e w2 ⟨rfl, S2, hI, hb2⟩
  have hB2 := hB1.trans (hb2.mono hz1)
  have hTr2 := hI.tre
  clear hI hb2 key hTr
  have key := kins_out 9 true w2 hTr2 (.inr (by show (3 : Int) < 9; decide))
  go_wp2_with fail
  (with_reducible refine key.mono ?_); rintro e w3 ⟨rfl, hTr3, hb3⟩
  have hB3 := hB2.trans (hb3.mono hz1)
  clear hb3 key hTr2
  have key := kdel [true, false] 0 0 true w3 hTr3 rfl (by show 0 < 3; decide) (by show 3 ≤ _; decide) rfl rfl
  go_wp2_with fail
  (with_reducible refine key.mono ?_); rintro e w4 ⟨rfl, S4, hD, hb4⟩
  have hB4 := hB3.trans (hb4.mono hz1)
  have hTr4 := hD.tre
  clear hD hb4 key hTr3
  have key := kget_at 2 false 2 w4 hTr4 (by show 2 ≤ _; decide) (if_neg (by show ¬ (0 ≤ (2 : Int) ∧ (2 : Int) < 2); decide)) (if_neg (by show ¬ (0 ≤ (2 : Int) ∧ (2 : Int) < 2); decide))
  go_wp2_with fail
  (with_reducible refine key.mono ?_); rintro e w5 ⟨rfl, v5, hTr5, hb5, _, _⟩
  have hB5 := hB4.trans (hb5.mono hz1)
  clear hb5 key hTr4
  have key := tnew_none w5
  go_wp2_with fail
  (with_reducible refine key.mono ?_); rintro e w6 ⟨S6, rfl, hN⟩
  have hz5 := hB5.size
  have hB6 := hB5.trans (hN.below.mono hz5)
  have hTr6 := hTr5.below hN.below
  have hTn := hN.tre
  have hn6 : ¬ (some (⟨w5.heap.size, 0, none⟩ : Addr)) = none := fun h => by cases h
  have htn : t < w5.heap.size := hTr5.1.lt.2
  clear hN key hTr5
  generalize w5.heap.size = n at *
  have HTr := Lib.hid hTr6
  have HTn := Lib.hid hTn
  have HB := Lib.hid hB6
  have hz6 := hB6.size
  clear hTr6 hTn hB6 hB5 hB4 hB3 hB2 hB1 hbA
  have key := klen 2 w6 HTr.out rfl
  go_wp2_with fail
  (with_reducible refine key.mono ?_); rintro e w6' ⟨rfl, rfl⟩
  clear key
  have key := kones 1 w6 HTr.out rfl
  go_wp2_with fail
  (with_reducible refine key.mono ?_); rintro e w6' ⟨rfl, rfl⟩
  clear key
  have key := krank 2 false 1 w6 HTr.out (by show 2 ≤ _; decide) rfl
  go_wp2_with fail
  (with_reducible refine key.mono ?_); rintro e w7 ⟨rfl, v7, hTr7, hb7, _, hs7⟩
  have hB7 := HB.out.trans (hb7.mono hz1)
  have hTn7 := HTn.out.apart hs7 htn
  clear key hs7 hb7
  have hsl : Blk.sl false [true, false] 0 = 1 := by unfold Blk.sl; rw [if_pos (by decide)]; rfl
  have key := kselect 0 false 1 w7 hTr7 (by show 2 ≤ _; decide) (HT.out.below hB7 hw0) (by omega) hsl
  go_wp2_with fail
  (with_reducible refine key.mono ?_); rintro e w8 ⟨rfl, v8, hTr8, hb8, _, hs8⟩
  have hB8 := hB7.trans (hb8.mono hz1)
  have hTn8 := hTn7.apart hs8 htn
  obtain ⟨q1, q2⟩ := hTr8.2.few (by show 0 < 2; decide) (by show 2 < 64; decide)
  have q3 := hTr8.2.len
  have hsh : shapeOf ((S4.see v5 |>.see v7).see v8) = .agg #[.int .i64 2, .int .i64 0, .int .i64 1, .int .i64 1] := by
    unfold shapeOf
    rw [q1, q2, q3]
    rfl
  clear key hs8 hb8 hTn7 hTr7 hB7
  have key := kshape _ w8 hTr8 (by show 2 ≤ _; decide) hsh
  go_wp2_with fail
  (with_reducible refine key.mono ?_); rintro e w9 ⟨rfl, hb9⟩
  have hz8 := hB8.size
  have hTr9 := hTr8.below hb9
  have hTn9 := hTn8.below hb9
  have hB9 := hB8.trans (hb9.mono hz8)
  clear key hb9 hTr8 hTn8 hB8 hsh
  have key := klive 1 w9 hTr9 (by rw [q2]; rfl)
  go_wp2_with fail
  (with_reducible refine key.mono ?_); rintro e w10 ⟨rfl, x, rfl⟩
  have hTn10 := hTn9.drewN x
  have hB10 := hB9.drewN x
  clear key hTr9 hTn9 hB9
  generalize w9.drewN x = w10 at *
  have key := kshape _ w10 hTn10 (by show 0 ≤ _; decide) hTn10.2.none.1
  go_wp2_with fail
  (with_reducible refine key.mono ?_); rintro e w11 ⟨rfl, hb11⟩
  have hB11 := hB10.trans (hb11.mono hB10.size)
  clear key hb11 hTn10 hB10
  have key := tinsert_nil 0 true w11
  go_wp2_with fail
  (with_reducible refine key.mono ?_); rintro e w12 ⟨rfl, rfl⟩
  clear key
  have key := trank_nil 1 true w11
  go_wp2_with fail
  (with_reducible refine key.mono ?_); rintro e w12 ⟨rfl, rfl⟩
  clear key
  have key := tselect_nil 0 true w11
  go_wp2_with fail
  (with_reducible refine key.mono ?_); rintro e w12 ⟨rfl, rfl⟩
  clear key
  go_wp2_with fail
  go_ret
  exact ⟨rfl, hB11⟩
end Go.Proofs.YtfbhcbcpeocmcaaDoor
