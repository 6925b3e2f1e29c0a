/- What layer 10's statements ask of a few: told. -/
import Derived.Test.YthbbokoeiifjdaaGreatDoorKwF
namespace Go.Proofs.YthbbokoeiifjdaaGreatDoor
open Go Go.RowKit Go.ChangeAt

/-- The two walks that are asked. -/
structure Tw (W w : World) (b lo hi b2 lo2 hi2 : Nat) : Prop where
  a : Wlk w b lo hi t3
  c : Wlk w b2 lo2 hi2 t3
  bw : Below W.heap.size W w
  sep : hi ≤ lo2
  lo : W.heap.size ≤ lo
theorem Tw.next {W w w' : World} {b lo hi b2 lo2 hi2 : Nat} (h : Tw W w b lo hi b2 lo2 hi2) (k : Wlk w' b lo hi t3) (k2 : Stay (Win lo hi) w w') : Tw W w' b lo hi b2 lo2 hi2 :=
  ⟨k, h.c.beside k2 (.inr h.sep) h.a.size.1, h.bw.win k2 h.lo, h.sep, h.lo⟩
theorem Tw.below {W w w' : World} {b lo hi b2 lo2 hi2 : Nat} (h : Tw W w b lo hi b2 lo2 hi2) (k : Below w.heap.size w w') : Tw W w' b lo hi b2 lo2 hi2 :=
  ⟨h.a.below k, h.c.below k, h.bw.trans (k.mono h.bw.size), h.sep, h.lo⟩

set_option maxHeartbeats 3200000 in
set_option maxRecDepth 100000 in
theorem told10 (w : World) (hT : TabAt w) (hpos : 0 < w.heap.size) : Calls Tryz.prog 4 #[] w fun e w' => e = .returned (.bool true) ∧ Below w.heap.size w w' := by
  have hcv := fun w => conv_marks w #[Value.int .u8 97, Value.int .u8 98, Value.int .u8 97] 3 3
  simp only [List.size_toArray, List.length_cons, List.length_nil, Nat.zero_add, Nat.reduceAdd] at hcv
  have hb0 : Below w.heap.size w (w.alloc (.cells #[Value.int .u8 97, Value.int .u8 98, Value.int .u8 97] 5 (3, 4))) := (Below.refl _ _).alloc (Nat.le_refl _) _
  have key := wnew_t _ (hT.below hb0 hpos) (by have := hb0.size; omega) (RdU.lits w rfl #[Value.int .u8 97, Value.int .u8 98, Value.int .u8 97] t3 (3, 4) (n := 3) rfl (by decide) vs3) (n := 3) rfl (by decide)
  have HB := Lib.hid hb0
  have HT := Lib.hid hT
  clear hT hb0
  go_enter Tryz.func4, Tryz.ntmps4
  go_wp2_with fail
  (with_reducible refine key.mono ?_); rintro e w1 ⟨b, rfl, hX, hb1⟩
  clear key hcv
  obtain ⟨lo, hlo⟩ : ∃ lo, (w.alloc (.cells #[Value.int .u8 97, Value.int .u8 98, Value.int .u8 97] 5 (3, 4))).heap.size = lo := ⟨_, rfl⟩
  have hwlo : w.heap.size ≤ lo := by rw [← hlo]; exact HB.out.size
  have hbw : Below w.heap.size w w1 := HB.out.trans (hb1.mono HB.out.size)
  rw [hlo] at hX
  obtain ⟨hi, hhi⟩ : ∃ hi, w1.heap.size = hi := ⟨_, rfl⟩
  rw [hhi] at hX
  have hb2 : Below w1.heap.size w1 (w1.alloc (.cells #[Value.int .i64 98, Value.int .i64 99, Value.int .i64 0, Value.int .i64 98] 3)) := (Below.refl _ _).alloc (Nat.le_refl _) _
  have hbw2 := hbw.trans (hb2.mono hbw.size)
  have key := wof_t (t := t3) _ (HT.out.below hbw2 hpos) (by have := hbw2.size; omega) (RdL.lits w1 rfl [98, 99, 0, 98] (n := 4) (vs := #[Value.int .i64 98, Value.int .i64 99, Value.int .i64 0, Value.int .i64 98]) rfl (by decide) rfl) (n := 4) rfl (by decide) Lx_t3
  have hs2 := hb2.size
  have HX := Lib.hid (hX.below hb2)
  have HB := Lib.hid hbw2
  obtain ⟨lo2, hlo2⟩ : ∃ lo2, (w1.alloc (.cells #[Value.int .i64 98, Value.int .i64 99, Value.int .i64 0, Value.int .i64 98] 3)).heap.size = lo2 := ⟨_, rfl⟩
  have hsep : hi ≤ lo2 := by rw [← hlo2, ← hhi]; exact hs2
  have HLO2 := Lib.hid hlo2
  have HP := Lib.hid hpos
  have HSEP := Lib.hid (And.intro hwlo hsep)
  clear hX hb1 hb2 hbw hbw2 hlo hlo2 hs2 hhi hpos hwlo hsep
  go_wp2_with fail
  (with_reducible refine key.mono ?_); rintro e w2 ⟨b2, rfl, hX2, hb2⟩
  clear key
  rw [HLO2.out] at hX2
  obtain ⟨hi2, hhi2⟩ : ∃ hi2, w2.heap.size = hi2 := ⟨_, rfl⟩
  rw [hhi2] at hX2
  have hbw := HB.out.trans (hb2.mono HB.out.size)
  have hb3 : Below w2.heap.size w2 (w2.alloc (.cells #[Value.int .i64 98] 3)) := (Below.refl _ _).alloc (Nat.le_refl _) _
  have key := kwalk_no _ (RdL.lits w2 rfl [98] (n := 1) (vs := #[Value.int .i64 98]) rfl (by decide) rfl) (n := 1) rfl (by decide) no_one
  have HX := Lib.hid ((HX.out.below hb2).below hb3)
  have HX2 := Lib.hid (hX2.below hb3)
  have HB := Lib.hid (hbw.trans (hb3.mono hbw.size))
  clear hbw hb3 hb2 hhi2 hX2
  go_wp2_with fail
  (with_reducible refine key.mono ?_); rintro e w3 ⟨rfl, hb3⟩
  clear key
  have hT3 : Tw w w3 b lo hi b2 lo2 hi2 := ⟨HX.out.below hb3, HX2.out.below hb3, HB.out.trans (hb3.mono HB.out.size), HSEP.out.2, HSEP.out.1⟩
  have key := hT3.a.narrow 0 4 98 1 3 (by decide) (by show ((nrx t3 0 98 : Nat) : Int) = 1; rw [nr_t3.1]; rfl) (by show ((nrx t3 4 98 : Nat) : Int) = 3; rw [nr_t3.2.1]; rfl)
  have HH := Lib.hid hT3
  clear hb3 hT3 HX HX2 HB HSEP HLO2 HT HP
  go_wp2_with fail
  (with_reducible refine key.mono ?_); rintro e w4 ⟨rfl, hX, hS⟩
  have HH := Lib.hid (HH.out.next hX hS)
  have key := hX.narrow 1 3 99 3 4 (by decide) (by show ((nrx t3 1 99 : Nat) : Int) = 3; rw [nr_t3.2.2.1]; rfl) (by show ((nrx t3 3 99 : Nat) : Int) = 4; rw [nr_t3.2.2.2]; rfl)
  clear hX hS
  go_wp2_with fail
  (with_reducible refine key.mono ?_); rintro e w5 ⟨rfl, hX, hS⟩
  have HH := Lib.hid (HH.out.next hX hS)
  have key := narrow_no (.pointer (some ⟨b, 0, none⟩)) 0 4 300 w5 (by decide)
  have key2 := hX.back 2 2 0 rfl (by decide) (by rw [bk_t3.1]; rfl)
  clear hX hS
  go_wp2_with fail
  (with_reducible refine key.mono ?_); rintro e w5' ⟨rfl, rfl⟩
  clear key
  go_wp2_with fail
  (with_reducible refine key2.mono ?_); rintro e w6 ⟨rfl, hX, hS⟩
  clear key2
  have HH := Lib.hid (HH.out.next hX hS)
  have key := hX.on 0 0 2 rfl (by decide) (by rw [on_t3]; rfl)
  clear hX hS
  go_wp2_with fail
  (with_reducible refine key.mono ?_); rintro e w7 ⟨rfl, hX, hS⟩
  have HH := Lib.hid (HH.out.next hX hS)
  have key := hX.back 0 0 1 rfl (by decide) (by rw [bk_t3.2]; rfl)
  clear hX hS
  go_wp2_with fail
  (with_reducible refine key.mono ?_); rintro e w8 ⟨rfl, hX, hS⟩
  have HH := Lib.hid (HH.out.next hX hS)
  have key := hX.first 3 3 99 rfl (by decide) fs_t3
  clear hX hS
  go_wp2_with fail
  (with_reducible refine key.mono ?_); rintro e w9 ⟨rfl, hb⟩
  have HH := Lib.hid (HH.out.below hb)
  have key := HH.out.a.first_no 4 (.inr (by decide))
  clear hb
  go_wp2_with fail
  (with_reducible refine key.mono ?_); rintro e w10 ⟨rfl, hb⟩
  have HH := Lib.hid (HH.out.below hb)
  have key := HH.out.a.text 3 rfl
  clear hb
  go_wp2_with fail
  (with_reducible refine key.mono ?_); rintro e w11 ⟨B, rfl, -, hr, hb⟩
  have HH := Lib.hid (HH.out.below hb)
  have hcv := conv_str hr (n := 3) rfl
  rw [str_t3] at hcv
  have key := HH.out.c.text 3 rfl
  clear hb hr
  go_wp2_with fail
  (with_reducible refine key.mono ?_); rintro e w12 ⟨B2, rfl, -, hr, hb⟩
  clear hcv
  have HH := Lib.hid (HH.out.below hb)
  have hcv := conv_str hr (n := 3) rfl
  rw [str_t3] at hcv
  have key := HH.out.a.len 4 rfl
  clear hb hr
  go_wp2_with fail
  (with_reducible refine key.mono ?_); rintro e w13 ⟨rfl, hb⟩
  clear hcv
  have HH := Lib.hid (HH.out.below hb)
  have key := HH.out.a.all 4 rfl
  clear hb
  go_wp2_with fail
  (with_reducible refine key.mono ?_); rintro e w14 ⟨B3, c3, rfl, -, -, -, hb⟩
  have HH := Lib.hid (HH.out.below hb)
  have key := kback_nil 0 w14
  clear hb
  go_wp2_with fail
  (with_reducible refine key.mono ?_); rintro e w15 ⟨rfl, hb⟩
  have HH := Lib.hid (HH.out.below hb)
  have key := klen_nil w15
  clear hb
  go_wp2_with fail
  (with_reducible refine key.mono ?_); rintro e w16 ⟨rfl, hb⟩
  have HH := Lib.hid (HH.out.below hb)
  clear hb key
  go_wp2_with fail
  go_ret
  exact ⟨rfl, HH.out.bw⟩
end Go.Proofs.YthbbokoeiifjdaaGreatDoor
