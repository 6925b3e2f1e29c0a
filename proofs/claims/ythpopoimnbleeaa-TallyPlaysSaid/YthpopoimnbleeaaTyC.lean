/- Tallies as the statements use them: of the call's own, the contracts; the eighth law's told: a walk. -/
import Derived.Test.YthpopoimnbleeaaTyB
import Derived.Test.YthpopoimnbleeaaRdZ
namespace Go.Proofs.Ythpopoimnbleeaa
open Go Go.RowKit Go.ChangeAt

/-- A tally of the law's own: it lies above B, and nothing below it has turned. -/
structure Tst (B : Nat) (W wr : World) (t : Nat) (f : Ty.Cnt) : Prop where
  tal : Tal wr t f
  own : B ≤ t
  below : Below B W wr
  le : B ≤ wr.heap.size
theorem Tst.next {B : Nat} {W w w' : World} {t : Nat} {f f' : Ty.Cnt} (h : Tst B W w t f) (ht : Tal w' t f') (hs : Stay (· = t) w w') : Tst B W w' t f' :=
  ⟨ht, h.own, h.below.trans (hs.below h.le (fun i _ (e : i = t) => e ▸ h.own)), Nat.le_trans h.le hs.size⟩
theorem Tst.beside {B : Nat} {W w w' : World} {t : Nat} {f : Ty.Cnt} (h : Tst B W w t f) (hb : Below w.heap.size w w') : Tst B W w' t f :=
  ⟨h.tal.below hb, h.own, h.below.trans (hb.mono h.le), Nat.le_trans h.le hb.size⟩
theorem Tst.aside {B : Nat} {W w w' : World} {t : Nat} {f : Ty.Cnt} {S : Nat → Prop} (h : Tst B W w t f) (hs : Stay S w w') (hn : ¬ S t) (hB : ∀ i, i < w.heap.size → S i → B ≤ i) : Tst B W w' t f :=
  ⟨h.tal.stay hs hn, h.own, h.below.trans (hs.below h.le hB), Nat.le_trans h.le hs.size⟩
theorem stay_of {S : Nat → Prop} {a b : World} (h : Below a.heap.size a b) : Stay S a b := Stay.of_below h
/-- What a call leaves. -/
abbrev TPost (B : Nat) (W w : World) (t : Nat) (f : Ty.Cnt) (r : Int) (e : Ending) (w' : World) : Prop := e = .returned (.int .i64 r) ∧ Tst B W w' t f ∧ Stay (· = t) w w'
theorem Tst.read {B : Nat} {W w w' : World} {t : Nat} {f : Ty.Cnt} {r r' : Int} {e : Ending} (h : Tst B W w t f) (he : e = .returned (.int .i64 r)) (hr : r = r') (hb : Below w.heap.size w w') : TPost B W w t f r' e w' :=
  ⟨by rw [he, hr], h.beside hb, stay_of hb⟩
theorem Tst.klen {B : Nat} {W w : World} {t : Nat} {f : Ty.Cnt} (h : Tst B W w t f) (r : Int) (hr : (Ty.all f : Int) = r) :
    Calls Try.prog 10 #[.pointer (some ⟨t, 0, none⟩)] w (TPost B W w t f r) :=
  (tlen w h.tal).mono fun _ _ ⟨he, hw⟩ => h.read he hr (hw ▸ Below.refl _ _)
theorem Tst.kbelow {B : Nat} {W w : World} {t : Nat} {f : Ty.Cnt} (h : Tst B W w t f) (q r : Int) (hr : (Ty.bel f (Ty.clamp q) : Int) = r) :
    Calls Try.prog 13 #[.pointer (some ⟨t, 0, none⟩), .int .i64 q] w (TPost B W w t f r) :=
  (tbelow q w h.tal).mono fun _ _ ⟨he, hw⟩ => h.read he hr (hw ▸ Below.refl _ _)
theorem Tst.kof {B : Nat} {W w : World} {t : Nat} {f : Ty.Cnt} (h : Tst B W w t f) (k : Int) (n : Nat) (r : Int) (hk : k = n) (hn : n < 257) (hr : (f n : Int) = r) :
    Calls Try.prog 14 #[.pointer (some ⟨t, 0, none⟩), .int .i64 k] w (TPost B W w t f r) :=
  (tof k n w h.tal hk hn).mono fun _ _ ⟨he, m, hw⟩ => h.read he hr (hw ▸ (Below.refl _ _).drewN m)
theorem Tst.kwhich {B : Nat} {W w : World} {t : Nat} {f : Ty.Cnt} (h : Tst B W w t f) (k r : Int) (hr : Ty.wh f k = r) :
    Calls Try.prog 12 #[.pointer (some ⟨t, 0, none⟩), .int .i64 k] w (TPost B W w t f r) :=
  (twhich k w h.tal).mono fun _ _ ⟨he, hb⟩ => h.read he hr hb
theorem Tst.kadd_arg {B : Nat} {W w : World} {t : Nat} {f : Ty.Cnt} (h : Tst B W w t f) (s k : Int) (hs : ¬ (0 ≤ s ∧ s < 257)) :
    Calls Try.prog 9 #[.pointer (some ⟨t, 0, none⟩), .int .i64 s, .int .i64 k] w (TPost B W w t f 1) :=
  (tadd_arg s k w hs).mono fun _ _ ⟨he, hw⟩ => h.read he rfl (hw ▸ Below.refl _ _)
theorem Tst.kadd_range {B : Nat} {W w : World} {t : Nat} {f : Ty.Cnt} (h : Tst B W w t f) (s k : Int) (n : Nat) (hs : s = n) (hn : n < 257) (hk : I64 k) (hr : (f n : Int) + k < 0 ∨ 2147483648 < (Ty.all f : Int) + k) :
    Calls Try.prog 9 #[.pointer (some ⟨t, 0, none⟩), .int .i64 s, .int .i64 k] w (TPost B W w t f 2) :=
  (tadd_range s k n w h.tal hs hn hk hr).mono fun _ _ ⟨he, m, hw⟩ => h.read he rfl (hw ▸ (Below.refl _ _).drewN m)
theorem Tst.kadd {B : Nat} {W w : World} {t : Nat} {f : Ty.Cnt} (h : Tst B W w t f) (s k : Int) (n v : Nat) (f' : Ty.Cnt) (hs : s = n) (hn : n < 257) (hk : I64 k) (hv : (f n : Int) + k = v) (hr : (Ty.all f : Int) + k ≤ 2147483648) (hf : Ty.add f n v = f') :
    Calls Try.prog 9 #[.pointer (some ⟨t, 0, none⟩), .int .i64 s, .int .i64 k] w (TPost B W w t f' 0) := by
  subst hf
  exact (tadd s k n v w h.tal hs hn hk hv hr).mono fun _ _ ⟨he, ht, hw⟩ => ⟨he, h.next ht hw, hw⟩
/-- New, of symbols alone. -/
theorem knew8 {a : Option Addr} {cap n : Nat} {l : List Int} (w : World) (h : RdL w a cap l) (hl : l.length = n) (hn : n ≤ 1000000) (hg : ∀ s ∈ l, 0 ≤ s ∧ s ≤ 256) :
    Calls Try.prog 8 #[.slice a n cap] w fun e w' => e = .returned (.tuple #[.pointer (some ⟨w.heap.size, 0, none⟩), .int .i64 0]) ∧ Tst w.heap.size w w' w.heap.size (Ty.of l) :=
  (tnew_any w h hl hn).mono fun _ _ ⟨h1, hb⟩ => by
    rcases h1 with ⟨_, he, ht⟩ | ⟨hno, _⟩
    · exact ⟨he, ht, Nat.le_refl _, hb, hb.size⟩
    · exact absurd hg hno
theorem knew8_bad {a : Option Addr} {cap n : Nat} {l : List Int} (w : World) (h : RdL w a cap l) (hl : l.length = n) (hn : n ≤ 1000000) (hg : ¬ ∀ s ∈ l, 0 ≤ s ∧ s ≤ 256) :
    Calls Try.prog 8 #[.slice a n cap] w fun e w' => e = .returned (.tuple #[.pointer none, .int .i64 1]) ∧ Below w.heap.size w w' :=
  (tnew_any w h hl hn).mono fun _ _ ⟨h1, hb⟩ => by
    rcases h1 with ⟨hyes, _⟩ | ⟨_, he⟩
    · exact absurd hyes hg
    · exact ⟨he, hb⟩
/-- The few of told. -/
def t8 : Ty.Cnt := Ty.of [0, 5, 5, 256]
def t8' : Ty.Cnt := Ty.add t8 5 0
theorem t8_all : Ty.all t8 = 4 := by decide +kernel
theorem t8_all' : Ty.all t8' = 2 := by decide +kernel
theorem t8_256 : Ty.bel t8' 256 = 1 := by decide +kernel
set_option maxHeartbeats 3200000 in
set_option maxRecDepth 100000 in
theorem told8 (w : World) :
    Calls Try.prog 11 #[] w fun e w' => e = .returned (.bool true) ∧ Below w.heap.size w w' := by
  have hr0 : RdL (w.alloc (Obj.cells #[.int .i64 0, .int .i64 5, .int .i64 5, .int .i64 256] 3)) (some ⟨w.heap.size, 0, none⟩) 4 [0, 5, 5, 256] := RdL.made [0, 5, 5, 256] (by show 4 ≤ maxLen; decide)
  have hbA : Below w.heap.size w (w.alloc (Obj.cells #[.int .i64 0, .int .i64 5, .int .i64 5, .int .i64 256] 3)) := (Below.refl _ _).alloc (Nat.le_refl _) _
  have key := knew8 _ hr0 (n := 4) rfl (by decide) (by intro s hs; simp at hs; rcases hs with rfl | rfl | rfl <;> decide)
  obtain ⟨w1, hw1⟩ : ∃ w1, w.alloc (Obj.cells #[.int .i64 0, .int .i64 5, .int .i64 5, .int .i64 256] 3) = w1 := ⟨_, rfl⟩
  obtain ⟨B, hB⟩ : ∃ B, w1.heap.size = B := ⟨_, rfl⟩
  rw [hw1] at key hbA
  rw [hB] at key
  have HW1 := Lib.hid hw1
  have HBA := Lib.hid hbA
  have HBB := Lib.hid hB
  clear hr0 hw1 hbA hB
  go_enter Try.func11, Try.ntmps11
  go_wp2_with fail
  rw [HW1.out]
  (with_reducible refine key.mono ?_); rintro e w2 ⟨rfl, hT⟩
  clear key
  have hT : Tst B w1 w2 B t8 := hT
  have hr1 : RdL (w2.alloc (Obj.cells #[.int .i64 (-1)] 3)) (some ⟨w2.heap.size, 0, none⟩) 1 [-1] := RdL.made [-1] (by show 1 ≤ maxLen; decide)
  have key := knew8_bad _ hr1 (n := 1) rfl (by decide) (by intro h; have := h (-1) (by simp); omega)
  have H2 := Lib.hid (hT.beside (w' := w2.alloc (Obj.cells #[.int .i64 (-1)] 3)) ((Below.refl _ _).alloc (Nat.le_refl _) _))
  clear hr1 hT
  go_wp2_with fail
  (with_reducible refine key.mono ?_); rintro e w3 ⟨rfl, h9⟩
  have H3 := Lib.hid (H2.out.beside h9)
  clear key h9 H2
  have key := H3.out.kadd 5 (-2) 5 0 t8' rfl (by decide) ⟨by decide, by decide⟩ (by decide +kernel) (by rw [t8_all]; decide) rfl
  clear H3
  go_wp2_with fail
  (with_reducible refine key.mono ?_); rintro e w4 ⟨rfl, h9, -⟩
  have H4 := Lib.hid h9
  clear key h9
  have key := H4.out.kadd_range 0 (-2) 0 rfl (by decide) ⟨by decide, by decide⟩ (.inl (by decide +kernel))
  clear H4
  go_wp2_with fail
  (with_reducible refine key.mono ?_); rintro e w5 ⟨rfl, h9, -⟩
  have H5 := Lib.hid h9
  clear key h9
  have key := H5.out.kadd_arg 300 1 (by omega)
  clear H5
  go_wp2_with fail
  (with_reducible refine key.mono ?_); rintro e w6 ⟨rfl, h9, -⟩
  have H6 := Lib.hid h9
  clear key h9
  have key := H6.out.kadd_range 7 2147483648 7 rfl (by decide) ⟨by decide, by decide⟩ (.inr (by rw [t8_all']; decide))
  clear H6
  go_wp2_with fail
  (with_reducible refine key.mono ?_); rintro e w7 ⟨rfl, h9, -⟩
  have H7 := Lib.hid h9
  clear key h9
  have key := H7.out.kof 5 5 0 rfl (by decide) (by decide +kernel)
  clear H7
  go_wp2_with fail
  (with_reducible refine key.mono ?_); rintro e w8 ⟨rfl, h9, -⟩
  have H8 := Lib.hid h9
  clear key h9
  have key := H8.out.kof 256 256 1 rfl (by decide) (by decide +kernel)
  clear H8
  go_wp2_with fail
  (with_reducible refine key.mono ?_); rintro e w9 ⟨rfl, h9, -⟩
  have H9 := Lib.hid h9
  clear key h9
  have key := H9.out.kbelow 256 1 (by rw [show Ty.clamp 256 = 256 from rfl, t8_256]; rfl)
  clear H9
  go_wp2_with fail
  (with_reducible refine key.mono ?_); rintro e w10 ⟨rfl, h9, -⟩
  have H10 := Lib.hid h9
  clear key h9
  have key := H10.out.kbelow 999 2 (by rw [show Ty.clamp 999 = 257 from rfl]; exact congrArg (fun n : Nat => (n : Int)) t8_all')
  clear H10
  go_wp2_with fail
  (with_reducible refine key.mono ?_); rintro e w11 ⟨rfl, h9, -⟩
  have H11 := Lib.hid h9
  clear key h9
  have key := H11.out.kbelow (-4) 0 (by rw [show Ty.clamp (-4) = 0 from rfl]; rfl)
  clear H11
  go_wp2_with fail
  (with_reducible refine key.mono ?_); rintro e w12 ⟨rfl, h9, -⟩
  have H12 := Lib.hid h9
  clear key h9
  have key := H12.out.kwhich 1 256 (Ty.wh_of (k := 1) (s := 256) (by decide) (by rw [t8_256]; decide) (by have h : Ty.bel t8' (256 + 1) = 2 := t8_all'; rw [h]; decide))
  clear H12
  go_wp2_with fail
  (with_reducible refine key.mono ?_); rintro e w13 ⟨rfl, h9, -⟩
  have H13 := Lib.hid h9
  clear key h9
  have key := H13.out.kwhich 2 (-1) (Ty.wh_none (.inr (by rw [t8_all']; decide)))
  clear H13
  go_wp2_with fail
  (with_reducible refine key.mono ?_); rintro e w14 ⟨rfl, h9, -⟩
  have H14 := Lib.hid h9
  clear key h9
  have key := H14.out.klen 2 (by rw [t8_all']; rfl)
  clear H14
  go_wp2_with fail
  (with_reducible refine key.mono ?_); rintro e w15 ⟨rfl, h9, -⟩
  have H15 := Lib.hid h9
  clear key h9
  have key := tadd_nil 1 1 w15
  go_wp2_with fail
  (with_reducible refine key.mono ?_); rintro e w' ⟨rfl, rfl⟩
  clear key
  have key := twhich_nil 0 w15
  go_wp2_with fail
  (with_reducible refine key.mono ?_); rintro e w20 ⟨rfl, h9⟩
  have H20 := Lib.hid (H15.out.beside h9)
  clear key h9 H15
  go_wp2_with fail
  go_ret
  exact ⟨rfl, HBA.out.trans (H20.out.below.mono (by rw [← HBB.out]; exact HBA.out.size))⟩
end Go.Proofs.Ythpopoimnbleeaa
