/- Layer 4's statements as walks: FibShapes. -/
import Derived.Test.YtfmginakkenbnaaFibL
namespace Go.Proofs.Ytfmginakkenbnaa
open Go Go.RowKit

/-- What the statement asks of its shapes. -/
theorem shapes_s {k : Nat} (hk : k ≤ 20) : Fb.may 16777216 k (Fb.raw k) (2 * (Fb.raw k : Int) - 1) = true ∧ Fb.may 16777216 k ((Fb.raw k : Int) - 1) (2 * (Fb.raw k : Int) - 3) = false ∧ Fb.may 16777216 k (Fb.raw k) (2 * (Fb.raw k : Int)) = false := by
  have h := Fb.least_low (n := k) (by omega)
  have h1 := Fb.raw_mono hk
  have h2 : Fb.raw 20 = 17711 := by decide +kernel
  rw [h2] at h1
  unfold Fb.may
  rw [if_neg (by decide), if_neg (by decide), if_neg (by decide), h]
  refine ⟨?_, ?_, ?_⟩
  · simp; omega
  · simp; omega
  · simp; omega
theorem shapes_u {L Q : Int} (hL : 1 ≤ L) (hQ : Q = L / 32 + 1) : Fb.may L 0 Q (2 * Q - 1) = true ∧ Fb.may L 0 (Q + 1) (2 * Q + 1) = false := by
  have h : Fb.least 0 = 1 := by decide +kernel
  unfold Fb.may
  rw [if_neg (by omega), if_neg (by omega), h]
  refine ⟨?_, ?_⟩
  · simp; omega
  · simp; omega

/-- A shape in a block of its own. -/
structure Shp (w : World) (g : Nat) (L H V N : Int) : Prop where
  lt : g < w.heap.size
  c0 : w.cell? ⟨g, 0, none⟩ = some (.int .i64 L)
  c1 : w.cell? ⟨g, 1, none⟩ = some (.int .i64 H)
  c2 : w.cell? ⟨g, 2, none⟩ = some (.int .i64 V)
  c3 : w.cell? ⟨g, 3, none⟩ = some (.int .i64 N)
theorem Shp.below {w w' : World} {g : Nat} {L H V N : Int} (h : Shp w g L H V N) (hb : Below w.heap.size w w') : Shp w' g L H V N :=
  ⟨Nat.lt_of_lt_of_le h.lt hb.size, (hb.cell (p := ⟨g, 0, none⟩) h.lt).trans h.c0, (hb.cell (p := ⟨g, 1, none⟩) h.lt).trans h.c1, (hb.cell (p := ⟨g, 2, none⟩) h.lt).trans h.c2, (hb.cell (p := ⟨g, 3, none⟩) h.lt).trans h.c3⟩
theorem Shp.alloc {w : World} {g : Nat} {L H V N : Int} (h : Shp w g L H V N) (o : Obj) : Shp (w.alloc o) g L H V N := h.below ((Below.refl _ _).alloc (Nat.le_refl _) _)
theorem Shp.new (w : World) (g : Nat) (hg : g = w.heap.size) (L H V N : Int) (t : TypeId) : Shp (w.alloc (.cells #[.int .i64 L, .int .i64 H, .int .i64 V, .int .i64 N] t)) g L H V N :=
  ⟨by subst hg; simp, new_cell hg rfl, new_cell hg rfl, new_cell hg rfl, new_cell hg rfl⟩

set_option maxRecDepth 100000 in
set_option maxHeartbeats 3200000 in
theorem shapes_walk (a b : Int) (W : World) :
    Calls Try.prog 7 #[.int .i64 a, .int .i64 b] W fun e w' => e = .returned (.bool true) ∧ Below W.heap.size W w' := by
  obtain ⟨k, hk, en1⟩ := mod_any a 21 (by decide) (by decide)
  change RowKit.wrap64 ((IntKind.u64.wrap a).tmod 21) = _ at en1
  obtain ⟨n, hn, en2⟩ := mod_any b 100000 (by decide) (by decide)
  change RowKit.wrap64 ((IntKind.u64.wrap b).tmod 100000) = _ at en2
  obtain ⟨q, eq⟩ : ∃ q : Int, 4 * (n : Int) / 128 + 1 = q := ⟨_, rfl⟩
  obtain ⟨u1, u2⟩ := shapes_u (L := max (n : Int) 1) (Q := q) (by omega) (by omega)
  have U1 := Lib.hid u1
  have U2 := Lib.hid u2
  clear u1 u2
  have hq1 : q ≤ 4000 := by omega
  have hq0 : 1 ≤ q := by omega
  obtain ⟨s1, s2, s3⟩ := shapes_s (k := k) (by omega)
  have hr0 := (Fb.raw_pos k).1
  have hr1 := Fb.raw_mono (show k ≤ 20 by omega)
  have h20 : Fb.raw 20 = 17711 := by decide +kernel
  rw [h20] at hr1
  have c := least_low k W (by omega)
  obtain ⟨r, er⟩ : ∃ r, Fb.raw k = r := ⟨_, rfl⟩
  rw [er] at s1 s2 s3 hr0 hr1 c
  clear er h20
  have S1 := Lib.hid s1
  have S2 := Lib.hid s2
  have S3 := Lib.hid s3
  clear s1 s2 s3
  have hr2 : (r : Int) ≤ 17711 := by omega
  have hr3 : (1 : Int) ≤ r := by omega
  clear hr0 hr1
  go_enter Try.func7, Try.ntmps7
  go_wp2_with fail
  (with_reducible refine c.mono ?_); rintro e w' ⟨rfl, rfl⟩
  clear c
  obtain ⟨m, hm⟩ : ∃ m : Int, max (n : Int) 1 = m := ⟨_, rfl⟩
  rw [hm] at U1 U2
  have hm1 : m ≤ 100000 := by omega
  have K : ∀ w0 w1 : World, w0 = ((((W.alloc (.cells #[.int .i64 16777216, .int .i64 k, .int .i64 r, .int .i64 (2 * r - 1)] 29)).alloc (.cells #[.int .i64 16777216, .int .i64 k, .int .i64 (r - 1), .int .i64 (2 * r - 3)] 29)).alloc (.cells #[.int .i64 m, .int .i64 0, .int .i64 q, .int .i64 (2 * q - 1)] 29)).alloc (.cells #[.int .i64 m, .int .i64 0, .int .i64 (q + 1), .int .i64 (2 * q + 1)] 29)).alloc (.cells #[.int .i64 16777216, .int .i64 k, .int .i64 r, .int .i64 (2 * r)] 29) →
      Below w0.heap.size w0 w1 → Shp w1 W.heap.size 16777216 k r (2 * r - 1) ∧ Shp w1 (W.heap.size + 1) 16777216 k (r - 1) (2 * r - 3) ∧ Shp w1 (W.heap.size + 2) m 0 q (2 * q - 1) ∧ Shp w1 (W.heap.size + 3) m 0 (q + 1) (2 * q + 1) ∧ Shp w1 (W.heap.size + 4) 16777216 k r (2 * r) ∧ Below W.heap.size W w1 := by
    rintro w0 w1 rfl hb
    exact ⟨(((((Shp.new W _ rfl _ _ _ _ _).alloc _).alloc _).alloc _).alloc _).below hb, ((((Shp.new _ _ (by simp) _ _ _ _ _).alloc _).alloc _).alloc _).below hb, (((Shp.new _ _ (by simp) _ _ _ _ _).alloc _).alloc _).below hb, ((Shp.new _ _ (by simp) _ _ _ _ _).alloc _).below hb, (Shp.new _ _ (by simp) _ _ _ _ _).below hb,
      ((((((Below.refl _ _).alloc (Nat.le_refl _) _).alloc (by simp) _).alloc (by simp; omega) _).alloc (by simp; omega) _).alloc (by simp; omega) _).trans (hb.mono (by simp; omega))⟩
  have HK := Lib.hid K
  clear K
  have HM := Lib.hid hm
  clear hm
  go_wp2_with fail
  · obtain rfl : m = 1 := by have := HM.out; omega
    refine (told_any _).mono ?_
    rintro e w1 ⟨rfl, hb1⟩
    obtain ⟨s1, s2, s3, s4, s5, bl⟩ := HK.out _ w1 rfl hb1
    clear hb1 HK en1 en2
    obtain ⟨lts1, as1, bs1, cs1, ds1⟩ := s1
    go_wp2_with fail
    refine (may_new1 _ _ _ _ _ _ (by omega) (by omega) (by omega) (x := true) (S1.out)).mono ?_; rintro e w2 ⟨rfl, hb2⟩
    have s1 : Shp w1 _ _ _ _ _ := ⟨lts1, as1, bs1, cs1, ds1⟩
    clear lts1 as1 bs1 cs1 ds1
    replace s1 := s1.below hb2
    replace s2 := s2.below hb2
    replace s3 := s3.below hb2
    replace s4 := s4.below hb2
    replace s5 := s5.below hb2
    replace bl := bl.trans (hb2.mono bl.size)
    clear hb2
    obtain ⟨lts2, as2, bs2, cs2, ds2⟩ := s2
    go_wp2_with fail
    refine (may_new1 _ _ _ _ _ _ (by omega) (by omega) (by omega) (x := false) (S2.out)).mono ?_; rintro e w3 ⟨rfl, hb3⟩
    have s2 : Shp w2 _ _ _ _ _ := ⟨lts2, as2, bs2, cs2, ds2⟩
    clear lts2 as2 bs2 cs2 ds2
    replace s1 := s1.below hb3
    replace s2 := s2.below hb3
    replace s3 := s3.below hb3
    replace s4 := s4.below hb3
    replace s5 := s5.below hb3
    replace bl := bl.trans (hb3.mono bl.size)
    clear hb3
    obtain ⟨lts3, as3, bs3, cs3, ds3⟩ := s3
    go_wp2_with fail
    refine (may_new1 _ _ _ _ _ _ (by omega) (by omega) (by omega) (x := true) (U1.out)).mono ?_; rintro e w4 ⟨rfl, hb4⟩
    have s3 : Shp w3 _ _ _ _ _ := ⟨lts3, as3, bs3, cs3, ds3⟩
    clear lts3 as3 bs3 cs3 ds3
    replace s1 := s1.below hb4
    replace s2 := s2.below hb4
    replace s3 := s3.below hb4
    replace s4 := s4.below hb4
    replace s5 := s5.below hb4
    replace bl := bl.trans (hb4.mono bl.size)
    clear hb4
    obtain ⟨lts4, as4, bs4, cs4, ds4⟩ := s4
    go_wp2_with fail
    refine (may_new1 _ _ _ _ _ _ (by omega) (by omega) (by omega) (x := false) (U2.out)).mono ?_; rintro e w5 ⟨rfl, hb5⟩
    have s4 : Shp w4 _ _ _ _ _ := ⟨lts4, as4, bs4, cs4, ds4⟩
    clear lts4 as4 bs4 cs4 ds4
    replace s1 := s1.below hb5
    replace s2 := s2.below hb5
    replace s3 := s3.below hb5
    replace s4 := s4.below hb5
    replace s5 := s5.below hb5
    replace bl := bl.trans (hb5.mono bl.size)
    clear hb5
    obtain ⟨lts5, as5, bs5, cs5, ds5⟩ := s5
    go_wp2_with fail
    refine (may_new1 _ _ _ _ _ _ (by omega) (by omega) (by omega) (x := false) (S3.out)).mono ?_; rintro e w6 ⟨rfl, hb6⟩
    have s5 : Shp w5 _ _ _ _ _ := ⟨lts5, as5, bs5, cs5, ds5⟩
    clear lts5 as5 bs5 cs5 ds5
    replace s1 := s1.below hb6
    replace s2 := s2.below hb6
    replace s3 := s3.below hb6
    replace s4 := s4.below hb6
    replace s5 := s5.below hb6
    replace bl := bl.trans (hb6.mono bl.size)
    clear hb6
    obtain ⟨lts1, as1, bs1, cs1, ds1⟩ := s1
    obtain ⟨lts2, as2, bs2, cs2, ds2⟩ := s2
    go_wp2_with fail
    refine (may_new2 _ _ _ _ _ _ _ _ _ _ (by omega) (by omega) (by omega) (by omega) (by omega) (by omega) (x := false) (by rw [S1.out, S2.out]; rfl)).mono ?_; rintro e w7 ⟨rfl, hb7⟩
    have s1 : Shp w6 _ _ _ _ _ := ⟨lts1, as1, bs1, cs1, ds1⟩
    have s2 : Shp w6 _ _ _ _ _ := ⟨lts2, as2, bs2, cs2, ds2⟩
    clear lts1 as1 bs1 cs1 ds1 lts2 as2 bs2 cs2 ds2
    replace s1 := s1.below hb7
    replace s2 := s2.below hb7
    replace s3 := s3.below hb7
    replace s4 := s4.below hb7
    replace s5 := s5.below hb7
    replace bl := bl.trans (hb7.mono bl.size)
    clear hb7
    obtain ⟨lts1, as1, bs1, cs1, ds1⟩ := s1
    obtain ⟨lts3, as3, bs3, cs3, ds3⟩ := s3
    go_wp2_with fail
    refine (may_new2 _ _ _ _ _ _ _ _ _ _ (by omega) (by omega) (by omega) (by omega) (by omega) (by omega) (x := true) (by rw [S1.out, U1.out]; rfl)).mono ?_; rintro e w8 ⟨rfl, hb8⟩
    have s1 : Shp w7 _ _ _ _ _ := ⟨lts1, as1, bs1, cs1, ds1⟩
    have s3 : Shp w7 _ _ _ _ _ := ⟨lts3, as3, bs3, cs3, ds3⟩
    clear lts1 as1 bs1 cs1 ds1 lts3 as3 bs3 cs3 ds3
    replace s1 := s1.below hb8
    replace s2 := s2.below hb8
    replace s3 := s3.below hb8
    replace s4 := s4.below hb8
    replace s5 := s5.below hb8
    replace bl := bl.trans (hb8.mono bl.size)
    clear hb8
    go_wp2_with fail
    go_ret
    exact ⟨rfl, bl⟩
  · obtain rfl : m = (n : Int) := by have := HM.out; omega
    refine (told_any _).mono ?_
    rintro e w1 ⟨rfl, hb1⟩
    obtain ⟨s1, s2, s3, s4, s5, bl⟩ := HK.out _ w1 rfl hb1
    clear hb1 HK en1 en2
    obtain ⟨lts1, as1, bs1, cs1, ds1⟩ := s1
    go_wp2_with fail
    refine (may_new1 _ _ _ _ _ _ (by omega) (by omega) (by omega) (x := true) (S1.out)).mono ?_; rintro e w2 ⟨rfl, hb2⟩
    have s1 : Shp w1 _ _ _ _ _ := ⟨lts1, as1, bs1, cs1, ds1⟩
    clear lts1 as1 bs1 cs1 ds1
    replace s1 := s1.below hb2
    replace s2 := s2.below hb2
    replace s3 := s3.below hb2
    replace s4 := s4.below hb2
    replace s5 := s5.below hb2
    replace bl := bl.trans (hb2.mono bl.size)
    clear hb2
    obtain ⟨lts2, as2, bs2, cs2, ds2⟩ := s2
    go_wp2_with fail
    refine (may_new1 _ _ _ _ _ _ (by omega) (by omega) (by omega) (x := false) (S2.out)).mono ?_; rintro e w3 ⟨rfl, hb3⟩
    have s2 : Shp w2 _ _ _ _ _ := ⟨lts2, as2, bs2, cs2, ds2⟩
    clear lts2 as2 bs2 cs2 ds2
    replace s1 := s1.below hb3
    replace s2 := s2.below hb3
    replace s3 := s3.below hb3
    replace s4 := s4.below hb3
    replace s5 := s5.below hb3
    replace bl := bl.trans (hb3.mono bl.size)
    clear hb3
    obtain ⟨lts3, as3, bs3, cs3, ds3⟩ := s3
    go_wp2_with fail
    refine (may_new1 _ _ _ _ _ _ (by omega) (by omega) (by omega) (x := true) (U1.out)).mono ?_; rintro e w4 ⟨rfl, hb4⟩
    have s3 : Shp w3 _ _ _ _ _ := ⟨lts3, as3, bs3, cs3, ds3⟩
    clear lts3 as3 bs3 cs3 ds3
    replace s1 := s1.below hb4
    replace s2 := s2.below hb4
    replace s3 := s3.below hb4
    replace s4 := s4.below hb4
    replace s5 := s5.below hb4
    replace bl := bl.trans (hb4.mono bl.size)
    clear hb4
    obtain ⟨lts4, as4, bs4, cs4, ds4⟩ := s4
    go_wp2_with fail
    refine (may_new1 _ _ _ _ _ _ (by omega) (by omega) (by omega) (x := false) (U2.out)).mono ?_; rintro e w5 ⟨rfl, hb5⟩
    have s4 : Shp w4 _ _ _ _ _ := ⟨lts4, as4, bs4, cs4, ds4⟩
    clear lts4 as4 bs4 cs4 ds4
    replace s1 := s1.below hb5
    replace s2 := s2.below hb5
    replace s3 := s3.below hb5
    replace s4 := s4.below hb5
    replace s5 := s5.below hb5
    replace bl := bl.trans (hb5.mono bl.size)
    clear hb5
    obtain ⟨lts5, as5, bs5, cs5, ds5⟩ := s5
    go_wp2_with fail
    refine (may_new1 _ _ _ _ _ _ (by omega) (by omega) (by omega) (x := false) (S3.out)).mono ?_; rintro e w6 ⟨rfl, hb6⟩
    have s5 : Shp w5 _ _ _ _ _ := ⟨lts5, as5, bs5, cs5, ds5⟩
    clear lts5 as5 bs5 cs5 ds5
    replace s1 := s1.below hb6
    replace s2 := s2.below hb6
    replace s3 := s3.below hb6
    replace s4 := s4.below hb6
    replace s5 := s5.below hb6
    replace bl := bl.trans (hb6.mono bl.size)
    clear hb6
    obtain ⟨lts1, as1, bs1, cs1, ds1⟩ := s1
    obtain ⟨lts2, as2, bs2, cs2, ds2⟩ := s2
    go_wp2_with fail
    refine (may_new2 _ _ _ _ _ _ _ _ _ _ (by omega) (by omega) (by omega) (by omega) (by omega) (by omega) (x := false) (by rw [S1.out, S2.out]; rfl)).mono ?_; rintro e w7 ⟨rfl, hb7⟩
    have s1 : Shp w6 _ _ _ _ _ := ⟨lts1, as1, bs1, cs1, ds1⟩
    have s2 : Shp w6 _ _ _ _ _ := ⟨lts2, as2, bs2, cs2, ds2⟩
    clear lts1 as1 bs1 cs1 ds1 lts2 as2 bs2 cs2 ds2
    replace s1 := s1.below hb7
    replace s2 := s2.below hb7
    replace s3 := s3.below hb7
    replace s4 := s4.below hb7
    replace s5 := s5.below hb7
    replace bl := bl.trans (hb7.mono bl.size)
    clear hb7
    obtain ⟨lts1, as1, bs1, cs1, ds1⟩ := s1
    obtain ⟨lts3, as3, bs3, cs3, ds3⟩ := s3
    go_wp2_with fail
    refine (may_new2 _ _ _ _ _ _ _ _ _ _ (by omega) (by omega) (by omega) (by omega) (by omega) (by omega) (x := true) (by rw [S1.out, U1.out]; rfl)).mono ?_; rintro e w8 ⟨rfl, hb8⟩
    have s1 : Shp w7 _ _ _ _ _ := ⟨lts1, as1, bs1, cs1, ds1⟩
    have s3 : Shp w7 _ _ _ _ _ := ⟨lts3, as3, bs3, cs3, ds3⟩
    clear lts1 as1 bs1 cs1 ds1 lts3 as3 bs3 cs3 ds3
    replace s1 := s1.below hb8
    replace s2 := s2.below hb8
    replace s3 := s3.below hb8
    replace s4 := s4.below hb8
    replace s5 := s5.below hb8
    replace bl := bl.trans (hb8.mono bl.size)
    clear hb8
    go_wp2_with fail
    go_ret
    exact ⟨rfl, bl⟩
end Go.Proofs.Ytfmginakkenbnaa
