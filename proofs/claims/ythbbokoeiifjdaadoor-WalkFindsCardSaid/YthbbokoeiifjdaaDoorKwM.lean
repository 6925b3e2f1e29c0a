/- Layer 10's statements as walks: WalkFinds. -/
import Derived.Test.YthbbokoeiifjdaaDoorKwL
namespace Go.Proofs.YthbbokoeiifjdaaDoor
open Go Go.RowKit Go.ChangeAt

theorem RdZ.beyond {w w' : World} {a : Option Addr} {n : Nat} (h : RdZ w a n) (hb : Below w.heap.size w w') : RdZ w' a n := by
  refine ⟨h.1, fun hp => ?_⟩
  obtain ⟨b, off, ha, hlt, hc⟩ := h.2 hp
  exact ⟨b, off, ha, Nat.lt_of_lt_of_le hlt hb.size, fun i hi => (hc i hi).imp fun z hz => (hb.cell (p := ⟨b, off + i, none⟩) hlt).trans hz⟩
theorem fnl_step {t q : List UInt8} {d : Nat} {y : Int} (hd : d < q.length) (hy : ((q.getD d 0).toNat : Int) = y) :
    (fnl t (q.drop d)).1 = nrx t (fnl t (q.drop (d + 1))).1 (y + 1) ∧ (fnl t (q.drop d)).2 = nrx t (fnl t (q.drop (d + 1))).2 (y + 1) := by
  subst hy
  have e : q.drop d = q.getD d 0 :: q.drop (d + 1) := by
    rw [List.drop_eq_getElem_cons hd, List.getD_eq_getElem?_getD, List.getElem?_eq_getElem hd]
    rfl
  rw [e]
  exact ⟨rfl, rfl⟩
set_option maxHeartbeats 3200000 in
set_option maxRecDepth 100000 in
theorem walkfinds_w (a : Option Addr) (n cap : Nat) (zs : List Int) (few : Bool) (a2 : Option Addr) (n2 cap2 : Nat) (zs2 : List Int) (W : World) (hrow : IsRow .i64 W a n cap zs) (hrow2 : IsRow .i64 W a2 n2 cap2 zs2) (hL : LaidFact W) :
    Calls Tryd.prog 5 #[.slice a n cap, .bool few, .slice a2 n2 cap2] W fun e w' => e = .returned (.bool true) ∧ Below W.heap.size W w' := by
  have key := ktext_r (a := a) (n := n) (cap := cap) 60 60 few W (RdZ.of_row hrow) (by decide) rfl
  have HZ2 := Lib.hid (RdZ.of_row hrow2)
  have HL := Lib.hid hL
  clear hrow hrow2 hL
  go_enter Tryd.func5, Tryd.ntmps5
  go_wp2_with fail
  (with_reducible refine key.mono ?_); rintro e w0 ⟨a1, cap1, m, t, rfl, htl, hm, hr, -, hb0⟩
  clear key
  have hm60 : m ≤ 60 := by omega
  have key := ktext_r (a := a2) (n := n2) (cap := cap2) 4 4 few w0 (HZ2.out.beyond hb0) (by decide) rfl
  have HR := Lib.hid hr
  have HB0 := Lib.hid hb0
  have HTL := Lib.hid htl
  clear hm hr hb0 htl HZ2
  go_wp2_with fail
  (with_reducible refine key.mono ?_); rintro e w1 ⟨a3, cap3, k, q, rfl, hql, hm, hrq, -, hb1⟩
  clear key
  have hk4 : k ≤ 4 := by omega
  have hb1' := HB0.out.trans (hb1.mono HB0.out.size)
  have hs1 := hb1'.size
  have hr1 := HR.out.below hb1
  have key := wnew_t w1 (HL.out.tab.below hb1' HL.out.pos) (by have := HL.out.pos; omega) hr1 HTL.out (by omega)
  have hts := hr1.old
  have htq := hrq.old
  have HR := Lib.hid (And.intro hr1 hrq)
  have HB1 := Lib.hid hb1'
  have HQL := Lib.hid hql
  clear hm hr1 hrq hb1 hb1' hql HB0
  go_wp2_with fail
  (with_reducible refine key.mono ?_); rintro e w2 ⟨b, rfl, hX, hb2⟩
  clear key
  obtain ⟨lo, hlo⟩ : ∃ lo, w1.heap.size = lo := ⟨_, rfl⟩
  obtain ⟨hi, hhi⟩ : ∃ hi, w2.heap.size = hi := ⟨_, rfl⟩
  rw [hlo, hhi] at hX
  rw [hlo] at hts htq
  have hO2 : Ow W w2 b lo hi t := ⟨hX, HB1.out.trans (hb2.mono hs1), by omega⟩
  have HO := Lib.hid hO2
  have HR := Lib.hid (And.intro (HR.out.1.below hb2) (HR.out.2.below hb2))
  have HTS := Lib.hid (And.intro hts htq)
  obtain ⟨N, hN⟩ : ∃ N, m + 1 = N := ⟨_, rfl⟩
  have htN : t.length + 1 = N := by rw [HTL.out, hN]
  have key := hX.len N (by omega)
  have HTN := Lib.hid htN
  have hN9 : N ≤ 61 := by omega
  clear hX hb2 hO2 hlo hhi hs1 htN hN HB1 hts htq
  go_wp2_with fail
  (with_reducible refine key.mono ?_); rintro e w4 ⟨rfl, hb4⟩
  clear key
  have HO := Lib.hid (HO.out.below hb4)
  have HR := Lib.hid (And.intro (HR.out.1.below hb4) (HR.out.2.below hb4))
  clear hb4
  go_wp2_with fail
  go_loopw [10, 11, 12] (fun x y i wr => ∃ (c : Nat) (j : Int), c ≤ k ∧ j + 1 = c ∧ i = .int .i64 j ∧ x = .int .i64 (fnl t (q.drop c)).1 ∧ y = .int .i64 (fnl t (q.drop c)).2 ∧ Ow W wr b lo hi t ∧ RdU wr a1 cap1 t ∧ RdU wr a3 cap3 q) (fun _ _ i _ => ((intOf i) + 1).toNat)
  case atStart =>
    have e : q.drop k = [] := List.drop_eq_nil_of_le (by rw [HQL.out]; exact Nat.le_refl _)
    refine ⟨k, k - 1, Nat.le_refl _, by omega, rfl, by rw [e]; rfl, by rw [e]; show Value.int .i64 N = Value.int .i64 ((t.length + 1 : Nat) : Int); rw [HTN.out], HO.out, HR.out.1, HR.out.2⟩
  case round =>
    clear HO HR
    obtain ⟨c, j, hc, hj, rfl, rfl, rfl, hO, hr, hrq⟩ := hrel
    have hfl := fnl_le t (q.drop c)
    by_cases hlt : 0 < c
    · obtain ⟨d, rfl⟩ : ∃ d, c = d + 1 := ⟨c - 1, by omega⟩
      obtain rfl : j = d := by omega
      obtain ⟨tb, toff, rfl, htb, htc⟩ := hrq.2.2 (by rw [HQL.out]; omega)
      have c1 := htc d (by rw [HQL.out]; omega)
      have hbr := u8_rng (q.getD d 0)
      have hst0 := fun y => fnl_step (t := t) (q := q) (d := d) (y := y) (by rw [HQL.out]; omega)
      obtain ⟨y, hy⟩ : ∃ y : Int, ((q.getD d 0).toNat : Int) = y := ⟨_, rfl⟩
      have hst := hst0 y hy
      clear hst0
      rw [hy] at c1 hbr
      obtain ⟨X, hX⟩ : ∃ X, (fnl t (q.drop (d + 1))).1 = X := ⟨_, rfl⟩
      obtain ⟨Y, hY⟩ : ∃ Y, (fnl t (q.drop (d + 1))).2 = Y := ⟨_, rfl⟩
      rw [hX, hY] at hst hfl
      rw [hX, hY]
      have z1 : IntKind.i64.wrap y = y := IntWalk.i64_in _ (by omega)
      have y0 : 0 ≤ y := hbr.1
      have y1 : y ≤ 255 := hbr.2
      have hil : (d : Int) < k := by omega
      have key := hO.a.narrow X Y (y + 1) _ _ (by omega) rfl rfl
      rw [Int.toNat_natCast, show (max (X : Int) Y).toNat = Y by omega, ← hst.1, ← hst.2] at key
      have HO := Lib.hid hO
      have HX := Lib.hid (And.intro hr hrq)
      clear hO hr hrq hst hfl hX hY hy htc htb hbr
      go_wp2_with fail
      (with_reducible refine key.mono ?_); rintro e w5 ⟨rfl, hX5, hs5⟩
      clear key c1
      have hr5 := Rd.out HX.out.1 hs5 (fun h1 ad h2 => .inl (HTS.out.1 h1 ad h2))
      have hq5 := Rd.out HX.out.2 hs5 (fun h1 ad h2 => .inl (HTS.out.2 h1 ad h2))
      have HO := Lib.hid (HO.out.next hX5 hs5)
      have HX := Lib.hid (And.intro hr5 hq5)
      clear hX5 hs5 hr5 hq5
      go_wp2_with fail
      go_roundw
      case rel => exact ⟨d, (d : Int) - 1, by omega, by omega, rfl, rfl, rfl, HO.out, HX.out.1, HX.out.2⟩
      case measure => simp [intOf]
    · obtain rfl : c = 0 := by omega
      obtain rfl : j = -1 := by omega
      have hmn := fnl_many t q
      rw [List.drop_zero] at hfl ⊢
      obtain ⟨X, hX⟩ : ∃ X, (fnl t q).1 = X := ⟨_, rfl⟩
      obtain ⟨Y, hY⟩ : ∃ Y, (fnl t q).2 = Y := ⟨_, rfl⟩
      rw [hX, hY] at hmn hfl
      rw [hX, hY]
      obtain ⟨L, hL⟩ : ∃ L, (Bw.plcs t q).length = L := ⟨_, rfl⟩
      rw [hL] at hmn
      have hYX : (Y : Int) - X = L := by omega
      have hX61 : (X : Int) ≤ 100 := by have := HTN.out; omega
      have hY61 : (Y : Int) ≤ 100 := by have := HTN.out; omega
      have key := hO.told
      have HO := Lib.hid hO
      have HX := Lib.hid (And.intro hr hrq)
      have HLL := Lib.hid hL
      clear hO hr hrq hfl hX hY hmn hL
      go_wp2_with fail
      (with_reducible refine key.mono ?_); rintro e w5 ⟨rfl, hb5⟩
      clear key
      have cv1 := conv_str (HX.out.1.below hb5) HTL.out
      have cv2 := conv_str (HX.out.2.below hb5) HQL.out
      obtain ⟨ss, hss⟩ : ∃ ss, str t = ss := ⟨_, rfl⟩
      obtain ⟨uu, huu⟩ : ∃ uu, str q = uu := ⟨_, rfl⟩
      rw [hss] at cv1
      rw [huu] at cv2
      have key := r6places (t := t) (q := q) m k w5 hss huu HTL.out HQL.out (by omega) (by omega)
      have HO := Lib.hid (HO.out.below hb5)
      clear hb5 hss huu
      go_wp2_with fail
      (with_reducible refine key.mono ?_); rintro e w6 ⟨v, l, rfl, hown, hll, hb6⟩
      clear key cv1 cv2
      rw [HLL.out] at hll
      obtain ⟨ua, uc, rfl, -⟩ := Lr.form L hown hll
      have HO := Lib.hid (HO.out.below hb6)
      have hLL : ((L : Int) == L) = true := by simp
      clear hb6 hown hll
      go_wp2_with fail
      go_ret
      exact ⟨rfl, HO.out.bw⟩
end Go.Proofs.YthbbokoeiifjdaaDoor
