/- Suffixes in memory (package sorted): alike, regroup, newSuffixes: contracts of the walk. -/
import Derived.Test.YtfncjkkdemeclaaSoA
namespace Go.Proofs.Ytfncjkkdemeclaa
open Go Go.RowKit Go.ChangeAt

/-- Block g of the memory holds the two slices and the number. -/
def Box (w : World) (g N rb rc hb hc : Nat) (G : Int) : Prop :=
  w.heap[g]? = some (.cells #[.slice (some ⟨rb, 0, none⟩) N rc, .slice (some ⟨hb, 0, none⟩) N hc, .int .i64 G] 46 (0, 0))
theorem Box.c0 {w : World} {g N rb rc hb hc : Nat} {G : Int} (h : Box w g N rb rc hb hc G) : w.cell? ⟨g, 0, none⟩ = some (.slice (some ⟨rb, 0, none⟩) N rc) := (cell_of h).trans rfl
theorem Box.c1 {w : World} {g N rb rc hb hc : Nat} {G : Int} (h : Box w g N rb rc hb hc G) : w.cell? ⟨g, 1, none⟩ = some (.slice (some ⟨hb, 0, none⟩) N hc) := (cell_of h).trans rfl
theorem Box.c2 {w : World} {g N rb rc hb hc : Nat} {G : Int} (h : Box w g N rb rc hb hc G) : w.cell? ⟨g, 2, none⟩ = some (.int .i64 G) := (cell_of h).trans rfl
theorem Box.free {w : World} {g N rb rc hb hc : Nat} {G : Int} (h : Box w g N rb rc hb hc G) (i : Nat) : w.frozen? ⟨g, i, none⟩ = false := free_of h
theorem Box.lt {w : World} {g N rb rc hb hc : Nat} {G : Int} (h : Box w g N rb rc hb hc G) : g < w.heap.size := lt_of_block h
theorem Box.stay {w w' : World} {g N rb rc hb hc : Nat} {G : Int} {S : Nat → Prop} (h : Box w g N rb rc hb hc G) (hs : Stay S w w') (hn : ¬ S g) : Box w' g N rb rc hb hc G := hs.kept h hn
theorem Box.below {w w' : World} {g N rb rc hb hc : Nat} {G : Int} (h : Box w g N rb rc hb hc G) (hs : Below w.heap.size w w') : Box w' g N rb rc hb hc G := h.stay (Stay.of_below (S := fun _ => False) hs) (fun e => e)
theorem Box.set0 {w : World} {g N rb rc hb hc : Nat} {G : Int} (h : Box w g N rb rc hb hc G) (b c : Nat) : Box (w.setCell ⟨g, 0, none⟩ (.slice (some ⟨b, 0, none⟩) N c)) g N b c hb hc G := set_of h _
theorem Box.set1 {w : World} {g N rb rc hb hc : Nat} {G : Int} (h : Box w g N rb rc hb hc G) (b c : Nat) : Box (w.setCell ⟨g, 1, none⟩ (.slice (some ⟨b, 0, none⟩) N c)) g N rb rc b c G := set_of h _
theorem Box.set2 {w : World} {g N rb rc hb hc : Nat} {G : Int} (h : Box w g N rb rc hb hc G) (G' : Int) : Box (w.setCell ⟨g, 2, none⟩ (.int .i64 G')) g N rb rc hb hc G' := set_of h _
theorem Box.ne {w : World} {g N rb rc hb hc : Nat} {G : Int} (h : Box w g N rb rc hb hc G) {b cap M : Nat} {f : Nat → Int} (h' : Arr w b cap M f) : b ≠ g := by
  intro e
  subst e
  obtain ⟨c, h1, _⟩ := h'
  rw [show w.heap[b]? = _ from h] at h1
  simp at h1

set_option maxRecDepth 100000 in
theorem salike {g N rb rc hb hc : Nat} {G : Int} {H : Nat → Int} (a b k : Nat) (r : Bool) (w : World) (h : Box w g N rb rc hb hc G) (hA : Arr w hb hc N H) (hN : N ≤ 1000000000) (ha : a < N) (hb0 : b < N) (hk : H a = H b → a + k < N ∧ b + k < N) (hr : (decide (H a = H b) && decide (H (a + k) = H (b + k))) = r) :
    Calls Try.prog 38 #[.pointer (some ⟨g, 0, none⟩), .int .i64 a, .int .i64 b, .int .i64 k] w fun e w' => e = .returned (.bool r) ∧ ∃ m, w' = w.drewN m := by
  have c1 := h.c1
  have a1 := hA.cell ha
  have a2 := hA.cell hb0
  by_cases he : H a = H b
  · obtain ⟨h1, h2⟩ := hk he
    have a3 := hA.cell h1
    have a4 := hA.cell h2
    obtain ⟨x, hx⟩ : ∃ x, H a = x := ⟨_, rfl⟩
    obtain ⟨y, hy⟩ : ∃ y, H b = y := ⟨_, rfl⟩
    obtain ⟨z, hz⟩ : ∃ z, H (a + k) = z := ⟨_, rfl⟩
    obtain ⟨u, hu⟩ : ∃ u, H (b + k) = u := ⟨_, rfl⟩
    rw [hx] at a1 he hr
    rw [hy] at a2 he hr
    rw [hz] at a3 hr
    rw [hu] at a4 hr
    subst he
    have hd : decide (x = x) = true := decide_eq_true rfl
    have hd' : (x == x) = true := by simp
    rw [hd, Bool.true_and] at hr
    have HR := Lib.hid hr
    clear h hA hk hx hy hz hu hr
    go_enter Try.func38, Try.ntmps38
    go_wp2_with fail
    go_quiet (fail)
    go_wp2
    go_ret
    exact ⟨congrArg (fun b => Ending.returned (Value.bool b)) (by rw [← HR.out]; rfl), _, rfl⟩
  · obtain ⟨x, hx⟩ : ∃ x, H a = x := ⟨_, rfl⟩
    obtain ⟨y, hy⟩ : ∃ y, H b = y := ⟨_, rfl⟩
    rw [hx] at a1 he hr
    rw [hy] at a2 he hr
    have hd : decide (x = y) = false := decide_eq_false he
    have hd' : (x == y) = false := by simpa using he
    rw [hd, Bool.false_and] at hr
    have HR := Lib.hid hr
    clear h hA hk hx hy hr he
    go_enter Try.func38, Try.ntmps38
    go_wp2_with fail
    go_quiet (fail)
    go_wp2
    go_ret
    exact ⟨congrArg (fun b => Ending.returned (Value.bool b)) HR.out, _, rfl⟩

set_option maxRecDepth 100000 in
set_option maxHeartbeats 1600000 in
theorem sregroup {g N rb rc hb hc : Nat} {G : Int} {H : Nat → Int} {ro : Nat → Nat} (E : Nat → Nat → Bool) (k : Nat) (w : World) (h : Box w g N rb rc hb hc G) (hR : Arr w rb rc N (fun i => (ro i : Int))) (hA : Arr w hb hc N H) (hN : N ≤ 1000000000) (hp : 0 < N)
    (hlt : ∀ i, i < N → ro i < N) (hinj : ∀ i j, i < N → j < N → ro i = ro j → i = j)
    (hE : ∀ i, i + 1 < N → (decide (H (ro i) = H (ro (i + 1))) && decide (H (ro i + k) = H (ro (i + 1) + k))) = E (ro i) (ro (i + 1)))
    (hk : ∀ i, i + 1 < N → H (ro i) = H (ro (i + 1)) → ro i + k < N ∧ ro (i + 1) + k < N) :
    Calls Try.prog 34 #[.pointer (some ⟨g, 0, none⟩), .int .i64 k] w fun e w' => e = .returned (.tuple #[]) ∧ ∃ b H', w.heap.size ≤ b ∧ Box w' g N rb rc b N (Bw.gc E ro (N - 1)) ∧ Arr w' rb rc N (fun i => (ro i : Int)) ∧ Arr w' b N N H' ∧ (∀ i, i < N → H' (ro i) = (Bw.gh E ro i : Int)) ∧ Stay (· = g) w w' := by
  obtain ⟨i0, hi, hz0, hz1, hz2⟩ := info_parts infoI
  have c0 := h.c0
  have c2 := h.c2
  have f2 := h.free 2
  have hgl := h.lt
  obtain ⟨w0, hw0⟩ : ∃ w0, w.alloc (.cells (madeCells #[Value.int .i64 0] N) 3) = w0 := ⟨_, rfl⟩
  have hbl : Below w.heap.size w w0 := by rw [← hw0]; exact (Below.refl _ _).alloc (Nat.le_refl _) _
  have hR1 := hR.below hbl
  have hA1 := hA.below hbl
  have hB1 := h.below hbl
  have hn1 : Arr w0 w.heap.size N N (fun _ => 0) := by rw [← hw0]; exact Arr.made N (by unfold maxLen; omega)
  have hgr : rb ≠ g := h.ne hR
  have hgh : hb ≠ g := h.ne hA
  have hs0 : Stay (· = g) w w0 := Stay.of_below hbl
  have hs2 : Stay (· = g) w0 (w0.setCell ⟨g, 2, none⟩ (.int .i64 1)) := (Stay.refl (· = g) _).setCell (p := ⟨g, 2, none⟩) (.inr rfl) _
  have HR1 := Lib.hid (hR1.stay hs2 hgr)
  have HA1 := Lib.hid (hA1.stay hs2 hgh)
  have HN1 := Lib.hid (hn1.stay hs2 (by omega))
  have HB1 := Lib.hid (hB1.set2 1)
  have HS1 := Lib.hid (hs0.trans hs2 (fun _ _ h => h))
  have HLT := Lib.hid hlt
  have HIN := Lib.hid hinj
  have HE := Lib.hid hE
  have HK := Lib.hid hk
  have hrn : rb ≠ w.heap.size := by have := hR.lt; omega
  have hhn : hb ≠ w.heap.size := by have := hA.lt; omega
  have hgn : g ≠ w.heap.size := by omega
  have c2' := hB1.c2
  have f2' := hB1.free 2
  have c0' := hB1.c0
  clear h hR hA hR1 hA1 hB1 hn1 hs0 hs2 hlt hinj hE hk hbl c2 f2
  go_enter Try.func34, Try.ntmps34
  go_wp2_with (first
    | (at_make; refine wpList_make_row _ rfl _ _ 22 rfl 3 i0 (.int .i64 0) Try.underlying22 hi hz0 hz1 rfl .i64 .i64 N rfl rfl (by rw [hz2]; omega) (by omega) ?_; rw [hw0]; clear c0))
  obtain ⟨B, hBB⟩ : ∃ B, w.heap.size = B := ⟨_, rfl⟩
  have HBB := Lib.hid hBB
  rw [hBB] at HN1 hrn hhn hgn hgl ⊢
  obtain ⟨w1, hw1⟩ : ∃ w1, w0.setCell ⟨g, 2, none⟩ (.int .i64 1) = w1 := ⟨_, rfl⟩
  rw [hw1] at HR1 HA1 HN1 HB1 HS1 ⊢
  clear hBB hw1 c2' f2' c0' hw0
  go_loopw [5, 6] (fun hd i wr => ∃ (m M : Nat) (H' : Nat → Int), Hid (M = m + 1) ∧ M ≤ N ∧ i = .int .i64 M ∧ hd = .int .i64 (Bw.gh E ro m) ∧ Box wr g N rb rc hb hc (Bw.gc E ro m) ∧ Arr wr rb rc N (fun i => (ro i : Int)) ∧ Arr wr hb hc N H ∧ Arr wr B N N H' ∧ (∀ i, i < m + 1 → H' (ro i) = (Bw.gh E ro i : Int)) ∧ Stay (· = g) w wr) (fun _ i _ => N - (intOf i).toNat)
  case atStart =>
    refine ⟨0, 1, fun _ => 0, Lib.hid rfl, by omega, rfl, rfl, HB1.out, HR1.out, HA1.out, HN1.out, fun i hi => ?_, HS1.out⟩
    obtain rfl : i = 0 := by omega
    rfl
  case round =>
    clear HB1 HR1 HA1 HN1 HS1
    obtain ⟨m, M, H', HM, hm, rfl, rfl, hB, hR, hA, hH, hf, hS⟩ := hrel
    have c0 := hB.c0
    have hghl := Bw.gh_le E ro m
    have hgcl := Bw.gc_le E ro m
    by_cases hlt : M < N
    · have hlt' : (M : Int) < N := by omega
      have hMm := HM.out
      have hm0 : (m : Int) < N := by omega
      have r1 := hR.cell (i := m) (by omega)
      have r2 := hR.cell hlt
      have l1 := HLT.out m (by omega)
      have l2 := HLT.out M hlt
      have hee := HE.out m (by omega)
      have hkk := HK.out m (by omega)
      have hgs : Bw.gh E ro (m + 1) = if E (ro m) (ro (m + 1)) = true then Bw.gh E ro m else m + 1 := rfl
      have hcs : Bw.gc E ro (m + 1) = if E (ro m) (ro (m + 1)) = true then Bw.gc E ro m else Bw.gc E ro m + 1 := rfl
      have hin : ∀ i, i < N → ro i = ro M → i = M := fun i hi e => HIN.out i M hi hlt e
      rw [← hMm] at hee hkk hgs hcs
      obtain ⟨G0, hG0⟩ : ∃ G0, Bw.gc E ro m = G0 := ⟨_, rfl⟩
      obtain ⟨g0, hg0⟩ : ∃ g0, Bw.gh E ro m = g0 := ⟨_, rfl⟩
      rw [hG0] at hcs hgcl hB
      rw [hg0] at hgs hghl ⊢
      obtain ⟨p, hpp⟩ : ∃ p, ro m = p := ⟨_, rfl⟩
      obtain ⟨q, hqq⟩ : ∃ q, ro M = q := ⟨_, rfl⟩
      obtain ⟨pv, hpv⟩ : ∃ pv : Int, (ro m : Int) = pv := ⟨_, rfl⟩
      rw [hpp] at hee hkk l1 hgs hcs r1
      rw [hqq] at hee hkk l2 hgs hcs hin r2
      have hf1 : ∀ v, Bw.gh E ro M = v → ∀ i, i < M + 1 → (if ro i = q then (v : Int) else H' (ro i)) = (Bw.gh E ro i : Int) := fun v hv i hi => by
        by_cases e : i = M
        · subst e
          rw [if_pos hqq, hv]
        · rw [if_neg fun e2 => e (hin i (by omega) e2)]
          exact hf i (by omega)
      have HF1 := Lib.hid hf1
      have HB := Lib.hid hB
      have HR := Lib.hid hR
      have HA := Lib.hid hA
      have HH := Lib.hid hH
      have HS := Lib.hid hS
      have HPQ := Lib.hid hkk
      obtain ⟨r, hr⟩ : ∃ r, E p q = r := ⟨_, rfl⟩
      rw [hr] at hee hgs hcs
      have HEE := Lib.hid hee
      have n0 := hH.cell l2
      have n1 := hH.free q
      have c2 := hB.c2
      have f2 := hB.free 2
      have hgB : ¬ B = g := fun e => hgn e.symm
      have hgr' : ¬ rb = g := hgr
      have ew : IntKind.i64.wrap ((M : Int) - 1) = m := by rw [IntKind.wrap_i64]; omega
      have HQQ := Lib.hid hqq
      clear hf hf1 hB hR hA hH hS hkk hr hee hpp hG0 hg0 hin hqq hpv
      cases r
      · have kk := fun n => Calls.quiet_of (salike p q k false (wr.drewN n) (HB.out.below ((Below.refl _ _).drewN _)) (HA.out.drewN _) hN l1 l2 HPQ.out HEE.out)
        rw [if_neg (by decide)] at hgs hcs
        have hB2 : Box (wr.setCell ⟨g, 2, none⟩ (.int .i64 ((G0 : Int) + 1))) g N rb rc hb hc ((G0 : Int) + 1) := HB.out.set2 _
        have hst : Stay (· = g) wr (wr.setCell ⟨g, 2, none⟩ (.int .i64 ((G0 : Int) + 1))) := (Stay.refl (· = g) _).setCell (p := ⟨g, 2, none⟩) (.inr rfl) _
        have hR2 := HR.out.stay hst hgr'
        have hA2 := HA.out.stay hst hgh
        have hH2 := HH.out.stay hst hgB
        have hst2 : Stay (· = B) (wr.setCell ⟨g, 2, none⟩ (.int .i64 ((G0 : Int) + 1))) ((wr.setCell ⟨g, 2, none⟩ (.int .i64 ((G0 : Int) + 1))).setCell ⟨B, q, none⟩ (.int .i64 (M : Int))) := (Stay.refl (· = B) _).setCell (p := ⟨B, q, none⟩) (.inr rfl) _
        have HX := Lib.hid (And.intro (hB2.stay hst2 (fun e => hgn e)) (And.intro (hR2.stay hst2 hrn) (And.intro (hA2.stay hst2 hhn) (And.intro (hH2.set q (M : Int)) ((HS.out.trans hst (fun _ _ h => h)).trans hst2 (fun i hi h => absurd hi (by rw [HBB.out]; omega)))))))
        have k0 := hB2.c0
        have k1 := (hR2.cell (i := M) hlt)
        have HFX := Lib.hid (HF1.out M hgs)
        have HCX : Hid (Bw.gc E ro M = G0 + 1) := Lib.hid hcs
        have HGX : Hid (Bw.gh E ro M = M) := Lib.hid hgs
        clear hB2 hst hR2 hA2 hH2 hst2 hgs hcs hMm
        go_wp2_with fail
        go_quiet ((go_at_call 38; (with_reducible exact kk _)))
        clear kk
        go_wp2_with fail
        go_roundw
        case rel => exact ⟨M, M + 1, _, Lib.hid rfl, by omega, by go_num, by rw [HGX.out], by rw [HCX.out]; exact HX.out.1.below ((Below.refl _ _).drewN nq), HX.out.2.1.drewN nq, HX.out.2.2.1.drewN nq, HX.out.2.2.2.1.drewN nq, HFX.out, HX.out.2.2.2.2.drewN nq⟩
        case measure => simp [intOf]; omega
      · have kk := fun n => Calls.quiet_of (salike p q k true (wr.drewN n) (HB.out.below ((Below.refl _ _).drewN _)) (HA.out.drewN _) hN l1 l2 HPQ.out HEE.out)
        rw [if_pos rfl] at hgs hcs
        have hst2 : Stay (· = B) wr (wr.setCell ⟨B, q, none⟩ (.int .i64 (g0 : Int))) := (Stay.refl (· = B) _).setCell (p := ⟨B, q, none⟩) (.inr rfl) _
        have HX := Lib.hid (And.intro (HB.out.stay hst2 (fun e => hgn e)) (And.intro (HR.out.stay hst2 hrn) (And.intro (HA.out.stay hst2 hhn) (And.intro (HH.out.set q (g0 : Int)) (HS.out.trans hst2 (fun i hi h => absurd hi (by rw [HBB.out]; omega)))))))
        have HFX := Lib.hid (HF1.out g0 hgs)
        have HCX : Hid (Bw.gc E ro M = G0) := Lib.hid hcs
        have HGX : Hid (Bw.gh E ro M = g0) := Lib.hid hgs
        clear hst2 hgs hcs hMm
        go_wp2_with fail
        go_quiet ((go_at_call 38; (with_reducible exact kk _)))
        clear kk
        go_wp2_with fail
        go_roundw
        case rel => exact ⟨M, M + 1, _, Lib.hid rfl, by omega, by go_num, by rw [HGX.out], by rw [HCX.out]; exact HX.out.1.below ((Below.refl _ _).drewN nq), HX.out.2.1.drewN nq, HX.out.2.2.1.drewN nq, HX.out.2.2.2.1.drewN nq, HFX.out, HX.out.2.2.2.2.drewN nq⟩
        case measure => simp [intOf]; omega
    · have hlt' : ¬ (M : Int) < N := by omega
      have hMm := HM.out
      obtain rfl : M = N := by omega
      have c1 := hB.c1
      have f1 := hB.free 1
      have hmm : m = M - 1 := by omega
      have hst : Stay (· = g) wr (wr.setCell ⟨g, 1, none⟩ (.slice (some ⟨B, 0, none⟩) M M)) := (Stay.refl (· = g) _).setCell (p := ⟨g, 1, none⟩) (.inr rfl) _
      have HX := Lib.hid (And.intro (hmm ▸ hB.set1 B M) (And.intro (hR.stay hst hgr) (And.intro (hH.stay hst (fun e => hgn e.symm)) (hS.trans hst (fun _ _ h => h)))))
      have HF := Lib.hid hf
      clear hB hR hA hH hS hst hf hmm hMm
      go_wp2_with fail
      go_end0
      exact ⟨rfl, B, by rw [HBB.out]; exact Nat.le_refl _, HX.out.1, HX.out.2.1, H', HX.out.2.2.1, fun i hi => HF.out i (by have := HM.out; omega), HX.out.2.2.2⟩
end Go.Proofs.Ytfncjkkdemeclaa
