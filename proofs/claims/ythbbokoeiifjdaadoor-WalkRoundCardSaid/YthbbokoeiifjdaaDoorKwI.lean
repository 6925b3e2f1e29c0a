/- Layer 10's statements as walks: WalkRound. -/
import Derived.Test.YthbbokoeiifjdaaDoorKwH
namespace Go.Proofs.YthbbokoeiifjdaaDoor
open Go Go.RowKit Go.ChangeAt

/-- Which rows the first k steps back have passed. -/
def psd (t : List UInt8) (r k p : Nat) : Bool := (List.range k).any fun j => decide (rnd t r j = p)
theorem psd_zero (t : List UInt8) (r p : Nat) : psd t r 0 p = false := rfl
theorem psd_succ (t : List UInt8) (r k p : Nat) : psd t r (k + 1) p = if p = rnd t r k then true else psd t r k p := by
  unfold psd
  rw [List.range_succ, List.any_append, List.any_cons, List.any_nil, Bool.or_false]
  by_cases e : p = rnd t r k
  · rw [if_pos e, decide_eq_true e.symm, Bool.or_true]
  · rw [if_neg e, decide_eq_false (fun h => e h.symm), Bool.or_false]
theorem psd_new {t : List UInt8} {r k : Nat} (hr : r < t.length + 1) (hk : k < t.length + 1) : psd t r k (rnd t r k) = false := by
  unfold psd
  rw [List.any_eq_false]
  intro j hj h
  have h1 := List.mem_range.1 hj
  have h2 := rnd_inj hr (i := j) (j := k) (by omega) hk (of_decide_eq_true h)
  omega
theorem Mk.stay {w w' : World} {S : Nat} {f : Nat → Bool} {Z : Nat → Prop} (h : Mk w S f) (hs : Stay Z w w') (hn : ¬ Z S) : Mk w' S f := by
  obtain ⟨c, h1, h2⟩ := h
  exact ⟨c, hs.kept h1 hn, h2⟩
theorem Mk.below {w w' : World} {S : Nat} {f : Nat → Bool} (h : Mk w S f) (hs : Below w.heap.size w w') : Mk w' S f := h.stay (Stay.of_below (S := fun _ => False) hs) fun h => h
theorem Mk.lt {w : World} {S : Nat} {f : Nat → Bool} (h : Mk w S f) : S < w.heap.size := by
  obtain ⟨c, h1, _⟩ := h
  exact lt_of_block h1

set_option maxHeartbeats 3200000 in
set_option maxRecDepth 100000 in
theorem walkround_w (a : Option Addr) (n cap : Nat) (zs : List Int) (few : Bool) (row : Int) (W : World) (hrow : IsRow .i64 W a n cap zs) (_ : (Lit.int .i64 row).wf = true) (hL : LaidFact W) :
    Calls Tryd.prog 4 #[.slice a n cap, .bool few, .int .i64 row] W fun e w' => e = .returned (.bool true) ∧ Below W.heap.size W w' := by
  obtain ⟨zs, hz, hzn, hzc⟩ := zeroM
  have key := ktext_r (a := a) (n := n) (cap := cap) 80 80 few W (RdZ.of_row hrow) (by decide) rfl
  have HL := Lib.hid hL
  clear hrow hL
  go_enter Tryd.func4, Tryd.ntmps4
  go_wp2_with fail
  (with_reducible refine key.mono ?_); rintro e w1 ⟨a1, cap1, m, t, rfl, htl, hm, hr, -, hb1⟩
  clear key
  have hm80 : m ≤ 80 := by omega
  have hs1 := hb1.size
  have key := wnew_t w1 (HL.out.tab.below hb1 HL.out.pos) (by have := HL.out.pos; omega) hr htl (by omega)
  have HB1 := Lib.hid hb1
  have HTL := Lib.hid htl
  clear hm hr hb1 htl
  go_wp2_with fail
  (with_reducible refine key.mono ?_); rintro e w2 ⟨b, rfl, hX, hb2⟩
  clear key
  obtain ⟨lo, hlo⟩ : ∃ lo, w1.heap.size = lo := ⟨_, rfl⟩
  obtain ⟨hi, hhi⟩ : ∃ hi, w2.heap.size = hi := ⟨_, rfl⟩
  rw [hlo, hhi] at hX
  have hO2 : Ow W w2 b lo hi t := ⟨hX, HB1.out.trans (hb2.mono hs1), by omega⟩
  have HO := Lib.hid hO2
  obtain ⟨N, hN⟩ : ∃ N, m + 1 = N := ⟨_, rfl⟩
  have hmN : (m : Int) + 1 = N := by omega
  have key := hX.len N (by rw [HTL.out]; exact hmN)
  have htN : t.length + 1 = N := by rw [HTL.out, hN]
  have HTN := Lib.hid htN
  have hN9 : N ≤ 81 := by omega
  have hN0 : 0 < N := by omega
  have hne : ((N : Int) != N) = false := by simp
  have hNne : ((N : Int) == 0) = false := by simpa using (show ¬ N = 0 by omega)
  obtain ⟨r, hr, en1⟩ := mod_anyZ row N hN0 (by omega)
  have EN1 := Lib.hid en1
  have HNM := Lib.hid hN
  have HHI := Lib.hid hhi
  clear hX hb2 hO2 hlo hhi hs1 htN hN HB1
  go_wp2_with fail
  (with_reducible refine key.mono ?_); rintro e w3 ⟨rfl, hb3⟩
  clear key
  have hs3 : hi ≤ w3.heap.size := by rw [← HHI.out]; exact hb3.size
  obtain ⟨S, hS⟩ : ∃ S, w3.heap.size = S := ⟨_, rfl⟩
  obtain ⟨w4, hw4⟩ : ∃ w4, w3.alloc (.cells zs 33) = w4 := ⟨_, rfl⟩
  have hal : Below w3.heap.size w3 w4 := by rw [← hw4]; exact (Below.refl _ _).alloc (Nat.le_refl _) _
  have hMk : Mk w4 S (psd t r 0) := by
    rw [← hw4, ← hS]
    exact ⟨zs, alloc_of, hzn, hzc⟩
  rw [hS] at hs3
  have HMK := Lib.hid hMk
  have HO := Lib.hid ((HO.out.below hb3).below hal)
  have HSS := Lib.hid hs3
  clear hb3 hal hMk hs3 hzn hzc
  go_wp2_with fail
  rw [EN1.out]
  clear hw4 hS hz en1 hne hNne EN1
  go_loopw [11, 12] (fun at_ i wr => ∃ k : Nat, k ≤ N ∧ i = .int .i64 k ∧ at_ = .int .i64 (rnd t r k) ∧ Mk wr S (psd t r k) ∧ Ow W wr b lo hi t) (fun _ i _ => N - (intOf i).toNat)
  case atStart => exact ⟨0, Nat.zero_le _, rfl, rfl, HMK.out, HO.out⟩
  case round =>
    clear HMK HO
    obtain ⟨k, hk, rfl, rfl, hM, hO⟩ := hrel
    have hrt : r < t.length + 1 := by rw [HTN.out]; exact hr
    have hpt := rnd_lt hrt k
    rw [HTN.out] at hpt
    by_cases hlt : k < N
    · have hkm : (k : Int) ≤ m := by have := HNM.out; omega
      have hps := psd_new (t := t) hrt (k := k) (by rw [HTN.out]; exact hlt)
      have hps2 := psd_succ t r k
      have hrs := rnd_succ t r k
      obtain ⟨p, hp⟩ : ∃ p, rnd t r k = p := ⟨_, rfl⟩
      rw [hp] at hpt hps hps2 hrs
      rw [hp]
      have hpt' : p < t.length + 1 := by rw [HTN.out]; exact hpt
      have hq := bkx_lt hpt'
      have hqo := on_bkx hpt'
      obtain ⟨q, hqq⟩ : ∃ q, bkx t p = q := ⟨_, rfl⟩
      rw [hqq] at hq hqo hrs
      have c1 := hM.cell (i := p) (by omega)
      rw [hps] at c1
      have f1 := hM.free p
      have d1 : decide ((p : Int) < 0) = false := decide_eq_false (by omega)
      have d2 : decide ((m : Int) < p) = false := decide_eq_false (by have := HNM.out; omega)
      have hp0 : ¬ (p : Int) < 0 := by omega
      have hpm : ¬ (m : Int) < p := by have := HNM.out; omega
      have hp81 : (p : Int) < 81 := by omega
      have hne : ((p : Int) != p) = false := by simp
      have key := hO.a.back p p q rfl hpt' (by rw [hqq])
      have HO := Lib.hid hO
      have HM := Lib.hid hM
      have HQ := Lib.hid (And.intro hqq (And.intro hq (And.intro hqo hpt')))
      have HPS := Lib.hid hps2
      have HRS := Lib.hid hrs
      clear hO hM hps hps2 hqq hq hqo hp hrt hpt' hrs
      go_wp2_with fail
      (with_reducible refine key.mono ?_); rintro e w5 ⟨rfl, hX5, hs5⟩
      clear key c1 f1
      have hM5 := HM.out.stay hs5 (fun h => by have h1 : lo ≤ S ∧ S < hi := h; have := HSS.out; omega)
      have HO := Lib.hid (HO.out.next hX5 hs5)
      have key := hX5.on q q p rfl HQ.out.2.1 (by rw [HQ.out.2.2.1])
      have HM := Lib.hid hM5
      clear hX5 hs5 hM5
      go_wp2_with fail
      (with_reducible refine key.mono ?_); rintro e w6 ⟨rfl, hX6, hs6⟩
      clear key
      have hM6 := HM.out.stay hs6 (fun h => by have h1 : lo ≤ S ∧ S < hi := h; have := HSS.out; omega)
      have hO6 := HO.out.next hX6 hs6
      have c1 := hM6.cell (i := p) (by omega)
      have f1 := hM6.free p
      have hst : Stay (· = S) w6 (w6.setCell ⟨S, p, none⟩ (.bool true)) := (Stay.refl (· = S) _).setCell (p := ⟨S, p, none⟩) (.inr rfl) _
      have hX7 : Wlk (w6.setCell ⟨S, p, none⟩ (.bool true)) b lo hi t := hO6.a.stay hst (fun i h e => by have h1 : lo ≤ i ∧ i < hi := h; have := HSS.out; omega) (fun e => by have := HSS.out; have := hO6.a.size; omega)
      have hbw : Below W.heap.size W (w6.setCell ⟨S, p, none⟩ (.bool true)) := hO6.bw.setCell (p := ⟨S, p, none⟩) (by show W.heap.size ≤ S; have := HSS.out; have := hO6.lo; have := hO6.a.size; omega) _
      have hM7 := (hM6.set p true).congr (g := psd t r (k + 1)) fun i _ => (HPS.out i).symm
      have key := hX7.back p p q rfl HQ.out.2.2.2 (by rw [HQ.out.1])
      have HO := Lib.hid (Ow.mk hX7 hbw hO6.lo)
      have HM := Lib.hid hM7
      clear hX6 hs6 hM6 hO6 hst hX7 hbw hM7
      go_wp2_with fail
      (with_reducible refine key.mono ?_); rintro e w8 ⟨rfl, hX8, hs8⟩
      clear key c1 f1
      have hM8 := HM.out.stay hs8 (fun h => by have h1 : lo ≤ S ∧ S < hi := h; have := HSS.out; omega)
      have HX := Lib.hid (And.intro hM8 (HO.out.next hX8 hs8))
      clear hX8 hs8 hM8
      go_wp2_with fail
      go_roundw
      case rel => exact ⟨k + 1, by omega, by go_num, by rw [HRS.out], HX.out.1, HX.out.2⟩
      case measure => simp [intOf]; omega
    · have hkm : ¬ (k : Int) ≤ m := by have := HNM.out; omega
      have hkN : k = N := by omega
      subst hkN
      have hrd := rnd_round hrt
      rw [HTN.out] at hrd
      rw [hrd]
      have HO := Lib.hid hO
      have key := hO.told
      clear hM hO hrd hpt hrt
      go_wp2_with fail
      (with_reducible refine key.mono ?_); rintro e w5 ⟨rfl, hb5⟩
      clear key
      have HO := Lib.hid (HO.out.below hb5)
      clear hb5
      go_wp2_with fail
      go_ret
      exact ⟨rfl, HO.out.bw⟩
end Go.Proofs.YthbbokoeiifjdaaDoor
