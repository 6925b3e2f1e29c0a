/- Layer 10's statements as walks: WalkFirst. -/
import Derived.Test.YthbbokoeiifjdaaDoorKwG
import Derived.Test.YthbbokoeiifjdaaDoorLaidB
namespace Go.Proofs.YthbbokoeiifjdaaDoor
open Go Go.RowKit Go.ChangeAt

/-- A walk of the call's own, behind what the call found. -/
structure Ow (W w : World) (b lo hi : Nat) (t : List UInt8) : Prop where
  a : Wlk w b lo hi t
  bw : Below W.heap.size W w
  lo : W.heap.size ≤ lo
theorem Ow.next {W w w' : World} {b lo hi : Nat} {t : List UInt8} (h : Ow W w b lo hi t) (k : Wlk w' b lo hi t) (k2 : Stay (Win lo hi) w w') : Ow W w' b lo hi t := ⟨k, h.bw.win k2 h.lo, h.lo⟩
theorem Ow.below {W w w' : World} {b lo hi : Nat} {t : List UInt8} (h : Ow W w b lo hi t) (k : Below w.heap.size w w') : Ow W w' b lo hi t := ⟨h.a.below k, h.bw.trans (k.mono h.bw.size), h.lo⟩
theorem Ow.drewN {W w : World} {b lo hi : Nat} {t : List UInt8} (h : Ow W w b lo hi t) (n : Nat) : Ow W (w.drewN n) b lo hi t := h.below ((Below.refl _ _).drewN n)
theorem Ow.told {W w : World} {b lo hi : Nat} {t : List UInt8} (h : Ow W w b lo hi t) : Calls Tryd.prog 11 #[] w fun e w' => e = .returned (.bool true) ∧ Below w.heap.size w w' :=
  told10 w h.a.tab (by have := h.a.size; omega)

set_option maxHeartbeats 3200000 in
set_option maxRecDepth 100000 in
theorem walkfirst_w (a : Option Addr) (n cap : Nat) (zs : List Int) (few : Bool) (W : World) (hrow : IsRow .i64 W a n cap zs) (hL : LaidFact W) :
    Calls Tryd.prog 6 #[.slice a n cap, .bool few] W fun e w' => e = .returned (.bool true) ∧ Below W.heap.size W w' := by
  have key := ktext_r (a := a) (n := n) (cap := cap) 80 80 few W (RdZ.of_row hrow) (by decide) rfl
  have HL := Lib.hid hL
  clear hrow hL
  go_enter Tryd.func6, Tryd.ntmps6
  go_wp2_with fail
  (with_reducible refine key.mono ?_); rintro e w1 ⟨a1, cap1, m, t, rfl, htl, hm, hr, -, hb1⟩
  clear key
  have hm80 : m ≤ 80 := by omega
  have hs1 := hb1.size
  have key := wnew_t w1 (HL.out.tab.below hb1 HL.out.pos) (by have := HL.out.pos; omega) hr htl (by omega)
  have HB1 := Lib.hid hb1
  have HTL := Lib.hid htl
  clear hm hr hb1 htl
  go_wp2_with fail
  (with_reducible refine key.mono ?_); rintro e w2 ⟨b, rfl, hX, hb2⟩
  clear key
  obtain ⟨lo, hlo⟩ : ∃ lo, w1.heap.size = lo := ⟨_, rfl⟩
  obtain ⟨hi, hhi⟩ : ∃ hi, w2.heap.size = hi := ⟨_, rfl⟩
  rw [hlo, hhi] at hX
  have hO2 : Ow W w2 b lo hi t := ⟨hX, HB1.out.trans (hb2.mono hs1), by omega⟩
  have HO := Lib.hid hO2
  obtain ⟨N, hN⟩ : ∃ N, m + 1 = N := ⟨_, rfl⟩
  have hmN : (m : Int) + 1 = N := by omega
  have key := hX.len N (by rw [HTL.out]; exact hmN)
  have htN : t.length + 1 = N := by rw [HTL.out, hN]
  have HTN := Lib.hid htN
  have hN9 : N ≤ 81 := by omega
  have hN0 : 0 < N := by omega
  have hne : ((N : Int) != N) = false := by simp
  have hne2 : ((m : Int) != m) = false := by simp
  have HHI := Lib.hid hhi
  clear hX hb2 hO2 hlo hhi hs1 htN hN HB1
  go_wp2_with fail
  (with_reducible refine key.mono ?_); rintro e w3 ⟨rfl, hb3⟩
  clear key
  have HO := Lib.hid (HO.out.below hb3)
  have key := HO.out.a.all N HTN.out
  have hs3 : hi ≤ w3.heap.size := by rw [← HHI.out]; exact hb3.size
  clear hb3
  go_wp2_with fail
  (with_reducible refine key.mono ?_); rintro e w4 ⟨B, cB, rfl, hB, -, hLx, hb4⟩
  clear key hne hne2
  have hB' : hi ≤ B := by omega
  have HO := Lib.hid (HO.out.below hb4)
  have HLX := Lib.hid hLx
  have HBB := Lib.hid hB'
  clear hLx hb4 hB hs3 hB'
  go_wp2_with fail
  go_loopw [8, 9] (fun at_ i wr => ∃ (k : Nat) (A : Int), k ≤ N ∧ i = .int .i64 k ∧ at_ = .int .i64 A ∧ (0 ≤ A ∧ A ≤ 256) ∧ (k < N → A ≤ fsx t k) ∧ Ow W wr b lo hi t ∧ RdL wr (some ⟨B, 0, none⟩) cB (Lx t)) (fun _ i _ => N - (intOf i).toNat)
  case atStart => exact ⟨0, 0, Nat.zero_le _, rfl, rfl, by decide, fun _ => by rw [fsx_zero]; decide, HO.out, HLX.out⟩
  case round =>
    clear HO HLX
    obtain ⟨k, A, hk, rfl, rfl, hA, hAf, hO, hLx⟩ := hrel
    have key := hO.a.len N (by have := HTN.out; omega)
    have HO := Lib.hid hO
    have HLX := Lib.hid hLx
    by_cases hlt : k < N
    · have hlt' : (k : Int) < N := by omega
      have hf := hAf hlt
      clear hO hLx hAf
      go_wp2_with fail
      (with_reducible refine key.mono ?_); rintro e w5 ⟨rfl, hb5⟩
      clear key
      have HO := Lib.hid (HO.out.below hb5)
      have HLX := Lib.hid (HLX.out.below hb5)
      have hfg := fsx_good (t := t) (r := k) (by have := HTN.out; omega)
      obtain ⟨f, hff⟩ : ∃ f, fsx t k = f := ⟨_, rfl⟩
      have key := HO.out.a.first k k f rfl (by have := HTN.out; omega) hff
      have hol := onx_lt (t := t) (r := k) (by have := HTN.out; omega)
      have hfo := fs_onx (t := t) (r := k) (by have := HTN.out; omega)
      obtain ⟨o, hoo⟩ : ∃ o, onx t k = o := ⟨_, rfl⟩
      rw [hff] at hf hfg
      rw [hoo] at hol hfo
      rw [hff] at hfo
      have HOO := Lib.hid hoo
      have HFF := Lib.hid hff
      have HFO := Lib.hid hfo
      have hoN : (o : Int) < N := by have := HTN.out; omega
      have hAf' : ¬ f < A := by omega
      clear hb5 hff hoo hfo hf
      go_wp2_with fail
      (with_reducible refine key.mono ?_); rintro e w6 ⟨rfl, hb6⟩
      clear key
      have HO := Lib.hid (HO.out.below hb6)
      have HLX := Lib.hid (HLX.out.below hb6)
      have key := HO.out.a.on k k o rfl (by have := HTN.out; omega) (by rw [HOO.out])
      clear hb6
      go_wp2_with fail
      (with_reducible refine key.mono ?_); rintro e w7 ⟨rfl, hX7, hs7⟩
      clear key
      have hL7 := Rd.outL HLX.out hs7 (.inr HBB.out)
      have HO := Lib.hid (HO.out.next hX7 hs7)
      obtain ⟨bb, off, e1, _, c0⟩ := hL7.cell (k := o) (by rw [Lx_len]; exact hol)
      rw [HFO.out] at c0
      simp only [Option.some.injEq, Addr.mk.injEq, and_true] at e1
      obtain ⟨rfl, rfl⟩ := e1
      rw [Nat.zero_add] at c0
      have d1 : decide (f < A) = false := decide_eq_false (by omega)
      have d2 : decide ((o : Int) < 0) = false := decide_eq_false (by omega)
      have d3 : decide ((N : Int) ≤ o) = false := decide_eq_false (by omega)
      have HLX := Lib.hid hL7
      have hnef : (f != f) = false := by simp
      clear hX7 hs7 hL7
      go_wp2_with fail
      go_roundw
      case rel => exact ⟨k + 1, f, by omega, by go_num, rfl, hfg, fun h => by rw [← HFF.out]; exact fsx_rises (by have := HTN.out; omega), HO.out, HLX.out⟩
      case measure => simp [intOf]; omega
    · have hlt' : ¬ (k : Int) < N := by omega
      clear hO hLx hAf
      go_wp2_with fail
      (with_reducible refine key.mono ?_); rintro e w5 ⟨rfl, hb5⟩
      clear key HLX
      have HO := Lib.hid (HO.out.below hb5)
      have key := HO.out.told
      clear hb5
      go_wp2_with fail
      (with_reducible refine key.mono ?_); rintro e w6 ⟨rfl, hb6⟩
      clear key
      have HO := Lib.hid (HO.out.below hb6)
      have key := HO.out.a.first 0 0 0 rfl (by omega) (fsx_zero t)
      clear hb6
      go_wp2_with fail
      (with_reducible refine key.mono ?_); rintro e w7 ⟨rfl, hb7⟩
      clear key
      have HO := Lib.hid (HO.out.below hb7)
      have key := HO.out.a.first_no (-1) (.inl (by decide))
      clear hb7
      go_wp2_with fail
      (with_reducible refine key.mono ?_); rintro e w8 ⟨rfl, hb8⟩
      clear key
      have HO := Lib.hid (HO.out.below hb8)
      have key := HO.out.a.on_no (-1) (.inl (by decide))
      clear hb8
      go_wp2_with fail
      (with_reducible refine key.mono ?_); rintro e w9 ⟨rfl, hX9, hs9⟩
      clear key
      have HO := Lib.hid (HO.out.next hX9 hs9)
      clear hX9 hs9
      go_wp2_with fail
      go_ret
      exact ⟨rfl, HO.out.bw⟩
end Go.Proofs.YthbbokoeiifjdaaDoor
