/- Stage 6's statement as a walk: SymOrder. -/
import Derived.Test.YthnfjagoknjbfaaSyT
import Derived.Deep.RegionHeld3
namespace Go.Proofs.Ythnfjagoknjbfaa
open Go Go.RowKit Go.ChangeAt

theorem sof_is {b A : Int} (w : World) (h : 0 ≤ b ∧ b ≤ 255) (hA : b + 1 = A) : Calls Try.prog 13 #[.int .u8 b] w fun e w' => e = .returned (.int .i64 A) ∧ w = w' := hA ▸ sof b w h
theorem order_all (a A : Int) (w : World) (h : 0 ≤ a ∧ a ≤ 255) (hA : a + 1 = A) : Calls Try.prog 15 #[.slice (some ⟨w.heap.size + 1, 0, none⟩) 1 1]
    ((w.alloc (.cells #[.int .u8 a] 5)).alloc (.cells #[.slice (some ⟨w.heap.size, 0, none⟩) 1 1] 27))
    fun e w' => ∃ b cap, e = .returned (.slice (some ⟨b, 0, none⟩) 2 cap) ∧ w'.cell? ⟨b, 0, none⟩ = some (.int .i64 A) ∧ b < w'.heap.size ∧ Below w.heap.size w w' := by
  subst hA
  obtain ⟨u, rfl⟩ : ∃ u : UInt8, a = (u.toNat : Int) := ⟨UInt8.ofNat a.toNat, by simp; omega⟩
  have e1 : (w.alloc (.cells #[.int .u8 (u.toNat : Int)] 5)).heap.size = w.heap.size + 1 := by simp
  have hu1 : RdU (w.alloc (.cells #[.int .u8 (u.toNat : Int)] 5)) (some ⟨w.heap.size, 0, none⟩) 1 [u] := RdU.lit w rfl u (0, 0)
  have hp := RdP.one (g := w.heap.size + 1) e1.symm hu1 (n := 1) rfl
  refine (sall _ hp (by simp)).mono ?_
  rintro e w' ⟨v, rfl, hown, hb⟩
  have hl : Sy.of [[u]].flatten ++ [0] = [(u.toNat : Int) + 1, 0] := rfl
  rw [hl] at hown
  obtain ⟨b, cap, rfl, _, hlt, hc⟩ := OwnI.cells hown (by simp)
  refine ⟨b, cap, rfl, hc 0 (by simp), hlt, ?_⟩
  refine Below.trans (((Below.refl _ _).alloc (Nat.le_refl _) _).alloc (by simp) _) (hb.mono ?_)
  simp
  omega
set_option maxHeartbeats 800000 in
theorem symorder_w (a b : Int) (W : World) (wa : (Lit.int .u8 a).wf = true) (wb : (Lit.int .u8 b).wf = true) :
    Calls Try.prog 6 #[.int .u8 a, .int .u8 b] W fun e w' => e = .returned (.bool true) ∧ Below W.heap.size W w' := by
  have ha := bounds_u8 wa
  have hb := bounds_u8 wb
  obtain ⟨A, hA⟩ : ∃ A, a + 1 = A := ⟨_, rfl⟩
  obtain ⟨B, hB⟩ : ∃ B, b + 1 = B := ⟨_, rfl⟩
  obtain ⟨d, hd⟩ : ∃ d, decide (a < b) = d := ⟨_, rfl⟩
  have hd2 : decide (A < B) = d := by rw [← hd]; by_cases h : a < b <;> simp [h] <;> omega
  have kA := fun w => sof_is w (by omega) hA
  have kB := fun w => sof_is w (by omega) hB
  have kY : ∀ w, Calls Try.prog 12 #[.int .i64 A] w fun e w' => e = .returned (.tuple #[.int .u8 a, .bool true]) ∧ w = w' := fun w => by
    have := sbyte A w (by omega)
    rwa [show A - 1 = a by omega] at this
  have kL := order_all a A W (by omega) hA
  have hA0 : decide (0 < A) = true := decide_eq_true (by omega)
  have hA1 : (0 : Int) < A := by omega
  have HA := Lib.hid ha
  clear ha hb hA hB wa wb
  go_enter Try.func6, Try.ntmps6
  go_wp2_with fail
  (with_reducible refine (kA _).mono ?_); rintro e w' ⟨rfl, rfl⟩
  go_wp2_with fail
  (with_reducible refine (kY _).mono ?_); rintro e w' ⟨rfl, rfl⟩
  clear kY
  go_wp2_with fail
  (with_reducible refine kL.mono ?_); rintro e w1 ⟨g, cap, rfl, c0, hlt, hb1⟩
  clear kL
  have HB1 := Lib.hid hb1
  clear hb1
  go_wp2_with fail
  go_region_held3 (fun w' => w'.cell? ⟨g, 0, none⟩ = some (.int .i64 A))
      (first | exact c1 | go_keep)
      (first
       | (go_at_call 10; refine (told_any _).mono ?_; rintro e w2 ⟨rfl, hb2⟩; (have HB2 := Lib.hid hb2); (have c1 := (hb2.cell (p := ⟨g, 0, none⟩) hlt).trans c0); clear hb2)
       | (go_at_call 13; (with_reducible refine (kA _).mono ?_); rintro e w3 ⟨rfl, rfl⟩)
       | (go_at_call 13; (with_reducible refine (kB _).mono ?_); rintro e w3 ⟨rfl, rfl⟩))
  all_goals
    go_wp2_with fail
    go_ret
    exact ⟨rfl, (HB1.out.drew).trans (HB2.out.mono HB1.out.size)⟩
end Go.Proofs.Ythnfjagoknjbfaa
