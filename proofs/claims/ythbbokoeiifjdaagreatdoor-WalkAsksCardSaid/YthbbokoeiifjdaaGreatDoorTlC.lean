/- near, the document's May of a tree's shape, and Fine. -/
import Derived.Test.YthbbokoeiifjdaaGreatDoorTlTd
import Derived.Test.YthbbokoeiifjdaaGreatDoorFbm
import Derived.Deep.RegionHeld3
namespace Go.Proofs.YthbbokoeiifjdaaGreatDoor
open Go Go.RowKit Go.ChangeAt Tr

theorem mod_any (k : Int) (m : Nat) (h0 : 0 < m) (h1 : m ≤ 1000000) : ∃ n : Nat, n < m ∧ RowKit.wrap64 ((IntKind.u64.wrap k).tmod m) = (n : Int) := by
  rw [IntKind.wrap_u64]
  have h2 : 0 ≤ k % 18446744073709551616 := Int.emod_nonneg _ (by decide)
  rw [Int.tmod_eq_emod_of_nonneg h2]
  generalize k % 18446744073709551616 = x at h2 ⊢
  have h3 : 0 ≤ x % (m : Int) := Int.emod_nonneg _ (by omega)
  have h4 : x % (m : Int) < m := Int.emod_lt_of_pos _ (by omega)
  refine ⟨(x % m).toNat, by omega, ?_⟩
  unfold RowKit.wrap64
  omega
theorem raw_bal (a : T) (h : a.bal) : Fb.raw a.ht ≤ a.lvs := by
  induction a with
  | leaf k l => exact Nat.le_refl _
  | node k x y ihx ihy =>
    obtain ⟨bx, byy, h1, h2⟩ := h
    have ix := ihx bx
    have iy := ihy byy
    have e : (T.node k x y).ht = 1 + max x.ht y.ht := rfl
    have el : (T.node k x y).lvs = x.lvs + y.lvs := rfl
    rw [e, el]
    have px := x.lvs_pos
    have py := y.lvs_pos
    by_cases c : x.ht = 0 ∧ y.ht = 0
    · rw [c.1, c.2]
      show Fb.raw 1 ≤ _
      have : Fb.raw 1 = 2 := rfl
      omega
    · by_cases c2 : x.ht ≤ y.ht
      · obtain ⟨q, hq⟩ : ∃ q, y.ht = q + 1 := ⟨y.ht - 1, by omega⟩
        have hm : Fb.raw q ≤ Fb.raw x.ht := Fb.raw_mono (by omega)
        have ha : Fb.raw (q + 2) = Fb.raw q + Fb.raw (q + 1) := rfl
        rw [show 1 + max x.ht y.ht = q + 2 by omega]
        rw [hq] at iy
        omega
      · obtain ⟨q, hq⟩ : ∃ q, x.ht = q + 1 := ⟨x.ht - 1, by omega⟩
        have hm : Fb.raw q ≤ Fb.raw y.ht := Fb.raw_mono (by omega)
        have ha : Fb.raw (q + 2) = Fb.raw q + Fb.raw (q + 1) := rfl
        rw [show 1 + max x.ht y.ht = q + 2 by omega]
        rw [hq] at ix
        omega
/-- A tree's shape may be. -/
theorem Root.may {S : St} {m : List Bool} (h : Root S m) : Fb.may S.rt.len S.rt.ht ((S.live + 1) / 2 : Nat) S.live = true := by
  rcases h with ⟨rfl, h1, _, h3, h4⟩ | ⟨a, q1, q2, q3, q4, rfl, q6, q7, q8⟩
  · rw [h1, h3, h4]; rfl
  · have e1 : S.rt.len = a.bits.length := by rw [q7, T.lk_len]
    have e2 : S.rt.ht = a.ht := by rw [q7, T.lk_ht]
    have k1 := a.ks_len
    have k2 := q4.len.1
    have k3 := a.lvs_pos
    have k4 := raw_bal a q3
    have e3 : (S.live + 1) / 2 = a.lvs := by omega
    rw [e1, e2, e3]
    unfold Fb.may
    rw [if_neg (by omega)]
    have k5 : Fb.least (a.ht : Int) ≤ a.lvs := by
      rw [Fb.least_nat]
      have := Nat.min_le_left (Fb.raw a.ht) 2147483648
      omega
    exact decide_eq_true ⟨by omega, by omega, k5, by omega, by omega⟩
theorem TM.live_le {base t : Nat} {w : World} {S : St} (h : TM base w t S) : S.live ≤ 268435456 := by
  have h1 := S.live_le
  obtain ⟨g, a, c, hx⟩ := h
  have := hx.sar.tm
  omega
theorem Tre.drewN' {base t x : Nat} {w w' : World} {S : St} {m : List Bool} (h : Tre base w t S m) (hw : w' = w.drewN x) : Tre base w' t S m := by rw [hw]; exact h.drewN x
theorem Below.drewN' {a w w' : World} {B x : Nat} (h : Below B a w) (hw : w' = w.drewN x) : Below B a w' := by rw [hw]; exact h.drewN x
theorem tvisits' {base t v : Nat} {S : St} {m : List Bool} (w : World) (h : Tre base w t S m) (hv : S.vis = v) :
    Calls Tryz.prog 74 #[.pointer (some ⟨t, 0, none⟩)] w fun e w' => e = .returned (.int .i64 v) ∧ w = w' := by subst hv; exact tvisits w h
end Go.Proofs.YthbbokoeiifjdaaGreatDoor
