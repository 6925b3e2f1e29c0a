/- What Split and Join of package block do: contracts of the walk. -/
import Derived.Test.YtfbhcbcpeocmcaaDoorBlkC
namespace Go.Proofs.YtfbhcbcpeocmcaaDoor
open Go Go.RowKit

theorem Blk_nil {x y : Nat} {w : World} {g n : Nat} (hn : n = 0) (hg : w.heap[g]? = some (.cells #[.int .u64 x, .int .u64 y, .int .i64 n] 91 (0, 0))) (hx : Blk.Has x (Blk.at_ [] 0)) (hy : Blk.Has y (Blk.at_ [] 64)) : IsBlk w g [] := by
  subst hn; exact ⟨by decide, x, y, hg, hx, hy⟩
theorem set3_copy {w : World} {g x y n x' y' m : Nat} {z : Int} {t : TypeId} (hz : z = m) (h : w.heap[g]? = some (.cells #[.int .u64 x, .int .u64 y, .int .i64 n] t (0, 0))) :
    (((w.setCell ⟨g, 0, none⟩ (.int .u64 x')).setCell ⟨g, 1, none⟩ (.int .u64 y')).setCell ⟨g, 2, none⟩ (.int .i64 z)).heap[g]? = some (.cells #[.int .u64 x', .int .u64 y', .int .i64 m] t (0, 0)) := by
  subst hz; exact set_of (set_of (set_of h _) _) _
theorem Stay.copy {S : Nat → Prop} {a w : World} {g : Nat} (h : Stay S a w) (hg : S g) (u v z : Value) : Stay S a (((w.setCell ⟨g, 0, none⟩ u).setCell ⟨g, 1, none⟩ v).setCell ⟨g, 2, none⟩ z) :=
  ((h.setCell (p := ⟨g, 0, none⟩) (.inr hg) _).setCell (p := ⟨g, 1, none⟩) (.inr hg) _).setCell (p := ⟨g, 2, none⟩) (.inr hg) _
set_option maxHeartbeats 800000 in
theorem bsplit_any {l : List Bool} {g : Nat} (w : World) (h : IsBlk w g l) :
    Calls Tryd.prog 72 #[.pointer (some ⟨g, 0, none⟩)] w fun e w' => ∃ g2, e = .returned (.pointer (some ⟨g2, 0, none⟩)) ∧ w.heap.size ≤ g2 ∧ IsBlk w' g (l.take (l.length / 2)) ∧ IsBlk w' g2 (l.drop (l.length / 2)) ∧ Stay (· = g) w w' := by
  have hl := h.1
  have hlt0 := h.lt
  have H := Lib.hid h
  go_enter Tryd.func72, Tryd.ntmps72
  go_wp2_with fail
  refine (ball_any _ h).mono ?_
  rintro e w1 ⟨v, rfl, hown, hnil, hb1⟩
  have hsz1 := hb1.size
  have h1 := H.out.below hb1 hlt0
  obtain ⟨_, x, y, hg, hx, hy⟩ := H.out
  have hg1 := Below.keptB hb1 hg hlt0
  obtain ⟨c0, c1, c2, f0, f1, f2⟩ := cells3 hg1
  clear c0 c1 f0 f1 f2 hg
  have hrd := hown.rd
  have HG1 := Lib.hid hg1
  clear hg1
  rcases hrd with ⟨rfl, rfl⟩ | ⟨b, off, cap, rfl, k0, k1, k2, k3⟩
  · have R1 : Hid (RdB w1 (.slice none 0 0) (([] : List Bool).take (([] : List Bool).length / 2))) := Lib.hid (.inl ⟨rfl, rfl⟩)
    have R2 : Hid (RdB w1 (.slice none 0 0) (([] : List Bool).drop (([] : List Bool).length / 2))) := Lib.hid (.inl ⟨rfl, rfl⟩)
    have LT : Hid ((([] : List Bool).take (([] : List Bool).length / 2)).length ≤ 128) := Lib.hid (by decide)
    have LD : Hid ((([] : List Bool).drop (([] : List Bool).length / 2)).length ≤ 128) := Lib.hid (by decide)
    clear hnil hown h1 h hx hy
    go_wp2_with fail
    refine (bnew_rd _ R1.out LT.out).mono ?_
    rintro e w2 ⟨ga, rfl, hga, hba, hb2⟩
    have hsz2 := hb2.size
    have hg2 := Below.keptB hb2 HG1.out (by omega)
    obtain ⟨d0, d1, d2, e0, e1, e2⟩ := cells3 hg2
    have HG2 := Lib.hid hg2
    clear d0 d1 e0 e1 e2 hg2
    go_wp2_with fail
    refine (bnew_rd _ (R2.out.below hb2) LD.out).mono ?_
    rintro e w3 ⟨gb, rfl, hgb, hbb, hb3⟩
    have hsz3 := hb3.size
    have hga' := hba.lt
    have hba3 := hba.below hb3 hga'
    have HB3 := Lib.hid hba3
    obtain ⟨_, xa, ya, hA, hxa, hya⟩ := hba3
    obtain ⟨d0, d1, d2', e0, e1, e2⟩ := cells3 hA
    have hg3 := Below.keptB hb3 HG2.out (by omega)
    have HG3 := Lib.hid hg3
    have HXA := Lib.hid (And.intro hxa hya)
    obtain ⟨p0, p1, p2, q0, q1, q2⟩ := cells3 hg3
    clear hA hg3 hxa hya
    go_wp2_with fail
    go_ret
    have hst : Stay (· = g) w w3 := Stay.of_below (hb1.trans ((hb2.mono hsz1).trans (hb3.mono (by omega))))
    exact ⟨gb, rfl, by omega, ⟨LT.out, xa, ya, set3_copy (by simp) HG3.out, HXA.out.1, HXA.out.2⟩, hbb.stay ((Stay.refl (· = g) w3).copy rfl _ _ _) (by omega), hst.copy rfl _ _ _⟩
  · have hm : (cap : Int) ≤ 9223372036854775807 := by unfold maxLen at k2; omega
    have R1 := Lib.hid (RdB.take k0 k1 k2 k3 (k := l.length / 2) (by omega))
    have hpos : 0 < l.length := by
      rcases Nat.eq_zero_or_pos l.length with h | h
      · have := hnil (List.eq_nil_of_length_eq_zero h); simp at this
      · exact h
    have hne : ¬ cap = l.length / 2 := by omega
    have R2 := RdB.drop k0 k1 k2 k3 (k := l.length / 2) (by omega)
    rw [if_neg hne] at R2
    have R2 := Lib.hid R2
    have LT := Lib.hid (show (l.take (l.length / 2)).length ≤ 128 by rw [List.length_take]; omega)
    have LD := Lib.hid (show (l.drop (l.length / 2)).length ≤ 128 by rw [List.length_drop]; omega)
    clear hnil hown k2 k3 h1 h hx hy
    go_wp2_with fail
    refine (bnew_rd _ R1.out LT.out).mono ?_
    rintro e w2 ⟨ga, rfl, hga, hba, hb2⟩
    have hsz2 := hb2.size
    have hg2 := Below.keptB hb2 HG1.out (by omega)
    obtain ⟨d0, d1, d2, e0, e1, e2⟩ := cells3 hg2
    have HG2 := Lib.hid hg2
    clear d0 d1 e0 e1 e2 hg2
    go_wp2_with fail
    refine (bnew_rd _ (R2.out.below hb2) LD.out).mono ?_
    rintro e w3 ⟨gb, rfl, hgb, hbb, hb3⟩
    have hsz3 := hb3.size
    have hga' := hba.lt
    have hba3 := hba.below hb3 hga'
    have HB3 := Lib.hid hba3
    obtain ⟨_, xa, ya, hA, hxa, hya⟩ := hba3
    obtain ⟨d0, d1, d2', e0, e1, e2⟩ := cells3 hA
    have hg3 := Below.keptB hb3 HG2.out (by omega)
    have HG3 := Lib.hid hg3
    have HXA := Lib.hid (And.intro hxa hya)
    obtain ⟨p0, p1, p2, q0, q1, q2⟩ := cells3 hg3
    clear hA hg3 hxa hya
    go_wp2_with fail
    go_ret
    have hst : Stay (· = g) w w3 := Stay.of_below (hb1.trans ((hb2.mono hsz1).trans (hb3.mono (by omega))))
    exact ⟨gb, rfl, by omega, ⟨LT.out, xa, ya, set3_copy (by simp) HG3.out, HXA.out.1, HXA.out.2⟩, hbb.stay ((Stay.refl (· = g) w3).copy rfl _ _ _) (by omega), hst.copy rfl _ _ _⟩
end Go.Proofs.YtfbhcbcpeocmcaaDoor
