/- Layer 4's statements as walks: FibAsks; a slice of shapes that came in, opened. -/
import Derived.Test.YtfmginakkenbnaaFibC
import Derived.Deep.Slices
namespace Go.Proofs.Ytfmginakkenbnaa
open Go Go.ChangeShapes Go.WideShapes Go.ChangeAt Go.RowKit

set_option maxRecDepth 100000 in
set_option maxHeartbeats 1600000 in
theorem asks_walk (n : Int) (a : Option Addr) (cap : Nat) (l : List Sh) (W : World) (wf0 : (Lit.int .i64 n).wf = true) (hl : RdS W a l) :
    Calls Try.prog 4 #[.int .i64 n, .slice a l.length cap] W fun e w' => e = .returned (.bool true) ∧ Below W.heap.size W w' := by
  have hn := (bounds_i64 wf0).2
  have hlen := hl.1
  unfold maxLen at hlen
  have HR := Lib.hid hl
  clear hl
  by_cases hlong : 10 < l.length
  · go_enter Try.func4, Try.ntmps4
    go_wp2_with (go_at_call 8; refine (told_any _).mono ?_; rintro e w1 ⟨rfl, h1⟩)
    go_ret
    exact ⟨rfl, h1⟩
  · go_enter Try.func4, Try.ntmps4
    go_wp2_with fail
    go_loopw [5, 6, 7, 12, 13, 14, 15, 16, 17, 18, 19, 20, 21, 22, 23, 24, 25, 26, 27, 28, 29, 30, 31, 32, 33, 34] (fun s i _ _ _ _ _ _ _ _ _ _ _ _ _ _ _ _ _ _ _ _ _ _ _ _ wr => ∃ k : Nat, k ≤ l.length ∧ i = .int .i64 k ∧ s = .bool ((l.take k).all mayS) ∧ Below W.heap.size W wr) (fun _ i _ _ _ _ _ _ _ _ _ _ _ _ _ _ _ _ _ _ _ _ _ _ _ _ _ => l.length - (intOf i).toNat)
    case atStart => exact ⟨0, Nat.zero_le _, rfl, rfl, Below.refl _ _⟩
    case round =>
      obtain ⟨k, hk, rfl, rfl, hb⟩ := hrel
      by_cases hlt : k < l.length
      · obtain ⟨b, off, rfl, hbb, hc⟩ := HR.out.2 (by omega)
        obtain ⟨L, H, V, N, hs, h1, h2, h3, c0, c1, c2, c3⟩ := hc k hlt
        have HS := Lib.hid hs
        have d0 := (hb.cell (p := ⟨b, off + k * 4, none⟩) hbb).trans c0
        have d1 := (hb.cell (p := ⟨b, off + k * 4 + 1, none⟩) hbb).trans c1
        have d2 := (hb.cell (p := ⟨b, off + k * 4 + 2, none⟩) hbb).trans c2
        have d3 := (hb.cell (p := ⟨b, off + k * 4 + 3, none⟩) hbb).trans c3
        have hbw : b < wr.heap.size := Nat.lt_of_lt_of_le hbb hb.size
        clear hs hc c0 c1 c2 c3
        obtain ⟨m, hm⟩ : ∃ m, Fb.may L H V N = m := ⟨_, rfl⟩
        have HM := Lib.hid hm
        clear hm
        obtain ⟨s, es⟩ : ∃ s, (l.take k).all mayS = s := ⟨_, rfl⟩
        have ES := Lib.hid es
        rw [es] at ⊢
        clear es
        go_wp2_with fail
        refine (rmay_one _ _ _ _ _ h1 h2 h3).mono ?_; rintro e w1 ⟨rfl, hb1⟩
        rw [HM.out]
        have g0 := (hb1.cell (p := ⟨b, off + k * 4, none⟩) hbw).trans d0
        have g1 := (hb1.cell (p := ⟨b, off + k * 4 + 1, none⟩) hbw).trans d1
        have g2 := (hb1.cell (p := ⟨b, off + k * 4 + 2, none⟩) hbw).trans d2
        have g3 := (hb1.cell (p := ⟨b, off + k * 4 + 3, none⟩) hbw).trans d3
        clear d0 d1 d2 d3
        cases m <;> cases s
        all_goals
          go_wp2_with (go_at_call 12; refine (may_new1 _ _ _ _ _ _ h1 h2 h3 HM.out).mono ?_; rintro e w2 ⟨rfl, hb2⟩)
          go_roundw
          case rel => exact ⟨k + 1, hlt, by go_num, by rw [all_take_succ hlt HS.out, ES.out]; show _ = Value.bool (_ && Fb.may L H V N); rw [HM.out]; rfl, (hb.trans (hb1.mono hb.size)).trans (hb2.mono (Nat.le_trans hb.size hb1.size))⟩
          case measure => simp [intOf]; omega
      · obtain rfl : k = l.length := by omega
        rw [List.take_length] at ⊢
        obtain ⟨s, es⟩ : ∃ s, l.all mayS = s := ⟨_, rfl⟩
        have ES := Lib.hid es
        rw [es] at ⊢
        clear es
        obtain ⟨ln, hln⟩ : ∃ r, Fb.least n = r := ⟨_, rfl⟩
        have HLN := Lib.hid hln
        obtain ⟨mn, hmn⟩ : ∃ r, Fb.most n = r := ⟨_, rfl⟩
        have HMN := Lib.hid hmn
        clear hln hmn
        go_wp2_with fail
        refine (told_any _).mono ?_; rintro e w1 ⟨rfl, hb1⟩
        go_wp2_with fail
        refine (least_is n ln _ hn HLN.out).mono ?_; rintro e w' ⟨rfl, rfl⟩
        go_wp2_with fail
        refine (rleast_is n ln _ hn HLN.out).mono ?_; rintro e w' ⟨rfl, rfl⟩
        go_wp2_with fail
        refine (most_is n mn _ HMN.out).mono ?_; rintro e w' ⟨rfl, rfl⟩
        go_wp2_with fail
        refine (rmost_is n mn _ HMN.out).mono ?_; rintro e w' ⟨rfl, rfl⟩
        go_wp2_with fail
        refine (may_is a _ cap l w1 rfl ((HR.out.below hb).below hb1) ES.out).mono ?_; rintro e w2 ⟨rfl, hb2⟩
        cases s
        all_goals
          go_wp2_with fail
          go_ret
          exact ⟨rfl, (hb.trans (hb1.mono hb.size)).trans (hb2.mono (Nat.le_trans hb.size hb1.size))⟩

theorem add_none (b off j : Nat) : (⟨b, off, none⟩ : Addr).add j = ⟨b, off + j, none⟩ := by simp [Addr.add]
theorem open_shapes {H : Type} {enc : TypeId × Value → H} {w : World} {base : Nat} {spare : Nat → Bool} {held : Bool} {fuel : Nat} {a : Option Addr} {len cap : Nat} {x : DataW H × List MemPlace}
    (h : DataW.trod enc Try.prog w base spare held fuel 26 [.slice a len cap] = some x) : ∃ l : List Sh, l.length = len ∧ RdS w a l := by
  rcases Go.Deep.open_slice Try.underlying26 h with ⟨hc, _⟩ | ⟨ad, l, c, m, n, D, Pl, hc, hb, hl, hmx, hm, _, hel⟩
  · simp at hc
    obtain ⟨rfl, rfl, rfl⟩ := hc
    exact ⟨[], rfl, RdS.nil w none⟩
  · simp at hc
    obtain ⟨rfl, rfl, rfl⟩ := hc
    have hlm : len ≤ m := by rw [hm]; split <;> omega
    have hC : Try.prog.cellsOf 29 = 4 := by kernel_rfl
    have hC1 : Try.prog.cellsOf 3 = 1 := by kernel_rfl
    have key : ∀ i, i < len → ∃ s : Sh, s.1 ≤ 9223372036854775807 ∧ s.2.1 ≤ 9223372036854775807 ∧ s.2.2.1 ≤ 9223372036854775807 ∧ w.cell? (ad.add (i * 4)) = some (.int .i64 s.1) ∧ w.cell? (ad.add (i * 4 + 1)) = some (.int .i64 s.2.1) ∧ w.cell? (ad.add (i * 4 + 2)) = some (.int .i64 s.2.2.1) ∧ w.cell? (ad.add (i * 4 + 3)) = some (.int .i64 s.2.2.2) := by
      intro i hi
      obtain ⟨cs', hcs, ht'⟩ := hel i (by omega)
      obtain ⟨ys, n', _, _, hlen, hyl, hf⟩ := DataW.trod_struct Try.underlying29 ht'
      obtain ⟨_, hcl, hat⟩ := World.cells?_some hcs
      rw [hC] at hcl hat
      match cs', hcl with
      | [v0, v1, v2, v3], _ =>
        have e0 : DataW.trod enc Try.prog w base spare held n' 3 (([v0, v1, v2, v3].drop 0).take (Try.prog.cellsOf 3)) = ys[0]? := hf 0 _ rfl
        have e1 : DataW.trod enc Try.prog w base spare held n' 3 (([v0, v1, v2, v3].drop 1).take (Try.prog.cellsOf 3)) = ys[1]? := hf 1 _ rfl
        have e2 : DataW.trod enc Try.prog w base spare held n' 3 (([v0, v1, v2, v3].drop 2).take (Try.prog.cellsOf 3)) = ys[2]? := hf 2 _ rfl
        have e3 : DataW.trod enc Try.prog w base spare held n' 3 (([v0, v1, v2, v3].drop 3).take (Try.prog.cellsOf 3)) = ys[3]? := hf 3 _ rfl
        rw [hC1] at e0 e1 e2 e3
        have hy0 : ys[0]? = some (ys[0]'(by rw [hyl]; decide)) := List.getElem?_eq_getElem _
        have hy1 : ys[1]? = some (ys[1]'(by rw [hyl]; decide)) := List.getElem?_eq_getElem _
        have hy2 : ys[2]? = some (ys[2]'(by rw [hyl]; decide)) := List.getElem?_eq_getElem _
        have hy3 : ys[3]? = some (ys[3]'(by rw [hyl]; decide)) := List.getElem?_eq_getElem _
        obtain ⟨z0, hz0, _, wz0⟩ := DataW.trod_int Try.underlying3 (e0.trans hy0)
        obtain ⟨z1, hz1, _, wz1⟩ := DataW.trod_int Try.underlying3 (e1.trans hy1)
        obtain ⟨z2, hz2, _, wz2⟩ := DataW.trod_int Try.underlying3 (e2.trans hy2)
        obtain ⟨z3, hz3, _, wz3⟩ := DataW.trod_int Try.underlying3 (e3.trans hy3)
        simp at hz0 hz1 hz2 hz3
        subst hz0 hz1 hz2 hz3
        have a0 := hat 0 (by decide)
        have a1 := hat 1 (by decide)
        have a2 := hat 2 (by decide)
        have a3 := hat 3 (by decide)
        refine ⟨(z0, z1, z2, z3), (bounds_i64 wz0).2, (bounds_i64 wz1).2, (bounds_i64 wz2).2, ?_, ?_, ?_, ?_⟩
        · simpa [Addr.add, hC] using a0
        · rw [← Go.Deep.add_add, ← hC]; exact a1
        · rw [← Go.Deep.add_add, ← hC]; exact a2
        · rw [← Go.Deep.add_add, ← hC]; exact a3
    obtain ⟨f, hf⟩ : ∃ f : Nat → Sh, ∀ i, i < len → (f i).1 ≤ 9223372036854775807 ∧ (f i).2.1 ≤ 9223372036854775807 ∧ (f i).2.2.1 ≤ 9223372036854775807 ∧ w.cell? (ad.add (i * 4)) = some (.int .i64 (f i).1) ∧ w.cell? (ad.add (i * 4 + 1)) = some (.int .i64 (f i).2.1) ∧ w.cell? (ad.add (i * 4 + 2)) = some (.int .i64 (f i).2.2.1) ∧ w.cell? (ad.add (i * 4 + 3)) = some (.int .i64 (f i).2.2.2) :=
      ⟨fun i => if h : i < len then (key i h).choose else (0, 0, 0, 0), fun i hi => by simp only [dif_pos hi]; exact (key i hi).choose_spec⟩
    clear key
    refine ⟨(List.range len).map f, by simp, by simp; omega, fun hpos => ?_⟩
    rw [List.length_map, List.length_range] at hpos
    obtain ⟨b, off, spot⟩ := ad
    have k0 := (hf 0 hpos).2.2.2.1
    obtain rfl : spot = none := by
      cases spot with
      | none => rfl
      | some s => simp [World.cell?, Addr.add] at k0; split at k0 <;> simp_all
    refine ⟨b, off, rfl, by rw [add_none] at k0; exact block_lt_of_cell k0, fun i hi => ?_⟩
    rw [List.length_map, List.length_range] at hi
    obtain ⟨h1, h2, h3, c0, c1, c2, c3⟩ := hf i hi
    rw [add_none] at c0 c1 c2 c3
    refine ⟨(f i).1, (f i).2.1, (f i).2.2.1, (f i).2.2.2, ?_, h1, h2, h3, c0, ?_, ?_, ?_⟩
    · rw [List.getD_eq_getElem?_getD, List.getElem?_map, List.getElem?_range hi]
      rfl
    · rw [← Nat.add_assoc] at c1; exact c1
    · rw [← Nat.add_assoc] at c2; exact c2
    · rw [← Nat.add_assoc] at c3; exact c3
theorem asks_r (a0 : Int) (a1 : Option Addr) (len1 cap1 : Nat) (W : World) (w0 : (Lit.int .i64 a0).wf = true) (w1 : ∃ l : List Sh, l.length = len1 ∧ RdS W a1 l) :
    Calls Try.prog 4 #[.int .i64 a0, .slice a1 len1 cap1] W fun e w' => e = .returned (.bool true) ∧ Below W.heap.size W w' := by
  obtain ⟨l, rfl, hl⟩ := w1
  exact asks_walk a0 a1 cap1 l W w0 hl
end Go.Proofs.Ytfmginakkenbnaa
