/- What Join of package block does: contracts of the walk. -/
import Derived.Test.YtfbhcbcpeocmcaaDoorBlkD
import Derived.Deep.QuietTactic
import Derived.BigQuiet
import Derived.LaidEqlPtr
namespace Go.Proofs.YtfbhcbcpeocmcaaDoor
open Go Go.RowKit

theorem IsBlk.drewN {w : World} {g : Nat} {l : List Bool} (h : IsBlk w g l) (n : Nat) : IsBlk (w.drewN n) g l := h
theorem infoK : (Tryd.prog.info? 91).map (fun i => i.size) = some 3 := by kernel_rfl
theorem ptrK_same (a : Addr) (w : World) : (binOp .eql 71 (.pointer (some a)) (.pointer (some a))).run Tryd.prog w = .ok (.bool true) w := by
  obtain ⟨j, hj, _⟩ := Option.map_eq_some_iff.1 infoK
  exact run_eql_ptr_same w a Tryd.underlying71 hj
theorem ptrK_other {g g2 : Nat} {l m : List Bool} (w : World) (hne : g2 ≠ g) (h : IsBlk w g l) (h2 : IsBlk w g2 m) : (binOp .eql 71 (.pointer (some ⟨g2, 0, none⟩)) (.pointer (some ⟨g, 0, none⟩))).run Tryd.prog w = .ok (.bool false) w := by
  obtain ⟨j, hj, hs⟩ := Option.map_eq_some_iff.1 infoK
  obtain ⟨_, x, y, hg, _⟩ := h
  obtain ⟨_, x', y', hg', _⟩ := h2
  exact run_eql_ptr_other w Tryd.underlying71 hj (by rw [hs]; decide) (fun e => hne (by injection e)) hg' hg
theorem bjoin_state (v : Option Addr) (w : World) : Calls Tryd.prog 88 #[.pointer none, .pointer v] w fun e w' => e = .returned (.int .i64 6) ∧ w = w' := by
  go_enter Tryd.func88, Tryd.ntmps88
  go_wp2
  go_ret
  exact ⟨rfl, rfl⟩
theorem bjoin_full {l m : List Bool} {g g2 : Nat} (w : World) (h : IsBlk w g l) (h2 : IsBlk w g2 m) (hn : 128 < l.length + m.length) :
    Calls Tryd.prog 88 #[.pointer (some ⟨g, 0, none⟩), .pointer (some ⟨g2, 0, none⟩)] w fun e w' => e = .returned (.int .i64 3) ∧ ∃ n, w' = w.drewN n := by
  have H2 := Lib.hid h2
  have hl1 := h.1
  have hl2 := h2.1
  obtain ⟨_, x, y, hg, hx, hy⟩ := h
  obtain ⟨c0, c1, c2, f0, f1, f2⟩ := cells3 hg
  have hn1 : (128 : Int) < l.length + m.length := by omega
  clear hg hx hy c0 c1 f0 f1 f2 h2
  go_enter Tryd.func88, Tryd.ntmps88
  go_wp2_with fail
  go_quiet ((go_at_call 67; exact Calls.quiet_of_same ((blen_any _ (H2.out.drewN _)).mono fun _ _ ⟨he, hw⟩ => ⟨he, hw.symm⟩)))
  go_wp2_with fail
  go_ret
  exact ⟨rfl, _, rfl⟩
theorem bjoin_nilarg {l : List Bool} {g : Nat} (w : World) (h : IsBlk w g l) :
    Calls Tryd.prog 88 #[.pointer (some ⟨g, 0, none⟩), .pointer none] w fun e w' => e = .returned (.int .i64 1) ∧ ∃ n, w' = w.drewN n := by
  have hl1 := h.1
  obtain ⟨_, x, y, hg, hx, hy⟩ := h
  obtain ⟨c0, c1, c2, f0, f1, f2⟩ := cells3 hg
  clear hg hx hy c0 c1 f0 f1 f2
  go_enter Tryd.func88, Tryd.ntmps88
  go_wp2_with fail
  go_quiet ((go_at_call 67; exact Calls.quiet_of_same ((blen_nil _).mono fun _ _ ⟨he, hw⟩ => ⟨he, hw.symm⟩)))
  go_wp2_with fail
  go_ret
  exact ⟨rfl, _, rfl⟩
theorem bjoin_self {l : List Bool} {g : Nat} (w : World) (h : IsBlk w g l) (hn : l.length + l.length ≤ 128) :
    Calls Tryd.prog 88 #[.pointer (some ⟨g, 0, none⟩), .pointer (some ⟨g, 0, none⟩)] w fun e w' => e = .returned (.int .i64 1) ∧ ∃ n, w' = w.drewN n := by
  have H2 := Lib.hid h
  have hl1 := h.1
  obtain ⟨_, x, y, hg, hx, hy⟩ := h
  obtain ⟨c0, c1, c2, f0, f1, f2⟩ := cells3 hg
  clear hg hx hy c0 c1 f0 f1 f2
  have heq := fun n => ptrK_same ⟨g, 0, none⟩ (w.drewN n)
  go_enter Tryd.func88, Tryd.ntmps88
  go_wp2_with fail
  go_quiet ((go_at_call 67; exact Calls.quiet_of_same ((blen_any _ (H2.out.drewN _)).mono fun _ _ ⟨he, hw⟩ => ⟨he, hw.symm⟩)))
  go_wp2_with fail
  go_ret
  exact ⟨rfl, _, rfl⟩
set_option maxRecDepth 100000 in
set_option maxHeartbeats 1600000 in
theorem bjoin_yes {l m : List Bool} {g g2 : Nat} (w : World) (h : IsBlk w g l) (h2 : IsBlk w g2 m) (hne : g ≠ g2) (hn : l.length + m.length ≤ 128) :
    Calls Tryd.prog 88 #[.pointer (some ⟨g, 0, none⟩), .pointer (some ⟨g2, 0, none⟩)] w fun e w' => e = .returned (.int .i64 0) ∧ IsBlk w' g (l ++ m) ∧ IsBlk w' g2 [] ∧ Stay (fun i => i = g ∨ i = g2) w w' := by
  obtain ⟨i0, hi, hz0, hz1, hz2⟩ := info_parts infoB
  have H1 := Lib.hid h
  have H2 := Lib.hid h2
  have hlt1 := h.lt
  have hlt2 := h2.lt
  have hl1 := h.1
  have hl2 := h2.1
  have hg12 : ¬ g2 = g := fun e => hne e.symm
  obtain ⟨_, x, y, hg, hx, hy⟩ := h
  obtain ⟨c0, c1, c2, f0, f1, f2⟩ := cells3 hg
  have HG := Lib.hid hg
  obtain ⟨_, x', y', hg', hx', hy'⟩ := h2
  have HG' := Lib.hid hg'
  clear hg hx hy c0 c1 f0 f1 f2 hg' hx' hy'
  have heq := fun n => ptrK_other (w.drewN n) hg12 (H1.out.drewN n) (H2.out.drewN n)
  go_enter Tryd.func88, Tryd.ntmps88
  go_wp2_with fail
  go_quiet ((go_at_call 67; exact Calls.quiet_of_same ((blen_any _ (H2.out.drewN _)).mono fun _ _ ⟨he, hw⟩ => ⟨he, hw.symm⟩)))
  go_wp2_with fail
  have hb0 : Below w.heap.size w (w.drewN nq) := (Below.refl _ _).drewN _
  have h10 := H1.out.drewN nq
  have h20 := H2.out.drewN nq
  have hlt1' : g < (w.drewN nq).heap.size := hlt1
  have hlt2' : g2 < (w.drewN nq).heap.size := hlt2
  have hsz0 := hb0.size
  clear heq
  generalize w.drewN nq = w0 at *
  refine (ball_any _ h10).mono ?_
  rintro e w1 ⟨v1, rfl, hown1, hnil1, hb1⟩
  have h11 := h10.below hb1 hlt1'
  have h21 := h20.below hb1 hlt2'
  have hsz1 := hb1.size
  go_wp2_with fail
  refine (ball_any _ h21).mono ?_
  rintro e w2 ⟨v2, rfl, hown2, hnil2, hb2⟩
  have h12 := Lib.hid (h11.below hb2 (Nat.lt_of_lt_of_le hlt1' hsz1))
  have h22 := Lib.hid (h21.below hb2 (Nat.lt_of_lt_of_le hlt2' hsz1))
  have hsz2 := hb2.size
  have hown12 := ownsRow_below hown1 hb2
  have hB2 : Below w.heap.size w w2 := hb0.trans ((hb1.mono hsz0).trans (hb2.mono (by omega)))
  have HB2 := Lib.hid hB2
  have HM := Lib.hid (show (l ++ m).length ≤ 128 by rw [List.length_append]; exact hn)
  clear hnil1 hb1 hb0 h10 h20 h11 h21 hB2 hown1 hb2
  by_cases hm0 : m = []
  · subst hm0
    obtain rfl := hnil2 rfl
    have HOWN := Lib.hid hown12
    clear hown12 hown2 hnil2
    go_wp2_with (first
      | (at_builtin; (refine wpList_append_own_none rfl (.tmp 29) (.tmp 31) 24 rfl w0.heap.size 4 i0 1 Tryd.underlying24 hi _ _ _ rfl HOWN.out rfl ?_)))
    have HRD := Lib.hid (show RdB w2 v1 (l ++ []) by rw [List.append_nil]; exact OwnB.rd HOWN.out)
    have HB3 := HB2
    refine (bnew_rd _ HRD.out HM.out).mono ?_
    rintro e w4 ⟨ga, rfl, hga, hba, hb4⟩
    have hga' := hba.lt
    have hsz4 := hb4.size
    have hB4 : Below w.heap.size w w4 := HB3.out.trans (hb4.mono (by omega))
    have HB4 := Lib.hid hB4
    obtain ⟨_, xa, ya, hA, hxa, hya⟩ := hba
    obtain ⟨d0, d1, d2', e0, e1, e2⟩ := cells3 hA
    have hgw := Below.keptB hB4 HG.out hlt1
    have hgw' := Below.keptB hB4 HG'.out hlt2
    obtain ⟨p0, p1, p2, q0, q1, q2⟩ := cells3 hgw
    obtain ⟨p0', p1', p2', q0', q1', q2'⟩ := cells3 hgw'
    have HGW := Lib.hid hgw
    have HGW' := Lib.hid hgw'
    have HXA := Lib.hid (And.intro hxa hya)
    clear hA hgw hgw' hxa hya hb4 hB4
    go_wp2_with fail
    go_ret
    have hst : Stay (fun i => i = g ∨ i = g2) w w4 := Stay.of_below HB4.out
    have e1 := set3_copy (x' := xa) (y' := ya) (z := (l.length : Int)) (m := (l ++ []).length) (by rw [List.append_nil]) HGW.out
    have e2 := Stay.kept ((Stay.refl (· = g) w4).copy rfl (.int .u64 xa) (.int .u64 ya) (.int .i64 ((l.length : Int)))) HGW'.out hg12
    refine ⟨rfl, ⟨HM.out, xa, ya, ?_, HXA.out.1, HXA.out.2⟩, ⟨by decide, 0, 0, ?_, Blk.Has.zero.congr fun i _ => by simp [Blk.at_], Blk.Has.zero.congr fun i _ => by simp [Blk.at_]⟩, ?_⟩
    · exact Stay.kept ((Stay.refl (· = g2) _).copy rfl _ _ _) e1 hne
    · exact set3_copy (x' := 0) (y' := 0) rfl e2
    · exact (hst.copy (.inl rfl) _ _ _).copy (.inr rfl) _ _ _
  · have hmpos : 0 < m.length := List.length_pos_iff.2 hm0
    clear hnil2 hm0
    obtain ⟨cap2, b2, rfl, hc2, hcell2⟩ : ∃ cap2 b2, v2 = .slice (some ⟨b2, 0, none⟩) m.length cap2 ∧ cap2 ≤ maxLen ∧ ∀ j u, (m.map Value.bool)[j]? = some u → w2.cell? ((⟨b2, 0, none⟩ : Addr).add j) = some u := by
      have hc := fun gg hgg => World.ownsRow.cells hown2 (g := gg) hgg
      rcases hown2.2 with ⟨_, h0⟩ | ⟨gg, cap, cur, hv, hb, hg, hnn, hmm, hs, ht⟩
      · omega
      · exact ⟨cap, gg, hv, hmm, hc gg (by rw [hv]; rfl)⟩
    have HC2 := Lib.hid hcell2
    have HOWN := Lib.hid hown12
    clear hcell2 hown12 hown2
    have hbase : w0.heap.size ≤ w2.heap.size := by omega
    go_wp2_with (first
      | (at_builtin; (refine wpList_append_own _ rfl (.tmp 29) (.tmp 31) 24 rfl w0.heap.size 4 i0 (.bool false) 1 1 Tryd.underlying24 hi hz0 hz1 hz2 rfl (by decide) _ _ _ rfl HOWN.out ⟨b2, 0, none⟩ m.length cap2 (m.map Value.bool) rfl (by rw [List.length_map]; omega) HC2.out (bools_one _) (by unfold maxLen; omega) (by omega) hbase ?_); intro v3 w3 hown3 hgrow3 hnil3))
    have hB3 : Below w.heap.size w w3 := HB2.out.grown hgrow3 (by omega) (fun q hq => by have := (HOWN.out.lt q hq).1; omega)
    have HRD := Lib.hid (OwnB.app hown3).rd
    have HB3 := Lib.hid hB3
    have hsz3 := hB3.size
    clear hown3 hgrow3 hnil3 hB3
    refine (bnew_rd _ HRD.out HM.out).mono ?_
    rintro e w4 ⟨ga, rfl, hga, hba, hb4⟩
    have hga' := hba.lt
    have hsz4 := hb4.size
    have hB4 : Below w.heap.size w w4 := HB3.out.trans (hb4.mono (by omega))
    have HB4 := Lib.hid hB4
    obtain ⟨_, xa, ya, hA, hxa, hya⟩ := hba
    obtain ⟨d0, d1, d2', e0, e1, e2⟩ := cells3 hA
    have hgw := Below.keptB hB4 HG.out hlt1
    have hgw' := Below.keptB hB4 HG'.out hlt2
    obtain ⟨p0, p1, p2, q0, q1, q2⟩ := cells3 hgw
    obtain ⟨p0', p1', p2', q0', q1', q2'⟩ := cells3 hgw'
    have HGW := Lib.hid hgw
    have HGW' := Lib.hid hgw'
    have HXA := Lib.hid (And.intro hxa hya)
    clear hA hgw hgw' hxa hya hb4 hB4
    go_wp2_with fail
    go_ret
    have hst : Stay (fun i => i = g ∨ i = g2) w w4 := Stay.of_below HB4.out
    have e1 := set3_copy (x' := xa) (y' := ya) (z := (l.length : Int) + m.length) (m := (l ++ m).length) (by rw [List.length_append]; omega) HGW.out
    have e2 := Stay.kept ((Stay.refl (· = g) w4).copy rfl (.int .u64 xa) (.int .u64 ya) (.int .i64 ((l.length : Int) + m.length))) HGW'.out hg12
    refine ⟨rfl, ⟨HM.out, xa, ya, ?_, HXA.out.1, HXA.out.2⟩, ⟨by decide, 0, 0, ?_, Blk.Has.zero.congr fun i _ => by simp [Blk.at_], Blk.Has.zero.congr fun i _ => by simp [Blk.at_]⟩, ?_⟩
    · exact Stay.kept ((Stay.refl (· = g2) _).copy rfl _ _ _) e1 hne
    · exact set3_copy (x' := 0) (y' := 0) rfl e2
    · exact (hst.copy (.inl rfl) _ _ _).copy (.inr rfl) _ _ _
end Go.Proofs.YtfbhcbcpeocmcaaDoor
