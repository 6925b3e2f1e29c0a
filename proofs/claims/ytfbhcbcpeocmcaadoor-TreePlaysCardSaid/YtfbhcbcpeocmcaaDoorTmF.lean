/- put: contracts of the walk. -/
import Derived.Test.YtfbhcbcpeocmcaaDoorTmE
namespace Go.Proofs.YtfbhcbcpeocmcaaDoor
open Go Go.RowKit Go.ChangeAt Tr

set_option maxRecDepth 100000 in
set_option maxHeartbeats 1600000 in
theorem tput_new {base t g nb c : Nat} {S : St} {a : Option Addr} {d : Nd} (w : World) (h : TMx base w t S (some g) a c) (hF : S.F = []) (hl : S.T.length < 268435456) (hd : Lone base w S nb d) :
    Calls Tryd.prog 54 #[.pointer (some ⟨t, 0, none⟩), .pointer (some ⟨nb, 0, none⟩)] w fun e w' => ∃ S', e = .returned (.int .i64 S.T.length) ∧ Putted base w w' t nb d S S' S.T.length := by
  obtain ⟨i0, hi, hz0, hz1, hz2⟩ := info_parts infoP
  obtain ⟨g', eg, har⟩ : ∃ g', some g = some g' ∧ ArM base 84 (fun b => S.own b = some .ar) w g' 268435456 S.T S.F := by
    rcases h.ar with h | h
    · exact absurd h.1 (fun h => by cases h)
    · exact h
  injection eg with eg
  subst eg
  have hs := h.sar
  have har0 := har
  rw [hF] at har hs
  have key := atake_new w har hs hl
  have H := Lib.hid h
  have HD := Lib.hid hd
  have HF := Lib.hid hF
  have C := cellsT h.cells
  have c0 : w.cell? ⟨t, 0, none⟩ = some (.pointer (some ⟨g, 0, none⟩)) := C.c0
  have hbase : base ≤ w.heap.size := by have := h.lab _ _ h.ownt; omega
  have hHC := Lib.hid h.cells
  have hHR := Lib.hid h.row
  have hHL := Lib.hid h.rowl
  have hHT := Lib.hid h.ownt
  clear hs har h hd C hF har0
  go_enter Tryd.func54, Tryd.ntmps54
  go_wp2_with fail
  (with_reducible refine key.mono ?_)
  rintro e w1 ⟨rfl, A', har1, hst1, hA1⟩
  clear c0 key
  have hz := hst1.size
  have hk1 := hst1.kept hHC.out (fun e => by rw [hHT.out] at e; cases e)
  have hrow1 := ownsRow_stay hHR.out hst1 (fun k hk e => by rw [hHL.out k hk] at e; cases e)
  obtain ⟨d0, d1, _, _, _, _, _, dz⟩ := cellsT hk1
  have f1 := dz 1
  have HK1 := Lib.hid hk1
  have HR1 := Lib.hid hrow1
  have HS1 := Lib.hid hst1
  have HAR1 := Lib.hid har1
  have HA1 := Lib.hid hA1
  have hw1 : t < w1.heap.size := block_lt_of_cell d0
  have HNT := Lib.hid (show ¬ (Value.slice a S.T.length c).ownBlock = some t from fun e => by have := hHL.out _ e; rw [hHT.out] at this; cases this)
  have HBT : Hid (∀ b1, (Value.slice a S.T.length c).ownBlock = some b1 ∨ some b1 = some (w1.alloc (.cells #[.pointer none] 63)).heap.size → ¬ b1 = t) := Lib.hid (fun b1 h e => by
    subst e
    rcases h with h | h
    · exact HNT.out h
    · injection h with h; simp at h; omega)
  clear hk1 hrow1 hst1 har1 hA1 dz
  have hlw : (S.T.length : Int) < 268435456 := by omega
  go_wp2_with (first
    | (at_builtin; (refine wpList_append_own_at _ rfl (.tmp 35) (.tmp 36) 55 rfl base 63 i0 (.pointer none) 1 8 Tryd.underlying55 hi hz0 hz1 hz2 rfl (by decide) _ _ _ rfl (World.ownsRow.alloc HR1.out _) ⟨w1.heap.size, 0, none⟩ 1 1 [.pointer none] rfl rfl (cell_one_new _ _ _) (fun u hu => by simp at hu; subst hu; rfl) (by unfold maxLen; omega) (by omega) (by simp; omega) ?_); intro v1 w2 hown1 hgrow1 hnil1 hat1;
       (obtain ⟨a1, k1, rfl, hk1, hk2⟩ := own_form hown1);
       (have hst2 : Stay (fun i => (Value.slice a S.T.length c).ownBlock = some i) w1 w2 := Stay.trans ((Stay.refl _ _).alloc _) (grown_stay hgrow1) (fun i hi e => e));
       (have hc2 := hst2.kept HK1.out HNT.out);
       (obtain ⟨b1, rfl, hb2⟩ := ownP_open hown1 (Nat.succ_pos _));
       (have hbt := HBT.out b1 (hat1.imp (fun e => e.symm) (fun e => e)));
       (have e8 := (hb2.2.2.1 S.T.length (Nat.lt_succ_self _)).trans (ptrs_last _ _ _));
       (have f8 := hb2.2.2.2 S.T.length);
       (obtain ⟨d0', d1', _, _, _, _, _, dz'⟩ := cellsT hc2);
       (have f1' := dz' 1);
       (have HC2 := Lib.hid hc2); (have HO1 := Lib.hid hown1); (have HS2 := Lib.hid hst2); (have HAT := Lib.hid hat1); (have HW2 := Lib.hid hb2); (have hkk := room_int hk1 hk2);
       clear hb2 dz' hc2 hown1 hst2 hgrow1 hnil1 hat1 hk1 hk2))
  go_ret
  obtain ⟨S', hS'⟩ := put_end_new H.out HF.out hl HD.out HS1.out HAR1.out HA1.out HS2.out HC2.out HO1.out (HAT.out.imp (fun e => e.symm) (fun e => by have e' := Option.some.inj e; simp at e'; omega)) hbt
  exact ⟨S', rfl, hS'⟩
set_option maxRecDepth 100000 in
set_option maxHeartbeats 1600000 in
theorem tput_old {base t g nb c k : Nat} {S : St} {a : Option Addr} {d : Nd} {G : List Int} (w : World) (h : TMx base w t S (some g) a c) (hF : S.F = G ++ [(k : Int)]) (hd : Lone base w S nb d) :
    Calls Tryd.prog 54 #[.pointer (some ⟨t, 0, none⟩), .pointer (some ⟨nb, 0, none⟩)] w fun e w' => ∃ S', e = .returned (.int .i64 k) ∧ Putted base w w' t nb d S S' k := by
  obtain ⟨g', eg, har⟩ : ∃ g', some g = some g' ∧ ArM base 84 (fun b => S.own b = some .ar) w g' 268435456 S.T S.F := by
    rcases h.ar with h | h
    · exact absurd h.1 (fun h => by cases h)
    · exact h
  injection eg with eg
  subst eg
  have hs := h.sar
  rw [hF] at har hs
  obtain ⟨q0, q1, q2, q3⟩ := hs.old
  have hkT : k < S.T.length := by omega
  have htm := hs.tm
  have key := atake_old w har hs
  rw [Int.toNat_natCast] at key
  have H := Lib.hid h
  have HD := Lib.hid hd
  have HF := Lib.hid hF
  have C := cellsT h.cells
  have c0 : w.cell? ⟨t, 0, none⟩ = some (.pointer (some ⟨g, 0, none⟩)) := C.c0
  obtain ⟨b0, rfl, hlc, hcm, hcell, hfz, hown⟩ := h.list hkT
  have hk0 : S.sto k = none := (h.dom _).2 (by have := q2; rw [Int.toNat_natCast] at this; exact this)
  rw [hk0] at hcell
  have hcell' : w.cell? ⟨b0, k, none⟩ = some (.pointer none) := hcell
  have f0 := hfz k
  have hHC := Lib.hid h.cells
  have hHT := Lib.hid h.ownt
  have hk1 : (k : Int) < S.T.length := by omega
  have hk2 : ¬ (k : Int) = S.T.length := by omega
  have hkk := room_int hlc hcm
  clear hs har h hd C hF hcell hfz q0 q1 q2 q3 hk0
  go_enter Tryd.func54, Tryd.ntmps54
  go_wp2_with fail
  (with_reducible refine key.mono ?_)
  rintro e w1 ⟨rfl, A', har1, hst1, hA1⟩
  clear c0 key
  have hk1' := hst1.kept hHC.out (fun e => by rw [hHT.out] at e; cases e)
  obtain ⟨d0, d1, _, _, _, _, _, dz⟩ := cellsT hk1'
  have hbw := block_lt_of_cell hcell'
  have c8 := (hst1.cell (p := ⟨b0, k, none⟩) hbw (fun e => by rw [hown] at e; cases e)).trans hcell'
  have f8 : w1.frozen? ⟨b0, k, none⟩ = false := by
    have e := hst1.block b0 hbw (fun e => by rw [hown] at e; cases e)
    have e2 : w1.frozen? ⟨b0, k, none⟩ = w.frozen? ⟨b0, k, none⟩ := by unfold World.frozen?; rw [e]
    exact e2.trans f0
  have HS1 := Lib.hid hst1
  have HAR1 := Lib.hid har1
  have HA1 := Lib.hid hA1
  clear hk1' hst1 har1 hA1 dz hcell' f0
  go_wp2_with fail
  go_ret
  obtain ⟨S', hS'⟩ := put_end_old H.out HF.out HD.out HS1.out HAR1.out HA1.out
  exact ⟨S', rfl, hS'⟩
set_option maxRecDepth 100000 in
set_option maxHeartbeats 1600000 in
theorem tput_first {base t nb c : Nat} {S0 : St} {a : Option Addr} {d : Nd} (w0 : World) (h00 : TMx base w0 t S0 none a c) (hd0 : Lone base w0 S0 nb d) :
    Calls Tryd.prog 54 #[.pointer (some ⟨t, 0, none⟩), .pointer (some ⟨nb, 0, none⟩)] w0 fun e w' => ∃ (k : Nat) (S' : St), e = .returned (.int .i64 k) ∧ Putted base w0 w' t nb d S0 S' k := by
  have h0T : S0.T = [] ∧ S0.F = [] := by
    rcases h00.ar with h | ⟨g, e, _⟩
    · exact h.2
    · cases e
  obtain ⟨hT0, hF0⟩ := h0T
  have C0 := cellsT h00.cells
  have c00 : w0.cell? ⟨t, 0, none⟩ = some (.pointer none) := C0.c0
  have f00 := C0.fz 0
  have hlt0 := (h00.lab _ _ h00.ownt).2
  have key0 := anew_ok 268435456 w0 (Nat.le_refl _)
  have H00 := Lib.hid h00
  have HD0 := Lib.hid hd0
  clear h00 hd0 C0
  go_enter Tryd.func54, Tryd.ntmps54
  go_wp2_with fail
  refine key0.mono ?_
  rintro e wa ⟨rfl, hara, hba⟩
  have ca : wa.cell? ⟨t, 0, none⟩ = some (.pointer none) := (hba.cell (p := ⟨t, 0, none⟩) hlt0).trans c00
  have fa : wa.frozen? ⟨t, 0, none⟩ = false := by
    have e := hba.block t hlt0
    have e2 : wa.frozen? ⟨t, 0, none⟩ = w0.frozen? ⟨t, 0, none⟩ := by unfold World.frozen?; rw [e]
    exact e2.trans f00
  obtain ⟨own1, hx1, hV1⟩ := H00.out.first hba hara
  have hd1 := HD0.out.mv hV1
  clear c00 f00 key0 hara hba
  go_wp2_with fail
  generalize wa.setCell ⟨t, 0, none⟩ (.pointer (some ⟨w0.heap.size, 0, none⟩)) = w at *
  obtain ⟨g, hg⟩ : ∃ g, w0.heap.size = g := ⟨_, rfl⟩
  rw [hg] at hx1
  rw [hg]
  obtain ⟨S, hS⟩ : ∃ S, ({ S0 with own := own1 } : St) = S := ⟨_, rfl⟩
  have hS1 : S.sto = S0.sto := by rw [← hS]
  have hS2 : S.T = S0.T := by rw [← hS]
  have hS3 : S.F = S0.F := by rw [← hS]
  have hS4 : S.rt = S0.rt := by rw [← hS]
  have hS5 : S.vis = S0.vis := by rw [← hS]
  rw [hS] at hx1 hV1 hd1
  have h : TMx base w t S (some g) a c := hx1
  have hd : Lone base w S nb d := hd1
  have hF : S.F = [] := hS3.trans hF0
  have hl : S.T.length < 268435456 := by rw [hS2, hT0]; decide
  have HEQ := Lib.hid (And.intro hV1 (And.intro hS1 (And.intro hS2 (And.intro hS3 (And.intro hS4 hS5)))))
  clear hx1 hV1 hd1 hS1 hS2 hS3 hS4 hS5 hT0 hF0 hg hS fa ca hlt0
  obtain ⟨i0, hi, hz0, hz1, hz2⟩ := info_parts infoP
  obtain ⟨g', eg, har⟩ : ∃ g', some g = some g' ∧ ArM base 84 (fun b => S.own b = some .ar) w g' 268435456 S.T S.F := by
    rcases h.ar with h | h
    · exact absurd h.1 (fun h => by cases h)
    · exact h
  injection eg with eg
  subst eg
  have hs := h.sar
  have har0 := har
  rw [hF] at har hs
  have key := atake_new w har hs hl
  have H := Lib.hid h
  have HD := Lib.hid hd
  have HF := Lib.hid hF
  have C := cellsT h.cells
  have c0 : w.cell? ⟨t, 0, none⟩ = some (.pointer (some ⟨g, 0, none⟩)) := C.c0
  have hbase : base ≤ w.heap.size := by have := h.lab _ _ h.ownt; omega
  have hHC := Lib.hid h.cells
  have hHR := Lib.hid h.row
  have hHL := Lib.hid h.rowl
  have hHT := Lib.hid h.ownt
  clear hs har h hd C hF har0
  go_wp2_with fail
  (with_reducible refine key.mono ?_)
  rintro e w1 ⟨rfl, A', har1, hst1, hA1⟩
  clear c0 key
  have hz := hst1.size
  have hk1 := hst1.kept hHC.out (fun e => by rw [hHT.out] at e; cases e)
  have hrow1 := ownsRow_stay hHR.out hst1 (fun k hk e => by rw [hHL.out k hk] at e; cases e)
  obtain ⟨d0, d1, _, _, _, _, _, dz⟩ := cellsT hk1
  have f1 := dz 1
  have HK1 := Lib.hid hk1
  have HR1 := Lib.hid hrow1
  have HS1 := Lib.hid hst1
  have HAR1 := Lib.hid har1
  have HA1 := Lib.hid hA1
  have hw1 : t < w1.heap.size := block_lt_of_cell d0
  have HNT := Lib.hid (show ¬ (Value.slice a S.T.length c).ownBlock = some t from fun e => by have := hHL.out _ e; rw [hHT.out] at this; cases this)
  have HBT : Hid (∀ b1, (Value.slice a S.T.length c).ownBlock = some b1 ∨ some b1 = some (w1.alloc (.cells #[.pointer none] 63)).heap.size → ¬ b1 = t) := Lib.hid (fun b1 h e => by
    subst e
    rcases h with h | h
    · exact HNT.out h
    · injection h with h; simp at h; omega)
  clear hk1 hrow1 hst1 har1 hA1 dz
  have hlw : (S.T.length : Int) < 268435456 := by omega
  go_wp2_with (first
    | (at_builtin; (refine wpList_append_own_at _ rfl (.tmp 35) (.tmp 36) 55 rfl base 63 i0 (.pointer none) 1 8 Tryd.underlying55 hi hz0 hz1 hz2 rfl (by decide) _ _ _ rfl (World.ownsRow.alloc HR1.out _) ⟨w1.heap.size, 0, none⟩ 1 1 [.pointer none] rfl rfl (cell_one_new _ _ _) (fun u hu => by simp at hu; subst hu; rfl) (by unfold maxLen; omega) (by omega) (by simp; omega) ?_); intro v1 w2 hown1 hgrow1 hnil1 hat1;
       (obtain ⟨a1, k1, rfl, hk1, hk2⟩ := own_form hown1);
       (have hst2 : Stay (fun i => (Value.slice a S.T.length c).ownBlock = some i) w1 w2 := Stay.trans ((Stay.refl _ _).alloc _) (grown_stay hgrow1) (fun i hi e => e));
       (have hc2 := hst2.kept HK1.out HNT.out);
       (obtain ⟨b1, rfl, hb2⟩ := ownP_open hown1 (Nat.succ_pos _));
       (have hbt := HBT.out b1 (hat1.imp (fun e => e.symm) (fun e => e)));
       (have e8 := (hb2.2.2.1 S.T.length (Nat.lt_succ_self _)).trans (ptrs_last _ _ _));
       (have f8 := hb2.2.2.2 S.T.length);
       (obtain ⟨d0', d1', _, _, _, _, _, dz'⟩ := cellsT hc2);
       (have f1' := dz' 1);
       (have HC2 := Lib.hid hc2); (have HO1 := Lib.hid hown1); (have HS2 := Lib.hid hst2); (have HAT := Lib.hid hat1); (have HW2 := Lib.hid hb2); (have hkk := room_int hk1 hk2);
       clear hb2 dz' hc2 hown1 hst2 hgrow1 hnil1 hat1 hk1 hk2))
  go_ret
  obtain ⟨S', hS'⟩ := put_end_new H.out HF.out hl HD.out HS1.out HAR1.out HA1.out HS2.out HC2.out HO1.out (HAT.out.imp (fun e => e.symm) (fun e => by have e' := Option.some.inj e; simp at e'; omega)) hbt
  exact ⟨_, S', rfl, hS'.mv HEQ.out.1 HEQ.out.2.1 HEQ.out.2.2.1 HEQ.out.2.2.2.1 HEQ.out.2.2.2.2.1 HEQ.out.2.2.2.2.2⟩
theorem tput {base t nb : Nat} {S : St} {d : Nd} (w : World) (h : TM base w t S) (hl : S.live < 268435456) (hd : Lone base w S nb d) :
    Calls Tryd.prog 54 #[.pointer (some ⟨t, 0, none⟩), .pointer (some ⟨nb, 0, none⟩)] w fun e w' => ∃ (k : Nat) (S' : St), e = .returned (.int .i64 k) ∧ Putted base w w' t nb d S S' k := by
  obtain ⟨g, a, c, hx⟩ := h
  cases g with
  | none => exact tput_first w hx hd
  | some g =>
    by_cases hF : S.F = []
    · have hl' : S.T.length < 268435456 := by unfold St.live at hl; rw [hF] at hl; exact hl
      exact (tput_new w hx hF hl' hd).mono fun _ _ ⟨S', h1, h2⟩ => ⟨_, S', h1, h2⟩
    · obtain ⟨G, j, hj⟩ := Ar.snoc_of hF
      have hs := hx.sar
      rw [hj] at hs
      obtain ⟨q0, _⟩ := hs.old
      obtain ⟨k, rfl⟩ := Int.eq_ofNat_of_zero_le q0
      exact (tput_old w hx hj hd).mono fun _ _ ⟨S', h1, h2⟩ => ⟨_, S', h1, h2⟩
end Go.Proofs.YtfbhcbcpeocmcaaDoor
