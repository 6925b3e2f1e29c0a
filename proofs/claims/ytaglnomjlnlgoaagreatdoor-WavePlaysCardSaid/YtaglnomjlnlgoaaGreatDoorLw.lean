/- Stage 7's helpers: Syms, high, Fine: contracts of the walk. -/
import Derived.Test.YtaglnomjlnlgoaaGreatDoorWo
import Derived.Test.YtaglnomjlnlgoaaGreatDoorLsS
import Derived.Test.YtaglnomjlnlgoaaGreatDoorSyL
namespace Go.Proofs.YtaglnomjlnlgoaaGreatDoor
open Go Go.RowKit Go.ChangeAt

theorem mod_any (k : Int) (m : Nat) (h0 : 0 < m) (h1 : m ≤ 1000000) : ∃ n : Nat, n < m ∧ RowKit.wrap64 ((IntKind.u64.wrap k).tmod m) = (n : Int) := by
  rw [IntKind.wrap_u64]
  have h2 : 0 ≤ k % 18446744073709551616 := Int.emod_nonneg _ (by decide)
  rw [Int.tmod_eq_emod_of_nonneg h2]
  generalize k % 18446744073709551616 = x at h2 ⊢
  have h3 : 0 ≤ x % (m : Int) := Int.emod_nonneg _ (by omega)
  have h4 : x % (m : Int) < m := Int.emod_lt_of_pos _ (by omega)
  refine ⟨(x % m).toNat, by omega, ?_⟩
  unfold RowKit.wrap64
  omega
/-- A slice of integers that came in or was made: each element is read. -/
def RdZ (w : World) (a : Option Addr) (n : Nat) : Prop := n ≤ maxLen ∧ (0 < n → ∃ b off, a = some ⟨b, off, none⟩ ∧ b < w.heap.size ∧ ∀ i, i < n → ∃ z : Int, w.cell? ⟨b, off + i, none⟩ = some (.int .i64 z))
theorem RdZ.of_row {w : World} {a : Option Addr} {len cap : Nat} {zs : List Int} (h : IsRow .i64 w a len cap zs) : RdZ w a len := by
  rcases h with ⟨rfl, rfl, rfl, rfl⟩ | ⟨x, rfl, hlc, hm, hz, hcell, hwf⟩
  · exact ⟨Nat.zero_le _, fun h => absurd h (by decide)⟩
  · refine ⟨by omega, fun hp => ?_⟩
    obtain ⟨b, off, rfl, hc⟩ := ints_at hcell (by omega)
    exact ⟨b, off, rfl, block_lt_of_cell (hc 0 (by omega)), fun i hi => ⟨_, hc i (by omega)⟩⟩
set_option maxHeartbeats 1600000 in
theorem syms7 (a : Option Addr) (n cap : Nat) (most : Int) (few : Bool) (w : World) (h : RdZ w a n) (hm : 0 ≤ most ∧ most ≤ 1000000) :
    Calls Tryz.prog 4 #[.slice a n cap, .int .i64 most, .bool few] w fun e w' => ∃ v m, e = .returned v ∧ OwnI w.heap.size w' v m ∧ Wv.Good m ∧ (m.length : Int) = min (n : Int) most ∧ Below w.heap.size w w' := by
  obtain ⟨i0, hi, hz0, hz1, hz2⟩ := info_parts infoI
  have hn := h.1
  unfold maxLen at hn
  have HR := Lib.hid h.2
  clear h
  go_enter Tryz.func4, Tryz.ntmps4
  go_wp2_with fail
  go_loopw [7, 8] (fun v i wr => ∃ (k : Nat) (m : List Int), k ≤ n ∧ (k : Int) ≤ most ∧ i = .int .i64 k ∧ m.length = k ∧ Wv.Good m ∧ OwnI w.heap.size wr v m ∧ Below w.heap.size w wr) (fun _ i _ => n - (intOf i).toNat)
  case atStart => exact ⟨0, [], Nat.zero_le _, by omega, rfl, rfl, Wv.Good.nil, World.ownsRow_nil _ _ _ _, Below.refl _ _⟩
  case round =>
    obtain ⟨k, m, hk, hkm, rfl, hml, hg, hown, hb⟩ := hrel
    by_cases hlt : k < n
    · have h1 : (k : Int) < n := by omega
      by_cases hlt2 : (k : Int) < most
      · obtain ⟨b, off, rfl, hbb, hc⟩ := HR.out (by omega)
        obtain ⟨z, hz⟩ := hc k hlt
        have hc1 := (hb.cell (p := ⟨b, off + k, none⟩) hbb).trans hz
        obtain ⟨x, hx, en1⟩ := mod_any z 257 (by decide) (by decide)
        change RowKit.wrap64 ((IntKind.u64.wrap z).tmod 257) = _ at en1
        obtain ⟨y, hy, en2⟩ := mod_any z 4 (by decide) (by decide)
        change RowKit.wrap64 ((IntKind.u64.wrap z).tmod 4) = _ at en2
        have hown' := hown
        unfold OwnI at hown'
        rw [hml] at hown'
        have hbs := hb.size
        have HML := Lib.hid hml
        have HG := Lib.hid hg
        clear hc hz hml hg
        cases few
        · go_wp2_with (first
            | (at_builtin; (refine wpList_append_own _ rfl (.tmp 32) (.tmp 40) 22 rfl w.heap.size 3 i0 (.int .i64 0) 1 8 Tryz.underlying22 hi hz0 hz1 hz2 rfl (by decide) _ _ _ rfl (World.ownsRow.alloc hown' _) ⟨wr.heap.size, 0, none⟩ 1 1 [.int .i64 x] rfl rfl (cell_one_new _ _ _) (fun u hu => by simp at hu; subst hu; rfl) (by unfold maxLen; omega) (by omega) (by simp; omega) ?_); intro v3 w3 hown3 hgrow3 hnil3))
          have hb3 : Below w.heap.size w w3 := (hb.alloc hbs _).grown hgrow3 (by simp; omega) (fun q hq => (hown.lt q hq).1)
          go_wp2_with fail
          go_roundw
          case rel => exact ⟨k + 1, m ++ [(x : Int)], by omega, by omega, by go_num, by rw [List.length_append, HML.out]; rfl, HG.out.app (Wv.Good.one (by omega)), OwnI.push HML.out hown3, hb3⟩
          case measure => simp [intOf]; omega
        · go_wp2_with (first
            | (at_builtin; (refine wpList_append_own _ rfl (.tmp 21) (.tmp 30) 22 rfl w.heap.size 3 i0 (.int .i64 0) 1 8 Tryz.underlying22 hi hz0 hz1 hz2 rfl (by decide) _ _ _ rfl (World.ownsRow.alloc hown' _) ⟨wr.heap.size, 0, none⟩ 1 1 [.int .i64 (97 + (y : Int))] rfl rfl (cell_one_new _ _ _) (fun u hu => by simp at hu; subst hu; rfl) (by unfold maxLen; omega) (by omega) (by simp; omega) ?_); intro v3 w3 hown3 hgrow3 hnil3))
          have hb3 : Below w.heap.size w w3 := (hb.alloc hbs _).grown hgrow3 (by simp; omega) (fun q hq => (hown.lt q hq).1)
          go_wp2_with fail
          go_roundw
          case rel => exact ⟨k + 1, m ++ [97 + (y : Int)], by omega, by omega, by go_num, by rw [List.length_append, HML.out]; rfl, HG.out.app (Wv.Good.one (by omega)), OwnI.push HML.out hown3, hb3⟩
          case measure => simp [intOf]; omega
      · have HML := Lib.hid hml
        have HG := Lib.hid hg
        clear hml hg
        go_wp2_with fail
        go_ret
        exact ⟨_, rfl, m, hown, HG.out, by rw [HML.out]; omega, hb⟩
    · have h1 : ¬ (k : Int) < n := by omega
      have HML := Lib.hid hml
      have HG := Lib.hid hg
      clear hml hg
      go_wp2_with fail
      go_ret
      exact ⟨_, rfl, m, hown, HG.out, by rw [HML.out]; omega, hb⟩

theorem high7 {l : List Sh} {a : Option Addr} (n cap : Nat) (w : World) (h : RdS w a l) (hn : l.length = n) :
    Calls Tryz.prog 9 #[.slice a n cap] w fun e w' => e = .returned (.int .i64 (hiS 0 l)) ∧ w = w' := by
  have hlen := h.1
  rw [hn] at hlen
  have HR := Lib.hid h.2
  have HN := Lib.hid hn
  clear h hn
  go_enter Tryz.func9, Tryz.ntmps9
  go_wp2_with fail
  go_loop [3, 4] (fun h i => ∃ k : Nat, k ≤ n ∧ i = .int .i64 k ∧ h = .int .i64 (hiS 0 (l.take k))) (fun _ i => n - (intOf i).toNat)
  case atStart => exact ⟨0, Nat.zero_le _, rfl, rfl⟩
  case round =>
    obtain ⟨k, hk, rfl, rfl⟩ := hrel
    by_cases hlt : k < n
    · obtain ⟨b, off, rfl, hbb, hc⟩ := HR.out (by rw [HN.out]; omega)
      obtain ⟨L, H, V, N, hs, h1, h2, h3, c0, c1, c2, c3⟩ := hc k (by rw [HN.out]; exact hlt)
      have hsx := hiS_succ 0 (by rw [HN.out]; exact hlt) hs
      have HSX := Lib.hid hsx
      have h1 : (k : Int) < n := by omega
      obtain ⟨g, hg⟩ : ∃ g, hiS 0 (l.take k) = g := ⟨_, rfl⟩
      have HG := Lib.hid hg
      rw [hg]
      clear hc hs hsx c0 c2 c3 hg
      go_wp2_with fail
      go_round
      case rel => exact ⟨k + 1, by omega, by go_num, by rw [HSX.out, HG.out]; exact congrArg (Value.int .i64) (by rw [Int.max_def]; split <;> split <;> omega)⟩
      case measure => simp [intOf]; omega
    · have h1 : ¬ (k : Int) < n := by omega
      have hfin : Hid (l.take k = l) := Lib.hid (List.take_of_length_le (by rw [HN.out]; omega))
      go_wp2_with fail
      go_ret
      exact ⟨by rw [hfin.out]; rfl, rfl⟩

/-- What a call leaves of a wave, beside its answer. -/
def WOps.Nxt (O : WOps) (w w' : World) (x x' : O.X) : Prop := Stay (O.own x) w w' ∧ ∀ i, O.own x' i → O.own x i ∨ w.heap.size ≤ i
theorem WOps.Nxt.refl (O : WOps) (w : World) (x : O.X) : O.Nxt w w x x := ⟨Stay.refl _ _, fun _ h => .inl h⟩
theorem WOps.Nxt.trans {O : WOps} {w w' w2 : World} {x x' x2 : O.X} (h : O.Nxt w w' x x') (h' : O.Nxt w' w2 x' x2) : O.Nxt w w2 x x2 :=
  ⟨h.1.trans h'.1 (fun i hi e => (h.2 i e).resolve_right (by omega)), fun i hi => (h'.2 i hi).elim (fun e => h.2 i e) (fun e => .inr (Nat.le_trans h.1.size e))⟩
/-- A wave of the law's own: its blocks are above B, and nothing below it has turned. -/
structure Wst (O : WOps) (B : Nat) (W wr : World) (t : Nat) (x : O.X) (m : List Int) : Prop where
  wav : O.wav wr t x m
  own : ∀ i, O.own x i → B ≤ i
  below : Below B W wr
  E : O.E wr
  pos : 0 < B
  le : B ≤ wr.heap.size
theorem Wst.next {O : WOps} {B : Nat} {W w w' : World} {t : Nat} {x x' : O.X} {m m' : List Int} (h : Wst O B W w t x m) (hw : O.wav w' t x' m') (hs : Stay (O.own x) w w') (ho : ∀ i, O.own x' i → O.own x i ∨ w.heap.size ≤ i) : Wst O B W w' t x' m' := by
  have hb : Below B w w' := hs.below h.le (fun i _ e => h.own i e)
  exact ⟨hw, fun i hi => (ho i hi).elim (h.own i) (fun e => Nat.le_trans h.le e), h.below.trans hb, O.E_below h.E h.pos hb, h.pos, Nat.le_trans h.le hb.size⟩
theorem Wst.beside {O : WOps} {B : Nat} {W w w' : World} {t : Nat} {x : O.X} {m : List Int} (h : Wst O B W w t x m) (hb : Below w.heap.size w w') : Wst O B W w' t x m :=
  ⟨O.stay h.wav (Stay.of_below (S := fun _ => False) hb) (fun _ _ e => e), h.own, h.below.trans (hb.mono h.le), O.E_below h.E (Nat.lt_of_lt_of_le h.pos h.le) hb, h.pos, Nat.le_trans h.le hb.size⟩
/-- Memory that the wave hasn't was turned. -/
theorem Wst.aside {O : WOps} {B : Nat} {W w w' : World} {t : Nat} {x : O.X} {m : List Int} {S : Nat → Prop} (h : Wst O B W w t x m) (hs : Stay S w w') (hS : ∀ i, O.own x i → ¬ S i) (hB : ∀ i, i < w.heap.size → S i → B ≤ i) : Wst O B W w' t x m := by
  have hb : Below B w w' := hs.below h.le hB
  exact ⟨O.stay h.wav hs hS, h.own, h.below.trans hb, O.E_below h.E h.pos hb, h.pos, Nat.le_trans h.le hb.size⟩

set_option maxHeartbeats 3200000 in
theorem fine7 (O : WOps) (hVs : O.Vis) {B : Nat} {W : World} {t : Nat} {x : O.X} {m : List Int} (before : Int) (w : World) (h : Wst O B W w t x m) (hm : m.length ≤ 1000000) (h0 : 0 ≤ before ∧ before ≤ 100) (hv : O.vis x ≤ 72 * (max before (hiS 0 (O.shp x)) + 2)) :
    Calls Tryz.prog 18 #[.pointer (some ⟨t, 0, none⟩), .int .i64 before] w fun e w' => e = .returned (.bool true) ∧ ∃ x', Wst O B W w' t x' m ∧ O.Nxt w w' x x' ∧ O.shp x' = O.shp x := by
  have key := O.shapes h.E h.wav hm
  have hsh := (O.shapes_are h.wav hm).2
  go_enter Tryz.func18, Tryz.ntmps18
  go_wp2_with fail
  refine key.mono ?_
  rintro e w1 ⟨a, cap, x1, rfl, hr, hw1, hs1, ho1, hd1, he1, hv1⟩
  clear key
  have h1 := h.next hw1 hs1 ho1
  have hv2 := hv1 (max before (hiS 0 (O.shp x))) (by omega) hv
  have hvp := O.vis_pos hw1
  have hN1 : O.Nxt w w1 x x1 := ⟨hs1, ho1⟩
  obtain ⟨n, hn⟩ : ∃ n, (O.shp x).length = n := ⟨_, rfl⟩
  have hlen := hr.1
  rw [hn] at hlen ⊢
  have HR := Lib.hid hr.2
  have HN := Lib.hid hn
  have HW := Lib.hid h1
  have HSH := Lib.hid hsh
  have HX := Lib.hid hN1
  have hfin0 := hiS_max (O.shp x) before h0.1
  rw [← hfin0] at hv2
  have HV := Lib.hid hv2
  have hb100 : ∀ k, hiS before ((O.shp x).take k) ≤ 100 := fun k => hiS_le _ 100 (fun s hs => (hsh s (List.mem_of_mem_take hs)).2.2.2) before h0.2
  have hb0 : ∀ k, 0 ≤ hiS before ((O.shp x).take k) := fun k => Int.le_trans h0.1 (hiS_ge _ _)
  have HB := Lib.hid hb100
  have HB0 := Lib.hid hb0
  clear hr hn h h1 hsh hN1 hw1 hs1 ho1 hd1 hv hv1 hv2 hfin0 hb100 hb0
  obtain ⟨l, hl⟩ : ∃ l, O.shp x = l := ⟨_, rfl⟩
  have HL := Lib.hid hl
  rw [hl] at HR HN HSH HV HB HB0
  go_wp2_with fail
  go_loopw [6, 7] (fun h i wr => ∃ k : Nat, k ≤ n ∧ i = .int .i64 k ∧ h = .int .i64 (hiS before (l.take k)) ∧ Below w1.heap.size w1 wr) (fun _ i _ => n - (intOf i).toNat)
  case atStart => exact ⟨0, Nat.zero_le _, rfl, rfl, Below.refl _ _⟩
  case round =>
    obtain ⟨k, hk, rfl, rfl, hb⟩ := hrel
    have HBE := Lib.hid hb
    by_cases hlt : k < n
    · have hkl : k < l.length := by rw [HN.out]; exact hlt
      obtain ⟨b, off, rfl, hbb, hc⟩ := HR.out (by omega)
      obtain ⟨L, H, V, N, hs, h1, h2, h3, c0, c1, c2, c3⟩ := hc k hkl
      have hsx := Lib.hid (hiS_succ before hkl hs)
      have hmem : (L, H, V, N) ∈ l := by
        rw [← hs, List.getD_eq_getElem?_getD, List.getElem?_eq_getElem hkl]; exact List.getElem_mem hkl
      obtain ⟨hmay, hL1, hH0, hH1⟩ := HSH.out _ hmem
      have keyM := rmay_one L H V N wr h1 h2 h3
      have hmm : Fb.may L H V N = true := hmay
      rw [hmm] at keyM
      have d0 := (hb.cell (p := ⟨b, off + k * 4, none⟩) hbb).trans c0
      have d1 := (hb.cell (p := ⟨b, off + k * 4 + 1, none⟩) hbb).trans c1
      have d2 := (hb.cell (p := ⟨b, off + k * 4 + 2, none⟩) hbb).trans c2
      have d3 := (hb.cell (p := ⟨b, off + k * 4 + 3, none⟩) hbb).trans c3
      have hbr : b < wr.heap.size := Nat.lt_of_lt_of_le hbb hb.size
      have hlt' : (k : Int) < n := by omega
      have hg0 := HB0.out k
      have hg1 := HB.out k
      have hL1' : 1 ≤ L := hL1
      obtain ⟨g, hg⟩ : ∃ g, hiS before (l.take k) = g := ⟨_, rfl⟩
      have HG := Lib.hid hg
      rw [hg] at hg0 hg1
      rw [hg]
      clear hc hs hmem hmay hmm c0 c1 c2 c3 hb hL1 hkl hg
      go_wp2_with fail
      (with_reducible refine keyM.mono ?_); rintro e w2 ⟨rfl, hb2⟩
      clear keyM
      have e0 := (hb2.cell (p := ⟨b, off + k * 4, none⟩) hbr).trans d0
      have e1 := (hb2.cell (p := ⟨b, off + k * 4 + 1, none⟩) hbr).trans d1
      have hB2 := Lib.hid (HBE.out.trans (hb2.mono HBE.out.size))
      clear d0 d1 d2 d3 hb2
      go_wp2_with fail
      go_roundw
      case rel => exact ⟨k + 1, by omega, by go_num, by rw [hsx.out, HG.out]; exact congrArg (Value.int .i64) (by rw [Int.max_def]; split <;> split <;> omega), hB2.out⟩
      case measure => simp [intOf]; omega
    · have hlt' : ¬ (k : Int) < n := by omega
      have hfin : l.take k = l := List.take_of_length_le (by rw [HN.out]; omega)
      have hg0 := HB0.out k
      have hg1 := HB.out k
      rw [hfin] at hg0 hg1 ⊢
      have hWz : Wst O B W wr t x1 m := HW.out.beside hb
      have HWZ := Lib.hid hWz
      have keyV := hVs hWz.wav
      have hvv := HV.out
      obtain ⟨g, hg⟩ : ∃ g, hiS before l = g := ⟨_, rfl⟩
      rw [hg] at hg0 hg1 hvv ⊢
      obtain ⟨v, hv⟩ : ∃ v, O.vis x1 = v := ⟨_, rfl⟩
      rw [hv] at keyV hvv hvp
      have hNz : O.Nxt w wr x x1 := ⟨HX.out.1.trans (Stay.of_below (S := fun _ => False) hb) (fun _ _ e => e.elim), HX.out.2⟩
      have HNZ := Lib.hid hNz
      have HE := Lib.hid (he1.trans HL.out)
      clear hfin hg hv hWz hNz hb
      go_wp2_with fail
      (with_reducible refine keyV.mono ?_); rintro e w2 ⟨rfl, rfl⟩
      go_wp2_with fail
      (with_reducible refine keyV.mono ?_); rintro e w2 ⟨rfl, rfl⟩
      go_wp2_with fail
      go_ret
      exact ⟨rfl, x1, HWZ.out, HNZ.out, he1⟩
end Go.Proofs.YtaglnomjlnlgoaaGreatDoor
