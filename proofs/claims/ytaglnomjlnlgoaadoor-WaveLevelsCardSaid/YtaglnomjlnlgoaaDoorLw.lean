/- Stage 7's helpers: Syms, high, Fine: contracts of the walk. -/
import Derived.Test.YtaglnomjlnlgoaaDoorWo
import Derived.Test.YtaglnomjlnlgoaaDoorLsS
import Derived.Test.YtaglnomjlnlgoaaDoorSyL
namespace Go.Proofs.YtaglnomjlnlgoaaDoor
open Go Go.RowKit Go.ChangeAt

theorem mod_any (k : Int) (m : Nat) (h0 : 0 < m) (h1 : m ≤ 1000000) : ∃ n : Nat, n < m ∧ RowKit.wrap64 ((IntKind.u64.wrap k).tmod m) = (n : Int) := by
  rw [IntKind.wrap_u64]
  have h2 : 0 ≤ k % 18446744073709551616 := Int.emod_nonneg _ (by decide)
  rw [Int.tmod_eq_emod_of_nonneg h2]
  generalize k % 18446744073709551616 = x at h2 ⊢
  have h3 : 0 ≤ x % (m : Int) := Int.emod_nonneg _ (by omega)
  have h4 : x % (m : Int) < m := Int.emod_lt_of_pos _ (by omega)
  refine ⟨(x % m).toNat, by omega, ?_⟩
  unfold RowKit.wrap64
  omega
/-- A slice of integers that came in or was made: each element is read. -/
def RdZ (w : World) (a : Option Addr) (n : Nat) : Prop := n ≤ maxLen ∧ (0 < n → ∃ b off, a = some ⟨b, off, none⟩ ∧ b < w.heap.size ∧ ∀ i, i < n → ∃ z : Int, w.cell? ⟨b, off + i, none⟩ = some (.int .i64 z))
theorem RdZ.of_row {w : World} {a : Option Addr} {len cap : Nat} {zs : List Int} (h : IsRow .i64 w a len cap zs) : RdZ w a len := by
  rcases h with ⟨rfl, rfl, rfl, rfl⟩ | ⟨x, rfl, hlc, hm, hz, hcell, hwf⟩
  · exact ⟨Nat.zero_le _, fun h => absurd h (by decide)⟩
  · refine ⟨by omega, fun hp => ?_⟩
    obtain ⟨b, off, rfl, hc⟩ := ints_at hcell (by omega)
    exact ⟨b, off, rfl, block_lt_of_cell (hc 0 (by omega)), fun i hi => ⟨_, hc i (by omega)⟩⟩
set_option maxHeartbeats 1600000 in
theorem syms7 (a : Option Addr) (n cap : Nat) (most : Int) (few : Bool) (w : World) (h : RdZ w a n) (hm : 0 ≤ most ∧ most ≤ 1000000) :
    Calls Tryd.prog 8 #[.slice a n cap, .int .i64 most, .bool few] w fun e w' => ∃ v m, e = .returned v ∧ OwnI w.heap.size w' v m ∧ Wv.Good m ∧ (m.length : Int) = min (n : Int) most ∧ Below w.heap.size w w' := by
  obtain ⟨i0, hi, hz0, hz1, hz2⟩ := info_parts infoI
  have hn := h.1
  unfold maxLen at hn
  have HR := Lib.hid h.2
  clear h
  go_enter Tryd.func8, Tryd.ntmps8
  go_wp2_with fail
  go_loopw [7, 8] (fun v i wr => ∃ (k : Nat) (m : List Int), k ≤ n ∧ (k : Int) ≤ most ∧ i = .int .i64 k ∧ m.length = k ∧ Wv.Good m ∧ OwnI w.heap.size wr v m ∧ Below w.heap.size w wr) (fun _ i _ => n - (intOf i).toNat)
  case atStart => exact ⟨0, [], Nat.zero_le _, by omega, rfl, rfl, Wv.Good.nil, World.ownsRow_nil _ _ _ _, Below.refl _ _⟩
  case round =>
    obtain ⟨k, m, hk, hkm, rfl, hml, hg, hown, hb⟩ := hrel
    by_cases hlt : k < n
    · have h1 : (k : Int) < n := by omega
      by_cases hlt2 : (k : Int) < most
      · obtain ⟨b, off, rfl, hbb, hc⟩ := HR.out (by omega)
        obtain ⟨z, hz⟩ := hc k hlt
        have hc1 := (hb.cell (p := ⟨b, off + k, none⟩) hbb).trans hz
        obtain ⟨x, hx, en1⟩ := mod_any z 257 (by decide) (by decide)
        change RowKit.wrap64 ((IntKind.u64.wrap z).tmod 257) = _ at en1
        obtain ⟨y, hy, en2⟩ := mod_any z 4 (by decide) (by decide)
        change RowKit.wrap64 ((IntKind.u64.wrap z).tmod 4) = _ at en2
        have hown' := hown
        unfold OwnI at hown'
        rw [hml] at hown'
        have hbs := hb.size
        have HML := Lib.hid hml
        have HG := Lib.hid hg
        clear hc hz hml hg
        cases few
        · go_wp2_with (first
            | (at_builtin; (refine wpList_append_own _ rfl (.tmp 32) (.tmp 40) 22 rfl w.heap.size 3 i0 (.int .i64 0) 1 8 Tryd.underlying22 hi hz0 hz1 hz2 rfl (by decide) _ _ _ rfl (World.ownsRow.alloc hown' _) ⟨wr.heap.size, 0, none⟩ 1 1 [.int .i64 x] rfl rfl (cell_one_new _ _ _) (fun u hu => by simp at hu; subst hu; rfl) (by unfold maxLen; omega) (by omega) (by simp; omega) ?_); intro v3 w3 hown3 hgrow3 hnil3))
          have hb3 : Below w.heap.size w w3 := (hb.alloc hbs _).grown hgrow3 (by simp; omega) (fun q hq => (hown.lt q hq).1)
          go_wp2_with fail
          go_roundw
          case rel => exact ⟨k + 1, m ++ [(x : Int)], by omega, by omega, by go_num, by rw [List.length_append, HML.out]; rfl, HG.out.app (Wv.Good.one (by omega)), OwnI.push HML.out hown3, hb3⟩
          case measure => simp [intOf]; omega
        · go_wp2_with (first
            | (at_builtin; (refine wpList_append_own _ rfl (.tmp 21) (.tmp 30) 22 rfl w.heap.size 3 i0 (.int .i64 0) 1 8 Tryd.underlying22 hi hz0 hz1 hz2 rfl (by decide) _ _ _ rfl (World.ownsRow.alloc hown' _) ⟨wr.heap.size, 0, none⟩ 1 1 [.int .i64 (97 + (y : Int))] rfl rfl (cell_one_new _ _ _) (fun u hu => by simp at hu; subst hu; rfl) (by unfold maxLen; omega) (by omega) (by simp; omega) ?_); intro v3 w3 hown3 hgrow3 hnil3))
          have hb3 : Below w.heap.size w w3 := (hb.alloc hbs _).grown hgrow3 (by simp; omega) (fun q hq => (hown.lt q hq).1)
          go_wp2_with fail
          go_roundw
          case rel => exact ⟨k + 1, m ++ [97 + (y : Int)], by omega, by omega, by go_num, by rw [List.length_append, HML.out]; rfl, HG.out.app (Wv.Good.one (by omega)), OwnI.push HML.out hown3, hb3⟩
          case measure => simp [intOf]; omega
      · have HML := Lib.hid hml
        have HG := Lib.hid hg
        clear hml hg
        go_wp2_with fail
        go_ret
        exact ⟨_, rfl, m, hown, HG.out, by rw [HML.out]; omega, hb⟩
    · have h1 : ¬ (k : Int) < n := by omega
      have HML := Lib.hid hml
      have HG := Lib.hid hg
      clear hml hg
      go_wp2_with fail
      go_ret
      exact ⟨_, rfl, m, hown, HG.out, by rw [HML.out]; omega, hb⟩

/-- What a call leaves of a wave, beside its answer. -/
def WOps.Nxt (O : WOps) (w w' : World) (x x' : O.X) : Prop := Stay (O.own x) w w' ∧ ∀ i, O.own x' i → O.own x i ∨ w.heap.size ≤ i
theorem WOps.Nxt.refl (O : WOps) (w : World) (x : O.X) : O.Nxt w w x x := ⟨Stay.refl _ _, fun _ h => .inl h⟩
theorem WOps.Nxt.trans {O : WOps} {w w' w2 : World} {x x' x2 : O.X} (h : O.Nxt w w' x x') (h' : O.Nxt w' w2 x' x2) : O.Nxt w w2 x x2 :=
  ⟨h.1.trans h'.1 (fun i hi e => (h.2 i e).resolve_right (by omega)), fun i hi => (h'.2 i hi).elim (fun e => h.2 i e) (fun e => .inr (Nat.le_trans h.1.size e))⟩
/-- A wave of the law's own: its blocks are above B, and nothing below it has turned. -/
structure Wst (O : WOps) (B : Nat) (W wr : World) (t : Nat) (x : O.X) (m : List Int) : Prop where
  wav : O.wav wr t x m
  own : ∀ i, O.own x i → B ≤ i
  below : Below B W wr
  E : O.E wr
  pos : 0 < B
  le : B ≤ wr.heap.size
theorem Wst.next {O : WOps} {B : Nat} {W w w' : World} {t : Nat} {x x' : O.X} {m m' : List Int} (h : Wst O B W w t x m) (hw : O.wav w' t x' m') (hs : Stay (O.own x) w w') (ho : ∀ i, O.own x' i → O.own x i ∨ w.heap.size ≤ i) : Wst O B W w' t x' m' := by
  have hb : Below B w w' := hs.below h.le (fun i _ e => h.own i e)
  exact ⟨hw, fun i hi => (ho i hi).elim (h.own i) (fun e => Nat.le_trans h.le e), h.below.trans hb, O.E_below h.E h.pos hb, h.pos, Nat.le_trans h.le hb.size⟩
theorem Wst.beside {O : WOps} {B : Nat} {W w w' : World} {t : Nat} {x : O.X} {m : List Int} (h : Wst O B W w t x m) (hb : Below w.heap.size w w') : Wst O B W w' t x m :=
  ⟨O.stay h.wav (Stay.of_below (S := fun _ => False) hb) (fun _ _ e => e), h.own, h.below.trans (hb.mono h.le), O.E_below h.E (Nat.lt_of_lt_of_le h.pos h.le) hb, h.pos, Nat.le_trans h.le hb.size⟩
/-- Memory that the wave hasn't was turned. -/
theorem Wst.aside {O : WOps} {B : Nat} {W w w' : World} {t : Nat} {x : O.X} {m : List Int} {S : Nat → Prop} (h : Wst O B W w t x m) (hs : Stay S w w') (hS : ∀ i, O.own x i → ¬ S i) (hB : ∀ i, i < w.heap.size → S i → B ≤ i) : Wst O B W w' t x m := by
  have hb : Below B w w' := hs.below h.le hB
  exact ⟨O.stay h.wav hs hS, h.own, h.below.trans hb, O.E_below h.E h.pos hb, h.pos, Nat.le_trans h.le hb.size⟩

end Go.Proofs.YtaglnomjlnlgoaaDoor
