/- A text of numbers (the laws' Text): a contract of the walk. -/
import Derived.Test.YtfncjkkdemeclaaSoG
import Derived.Test.YtfncjkkdemeclaaRdZ
namespace Go.Proofs.Ytfncjkkdemeclaa
open Go Go.RowKit Go.ChangeAt

/-- A slice of bytes of the call's own. -/
def byv (t : List UInt8) : List Value := t.map fun b => Value.int .u8 (b.toNat : Int)
theorem byv_len (t : List UInt8) : (byv t).length = t.length := List.length_map _
theorem byv_app (t u : List UInt8) : byv (t ++ u) = byv t ++ byv u := List.map_append
abbrev OwnU (base : Nat) (w : World) (v : Value) (t : List UInt8) : Prop := w.ownsRow base 5 1 v t.length (byv t)
theorem OwnU.push {base : Nat} {w : World} {v : Value} {t : List UInt8} {n : Nat} {b : UInt8} (hn : t.length = n) (h : w.ownsRow base 5 1 v (n + 1) (byv t ++ [Value.int .u8 (b.toNat : Int)])) : OwnU base w v (t ++ [b]) := by
  subst hn
  unfold OwnU
  rw [List.length_append, byv_app]
  exact h
theorem OwnU.form {base : Nat} {w : World} {v : Value} {t : List UInt8} (n : Nat) (h : OwnU base w v t) (hn : t.length = n) : ∃ a cap, v = .slice a n cap ∧ RdU w a cap t := by
  subst hn
  rcases h.2 with ⟨hv, h0⟩ | ⟨g, cap, cur, hv, hb, hg, hn, hm, hs, ht⟩
  · have ht : t = [] := List.length_eq_zero_iff.1 h0
    subst ht
    exact ⟨none, 0, hv, RdU.nil w _ _ (by decide)⟩
  · refine ⟨_, cap, hv, hn, hm, fun hp => ⟨g, 0, rfl, (Array.getElem?_eq_some_iff.1 hg).1, fun i hi => ?_⟩⟩
    have h1 : (cur.toList.take (t.length * 1))[i]? = (byv t)[i]? := by rw [ht]
    rw [List.getElem?_take_of_lt (by omega)] at h1
    unfold byv at h1
    rw [List.getElem?_map, List.getElem?_eq_getElem hi] at h1
    rw [Nat.zero_add, cell_of hg, ← Array.getElem?_toList, h1, List.getD_eq_getElem?_getD, List.getElem?_eq_getElem hi]
    rfl
theorem byv_one (t : List UInt8) : ∀ u ∈ byv t, u.oneCell' = true := by
  intro u hu
  obtain ⟨b, _, rfl⟩ := List.mem_map.1 hu
  rfl
theorem u8_mod (z : Int) : ∃ b : UInt8, z % 256 = (b.toNat : Int) := by
  have h0 : 0 ≤ z % 256 := Int.emod_nonneg _ (by decide)
  have h1 : z % 256 < 256 := Int.emod_lt_of_pos _ (by decide)
  refine ⟨UInt8.ofNat (z % 256).toNat, ?_⟩
  rw [UInt8.toNat_ofNat']
  omega
theorem u8_any (z : Int) : ∃ b : UInt8, IntKind.u8.wrap z = (b.toNat : Int) := by
  rw [IntKind.wrap_u8]
  exact u8_mod z

set_option maxHeartbeats 1600000 in
theorem ktext (a : Option Addr) (n cap : Nat) (most : Int) (few : Bool) (w : World) (h : RdZ w a n) (hm : 0 ≤ most ∧ most ≤ 1000000) :
    Calls Try.prog 10 #[.slice a n cap, .int .i64 most, .bool few] w fun e w' => ∃ (v : Value) (t : List UInt8), e = .returned v ∧ OwnU w.heap.size w' v t ∧ (t.length : Int) = min (n : Int) most ∧ Below w.heap.size w w' := by
  obtain ⟨i0, hi, hz0, hz1, hz2⟩ := info_parts infoU
  have hn := h.1
  unfold maxLen at hn
  have HR := Lib.hid h.2
  clear h
  go_enter Try.func10, Try.ntmps10
  go_wp2_with fail
  go_loopw [7, 8] (fun v i wr => ∃ (k : Nat) (m : List UInt8), k ≤ n ∧ (k : Int) ≤ most ∧ i = .int .i64 k ∧ m.length = k ∧ OwnU w.heap.size wr v m ∧ Below w.heap.size w wr) (fun _ i _ => n - (intOf i).toNat)
  case atStart => exact ⟨0, [], Nat.zero_le _, by omega, rfl, rfl, World.ownsRow_nil _ _ _ _, Below.refl _ _⟩
  case round =>
    obtain ⟨k, m, hk, hkm, rfl, hml, hown, hb⟩ := hrel
    by_cases hlt : k < n
    · have h1 : (k : Int) < n := by omega
      by_cases hlt2 : (k : Int) < most
      · obtain ⟨b, off, rfl, hbb, hc⟩ := HR.out (by omega)
        obtain ⟨z, hz⟩ := hc k hlt
        have hc1 := (hb.cell (p := ⟨b, off + k, none⟩) hbb).trans hz
        have hown' := hown
        unfold OwnU at hown'
        rw [hml] at hown'
        have hbs := hb.size
        have HML := Lib.hid hml
        clear hc hz hml
        cases few
        · obtain ⟨u, hu⟩ := u8_any z
          go_wp2_with (first
            | (at_builtin; (refine wpList_append_own _ rfl (.tmp 32) (.tmp 38) 23 rfl w.heap.size 5 i0 (.int .u8 0) 1 1 Try.underlying23 hi hz0 hz1 hz2 rfl (by decide) _ _ _ rfl (World.ownsRow.alloc hown' _) ⟨wr.heap.size, 0, none⟩ 1 1 [.int .u8 (u.toNat : Int)] rfl rfl (cell_one_new _ _ _) (fun u hu => by simp at hu; subst hu; rfl) (by unfold maxLen; omega) (by omega) (by simp; omega) ?_); intro v3 w3 hown3 hgrow3 hnil3))
          have hb3 : Below w.heap.size w w3 := (hb.alloc hbs _).grown hgrow3 (by simp; omega) (fun q hq => (hown.lt q hq).1)
          go_wp2_with fail
          go_roundw
          case rel => exact ⟨k + 1, m ++ [u], by omega, by omega, by go_num, by rw [List.length_append, HML.out]; rfl, OwnU.push HML.out hown3, hb3⟩
          case measure => simp [intOf]; omega
        · obtain ⟨u, hu⟩ := u8_mod (IntKind.u64.wrap (97 + (IntKind.u64.wrap z).tmod 3))
          go_wp2_with (first
            | (at_builtin; (refine wpList_append_own _ rfl (.tmp 21) (.tmp 30) 23 rfl w.heap.size 5 i0 (.int .u8 0) 1 1 Try.underlying23 hi hz0 hz1 hz2 rfl (by decide) _ _ _ rfl (World.ownsRow.alloc hown' _) ⟨wr.heap.size, 0, none⟩ 1 1 [.int .u8 (u.toNat : Int)] rfl rfl (cell_one_new _ _ _) (fun u hu => by simp at hu; subst hu; rfl) (by unfold maxLen; omega) (by omega) (by simp; omega) ?_); intro v3 w3 hown3 hgrow3 hnil3))
          have hb3 : Below w.heap.size w w3 := (hb.alloc hbs _).grown hgrow3 (by simp; omega) (fun q hq => (hown.lt q hq).1)
          go_wp2_with fail
          go_roundw
          case rel => exact ⟨k + 1, m ++ [u], by omega, by omega, by go_num, by rw [List.length_append, HML.out]; rfl, OwnU.push HML.out hown3, hb3⟩
          case measure => simp [intOf]; omega
      · have hfin : (m.length : Int) = min (n : Int) most := by omega
        have HF := Lib.hid (And.intro hown (And.intro hfin hb))
        clear hown hfin hb hml
        go_wp2_with fail
        go_ret
        exact ⟨_, rfl, m, HF.out.1, HF.out.2.1, HF.out.2.2⟩
    · have h1 : ¬ (k : Int) < n := by omega
      have hfin : (m.length : Int) = min (n : Int) most := by omega
      have HF := Lib.hid (And.intro hown (And.intro hfin hb))
      clear hown hfin hb hml
      go_wp2_with fail
      go_ret
      exact ⟨_, rfl, m, HF.out.1, HF.out.2.1, HF.out.2.2⟩
/-- The same, as it is read. -/
theorem ktext_r {a : Option Addr} {n cap : Nat} (most : Nat) (mi : Int) (few : Bool) (w : World) (h : RdZ w a n) (hm : most ≤ 1000000) (hmi : mi = most) :
    Calls Try.prog 10 #[.slice a n cap, .int .i64 mi, .bool few] w fun e w' => ∃ (a' : Option Addr) (cap' m : Nat) (t : List UInt8), e = .returned (.slice a' m cap') ∧ t.length = m ∧ m = min n most ∧ RdU w' a' cap' t ∧ OwnU w.heap.size w' (.slice a' m cap') t ∧ Below w.heap.size w w' := by
  subst hmi
  refine (ktext a n cap most few w h (by omega)).mono ?_
  rintro e w' ⟨v, t, rfl, hown, hl, hb⟩
  obtain ⟨a', cap', rfl, hr⟩ := OwnU.form t.length hown rfl
  exact ⟨a', cap', t.length, t, rfl, rfl, by omega, hr, hown, hb⟩
end Go.Proofs.Ytfncjkkdemeclaa
