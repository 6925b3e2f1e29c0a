/- near, the document's May of a tree's shape, and Fine. -/
import Derived.Test.YtfbhcbcpeocmcaaDoorTlA
import Derived.Test.YtfbhcbcpeocmcaaDoorMay
import Derived.Deep.RegionHeld3
namespace Go.Proofs.YtfbhcbcpeocmcaaDoor
open Go Go.RowKit Go.ChangeAt Tr

theorem mod_any (k : Int) (m : Nat) (h0 : 0 < m) (h1 : m ≤ 1000000) : ∃ n : Nat, n < m ∧ RowKit.wrap64 ((IntKind.u64.wrap k).tmod m) = (n : Int) := by
  rw [IntKind.wrap_u64]
  have h2 : 0 ≤ k % 18446744073709551616 := Int.emod_nonneg _ (by decide)
  rw [Int.tmod_eq_emod_of_nonneg h2]
  generalize k % 18446744073709551616 = x at h2 ⊢
  have h3 : 0 ≤ x % (m : Int) := Int.emod_nonneg _ (by omega)
  have h4 : x % (m : Int) < m := Int.emod_lt_of_pos _ (by omega)
  refine ⟨(x % m).toNat, by omega, ?_⟩
  unfold RowKit.wrap64
  omega
theorem near_any (k : Int) (n : Nat) (w : World) (hn : n < 1000000) :
    Calls Tryd.prog 18 #[.int .i64 k, .int .i64 n] w fun e w' => w = w' ∧ ∃ r : Nat, r ≤ n ∧ e = .returned (.int .i64 r) := by
  obtain ⟨r, hr, e⟩ := mod_any k (n + 1) (by omega) (by omega)
  rw [Int.natCast_add] at e
  have e' : RowKit.wrap64 ((IntKind.u64.wrap k).tmod ((n : Int) + 1)) = (r : Int) := e
  have hni : (n : Int) < 1000000 := by omega
  have HR := Lib.hid hr
  have e2 : IntKind.u64.wrap ((n : Int) + 1) = (n : Int) + 1 := by rw [IntKind.wrap_u64]; omega
  clear e hr hn
  go_enter Tryd.func18, Tryd.ntmps18
  go_wp2_with fail
  go_ret
  have := HR.out
  exact ⟨rfl, r, by omega, ret_int (by simpa using e')⟩
theorem raw_bal (a : T) (h : a.bal) : Fb.raw a.ht ≤ a.lvs := by
  induction a with
  | leaf k l => exact Nat.le_refl _
  | node k x y ihx ihy =>
    obtain ⟨bx, byy, h1, h2⟩ := h
    have ix := ihx bx
    have iy := ihy byy
    have e : (T.node k x y).ht = 1 + max x.ht y.ht := rfl
    have el : (T.node k x y).lvs = x.lvs + y.lvs := rfl
    rw [e, el]
    have px := x.lvs_pos
    have py := y.lvs_pos
    by_cases c : x.ht = 0 ∧ y.ht = 0
    · rw [c.1, c.2]
      show Fb.raw 1 ≤ _
      have : Fb.raw 1 = 2 := rfl
      omega
    · by_cases c2 : x.ht ≤ y.ht
      · obtain ⟨q, hq⟩ : ∃ q, y.ht = q + 1 := ⟨y.ht - 1, by omega⟩
        have hm : Fb.raw q ≤ Fb.raw x.ht := Fb.raw_mono (by omega)
        have ha : Fb.raw (q + 2) = Fb.raw q + Fb.raw (q + 1) := rfl
        rw [show 1 + max x.ht y.ht = q + 2 by omega]
        rw [hq] at iy
        omega
      · obtain ⟨q, hq⟩ : ∃ q, x.ht = q + 1 := ⟨x.ht - 1, by omega⟩
        have hm : Fb.raw q ≤ Fb.raw y.ht := Fb.raw_mono (by omega)
        have ha : Fb.raw (q + 2) = Fb.raw q + Fb.raw (q + 1) := rfl
        rw [show 1 + max x.ht y.ht = q + 2 by omega]
        rw [hq] at ix
        omega
/-- A tree's shape may be. -/
theorem Root.may {S : St} {m : List Bool} (h : Root S m) : Fb.may S.rt.len S.rt.ht ((S.live + 1) / 2 : Nat) S.live = true := by
  rcases h with ⟨rfl, h1, _, h3, h4⟩ | ⟨a, q1, q2, q3, q4, rfl, q6, q7, q8⟩
  · rw [h1, h3, h4]; rfl
  · have e1 : S.rt.len = a.bits.length := by rw [q7, T.lk_len]
    have e2 : S.rt.ht = a.ht := by rw [q7, T.lk_ht]
    have k1 := a.ks_len
    have k2 := q4.len.1
    have k3 := a.lvs_pos
    have k4 := raw_bal a q3
    have e3 : (S.live + 1) / 2 = a.lvs := by omega
    rw [e1, e2, e3]
    unfold Fb.may
    rw [if_neg (by omega)]
    have k5 : Fb.least (a.ht : Int) ≤ a.lvs := by
      rw [Fb.least_nat]
      have := Nat.min_le_left (Fb.raw a.ht) 2147483648
      omega
    exact decide_eq_true ⟨by omega, by omega, k5, by omega, by omega⟩
theorem kmay {S : St} {m : List Bool} (w : World) (h : Root S m) (hlen : m.length ≤ 100000000) (hlv : S.live ≤ 268435456) :
    Calls Tryd.prog 32 #[shapeOf S] w fun e w' => e = .returned (.bool true) ∧ Below w.heap.size w w' := by
  have h1 := h.len
  have h2 := h.ht
  exact (rmay_one S.rt.len S.rt.ht ((S.live + 1) / 2 : Nat) S.live w (by omega) (by omega) (by omega)).mono fun _ _ ⟨q1, q2⟩ => ⟨by rw [q1, h.may], q2⟩
theorem TM.live_le {base t : Nat} {w : World} {S : St} (h : TM base w t S) : S.live ≤ 268435456 := by
  have h1 := S.live_le
  obtain ⟨g, a, c, hx⟩ := h
  have := hx.sar.tm
  omega
theorem Tre.drewN' {base t x : Nat} {w w' : World} {S : St} {m : List Bool} (h : Tre base w t S m) (hw : w' = w.drewN x) : Tre base w' t S m := by rw [hw]; exact h.drewN x
theorem Below.drewN' {a w w' : World} {B x : Nat} (h : Below B a w) (hw : w' = w.drewN x) : Below B a w' := by rw [hw]; exact h.drewN x
theorem tvisits' {base t v : Nat} {S : St} {m : List Bool} (w : World) (h : Tre base w t S m) (hv : S.vis = v) :
    Calls Tryd.prog 35 #[.pointer (some ⟨t, 0, none⟩)] w fun e w' => e = .returned (.int .i64 v) ∧ w = w' := by subst hv; exact tvisits w h
set_option maxRecDepth 100000 in
set_option maxHeartbeats 3200000 in
theorem fine_any {base t : Nat} {S : St} {m : List Bool} (b : Nat) (w : World) (h : Tre base w t S m) (hlen : m.length ≤ 1000000) (hb : b ≤ 1000000) (hv : S.vis ≤ 8 * (max S.rt.ht b + 2)) :
    Calls Tryd.prog 15 #[.pointer (some ⟨t, 0, none⟩), .int .i64 b] w fun e w' => e = .returned (.bool true) ∧ Tre base w' t S m ∧ Below w.heap.size w w' := by
  have key := tshape w h (by omega)
  have hlv := h.1.live_le
  have hh := h.2.ht
  have hlen2 := h.2.len
  have HR := h.2
  obtain ⟨ln, hln⟩ : ∃ x, S.rt.len = x := ⟨_, rfl⟩
  obtain ⟨ht, hht⟩ : ∃ x, S.rt.ht = x := ⟨_, rfl⟩
  obtain ⟨lv, hlvv⟩ : ∃ x, (S.live + 1) / 2 = x := ⟨_, rfl⟩
  obtain ⟨nd, hnd⟩ : ∃ x, S.live = x := ⟨_, rfl⟩
  obtain ⟨vs, hvs⟩ : ∃ x, S.vis = x := ⟨_, rfl⟩
  have hsh : shapeOf S = .agg #[.int .i64 ln, .int .i64 ht, .int .i64 lv, .int .i64 nd] := by unfold shapeOf; rw [hln, hht, hlvv, hnd]
  rw [hsh] at key
  have keyM := fun w' => kmay w' HR (by omega) hlv
  rw [hsh] at keyM
  rw [hln] at hlen2
  rw [hht] at hh hv
  rw [hvs] at hv
  obtain ⟨mx, hmx⟩ : ∃ x, max ht b = x := ⟨_, rfl⟩
  rw [hmx] at hv
  have hor : (ht < b ∧ mx = b) ∨ (b ≤ ht ∧ mx = ht) := by omega
  have H := Lib.hid h
  have HLEN2 := Lib.hid hlen2
  have HND := Lib.hid hnd
  have HVS := Lib.hid hvs
  have HLI := Lib.hid (show (m.length : Int) = ln by omega)
  have HNI := Lib.hid (show (S.live : Int) = nd by omega)
  have hvi : (vs : Int) ≤ 8 * (mx + 2) := by omega
  have hmb : mx ≤ 1000000 := by omega
  clear h hln hht hlvv hnd hvs hsh hlen2 hmx
  rcases hor with ⟨hc, rfl⟩ | ⟨hc, rfl⟩
  · have hci : (ht : Int) < mx := by omega
    go_enter Tryd.func15, Tryd.ntmps15
    go_wp2_with fail
    (with_reducible refine key.mono ?_); rintro e w1 ⟨rfl, hb1⟩
    have hb2 : Below w.heap.size w (w1.alloc (Obj.cells #[.int .i64 ln, .int .i64 ht, .int .i64 lv, .int .i64 nd] 35)) := Below.allocs hb1 _
    have hT2 := H.out.below hb2
    have p0 : ∀ w', Below (w1.alloc (Obj.cells #[.int .i64 ln, .int .i64 ht, .int .i64 lv, .int .i64 nd] 35)).heap.size (w1.alloc (Obj.cells #[.int .i64 ln, .int .i64 ht, .int .i64 lv, .int .i64 nd] 35)) w' → w'.cell? ⟨w1.heap.size, 0, none⟩ = some (.int .i64 ln) ∧ w'.cell? ⟨w1.heap.size, 1, none⟩ = some (.int .i64 ht) ∧ w'.cell? ⟨w1.heap.size, 2, none⟩ = some (.int .i64 lv) ∧ w'.cell? ⟨w1.heap.size, 3, none⟩ = some (.int .i64 nd) := fun w' hb => by
      have h1 : (w1.alloc (Obj.cells #[.int .i64 ln, .int .i64 ht, .int .i64 lv, .int .i64 nd] 35)).heap[w1.heap.size]? = some (Obj.cells #[.int .i64 ln, .int .i64 ht, .int .i64 lv, .int .i64 nd] 35) := alloc_of
      have h2 := Below.keptB hb h1 (lt_of_block h1)
      exact ⟨(cell_of h2).trans rfl, (cell_of h2).trans rfl, (cell_of h2).trans rfl, (cell_of h2).trans rfl⟩
    have HB2 := Lib.hid hb2
    have HT2 := Lib.hid hT2
    clear hb1 hb2 hT2 key
    go_wp2_with fail
    generalize w1.alloc (Obj.cells #[.int .i64 ln, .int .i64 ht, .int .i64 lv, .int .i64 nd] 35) = w2 at *
    have z1 : IntKind.i64.wrap ((mx : Int) + 2) = mx + 2 := IntWalk.i64_in _ (by omega)
    have z2 : IntKind.i64.wrap (8 * ((mx : Int) + 2)) = 8 * (mx + 2) := IntWalk.i64_in _ (by omega)
    have kM := keyM w2.drew
    have d0 : (0 : Int) ≤ vs := by omega
    have d1 : decide ((0 : Int) ≤ vs) = true := decide_eq_true d0
    have d2 : decide ((vs : Int) ≤ 8 * (mx + 2)) = true := decide_eq_true hvi
    go_region_held3 (fun w' => w'.cell? ⟨w1.heap.size, 0, none⟩ = some (.int .i64 ln) ∧ w'.cell? ⟨w1.heap.size, 1, none⟩ = some (.int .i64 ht) ∧ w'.cell? ⟨w1.heap.size, 2, none⟩ = some (.int .i64 lv) ∧ w'.cell? ⟨w1.heap.size, 3, none⟩ = some (.int .i64 nd))
      (first | (refine p0 _ ?_; (first | exact hbA | exact hbB | (repeat (first | exact Below.refl _ _ | refine Below.drews ?_)))) | go_keep)
      (first
       | (go_at_call 32; (with_reducible refine kM.mono ?_); rintro e w3 ⟨rfl, hb3⟩; (have hbA : Below w2.heap.size w2 w3 := Below.drewed hb3); (have hT3 := HT2.out.below hbA); (have kN := klen (ln : Int) w3 hT3 HLI.out))
       | (go_at_call 27; (with_reducible refine kN.mono ?_); rintro e w3' ⟨rfl, rfl⟩; (have kL := klive (nd : Int) w3 hT3 HNI.out))
       | (go_at_call 26; (with_reducible refine kL.mono ?_); rintro e w4 ⟨rfl, x, hw4⟩; (have hT4 := hT3.drewN' hw4); (have hbB := Below.drewN' hbA hw4); (have kV := tvisits' w4 hT4 HVS.out); clear hw4)
       | (go_at_call 35; (with_reducible refine kV.mono ?_); rintro e w4' ⟨rfl, rfl⟩))
    all_goals
      go_wp2_with fail
      go_ret
      exact ⟨rfl, hT4, HB2.out.trans (hbB.mono HB2.out.size)⟩
  · have hci : ¬ (mx : Int) < b := by omega
    go_enter Tryd.func15, Tryd.ntmps15
    go_wp2_with fail
    (with_reducible refine key.mono ?_); rintro e w1 ⟨rfl, hb1⟩
    have hb2 : Below w.heap.size w (w1.alloc (Obj.cells #[.int .i64 ln, .int .i64 mx, .int .i64 lv, .int .i64 nd] 35)) := Below.allocs hb1 _
    have hT2 := H.out.below hb2
    have p0 : ∀ w', Below (w1.alloc (Obj.cells #[.int .i64 ln, .int .i64 mx, .int .i64 lv, .int .i64 nd] 35)).heap.size (w1.alloc (Obj.cells #[.int .i64 ln, .int .i64 mx, .int .i64 lv, .int .i64 nd] 35)) w' → w'.cell? ⟨w1.heap.size, 0, none⟩ = some (.int .i64 ln) ∧ w'.cell? ⟨w1.heap.size, 1, none⟩ = some (.int .i64 mx) ∧ w'.cell? ⟨w1.heap.size, 2, none⟩ = some (.int .i64 lv) ∧ w'.cell? ⟨w1.heap.size, 3, none⟩ = some (.int .i64 nd) := fun w' hb => by
      have h1 : (w1.alloc (Obj.cells #[.int .i64 ln, .int .i64 mx, .int .i64 lv, .int .i64 nd] 35)).heap[w1.heap.size]? = some (Obj.cells #[.int .i64 ln, .int .i64 mx, .int .i64 lv, .int .i64 nd] 35) := alloc_of
      have h2 := Below.keptB hb h1 (lt_of_block h1)
      exact ⟨(cell_of h2).trans rfl, (cell_of h2).trans rfl, (cell_of h2).trans rfl, (cell_of h2).trans rfl⟩
    have HB2 := Lib.hid hb2
    have HT2 := Lib.hid hT2
    clear hb1 hb2 hT2 key
    go_wp2_with fail
    generalize w1.alloc (Obj.cells #[.int .i64 ln, .int .i64 mx, .int .i64 lv, .int .i64 nd] 35) = w2 at *
    have z1 : IntKind.i64.wrap ((mx : Int) + 2) = mx + 2 := IntWalk.i64_in _ (by omega)
    have z2 : IntKind.i64.wrap (8 * ((mx : Int) + 2)) = 8 * (mx + 2) := IntWalk.i64_in _ (by omega)
    have kM := keyM w2.drew
    have d0 : (0 : Int) ≤ vs := by omega
    have d1 : decide ((0 : Int) ≤ vs) = true := decide_eq_true d0
    have d2 : decide ((vs : Int) ≤ 8 * (mx + 2)) = true := decide_eq_true hvi
    go_region_held3 (fun w' => w'.cell? ⟨w1.heap.size, 0, none⟩ = some (.int .i64 ln) ∧ w'.cell? ⟨w1.heap.size, 1, none⟩ = some (.int .i64 mx) ∧ w'.cell? ⟨w1.heap.size, 2, none⟩ = some (.int .i64 lv) ∧ w'.cell? ⟨w1.heap.size, 3, none⟩ = some (.int .i64 nd))
      (first | (refine p0 _ ?_; (first | exact hbA | exact hbB | (repeat (first | exact Below.refl _ _ | refine Below.drews ?_)))) | go_keep)
      (first
       | (go_at_call 32; (with_reducible refine kM.mono ?_); rintro e w3 ⟨rfl, hb3⟩; (have hbA : Below w2.heap.size w2 w3 := Below.drewed hb3); (have hT3 := HT2.out.below hbA); (have kN := klen (ln : Int) w3 hT3 HLI.out))
       | (go_at_call 27; (with_reducible refine kN.mono ?_); rintro e w3' ⟨rfl, rfl⟩; (have kL := klive (nd : Int) w3 hT3 HNI.out))
       | (go_at_call 26; (with_reducible refine kL.mono ?_); rintro e w4 ⟨rfl, x, hw4⟩; (have hT4 := hT3.drewN' hw4); (have hbB := Below.drewN' hbA hw4); (have kV := tvisits' w4 hT4 HVS.out); clear hw4)
       | (go_at_call 35; (with_reducible refine kV.mono ?_); rintro e w4' ⟨rfl, rfl⟩))
    all_goals
      go_wp2_with fail
      go_ret
      exact ⟨rfl, hT4, HB2.out.trans (hbB.mono HB2.out.size)⟩
end Go.Proofs.YtfbhcbcpeocmcaaDoor
