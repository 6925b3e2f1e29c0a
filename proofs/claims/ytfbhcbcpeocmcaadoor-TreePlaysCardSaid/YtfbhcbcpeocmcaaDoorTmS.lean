/- gather and All; New; Live, Made and Shape: contracts of the walk. -/
import Derived.Test.YtfbhcbcpeocmcaaDoorTmR
import Derived.Test.YtfbhcbcpeocmcaaDoorTmK
import Derived.Test.YtfbhcbcpeocmcaaDoorTmO
import Derived.Laws.MakeOwn
namespace Go.Proofs.YtfbhcbcpeocmcaaDoor
open Go Go.RowKit Go.ChangeAt Tr

theorem ret_val {a b : Value} (h : a = b) : Ending.returned a = .returned b := by rw [h]
/-- What is known of gathering a smaller tree. -/
def GathIH (base t : Nat) (a : T) : Prop :=
  ∀ (w : World) (S : St) (v : Value) (m : List Bool) (B : Nat), TM base w t S → Is S.sto a → (∀ b x, S.own b = some x → b < B) → OwnB B w v m → B ≤ w.heap.size → m.length + a.bits.length ≤ 1000000000 →
    Calls Tryd.prog 34 #[.pointer (some ⟨t, 0, none⟩), v, .int .i64 a.lk.num] w fun e w' => ∃ v', e = .returned v' ∧ OwnB B w' v' (m ++ a.bits) ∧ Below B w w'
theorem TM.low {base t B : Nat} {w w' : World} {S : St} (h : TM base w t S) (hB : ∀ b x, S.own b = some x → b < B) (hb : Below B w w') : TM base w' t S :=
  h.stay (Z := fun i => B ≤ i) ⟨hb.os, hb.tape, hb.output, hb.size, fun k _ hs => hb.block k (by omega)⟩ (fun b hb2 hs => by
    cases e : S.own b with
    | none => exact hb2 e
    | some x => have := hB b x e; omega)
set_option maxHeartbeats 1600000 in
theorem tgather_leaf {base t k B : Nat} {S : St} {l m : List Bool} {v : Value} (w : World) (h : TM base w t S) (hi : Is S.sto (.leaf k l)) (hpos : 0 < l.length) (hown : OwnB B w v m) (hBw : B ≤ w.heap.size) (hlen : m.length + l.length ≤ 1000000000) :
    Calls Tryd.prog 34 #[.pointer (some ⟨t, 0, none⟩), v, .int .i64 k] w fun e w' => ∃ v', e = .returned v' ∧ OwnB B w' v' (m ++ l) ∧ Below B w w' := by
  obtain ⟨i0, ii, hz0, hz1, hz2⟩ := info_parts infoB
  obtain ⟨n, b, hk⟩ := hi
  obtain ⟨len, c, lb, e1, _, e2, e3, e4, e5, e6, e7⟩ := h.seen hk
  obtain ⟨_, _, _, hN, hBl, _, _⟩ := h.lf hk
  have n0 := hN.c0
  have keyL := tisleaf w n0
  have keyA := ball_any w hBl
  have HOWN := Lib.hid hown
  clear h hk hN hBl hown
  go_enter Tryd.func34, Tryd.ntmps34
  go_wp2_with fail
  (with_reducible refine keyL.mono ?_); rintro e w1' ⟨rfl, rfl⟩
  go_wp2_with fail
  (with_reducible refine keyA.mono ?_); rintro e w1 ⟨v1, rfl, hown1, hnil1, hb1⟩
  obtain ⟨b2, cap2, rfl, _, hlt2, hc2, hm2, hcell2⟩ := OwnB.long hown1 hpos
  have hz := hb1.size
  have hownv := ownsRow_below HOWN.out hb1
  have HB1 := Lib.hid hb1
  have HOV := Lib.hid hownv
  clear hown1 hnil1 hb1 hownv keyL keyA
  go_wp2_with (first
    | (at_builtin; (refine wpList_append_own _ rfl (.tmp 17) (.tmp 22) 24 rfl B 4 i0 (.bool false) 1 1 Tryd.underlying24 ii hz0 hz1 hz2 rfl (by decide) _ _ _ rfl HOV.out ⟨b2, 0, none⟩ l.length cap2 (l.map Value.bool) rfl (by rw [List.length_map, Nat.mul_one]) (row_cells hcell2) (bools_one _) (by unfold maxLen; omega) (by omega) (by omega) ?_); intro v3 w3 hown3 hgrow3 hnil3))
  go_ret
  exact ⟨v3, rfl, OwnB.app hown3, (HB1.out.mono hBw).grown hgrow3 (by omega) (fun q hq => (HOV.out.lt q hq).1)⟩
set_option maxHeartbeats 3200000 in
theorem tgather_node {base t k B : Nat} {S : St} {a b : T} {m : List Bool} {v : Value} (w : World) (iha : GathIH base t a) (ihb : GathIH base t b) (h : TM base w t S) (hi : Is S.sto (.node k a b)) (hB : ∀ b x, S.own b = some x → b < B) (hown : OwnB B w v m) (hBw : B ≤ w.heap.size) (hlen : m.length + (T.node k a b).bits.length ≤ 1000000000) :
    Calls Tryd.prog 34 #[.pointer (some ⟨t, 0, none⟩), v, .int .i64 k] w fun e w' => ∃ v', e = .returned v' ∧ OwnB B w' v' (m ++ (T.node k a b).bits) ∧ Below B w w' := by
  obtain ⟨⟨n, hk⟩, hia, hib⟩ := hi
  obtain ⟨len, c, lb, e1, _, e2, e3, e4, e5, e6, e7⟩ := h.seen hk
  obtain ⟨n0, n1, n2, n3, n4, n5, n6, n7, n8, _⟩ := h.pr hk
  have keyL := tisleaf w n0
  have el : (T.node k a b).bits = a.bits ++ b.bits := rfl
  rw [el] at hlen ⊢
  rw [List.length_append] at hlen
  have key1 := iha w.drew S v m B (h.drewN 1) hia hB hown hBw (by omega)
  have HOWN := Lib.hid hown
  have H := Lib.hid h
  have HK := Lib.hid hk
  have HB := Lib.hid hB
  have HIB := Lib.hid hib
  clear h hk hown hB hia hib el
  go_enter Tryd.func34, Tryd.ntmps34
  go_wp2_with fail
  (with_reducible refine keyL.mono ?_); rintro e w1' ⟨rfl, rfl⟩
  go_wp2_with fail
  go_region_law (first
    | (go_simp; (go_at_call 34; (with_reducible refine key1.mono ?_); rintro e w2 ⟨v1, rfl, hown1, hb1⟩; (have hb1' : Below B w w2 := (Below.drew (Below.refl _ w)).trans hb1); (have hT2 := H.out.low HB.out hb1'); (have N2 := hT2.pr HK.out); (have m5 := N2.c5); (have hz2 := hb1'.size); (have key2 := ihb w2 S v1 (m ++ a.bits) B hT2 HIB.out HB.out hown1 (by omega) (by rw [List.length_append]; omega)); (have HB1 := Lib.hid hb1'); clear hown1 hb1 hb1' hT2 N2))
    | (go_simp; (go_at_call 34; (with_reducible refine key2.mono ?_); rintro e w3 ⟨v2, rfl, hown2, hb2⟩; (have HO2 := Lib.hid hown2); (have HB2 := Lib.hid (HB1.out.trans hb2)); clear hown2 hb2)))
  all_goals
    go_wp2_with fail
    go_ret
    exact ⟨v2, rfl, by rw [← List.append_assoc]; exact HO2.out, HB2.out⟩
theorem tgather_full (base t : Nat) : ∀ a : T, a.full → GathIH base t a := by
  intro a
  induction a with
  | leaf k l =>
    intro f w S v m B h hi hB ho hw hl
    have f1 : 32 ≤ l.length := f.1
    exact tgather_leaf w h hi (Nat.lt_of_lt_of_le (by decide) f1) ho hw (by exact hl)
  | node k a b iha ihb =>
    intro f w S v m B h hi hB ho hw hl
    exact tgather_node w (iha f.1) (ihb f.2) h hi hB ho hw hl
theorem tgather {base t : Nat} (a : T) (ho : a.ok) (hpos : 0 < a.bits.length) : GathIH base t a := by
  cases a with
  | leaf k l =>
    intro w S v m B h hi hB ho hw hl
    exact tgather_leaf w h hi hpos ho hw (by exact hl)
  | node k a b => exact tgather_full base t (.node k a b) ho
theorem make_bools (n : Nat) (hn : n ≤ 1000000000) : ∃ C : Array Value, C.size = n ∧ ∀ w, (Instr.makeSlice 24 (.int .i64 0) (.int .i64 (n : Int))).run Tryd.prog w = .ok (.slice (some ⟨w.heap.size, 0, none⟩) 0 n) (w.alloc (.cells C 4)) := by
  obtain ⟨i0, ii, hz0, hz1, hz2⟩ := info_parts infoB
  refine ⟨madeCells (Value.bool false).cells (n * 1), ?_, fun w => ?_⟩
  · have := size_madeCells (Value.bool false).cells (n * 1)
    omega
  · have hr := run_make (P := Tryd.prog) w 24 4 i0 (.bool false) Tryd.underlying24 ii hz0 .i64 .i64 0 n (Int.le_refl _) (by omega) (by rw [hz2]; omega) (by omega)
    rw [hz1, Int.toNat_natCast] at hr
    exact hr
theorem tall_nil (w : World) : Calls Tryd.prog 14 #[.pointer none] w fun e w' => e = .returned (.slice none 0 0) ∧ w = w' := by
  have key := tlen_nil w
  go_enter Tryd.func14, Tryd.ntmps14
  go_wp2_with fail
  (with_reducible refine key.mono ?_); rintro e w1' ⟨rfl, rfl⟩
  go_wp2_with fail
  go_ret
  exact ⟨rfl, rfl⟩
set_option maxHeartbeats 1600000 in
theorem tall {base t : Nat} {S : St} {m : List Bool} (w : World) (h : Tre base w t S m) (hlen : m.length ≤ 1000000000) :
    Calls Tryd.prog 14 #[.pointer (some ⟨t, 0, none⟩)] w fun e w' => ∃ v, e = .returned v ∧ OwnB w.heap.size w' v m ∧ Below w.heap.size w w' := by
  have keyN := tlen w h
  rcases h.2 with ⟨rfl, h1, _, h3, _⟩ | ⟨a, h1, h2, h3, h4, rfl, h6, h7, _⟩
  · have keyN : Calls Tryd.prog 27 #[.pointer (some ⟨t, 0, none⟩)] w fun e w' => e = .returned (.int .i64 0) ∧ w = w' := keyN
    go_enter Tryd.func14, Tryd.ntmps14
    go_wp2_with fail
    (with_reducible refine keyN.mono ?_); rintro e w1' ⟨rfl, rfl⟩
    go_wp2_with fail
    go_ret
    exact ⟨_, rfl, World.ownsRow_nil _ _ _ _, Below.refl _ _⟩
  · obtain ⟨L, hL⟩ : ∃ L, a.bits.length = L := ⟨_, rfl⟩
    rw [hL] at keyN hlen h6
    obtain ⟨C, hC, hmk⟩ := make_bools L hlen
    have hcc : ∃ p q n c, w.heap[t]? = some (.cells (trv p q n c S.rt S.vis) 61 (0, 0)) := by
      obtain ⟨⟨g, q, c, hh⟩, _⟩ := h
      exact ⟨_, _, _, _, hh.cells⟩
    obtain ⟨p, q, n, c, hc⟩ := hcc
    rw [h7] at hc
    have K : ∀ w', Below w.heap.size w w' → w'.cell? ⟨t, 2, none⟩ = some (.int .i64 a.lk.num) ∧ w'.cell? ⟨t, 3, none⟩ = some (.int .i64 L) := fun w' hb => by
      have hc' := Below.keptB hb hc (lt_of_block hc)
      refine ⟨(cellsT hc').c2, ?_⟩
      have := (cellsT hc').c3
      rw [T.lk_len, hL] at this
      exact this
    have hLi : ¬ (L : Int) = 0 := by omega
    have hLb : ((L : Int) == 0) = false := by simp; omega
    have hT1 : TM base (w.alloc (.cells C 4)).drew t S := h.1.below (Below.drews (Below.allocs (Below.refl _ _) _))
    have hown : OwnB w.heap.size (w.alloc (.cells C 4)).drew (.slice (some ⟨w.heap.size, 0, none⟩) 0 L) [] := World.ownsRow_made w C L (Nat.le_refl _) (by unfold maxLen; omega) (by rw [hC, Nat.mul_one])
    have key := tgather (base := base) (t := t) a h4 (by omega) _ S _ [] w.heap.size hT1 h1 (fun b x e => by obtain ⟨⟨g, q, c, hh⟩, _⟩ := h; exact (hh.lab b x e).2) hown (by simp) (by rw [hL]; simpa using hlen)
    have hb1 : Below w.heap.size w (w.alloc (.cells C 4)).drew := Below.drews (Below.allocs (Below.refl _ _) _)
    have HB1 := Lib.hid hb1
    clear hC hc h h1 h2 h3 h4 h7 hT1 hown hb1 hL
    go_enter Tryd.func14, Tryd.ntmps14
    go_wp2_with fail
    (with_reducible refine keyN.mono ?_); rintro e w1' ⟨rfl, rfl⟩
    go_wp2_with fail
    have k0 := K _ (Below.refl _ w)
    have k1 := K _ (Below.allocs (Below.refl _ w) (.cells C 4))
    obtain ⟨k2, k3⟩ := k0
    obtain ⟨k4, k5⟩ := k1
    go_region_law (first | (go_simp; (go_at_call 34; (with_reducible refine key.mono ?_); rintro e w2 ⟨v1, rfl, hown1, hb2⟩; (have HO := Lib.hid hown1); (have HB2 := Lib.hid (HB1.out.trans hb2)); clear hown1 hb2)))
    all_goals
      go_wp2_with fail
      go_ret
      exact ⟨_, rfl, HO.out, HB2.out⟩
theorem tlive_nil (w : World) : Calls Tryd.prog 26 #[.pointer none] w fun e w' => e = .returned (.int .i64 0) ∧ w = w' := by
  go_enter Tryd.func26, Tryd.ntmps26
  go_wp2
  go_ret
  exact ⟨rfl, rfl⟩
theorem TM.arena {base t : Nat} {w : World} {S : St} (h : TM base w t S) : ∃ g : Option Nat, w.cell? ⟨t, 0, none⟩ = some (.pointer (g.map fun g => ⟨g, 0, none⟩)) ∧ ((g = none ∧ S.T = [] ∧ S.F = []) ∨ ∃ h, g = some h ∧ ArM base 84 (fun b => S.own b = some .ar) w h 268435456 S.T S.F) ∧ Ar.S 268435456 S.T S.F := by
  obtain ⟨g, a, c, hx⟩ := h
  exact ⟨g, (cellsT hx.cells).c0, hx.ar, hx.sar⟩
theorem tlive {base t : Nat} {S : St} (w : World) (h : TM base w t S) :
    Calls Tryd.prog 26 #[.pointer (some ⟨t, 0, none⟩)] w fun e w' => e = .returned (.int .i64 S.live) ∧ ∃ n, w' = w.drewN n := by
  obtain ⟨g, c0, har, hs⟩ := h.arena
  clear h
  rcases har with ⟨rfl, hT, hF⟩ | ⟨gg, rfl, har⟩
  · have hl : S.live = 0 := by unfold St.live; rw [hT, hF]; rfl
    have c0' : w.cell? ⟨t, 0, none⟩ = some (.pointer none) := c0
    have key := alive_nil w
    have HL := Lib.hid hl
    clear c0 hl hT hF hs
    go_enter Tryd.func26, Tryd.ntmps26
    go_wp2_with fail
    (with_reducible refine key.mono ?_); rintro e w1' ⟨rfl, rfl⟩
    go_wp2_with fail
    go_ret
    exact ⟨ret_int (by rw [HL.out]; rfl), 0, rfl⟩
  · have c0' : w.cell? ⟨t, 0, none⟩ = some (.pointer (some ⟨gg, 0, none⟩)) := c0
    have key := alive_n w har hs (n := S.live) rfl
    clear c0 har hs
    go_enter Tryd.func26, Tryd.ntmps26
    go_wp2_with fail
    (with_reducible refine key.mono ?_); rintro e w1' ⟨rfl, n, rfl⟩
    go_wp2_with fail
    go_ret
    exact ⟨rfl, n, rfl⟩
theorem tmade {base t : Nat} {S : St} (w : World) (h : TM base w t S) :
    Calls Tryd.prog 28 #[.pointer (some ⟨t, 0, none⟩)] w fun e w' => e = .returned (.int .i64 S.T.length) ∧ w = w' := by
  obtain ⟨g, c0, har, hs⟩ := h.arena
  clear h
  rcases har with ⟨rfl, hT, hF⟩ | ⟨gg, rfl, har⟩
  · have hl : S.T.length = 0 := by rw [hT]; rfl
    have c0' : w.cell? ⟨t, 0, none⟩ = some (.pointer none) := c0
    have key := amade_nil w
    have HL := Lib.hid hl
    clear c0 hl hT hF hs
    go_enter Tryd.func28, Tryd.ntmps28
    go_wp2_with fail
    (with_reducible refine key.mono ?_); rintro e w1' ⟨rfl, rfl⟩
    go_wp2_with fail
    go_ret
    exact ⟨ret_int (by rw [HL.out]; rfl), rfl⟩
  · have c0' : w.cell? ⟨t, 0, none⟩ = some (.pointer (some ⟨gg, 0, none⟩)) := c0
    have key := amade w har
    clear c0 har hs
    go_enter Tryd.func28, Tryd.ntmps28
    go_wp2_with fail
    (with_reducible refine key.mono ?_); rintro e w1' ⟨rfl, rfl⟩
    go_wp2_with fail
    go_ret
    exact ⟨rfl, rfl⟩
theorem TM.talive {base t : Nat} {w : World} {S : St} (h : TM base w t S) : ∃ p, w.cell? ⟨t, 0, none⟩ = some (.pointer p) ∧ Calls Tryd.prog 36 #[.pointer p] w fun e w' => e = .returned (.int .i64 S.live) ∧ ∃ n, w' = w.drewN n := by
  obtain ⟨g, c0, har, hs⟩ := h.arena
  refine ⟨_, c0, ?_⟩
  rcases har with ⟨rfl, hT, hF⟩ | ⟨gg, rfl, har⟩
  · have hl : S.live = 0 := by unfold St.live; rw [hT, hF]; rfl
    rw [hl]
    exact (alive_nil w).mono fun _ _ ⟨h1, h2⟩ => ⟨h1, 0, h2.symm⟩
  · exact alive_n w har hs rfl
/-- The shape that the document asks for, of a tree. -/
def shapeOf (S : St) : Value := .agg #[.int .i64 S.rt.len, .int .i64 S.rt.ht, .int .i64 ((S.live + 1) / 2 : Nat), .int .i64 S.live]
theorem tshape_nil (w : World) : Calls Tryd.prog 17 #[.pointer none] w fun e w' => e = .returned (.agg #[.int .i64 0, .int .i64 0, .int .i64 0, .int .i64 0]) ∧ Below w.heap.size w w' := by
  have key := tlen_nil (w.alloc (Obj.cells #[.int .i64 0, .int .i64 0, .int .i64 0, .int .i64 0] 35))
  go_enter Tryd.func17, Tryd.ntmps17
  go_wp2_with fail
  (with_reducible refine key.mono ?_); rintro e w1' ⟨rfl, rfl⟩
  go_wp2_with fail
  try simp only [Exit.inBlock, Exit.then]
  refine bodyPost_ret (v := .agg #[.int .i64 0, .int .i64 0, .int .i64 0, .int .i64 0]) (by simp [results, Tryd.results17, go_sem]) rfl ⟨rfl, ?_⟩
  repeat (first | exact Below.refl _ _ | refine Below.drews ?_ | refine Below.allocs ?_ _)
set_option maxHeartbeats 1600000 in
theorem tshape {base t : Nat} {S : St} {m : List Bool} (w : World) (h : Tre base w t S m) (hlen : m.length ≤ 1000000000) :
    Calls Tryd.prog 17 #[.pointer (some ⟨t, 0, none⟩)] w fun e w' => e = .returned (shapeOf S) ∧ Below w.heap.size w w' := by
  have hb0 : Below w.heap.size w (w.alloc (Obj.cells #[.int .i64 0, .int .i64 0, .int .i64 0, .int .i64 0] 35)) := Below.allocs (Below.refl _ _) _
  have h0 : Tre base (w.alloc (Obj.cells #[.int .i64 0, .int .i64 0, .int .i64 0, .int .i64 0] 35)) t S m := ⟨h.1.below hb0, h.2⟩
  have key := tlen _ h0
  have hlv : S.live ≤ 268435456 := by
    have h1 := S.live_le
    obtain ⟨g, a, c, hx⟩ := h.1
    have := hx.sar.tm
    omega
  rcases h.2 with ⟨rfl, h1, _, h3, h4⟩ | ⟨a, h1, h2, h3, h4, rfl, h6, h7, h8⟩
  · have key : Calls Tryd.prog 27 #[.pointer (some ⟨t, 0, none⟩)] (w.alloc (Obj.cells #[.int .i64 0, .int .i64 0, .int .i64 0, .int .i64 0] 35)) fun e w' => e = .returned (.int .i64 0) ∧ (w.alloc (Obj.cells #[.int .i64 0, .int .i64 0, .int .i64 0, .int .i64 0] 35)) = w' := key
    have hsh : shapeOf S = .agg #[.int .i64 0, .int .i64 0, .int .i64 0, .int .i64 0] := by unfold shapeOf; rw [h1, h3, h4]; rfl
    rw [hsh]
    clear h h0 h1 h3 h4 hsh hlv
    go_enter Tryd.func17, Tryd.ntmps17
    go_wp2_with fail
    (with_reducible refine key.mono ?_); rintro e w1' ⟨rfl, rfl⟩
    go_wp2_with fail
    try simp only [Exit.inBlock, Exit.then]
    refine bodyPost_ret (v := .agg #[.int .i64 0, .int .i64 0, .int .i64 0, .int .i64 0]) (by simp [results, Tryd.results17, go_sem]) rfl ⟨rfl, ?_⟩
    repeat (first | exact Below.refl _ _ | refine Below.drews ?_ | refine Below.allocs ?_ _)
  · obtain ⟨L, hL⟩ : ∃ L, a.bits.length = L := ⟨_, rfl⟩
    obtain ⟨V, hV⟩ : ∃ V, S.live = V := ⟨_, rfl⟩
    obtain ⟨H, hH⟩ : ∃ H, (V + 1) / 2 = H := ⟨_, rfl⟩
    obtain ⟨ht, hht⟩ : ∃ ht, S.rt.ht = ht := ⟨_, rfl⟩
    have hSl : S.rt.len = L := by rw [h7, T.lk_len, hL]
    rw [hL] at key h6
    have hHi : ((V : Int) + 1) / 2 = H := by omega
    have hsh : shapeOf S = .agg #[.int .i64 L, .int .i64 ht, .int .i64 H, .int .i64 V] := by unfold shapeOf; rw [hSl, hht, hV, hH]
    rw [hsh]
    have hcc : ∃ p q n c, w.heap[t]? = some (.cells (trv p q n c S.rt S.vis) 61 (0, 0)) := by
      obtain ⟨⟨g, q, c, hh⟩, _⟩ := h
      exact ⟨_, _, _, _, hh.cells⟩
    obtain ⟨p, q, n, c, hc⟩ := hcc
    have KS : ∀ w', Below w.heap.size w w' → w'.cell? ⟨t, 3, none⟩ = some (.int .i64 L) ∧ w'.cell? ⟨t, 5, none⟩ = some (.int .i64 ht) ∧ w'.cell? ⟨t, 0, none⟩ = some (.pointer p) := fun w' hb => by
      have hc' := Below.keptB hb hc (lt_of_block hc)
      have q1 := (cellsT hc').c3
      rw [hSl] at q1
      have q2 := (cellsT hc').c5
      rw [hht] at q2
      exact ⟨q1, q2, (cellsT hc').c0⟩
    obtain ⟨p', hp', keyV⟩ := h0.1.talive
    have ep : p' = p := by
      rw [(KS _ hb0).2.2] at hp'
      injection hp' with hp'
      injection hp' with hp'
      exact hp'.symm
    subst ep
    rw [hV] at keyV hlv
    have hLi : ¬ (L : Int) = 0 := by omega
    have hLb : ((L : Int) == 0) = false := by simp; omega
    have hVi : (V : Int) ≤ 268435456 := by omega
    have htl := lt_of_block hc
    clear h h0 h1 h2 h3 h4 h6 h7 h8 hL hV hH hht hSl hsh hc hlv
    go_enter Tryd.func17, Tryd.ntmps17
    go_wp2_with fail
    (with_reducible refine key.mono ?_); rintro e w1' ⟨rfl, rfl⟩
    go_wp2_with fail
    (with_reducible refine keyV.mono ?_); rintro e w2 ⟨rfl, x, hw2⟩
    have hb2 : Below w.heap.size w w2 := by rw [hw2]; exact hb0.drewN x
    have hr2 : w2.heap[w.heap.size]? = some (Obj.cells #[.int .i64 0, .int .i64 0, .int .i64 0, .int .i64 0] 35) := by rw [hw2]; exact alloc_of
    obtain ⟨k3, k5, _⟩ := KS w2 hb2
    have r0 : w2.cell? ⟨w.heap.size, 0, none⟩ = some (.int .i64 0) := (cell_of hr2).trans rfl
    have r1 : w2.cell? ⟨w.heap.size, 1, none⟩ = some (.int .i64 0) := (cell_of hr2).trans rfl
    have r2 : w2.cell? ⟨w.heap.size, 2, none⟩ = some (.int .i64 0) := (cell_of hr2).trans rfl
    have r3 : w2.cell? ⟨w.heap.size, 3, none⟩ = some (.int .i64 0) := (cell_of hr2).trans rfl
    have q0 : w2.frozen? ⟨w.heap.size, 0, none⟩ = false := free_of hr2
    have q1 : w2.frozen? ⟨w.heap.size, 1, none⟩ = false := free_of hr2
    have q2 : w2.frozen? ⟨w.heap.size, 2, none⟩ = false := free_of hr2
    have q3 : w2.frozen? ⟨w.heap.size, 3, none⟩ = false := free_of hr2
    have e1 : IntKind.i64.wrap ((V : Int) + 1) = (V : Int) + 1 := IntWalk.i64_in _ (by omega)
    have HHI := Lib.hid hHi
    have HB2 := Lib.hid hb2
    clear hr2 hw2 hb0 hb2 KS hp' keyV key
    go_wp2_with fail
    go_region
    all_goals
      go_wp2_with fail
      try simp only [Exit.inBlock, Exit.then]
      refine bodyPost_ret (v := .agg #[.int .i64 L, .int .i64 ht, .int .i64 H, .int .i64 V]) (by simp [results, Tryd.results17, go_sem, *]) rfl ⟨rfl, ?_⟩
      refine Below.drews ?_
      exact (((HB2.out.setCell (p := ⟨w.heap.size, 0, none⟩) (Nat.le_refl _) _).setCell (p := ⟨w.heap.size, 1, none⟩) (Nat.le_refl _) _).setCell (p := ⟨w.heap.size, 2, none⟩) (Nat.le_refl _) _).setCell (p := ⟨w.heap.size, 3, none⟩) (Nat.le_refl _) _
end Go.Proofs.YtfbhcbcpeocmcaaDoor
