/- The document's own answer for symbols (scrimshawref6): Is, Bit, Path: contracts of the walk. Symbols (chapter 6): lists of bytes as they are read; the parts of a text; the contracts of length and All. Stage 6's statements as walks: told, SymLevels, SymPaths, SymTwins, SymOrder. Strings of bytes: what a slice of bytes becomes, and back; sums. No statement stands in it. -/
import Derived.Test.YthbbokoeiifjdaaGreatDoorSy
import Derived.Test.YthbbokoeiifjdaaGreatDoorAre
import Derived.Laws.IdiomStrings
import Derived.Laws.BytesArg
namespace Go.Proofs.YthbbokoeiifjdaaGreatDoor
open Go Go.RowKit

theorem ris (s : Int) (w : World) : Calls Tryz.prog 29 #[.int .i64 s] w fun e w' => e = .returned (.bool (decide (0 ≤ s ∧ s ≤ 256))) ∧ w = w' := by
  by_cases h0 : 0 ≤ s
  · by_cases h1 : s < 257
    · rw [decide_eq_true (p := 0 ≤ s ∧ s ≤ 256) (by omega)]
      go_enter Tryz.func29, Tryz.ntmps29
      go_wp2
      go_ret
      exact ⟨rfl, rfl⟩
    · rw [decide_eq_false (p := 0 ≤ s ∧ s ≤ 256) (by omega)]
      go_enter Tryz.func29, Tryz.ntmps29
      go_wp2
      go_ret
      exact ⟨rfl, rfl⟩
  · rw [decide_eq_false (p := 0 ≤ s ∧ s ≤ 256) (by omega)]
    go_enter Tryz.func29, Tryz.ntmps29
    go_wp2
    go_ret
    exact ⟨rfl, rfl⟩
theorem ris_yes {s : Int} (w : World) (h : 0 ≤ s ∧ s ≤ 256) : Calls Tryz.prog 29 #[.int .i64 s] w fun e w' => e = .returned (.bool true) ∧ w = w' := by
  have := ris s w
  rwa [decide_eq_true (p := 0 ≤ s ∧ s ≤ 256) h] at this
theorem ris_no {s : Int} (w : World) (h : ¬ (0 ≤ s ∧ s ≤ 256)) : Calls Tryz.prog 29 #[.int .i64 s] w fun e w' => e = .returned (.bool false) ∧ w = w' := by
  have := ris s w
  rwa [decide_eq_false (p := 0 ≤ s ∧ s ≤ 256) h] at this
end Go.Proofs.YthbbokoeiifjdaaGreatDoor
namespace Go.Proofs.YthbbokoeiifjdaaGreatDoor
open Go Go.RowKit Go.ChangeAt

/-- The symbols of bytes, without the end. -/
def Sy.of (l : List UInt8) : List Int := l.map fun b => (b.toNat : Int) + 1
theorem Sy.of_len (l : List UInt8) : (Sy.of l).length = l.length := by unfold Sy.of; exact List.length_map _
theorem Sy.of_app (l m : List UInt8) : Sy.of (l ++ m) = Sy.of l ++ Sy.of m := by unfold Sy.of; exact List.map_append
theorem Sy.of_one (b : UInt8) : Sy.of [b] = [(b.toNat : Int) + 1] := rfl
theorem Sy.take_of (l : List UInt8) {m : Nat} (h : m < l.length) : Sy.of (l.take (m + 1)) = Sy.of (l.take m) ++ [((l.getD m 0).toNat : Int) + 1] := by
  rw [List.take_succ_eq_append_getElem h, Sy.of_app, Sy.of_one, List.getD_eq_getElem?_getD, List.getElem?_eq_getElem h]
  rfl

/-- A slice of bytes, as it is read. -/
def RdU (w : World) (a : Option Addr) (cap : Nat) (l : List UInt8) : Prop :=
  l.length ≤ cap ∧ cap ≤ maxLen ∧ (0 < l.length → ∃ b off, a = some ⟨b, off, none⟩ ∧ b < w.heap.size ∧ ∀ i, i < l.length → w.cell? ⟨b, off + i, none⟩ = some (.int .u8 ((l.getD i 0).toNat : Int)))
theorem RdU.nil (w : World) (a : Option Addr) (cap : Nat) (h : cap ≤ maxLen) : RdU w a cap [] := ⟨Nat.zero_le _, h, fun h => absurd h (by decide)⟩
theorem RdU.stay {w w' : World} {S : Nat → Prop} {a : Option Addr} {cap : Nat} {l : List UInt8} (h : RdU w a cap l) (hb : Stay S w w') (hs : 0 < l.length → ∀ ad, a = some ad → ad.block < w.heap.size → ¬ S ad.block) : RdU w' a cap l := by
  obtain ⟨h1, h2, h4⟩ := h
  refine ⟨h1, h2, fun hp => ?_⟩
  obtain ⟨b, off, ha, hlt, hc⟩ := h4 hp
  exact ⟨b, off, ha, Nat.lt_of_lt_of_le hlt hb.size, fun i hi => (hb.cell (p := ⟨b, off + i, none⟩) hlt (hs hp ⟨b, off, none⟩ ha hlt)).trans (hc i hi)⟩
theorem RdU.below {w w' : World} {a : Option Addr} {cap : Nat} {l : List UInt8} (h : RdU w a cap l) (hb : Below w.heap.size w w') : RdU w' a cap l :=
  h.stay (Stay.of_below (S := fun _ => False) hb) (fun _ _ _ _ h => h)
/-- A row of bytes that came in, as it is read. -/
theorem RdU.of_row {w : World} {a : Option Addr} {len cap : Nat} {zs : List Int} (h : IsRow .u8 w a len cap zs) : ∃ l : List UInt8, l.length = len ∧ RdU w a cap l := by
  rcases h with ⟨rfl, rfl, rfl, rfl⟩ | ⟨x, rfl, hlc, hm, hz, hcell, hwf⟩
  · exact ⟨[], rfl, RdU.nil w _ _ (by decide)⟩
  · have hl : ((zs.take len).map fun n => UInt8.ofNat n.toNat).length = len := by rw [List.length_map, List.length_take]; omega
    refine ⟨(zs.take len).map fun n => UInt8.ofNat n.toNat, hl, by omega, hm, fun hpos => ?_⟩
    obtain ⟨b, off, rfl, hc⟩ := ints_at hcell (by omega)
    refine ⟨b, off, rfl, block_lt_of_cell (hc 0 (by omega)), fun i hi => ?_⟩
    have hi2 : i < zs.length := by omega
    have hb := bounds_u8 (hwf (zs[i]) (List.getElem_mem hi2))
    rw [hc i hi2, List.getD_eq_getElem?_getD, List.getD_eq_getElem?_getD, List.getElem?_eq_getElem hi2, List.getElem?_map, List.getElem?_take_of_lt (by omega), List.getElem?_eq_getElem hi2]
    simp
    omega

/-- A slice of slices of bytes, as it is read. -/
def RdP (w : World) (v : Value) (ps : List (List UInt8)) : Prop :=
  ∃ a cap, v = .slice a ps.length cap ∧ ps.length ≤ 1000000 ∧ (0 < ps.length → ∃ b off, a = some ⟨b, off, none⟩ ∧ b < w.heap.size ∧ ∀ i, i < ps.length → ∃ ai ci, w.cell? ⟨b, off + i, none⟩ = some (.slice ai (ps.getD i []).length ci) ∧ RdU w ai ci (ps.getD i []))
theorem RdP.below {w w' : World} {v : Value} {ps : List (List UInt8)} (h : RdP w v ps) (hb : Below w.heap.size w w') : RdP w' v ps := by
  obtain ⟨a, cap, rfl, h1, h2⟩ := h
  refine ⟨a, cap, rfl, h1, fun hp => ?_⟩
  obtain ⟨b, off, rfl, hlt, hc⟩ := h2 hp
  refine ⟨b, off, rfl, Nat.lt_of_lt_of_le hlt hb.size, fun i hi => ?_⟩
  obtain ⟨ai, ci, h3, h4⟩ := hc i hi
  exact ⟨ai, ci, (hb.cell (p := ⟨b, off + i, none⟩) hlt).trans h3, h4.below hb⟩
theorem Sy.flat_take (ps : List (List UInt8)) {m : Nat} (h : m < ps.length) : (ps.take (m + 1)).flatten = (ps.take m).flatten ++ ps.getD m [] := by
  rw [List.take_succ_eq_append_getElem h, List.flatten_append, List.getD_eq_getElem?_getD, List.getElem?_eq_getElem h]
  simp
theorem Sy.flat_le (ps : List (List UInt8)) (m : Nat) : (ps.take m).flatten.length ≤ ps.flatten.length := by
  have h : (ps.take m).flatten ++ (ps.drop m).flatten = ps.flatten := by rw [← List.flatten_append, List.take_append_drop]
  have := congrArg List.length h
  rw [List.length_append] at this
  omega

/-- How many bytes the first m parts have. -/
def Sy.tot (ps : List (List UInt8)) (m : Nat) : Nat := (ps.take m).flatten.length
theorem Sy.tot_succ {ps : List (List UInt8)} {m : Nat} (h : m < ps.length) : Sy.tot ps (m + 1) = Sy.tot ps m + (ps.getD m []).length := by
  unfold Sy.tot; rw [Sy.flat_take ps h, List.length_append]
theorem Sy.tot_le (ps : List (List UInt8)) (m : Nat) : Sy.tot ps m ≤ ps.flatten.length := Sy.flat_le ps m
theorem Sy.tot_all (ps : List (List UInt8)) {m : Nat} (h : ps.length ≤ m) : Sy.tot ps m = ps.flatten.length := by unfold Sy.tot; rw [List.take_of_length_le h]
theorem slen {ps : List (List UInt8)} {v : Value} (N : Nat) (w : World) (h : RdP w v ps) (hN : ps.flatten.length = N) (hm : N ≤ 1000000000) :
    Calls Tryz.prog 64 #[v] w fun e w' => e = .returned (.int .i64 N) ∧ w = w' := by
  obtain ⟨a, cap, rfl, hn, hc⟩ := h
  have HC := Lib.hid hc
  have HN := Lib.hid hN
  clear hc hN
  go_enter Tryz.func64, Tryz.ntmps64
  go_wp2_with fail
  go_loop [3, 8] (fun n i => ∃ m : Nat, m ≤ ps.length ∧ i = .int .i64 m ∧ n = .int .i64 (Sy.tot ps m)) (fun _ i => ps.length - (intOf i).toNat)
  case atStart => exact ⟨0, Nat.zero_le _, rfl, rfl⟩
  case round =>
    obtain ⟨m, hm1, rfl, rfl⟩ := hrel
    by_cases hlt : m < ps.length
    · obtain ⟨b, off, rfl, _, hcell⟩ := HC.out (by omega)
      obtain ⟨ai, ci, hc1, _⟩ := hcell m hlt
      have h1 : (m : Int) < ps.length := by omega
      have hl := Sy.tot_le ps (m + 1)
      rw [HN.out] at hl
      have hs := Sy.tot_succ hlt
      obtain ⟨z, hz⟩ : ∃ z, (ps.getD m []).length = z := ⟨_, rfl⟩
      rw [hz] at hc1
      rw [hz] at hs
      have hb1 : (Sy.tot ps m : Int) ≤ 1000000000 := by omega
      have hb2 : (z : Int) ≤ 1000000000 := by omega
      have HS := Lib.hid hs
      clear hcell hz hs hl
      go_wp2_with fail
      go_round
      case rel => exact ⟨m + 1, by omega, by go_num, by rw [HS.out]; go_num⟩
      case measure => simp [intOf]; omega
    · have h1 : ¬ (m : Int) < ps.length := by omega
      have hfin : Hid (Sy.tot ps m = N) := Lib.hid ((Sy.tot_all ps (by omega)).trans HN.out)
      go_wp2_with fail
      go_ret
      exact ⟨by rw [← hfin.out]; rfl, rfl⟩
theorem OwnI.push {base : Nat} {w : World} {v : Value} {l : List Int} {n : Nat} {k : Int} (hn : l.length = n) (h : w.ownsRow base 3 1 v (n + 1) (l.map (Value.int .i64) ++ [Value.int .i64 k])) : OwnI base w v (l ++ [k]) := by
  subst hn
  unfold OwnI
  rw [List.length_append, List.map_append]
  exact h
theorem u8_rng (b : UInt8) : (0 : Int) ≤ (b.toNat : Int) ∧ (b.toNat : Int) ≤ 255 := by
  have := b.toNat_lt
  omega
set_option maxHeartbeats 800000 in
theorem sall {ps : List (List UInt8)} {v : Value} (w : World) (h : RdP w v ps) (hm : ps.flatten.length ≤ 1000000000) :
    Calls Tryz.prog 44 #[v] w fun e w' => ∃ v, e = .returned v ∧ OwnI w.heap.size w' v (Sy.of ps.flatten ++ [0]) ∧ Below w.heap.size w w' := by
  obtain ⟨i0, hi, hz0, hz1, hz2⟩ := info_parts infoI
  obtain ⟨N, hN⟩ : ∃ N, ps.flatten.length = N := ⟨_, rfl⟩
  rw [hN] at hm
  have key := slen N w h hN hm
  have HP := Lib.hid h
  obtain ⟨a, cap, rfl, hn, hc⟩ := h
  have HC := Lib.hid hc
  have HN := Lib.hid hN
  clear hc hN
  go_enter Tryz.func44, Tryz.ntmps44
  go_wp2_with fail
  (with_reducible refine key.mono ?_); rintro e w1' ⟨rfl, rfl⟩
  clear key
  go_wp2_with (first
    | (at_make; refine wpList_make_own _ rfl _ _ 22 rfl w.heap.size 3 i0 (.int .i64 0) 1 Tryz.underlying22 hi hz0 hz1 .i64 .i64 ((N : Int) + 1) (N + 1) rfl rfl (by omega) (by rw [hz2]; omega) (by unfold maxLen; omega) (Nat.le_refl _) ?_; intro w1 hown1 hgrow1))
  have hb1 : Below w.heap.size w w1 := (Below.refl _ _).grown hgrow1 (Nat.le_refl _) (fun q hq => by cases hq)
  clear hgrow1
  go_wp2_with fail
  go_loopw [3, 14] (fun v i wr => ∃ m : Nat, m ≤ ps.length ∧ i = .int .i64 m ∧ OwnI w.heap.size wr v (Sy.of (ps.take m).flatten) ∧ Below w.heap.size w wr) (fun _ i _ => ps.length - (intOf i).toNat)
  case atStart => exact ⟨0, Nat.zero_le _, rfl, hown1, hb1⟩
  case round =>
    clear hown1 hb1
    obtain ⟨m, hm1, rfl, hown, hb⟩ := hrel
    by_cases hlt : m < ps.length
    · obtain ⟨b, off, rfl, hbb, hcell⟩ := HC.out (by omega)
      obtain ⟨ai, ci, hc1, hr1⟩ := hcell m hlt
      have hc2 := (hb.cell (p := ⟨b, off + m, none⟩) hbb).trans hc1
      have h1 : (m : Int) < ps.length := by omega
      obtain ⟨p, hp⟩ : ∃ p, ps.getD m [] = p := ⟨_, rfl⟩
      obtain ⟨q, hq⟩ : ∃ q, (ps.take m).flatten = q := ⟨_, rfl⟩
      have hl := Sy.flat_le ps (m + 1)
      have hfl := Sy.flat_take ps hlt
      rw [hp, hq] at hfl
      rw [HN.out, hfl, List.length_append] at hl
      rw [hp] at hc2 hr1
      rw [hq] at hown
      have HFL := Lib.hid hfl
      have HR := Lib.hid hr1
      have HL := Lib.hid hl
      obtain ⟨wo, hwo⟩ : ∃ wo : World, wo = wr := ⟨_, rfl⟩
      subst hwo
      have hplen : (p.length : Int) ≤ 1000000000 := by omega
      clear hcell hc1 hp hq hfl hr1 hl
      go_wp2_with fail
      go_loopw [3, 20] (fun v j wr => ∃ k : Nat, k ≤ p.length ∧ j = .int .i64 k ∧ OwnI w.heap.size wr v (Sy.of (q ++ p.take k)) ∧ Below w.heap.size w wr) (fun _ j _ => p.length - (intOf j).toNat)
      case atStart => exact ⟨0, Nat.zero_le _, rfl, by rw [List.take_zero, List.append_nil]; exact hown, hb⟩
      case round =>
        clear hown hb
        obtain ⟨k, hk1, rfl, hown, hb⟩ := hrel
        by_cases hlt2 : k < p.length
        · obtain ⟨b', off', rfl, hbb', hcell'⟩ := HR.out.2.2 (by omega)
          have hc3 := (hb.cell (p := ⟨b', off' + k, none⟩) hbb').trans (hcell' k hlt2)
          have h2 : (k : Int) < p.length := by omega
          have hsz := hb.size
          have hL := HL.out
          have hr := u8_rng (p.getD k 0)
          have htk : Sy.of (q ++ p.take (k + 1)) = Sy.of (q ++ p.take k) ++ [((p.getD k 0).toNat : Int) + 1] := by
            rw [Sy.of_app, Sy.take_of p hlt2, ← List.append_assoc, ← Sy.of_app]
          obtain ⟨M, hM⟩ : ∃ M, Sy.of (q ++ p.take k) = M := ⟨_, rfl⟩
          have hMl : M.length = q.length + k := by rw [← hM, Sy.of_len, List.length_append, List.length_take]; omega
          rw [hM] at hown htk
          obtain ⟨y, hy⟩ : ∃ y : Int, ((p.getD k 0).toNat : Int) = y := ⟨_, rfl⟩
          rw [hy] at hc3 hr htk
          have HTK := Lib.hid htk
          have HML := Lib.hid hMl
          clear hcell' htk hM hy
          have hown' := hown
          unfold OwnI at hown'
          rw [hMl] at hown'
          have key := sof y wr (by omega)
          clear hMl
          go_wp2_with fail
          (with_reducible refine key.mono ?_); rintro e w2' ⟨rfl, rfl⟩
          clear key
          go_wp2_with (first
            | (at_builtin; (refine wpList_append_own _ rfl (.tmp 24) (.tmp 27) 22 rfl w.heap.size 3 i0 (.int .i64 0) 1 8 Tryz.underlying22 hi hz0 hz1 hz2 rfl (by decide) _ _ _ rfl (World.ownsRow.alloc hown' _) ⟨wr.heap.size, 0, none⟩ 1 1 [.int .i64 (y + 1)] rfl rfl (cell_one_new _ _ _) (fun u hu => by simp at hu; subst hu; rfl) (by unfold maxLen; omega) (by omega) (by simp; omega) ?_); intro v3 w3 hown3 hgrow3 hnil3))
          have hb3 : Below w.heap.size w w3 := (hb.alloc hsz _).grown hgrow3 (by simp; omega) (fun q hq => (hown.lt q hq).1)
          go_wp2_with fail
          go_roundw
          case rel => exact ⟨k + 1, by omega, by go_num, by rw [HTK.out]; exact OwnI.push HML.out hown3, hb3⟩
          case measure => simp [intOf]; omega
        · have h2 : ¬ (k : Int) < p.length := by omega
          have hfl2 : Hid (Sy.of (q ++ p.take k) = Sy.of (ps.take (m + 1)).flatten) := Lib.hid (by rw [HFL.out, List.take_of_length_le (by omega)])
          go_wp2_with fail
          go_roundw
          case rel => exact ⟨m + 1, by omega, by go_num, by rw [← hfl2.out]; exact hown, hb⟩
          case measure => simp [intOf]; omega
    · have h1 : ¬ (m : Int) < ps.length := by omega
      have hfin : (ps.take m).flatten = ps.flatten := by rw [List.take_of_length_le (by omega)]
      rw [hfin] at hown
      have hL : (Sy.of ps.flatten).length = N := by rw [Sy.of_len, HN.out]
      have hown' := hown
      unfold OwnI at hown'
      rw [hL] at hown'
      have hsz := hb.size
      have HL := Lib.hid hL
      clear hL hfin
      go_wp2_with (first
            | (at_builtin; (refine wpList_append_own _ rfl (.tmp 31) (.tmp 32) 22 rfl w.heap.size 3 i0 (.int .i64 0) 1 8 Tryz.underlying22 hi hz0 hz1 hz2 rfl (by decide) _ _ _ rfl (World.ownsRow.alloc hown' _) ⟨wr.heap.size, 0, none⟩ 1 1 [.int .i64 0] rfl rfl (cell_one_new _ _ _) (fun u hu => by simp at hu; subst hu; rfl) (by unfold maxLen; omega) (by omega) (by simp; omega) ?_); intro v3 w3 hown3 hgrow3 hnil3))
      have hb3 : Below w.heap.size w w3 := (hb.alloc hsz _).grown hgrow3 (by simp; omega) (fun q hq => (hown.lt q hq).1)
      go_wp2_with fail
      go_ret
      exact ⟨_, rfl, OwnI.push HL.out hown3, hb3⟩
end Go.Proofs.YthbbokoeiifjdaaGreatDoor
namespace Go.Proofs.YthbbokoeiifjdaaGreatDoor
open Go Go.RowKit Go.ChangeAt

theorem sbit_is (s l : Int) (b : Bool) (w : World) (h : Sy.bit s l = b) : Calls Tryz.prog 68 #[.int .i64 s, .int .i64 l] w fun e w' => e = .returned (.bool b) ∧ w = w' := h ▸ sbit s l w
theorem spath_is (s l p : Int) (w : World) (h : Sy.path s l = p) : Calls Tryz.prog 82 #[.int .i64 s, .int .i64 l] w fun e w' => e = .returned (.int .i64 p) ∧ w = w' := h ▸ spath s l w
theorem OwnI.cells {base : Nat} {w : World} {v : Value} {l : List Int} (h : OwnI base w v l) (hne : 0 < l.length) : ∃ b cap, v = .slice (some ⟨b, 0, none⟩) l.length cap ∧ base ≤ b ∧ b < w.heap.size ∧ ∀ i, i < l.length → w.cell? ⟨b, i, none⟩ = some (.int .i64 (l.getD i 0)) := by
  obtain ⟨a, cap, rfl, _, _⟩ := own_form h
  obtain ⟨b, rfl, h1, h2, h3, _⟩ := OwnI.open h hne
  exact ⟨b, cap, rfl, h1, h2, h3⟩

theorem conv_mark (w : World) (x : Value) (l c : Nat) : (convert 24 24 (.slice (some ⟨w.heap.size, 0, none⟩) l c)).run Tryz.prog (w.alloc (.cells #[x] 5)) = .ok (.slice (some ⟨w.heap.size, 0, none⟩) l c) (w.alloc (.cells #[x] 5 (1, 2))) := by
  have hsh : (w.alloc (.cells #[x] 5)).shape? w.heap.size = some (5, 1) := by
    have : (w.alloc (.cells #[x] 5)).heap[w.heap.size]? = some (.cells #[x] 5) := by
      show (w.heap.push (.cells #[x] 5))[w.heap.size]? = _
      simp
    unfold World.shape?
    rw [this]
    rfl
  have hfr : (w.alloc (.cells #[x] 5)).freeze ⟨w.heap.size, 1, none⟩ 1 = w.alloc (.cells #[x] 5 (1, 2)) := by
    have hm : ∀ (a : Array Obj) (x : Obj) (f : Obj → Obj), (a.push x).modify a.size f = a.push (f x) := by
      intro a x f
      apply Array.ext
      · simp
      · intro i h1 h2
        simp only [Array.getElem_modify, Array.getElem_push]
        by_cases h : a.size = i
        · subst h
          simp
        · have hi : i < a.size := by simp at h1; omega
          simp [h, hi]
    unfold World.freeze
    rw [if_neg (by decide)]
    show ({ w.alloc (.cells #[x] 5) with heap := (w.heap.push (.cells #[x] 5)).modify w.heap.size _ } : World) = _
    rw [hm]
    rfl
  simp [convert, run_underlying Tryz.underlying24, run_underlying Tryz.underlying5, markStringish, hsh, hfr]
/-- Slices of one byte, of parts, that were just made. -/
theorem RdU.lit (w : World) {g : Nat} (hg : g = w.heap.size) (b : UInt8) (fr : Nat × Nat) : RdU (w.alloc (.cells #[.int .u8 ((b.toNat : Nat) : Int)] 5 fr)) (some ⟨g, 0, none⟩) 1 [b] := by
  subst hg
  refine ⟨Nat.le_refl _, by decide, fun _ => ⟨w.heap.size, 0, rfl, by simp, fun i hi => ?_⟩⟩
  have h0 : i = 0 := by simp at hi; exact hi
  subst h0
  exact (World.cell?_alloc_mark w _ _ fr 0).trans rfl
theorem RdP.new {w : World} {g : Nat} (hg : g = w.heap.size) {vs : Array Value} {ps : List (List UInt8)} {n : Nat} (hn : ps.length = n) (hm : ps.length ≤ 1000000) (h : ∀ i, i < ps.length → ∃ ai ci, vs[i]? = some (.slice ai (ps.getD i []).length ci) ∧ RdU w ai ci (ps.getD i [])) :
    RdP (w.alloc (.cells vs 24)) (.slice (some ⟨g, 0, none⟩) n n) ps := by
  subst hn hg
  refine ⟨_, _, rfl, hm, fun hp => ⟨w.heap.size, 0, rfl, by simp, fun i hi => ?_⟩⟩
  obtain ⟨ai, ci, h1, h2⟩ := h i hi
  refine ⟨ai, ci, ?_, h2.below ((Below.refl _ _).alloc (Nat.le_refl _) _)⟩
  rw [Nat.zero_add]
  exact new_cell rfl h1
theorem RdP.one {w : World} {g : Nat} (hg : g = w.heap.size) {a : Option Addr} {n c : Nat} {l : List UInt8} (h : RdU w a c l) (hn : l.length = n) : RdP (w.alloc (.cells #[.slice a n c] 24)) (.slice (some ⟨g, 0, none⟩) 1 1) [l] := by
  subst hn
  refine RdP.new hg rfl (by simp) fun i hi => ?_
  have h0 : i = 0 := by simp at hi; exact hi
  subst h0
  exact ⟨a, c, rfl, h⟩
theorem RdP.two {w : World} {g : Nat} (hg : g = w.heap.size) {a b : Option Addr} {n m c d : Nat} {l k : List UInt8} (h : RdU w a c l) (h' : RdU w b d k) (hn : l.length = n) (hm : k.length = m) : RdP (w.alloc (.cells #[.slice a n c, .slice b m d] 24)) (.slice (some ⟨g, 0, none⟩) 2 2) [l, k] := by
  subst hn hm
  refine RdP.new hg rfl (by simp) fun i hi => ?_
  have h0 : i = 0 ∨ i = 1 := by simp at hi; omega
  rcases h0 with rfl | rfl
  · exact ⟨a, c, rfl, h⟩
  · exact ⟨b, d, rfl, h'⟩
theorem RdP.three {w : World} {g : Nat} (hg : g = w.heap.size) {a b e : Option Addr} {n m o c d f : Nat} {l k j : List UInt8} (h : RdU w a c l) (h' : RdU w b d k) (h2 : RdU w e f j) (hn : l.length = n) (hm : k.length = m) (ho : j.length = o) : RdP (w.alloc (.cells #[.slice a n c, .slice b m d, .slice e o f] 24)) (.slice (some ⟨g, 0, none⟩) 3 3) [l, k, j] := by
  subst hn hm ho
  refine RdP.new hg rfl (by simp) fun i hi => ?_
  have h0 : i = 0 ∨ i = 1 ∨ i = 2 := by simp at hi; omega
  rcases h0 with rfl | rfl | rfl
  · exact ⟨a, c, rfl, h⟩
  · exact ⟨b, d, rfl, h'⟩
  · exact ⟨e, f, rfl, h2⟩

theorem told_all (w : World) : Calls Tryz.prog 44 #[.slice (some ⟨w.heap.size + 1 + 1, 0, none⟩) 3 3]
    (((w.alloc (.cells #[.int .u8 97] 5 (1, 2))).alloc (.cells #[.int .u8 0] 5)).alloc (.cells #[.slice (some ⟨w.heap.size, 0, none⟩) 1 1, .slice none 0 0, .slice (some ⟨w.heap.size + 1, 0, none⟩) 1 1] 24))
    fun e w' => ∃ b cap, e = .returned (.slice (some ⟨b, 0, none⟩) 3 cap) ∧ w'.cell? ⟨b, 0, none⟩ = some (.int .i64 98) ∧ w'.cell? ⟨b, 1, none⟩ = some (.int .i64 1) ∧ w'.cell? ⟨b, 2, none⟩ = some (.int .i64 0) ∧ Below w.heap.size w w' := by
  have e1 : (w.alloc (.cells #[.int .u8 97] 5 (1, 2))).heap.size = w.heap.size + 1 := by simp
  have hu1 : RdU (w.alloc (.cells #[.int .u8 97] 5 (1, 2))) (some ⟨w.heap.size, 0, none⟩) 1 [97] := RdU.lit w rfl 97 (1, 2)
  have hu2 : RdU ((w.alloc (.cells #[.int .u8 97] 5 (1, 2))).alloc (.cells #[.int .u8 0] 5)) (some ⟨w.heap.size + 1, 0, none⟩) 1 [0] := RdU.lit _ e1.symm 0 (0, 0)
  have hp := RdP.three (g := w.heap.size + 1 + 1) (by simp) (hu1.below ((Below.refl _ _).alloc (Nat.le_refl _) (.cells #[.int .u8 0] 5))) (RdU.nil _ none 0 (by decide)) hu2 (n := 1) (m := 0) (o := 1) rfl rfl rfl
  refine (sall _ hp (by decide)).mono ?_
  rintro e w' ⟨v, rfl, hown, hb⟩
  have hl : Sy.of [[97], [], [0]].flatten ++ [0] = [98, 1, 0] := rfl
  rw [hl] at hown
  obtain ⟨b, cap, rfl, _, _, hc⟩ := OwnI.cells hown (by decide)
  refine ⟨b, cap, rfl, hc 0 (by decide), hc 1 (by decide), hc 2 (by decide), ?_⟩
  refine Below.trans ((((Below.refl _ _).alloc (Nat.le_refl _) _).alloc (by simp) _).alloc (by simp; omega) _) (hb.mono ?_)
  simp
  omega
end Go.Proofs.YthbbokoeiifjdaaGreatDoor
namespace Go.Proofs.YthbbokoeiifjdaaGreatDoor
open Go Go.RowKit Go.ChangeAt

/-- The string of bytes. -/
def str (l : List UInt8) : ByteArray := ⟨l.toArray⟩
theorem str_size (l : List UInt8) : (str l).size = l.length := by simp [str, ByteArray.size]
theorem str_app (l k : List UInt8) : str l ++ str k = str (l ++ k) := by
  apply ByteArray.ext
  rw [ByteArray.data_append]
  simp [str]
theorem str_nil : str [] = ByteArray.empty := rfl
theorem conv_str {w : World} {a : Option Addr} {cap n : Nat} {l : List UInt8} (h : RdU w a cap l) (hn : l.length = n) : (convert 24 9 (.slice a n cap)).run Tryz.prog w = .ok (.string (str l)) w := by
  subst hn
  cases a with
  | none =>
    have : l = [] := by
      by_cases hp : 0 < l.length
      · obtain ⟨b, off, hb, _⟩ := h.2.2 hp
        cases hb
      · exact List.length_eq_zero_iff.1 (by omega)
    subst this
    exact run_convert_bytes_nil w _ _ Tryz.underlying24 Tryz.underlying5 _ _ _ Tryz.underlying9
  | some ad =>
    refine run_convert_bytes_back w _ _ _ ad cap l Tryz.underlying24 Tryz.underlying5 Tryz.underlying9 fun j hj => ?_
    obtain ⟨b, off, hb, _, hc⟩ := h.2.2 (by omega)
    obtain rfl := Option.some.inj hb
    rw [show (⟨b, off, none⟩ : Addr).add j = ⟨b, off + j, none⟩ by simp [Addr.add], hc j hj, List.getD_eq_getElem?_getD, List.getElem?_eq_getElem hj]
    rfl
/-- The bytes of a string, newly laid. -/
theorem conv_back (w : World) (l : List UInt8) (hl : l.length ≤ 1000000000) : ∃ cap C fr, (∀ n, n = l.length → (convert 9 24 (.string (str l))).run Tryz.prog w = .ok (.slice (some ⟨w.heap.size, 0, none⟩) n cap) (w.drew.alloc (.cells C 5 fr))) ∧
    RdU (w.drew.alloc (.cells C 5 fr)) (some ⟨w.heap.size, 0, none⟩) cap l := by
  have hr := run_bytes_of_string (P := Tryz.prog) w 9 24 5 (str l) Tryz.underlying9 Tryz.underlying24 Tryz.underlying5
  have hge := grownCap_ge w (str l).size 0 5
  have hmx := grownCap_le_maxLen w (str l).size 0 5 (by rw [str_size]; unfold maxLen; omega)
  refine ⟨grownCap w (str l).size 0 5, bytesRow (str l) (grownCap w (str l).size 0 5), ((bytesRow (str l) (grownCap w (str l).size 0 5)).size, (bytesRow (str l) (grownCap w (str l).size 0 5)).size + 1), fun n hn => ?_, ?_⟩
  · subst hn
    rw [hr, str_size]
  · refine ⟨by rw [str_size] at hge; exact hge, hmx, fun hp => ⟨w.heap.size, 0, rfl, by simp, fun i hi => ?_⟩⟩
    rw [Nat.zero_add]
    refine (World.cell?_alloc_mark w.drew _ _ _ i).trans ?_
    rw [bytesRow_at _ _ _ (by simpa [str] using hi)]
    simp [str, List.getD_eq_getElem?_getD, List.getElem?_eq_getElem hi]
end Go.Proofs.YthbbokoeiifjdaaGreatDoor
