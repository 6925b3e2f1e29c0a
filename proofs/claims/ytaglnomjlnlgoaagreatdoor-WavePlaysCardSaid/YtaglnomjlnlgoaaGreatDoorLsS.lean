/- The document's own lists of symbols (scrimshawref6): In, Out, Rank, Select, Level: contracts of the walk. -/
import Derived.Test.YtaglnomjlnlgoaaGreatDoorBlo
import Derived.Test.YtaglnomjlnlgoaaGreatDoorAre
import Derived.Test.YtaglnomjlnlgoaaGreatDoorWv
import Derived.Test.YtaglnomjlnlgoaaGreatDoorSyR
import Derived.Test.YtaglnomjlnlgoaaGreatDoorSm6
namespace Go.Proofs.YtaglnomjlnlgoaaGreatDoor
open Go Go.RowKit Go.ChangeAt

/-- A slice's value, and a piece of it: what 'x[:k]' is read as. -/
theorem take_cells6 {w : World} {l : List Int} {b off : Nat} (h : ∀ i, i < l.length → w.cell? ⟨b, off + i, none⟩ = some (.int .i64 (l.getD i 0))) (k : Nat) (hk : k ≤ l.length) :
    ∀ j u, ((l.take k).map (Value.int .i64))[j]? = some u → w.cell? ((⟨b, off, none⟩ : Addr).add j) = some u := by
  intro j u hu
  have hj : j < k := by
    have := (List.getElem?_eq_some_iff.1 hu).1
    simp at this
    omega
  have h1 := h j (by omega)
  rw [List.getElem?_map, List.getElem?_take_of_lt hj] at hu
  rw [show (⟨b, off, none⟩ : Addr).add j = ⟨b, off + j, none⟩ by simp [Addr.add], h1]
  have hjl : j < l.length := by omega
  rw [List.getElem?_eq_getElem hjl] at hu
  simp at hu
  rw [← hu, List.getD_eq_getElem?_getD, List.getElem?_eq_getElem hjl]
  rfl
theorem drop_cells6 {w : World} {l : List Int} {b off : Nat} (h : ∀ i, i < l.length → w.cell? ⟨b, off + i, none⟩ = some (.int .i64 (l.getD i 0))) (k : Nat) :
    ∀ j u, ((l.drop k).map (Value.int .i64))[j]? = some u → w.cell? ((⟨b, off + k, none⟩ : Addr).add j) = some u := by
  intro j u hu
  rw [List.getElem?_map, List.getElem?_drop] at hu
  have hj : k + j < l.length := by
    apply Nat.lt_of_not_le
    intro h2
    rw [List.getElem?_eq_none h2] at hu
    cases hu
  have h1 := h (k + j) hj
  rw [show (⟨b, off + k, none⟩ : Addr).add j = ⟨b, off + k + j, none⟩ by simp [Addr.add], Nat.add_assoc, h1]
  rw [List.getElem?_eq_getElem hj] at hu
  simp at hu
  rw [← hu, List.getD_eq_getElem?_getD, List.getElem?_eq_getElem hj]
  rfl
theorem tail_addr6 (b off cap k : Nat) (l : List Int) (w : World) (hcap : l.length ≤ cap) (hc : ∀ i, i < l.length → w.cell? ⟨b, off + i, none⟩ = some (.int .i64 (l.getD i 0))) :
    ∃ ad : Addr, (if cap = k then some (⟨b, off, none⟩ : Addr) else some ⟨b, off + k, none⟩) = some ad ∧ ∀ j u, ((l.drop k).map (Value.int .i64))[j]? = some u → w.cell? (ad.add j) = some u := by
  by_cases h : cap = k
  · refine ⟨_, if_pos h, fun j u hu => ?_⟩
    rw [List.drop_of_length_le (by omega)] at hu
    cases hu
  · exact ⟨_, if_neg h, drop_cells6 hc k⟩

set_option maxHeartbeats 400000 in
/-- 'Out': the list without the one at k. -/
theorem r6out_any (l : List Int) (b off cap k : Nat) (w : World) (hk : k < l.length) (hbl : b < w.heap.size) (hl : l.length ≤ 1099511627776) (hcap : l.length ≤ cap) (hmax : cap ≤ maxLen)
    (hc : ∀ i, i < l.length → w.cell? ⟨b, off + i, none⟩ = some (.int .i64 (l.getD i 0))) :
    Calls Tryz.prog 15 #[.slice (some ⟨b, off, none⟩) l.length cap, .int .i64 k] w fun e w' => ∃ v, e = .returned v ∧ OwnI w.heap.size w' v (l.take k ++ l.drop (k + 1)) ∧ Below w.heap.size w w' := by
  obtain ⟨i0, hi, hz0, hz1, hz2⟩ := info_parts infoI
  have h1 : (k : Int) + 1 ≤ l.length := by omega
  have hm : (cap : Int) ≤ 9223372036854775807 := by unfold maxLen at hmax; omega
  have h2 : (k : Int) ≤ cap := by omega
  have h3 : (l.length : Int) ≤ cap := by omega
  have ht : (l.take k).length = k := by rw [List.length_take]; omega
  have hd : (l.drop (k + 1)).length = l.length - (k + 1) := List.length_drop
  have HT := Lib.hid ht
  have HD := Lib.hid hd
  have HC := Lib.hid hc
  obtain ⟨ad, had, hadc⟩ := tail_addr6 b off cap (k + 1) l w hcap hc
  have HA := Lib.hid hadc
  clear ht hd hmax hc hadc
  go_enter Tryz.func15, Tryz.ntmps15
  go_wp2_with (first
    | (at_builtin; (refine wpList_append_own _ rfl (.tmp 6) (.tmp 9) 22 rfl w.heap.size 3 i0 (.int .i64 0) 1 8 Tryz.underlying22 hi hz0 hz1 hz2 rfl (by decide) _ 0 [] rfl (World.ownsRow_made w #[] 0 (Nat.le_refl _) (by decide) rfl) ⟨b, off, none⟩ k cap ((l.take k).map (Value.int .i64)) rfl (by rw [List.length_map, HT.out]; omega) (take_cells6 (fun i hi => (World.cell?_alloc_past _ _ _ hbl).trans (HC.out i hi)) k (by omega)) (ints_one _) (by unfold maxLen; omega) (by omega) (by simp) ?_); intro v1 w1 hown1 hgrow1 hnil1;
       (have hb1 : Below w.heap.size w w1 := ((Below.refl _ _).alloc (Nat.le_refl _) _).grown hgrow1 (by simp) (by intro q hq; cases hq; exact Nat.le_refl _));
       (rw [Nat.zero_add] at hown1); clear hgrow1 hnil1)
    | (at_builtin; (refine wpList_append_own _ rfl (.tmp 11) (.tmp 15) 22 rfl w.heap.size 3 i0 (.int .i64 0) 1 8 Tryz.underlying22 hi hz0 hz1 hz2 rfl (by decide) _ _ _ rfl hown1 ad (l.length - (k + 1)) (cap - (k + 1)) ((l.drop (k + 1)).map (Value.int .i64)) rfl (by rw [List.length_map, HD.out]; omega) (fun j u hu => (hb1.cell (p := ad.add j) (by have := HA.out j u hu; exact block_lt_of_cell this)).trans (HA.out j u hu)) (ints_one _) (by unfold maxLen; omega) (by omega) hb1.size ?_); intro v2 w2 hown2 hgrow2 hnil2))
  go_ret
  have e1 := HT.out
  have e2 := HD.out
  refine ⟨v2, rfl, OwnI.app ?_, hb1.grown hgrow2 hb1.size (fun q hq => (hown1.lt q hq).1)⟩
  rw [e1, e2]
  exact hown2

set_option maxHeartbeats 800000 in
/-- 'In': the list with a bit more at k. -/
theorem r6in_any (l : List Int) (b off cap k : Nat) (x : Int) (w : World) (hk : k ≤ l.length) (hbl : b < w.heap.size) (hl : l.length ≤ 1099511627776) (hcap : l.length ≤ cap) (hmax : cap ≤ maxLen)
    (hc : ∀ i, i < l.length → w.cell? ⟨b, off + i, none⟩ = some (.int .i64 (l.getD i 0))) :
    Calls Tryz.prog 13 #[.slice (some ⟨b, off, none⟩) l.length cap, .int .i64 k, .int .i64 x] w fun e w' => ∃ v, e = .returned v ∧ OwnI w.heap.size w' v (l.take k ++ x :: l.drop k) ∧ Below w.heap.size w w' := by
  obtain ⟨i0, hi, hz0, hz1, hz2⟩ := info_parts infoI
  have h1 : (k : Int) ≤ l.length := by omega
  have hm : (cap : Int) ≤ 9223372036854775807 := by unfold maxLen at hmax; omega
  have h2 : (k : Int) ≤ cap := by omega
  have h3 : (l.length : Int) ≤ cap := by omega
  have ht : (l.take k).length = k := by rw [List.length_take]; omega
  have hd : (l.drop k).length = l.length - k := List.length_drop
  have HT := Lib.hid ht
  have HD := Lib.hid hd
  have HC := Lib.hid hc
  obtain ⟨ad, had, hadc⟩ := tail_addr6 b off cap k l w hcap hc
  have HA := Lib.hid hadc
  clear ht hd hmax hc hadc
  go_enter Tryz.func13, Tryz.ntmps13
  go_wp2_with (first
    | (at_builtin; (refine wpList_append_own _ rfl (.tmp 8) (.tmp 11) 22 rfl w.heap.size 3 i0 (.int .i64 0) 1 8 Tryz.underlying22 hi hz0 hz1 hz2 rfl (by decide) _ 0 [] rfl (World.ownsRow_made w #[] 0 (Nat.le_refl _) (by decide) rfl) ⟨b, off, none⟩ k cap ((l.take k).map (Value.int .i64)) rfl (by rw [List.length_map, HT.out]; omega) (take_cells6 (fun i hi => (World.cell?_alloc_past _ _ _ hbl).trans (HC.out i hi)) k (by omega)) (ints_one _) (by unfold maxLen; omega) (by omega) (by simp) ?_); intro v1 w1 hown1 hgrow1 hnil1;
       (have hb1 : Below w.heap.size w w1 := ((Below.refl _ _).alloc (Nat.le_refl _) _).grown hgrow1 (by simp) (by intro q hq; cases hq; exact Nat.le_refl _));
       (rw [Nat.zero_add] at hown1); clear hgrow1 hnil1))
  have hb2 : Below w.heap.size w (w1.alloc (Obj.cells #[Value.int .i64 x] 3)) := hb1.alloc hb1.size _
  go_region_held3 (fun _ => True) (exact trivial)
    (first
      | (refine step_append_own rfl (.tmp 13) (.tmp 15) 22 rfl w.heap.size 3 i0 (.int .i64 0) 1 8 Tryz.underlying22 hi hz0 hz1 hz2 rfl (by decide) _ _ _ rfl (World.ownsRow.drew (World.ownsRow.alloc hown1 _)) ⟨w1.heap.size, 0, none⟩ 1 1 [.int .i64 x] rfl rfl (cell_one_new _ _ _) (fun u hu => by simp at hu; subst hu; rfl) (by unfold maxLen; omega) (by omega) hb2.size ?_; intro v2 w2 hown2 hgrow2;
         have hb3 : Below w.heap.size w w2 := (hb2.drewN 1).grown hgrow2 hb2.size (fun q hq => (hown1.lt q hq).1))
      | (refine step_append_own rfl (.tmp 16) (.tmp 19) 22 rfl w.heap.size 3 i0 (.int .i64 0) 1 8 Tryz.underlying22 hi hz0 hz1 hz2 rfl (by decide) _ _ _ rfl hown2 ad (l.length - k) (cap - k) ((l.drop k).map (Value.int .i64)) rfl (by rw [List.length_map, HD.out]; omega) (fun j u hu => (hb3.cell (p := ad.add j) (by have := HA.out j u hu; exact block_lt_of_cell this)).trans (HA.out j u hu)) (ints_one _) (by unfold maxLen; omega) (by omega) hb3.size ?_; intro v3 w3 hown3 hgrow3;
         have hb4 : Below w.heap.size w w3 := hb3.grown hgrow3 hb3.size (fun q hq => (hown2.lt q hq).1)))
  go_wp2
  go_ret
  have e1 := HT.out
  have e2 := HD.out
  have hown4 : w3.ownsRow w.heap.size 3 1 v3 (k + 1 + (l.length - k)) ([] ++ List.map (Value.int .i64) (List.take k l) ++ [Value.int .i64 x] ++ List.map (Value.int .i64) (List.drop k l)) := hown3
  refine ⟨v3, rfl, ?_, hb4⟩
  unfold OwnI
  rw [List.length_append, List.length_cons, List.map_append, List.map_cons, e1, e2]
  simp only [List.nil_append, List.append_assoc, List.cons_append] at hown4
  rw [show k + (l.length - k + 1) = k + 1 + (l.length - k) from by omega]
  exact hown4

set_option maxHeartbeats 800000 in
theorem r6in_nil (x : Int) (w : World) :
    Calls Tryz.prog 13 #[.slice none 0 0, .int .i64 0, .int .i64 x] w fun e w' => ∃ v, e = .returned v ∧ OwnI w.heap.size w' v [x] ∧ Below w.heap.size w w' := by
  obtain ⟨i0, hi, hz0, hz1, hz2⟩ := info_parts infoI
  have hown0 := (World.ownsRow_made w (e := 3) (base := w.heap.size) (size := 1) #[] 0 (Nat.le_refl _) (by decide) rfl)
  go_enter Tryz.func13, Tryz.ntmps13
  go_wp2_with (first
    | (at_builtin; (refine wpList_append_own_none rfl (.tmp 8) (.tmp 11) 22 rfl w.heap.size 3 i0 1 Tryz.underlying22 hi _ 0 [] rfl hown0 rfl ?_)))
  have hb1 : Below w.heap.size w (w.alloc (Obj.cells #[] 3)) := (Below.refl _ _).alloc (Nat.le_refl _) _
  generalize w.alloc (Obj.cells #[] 3) = w1 at *
  generalize Value.slice (some { block := w.heap.size, off := 0 }) 0 0 = v1 at *
  have hb2 : Below w.heap.size w (w1.alloc (Obj.cells #[Value.int .i64 x] 3)) := hb1.alloc hb1.size _
  go_region_held3 (fun _ => True) (exact trivial)
    (first
      | (refine step_append_own rfl (.tmp 13) (.tmp 15) 22 rfl w.heap.size 3 i0 (.int .i64 0) 1 8 Tryz.underlying22 hi hz0 hz1 hz2 rfl (by decide) _ _ _ rfl (World.ownsRow.drew (World.ownsRow.alloc hown0 _)) ⟨w1.heap.size, 0, none⟩ 1 1 [.int .i64 x] rfl rfl (cell_one_new _ _ _) (fun u hu => by simp at hu; subst hu; rfl) (by unfold maxLen; omega) (by omega) hb2.size ?_; intro v2 w2 hown2 hgrow2;
         have hb3 : Below w.heap.size w w2 := (hb2.drewN 1).grown hgrow2 hb2.size (fun q hq => (hown0.lt q hq).1))
      | (refine step_append_none rfl (.tmp 16) (.tmp 19) 22 rfl w.heap.size 3 i0 1 Tryz.underlying22 hi _ _ _ rfl hown2 rfl ?_))
  go_wp2
  go_ret
  exact ⟨v2, rfl, hown2, hb3⟩

theorem retI6 {k : IntKind} {a b : Int} (h : a = b) : Ending.returned (.int k a) = .returned (.int k b) := by rw [h]
theorem r6rank {l : List Int} {n : Nat} {a : Option Addr} {cap : Nat} (k s : Int) (w : World) (h : RdL w a cap l) (hn : l.length = n) :
    Calls Tryz.prog 17 #[.slice a n cap, .int .i64 k, .int .i64 s] w fun e w' => e = .returned (.int .i64 (Wv.rk l k.toNat s)) ∧ w = w' := by
  have hm : n ≤ maxLen := by have h1 := h.1; have h2 := h.2.1; rw [hn] at h1; omega
  unfold maxLen at hm
  have HC := Lib.hid h.2.2.2
  have HN := Lib.hid hn
  clear h hn
  go_enter Tryz.func17, Tryz.ntmps17
  go_wp2_with fail
  go_loop [7, 8] (fun c i => ∃ m : Nat, m ≤ n ∧ m ≤ k.toNat ∧ i = .int .i64 m ∧ c = .int .i64 (Wv.rk l m s)) (fun _ i => n - (intOf i).toNat)
  case atStart => exact ⟨0, Nat.zero_le _, Nat.zero_le _, rfl, rfl⟩
  case round =>
    obtain ⟨m, hm1, hm2, rfl, rfl⟩ := hrel
    have hrk := Wv.rk_le l m s
    by_cases hlt : m < n ∧ m < k.toNat
    · obtain ⟨b, off, rfl, _, hcell⟩ := HC.out (by rw [HN.out]; omega)
      have hml : m < l.length := by rw [HN.out]; exact hlt.1
      have hc1 := hcell m hml
      have h1 : (m : Int) < n := by omega
      have h2 : (m : Int) < k := by omega
      have hs := Wv.rk_succ s hml
      have HL := Lib.hid hlt
      have HK := Lib.hid hm2
      obtain ⟨d, hd⟩ : ∃ d, l.getD m 0 = d := ⟨_, rfl⟩
      rw [hd] at hc1 hs
      clear hcell hlt hm2 hml hd
      by_cases hds : d = s
      · subst hds
        have hj : (d == d) = true := by simp
        rw [if_pos rfl] at hs
        have HS := Lib.hid hs
        clear hs
        go_wp2_with fail
        go_round
        case rel => exact ⟨m + 1, by omega, by have := HL.out; omega, by go_num, by rw [HS.out]; go_num⟩
        case measure => simp [intOf]; omega
      · have hj : (d == s) = false := by simpa using hds
        rw [if_neg hds] at hs
        have HS := Lib.hid hs
        clear hs
        go_wp2_with fail
        go_round
        case rel => exact ⟨m + 1, by omega, by have := HL.out; omega, by go_num, by rw [HS.out]; go_num⟩
        case measure => simp [intOf]; omega
    · have HL := Lib.hid hlt
      have hfin : Hid (Wv.rk l m s = Wv.rk l k.toNat s) := by
        by_cases h1 : m < n
        · have : m = k.toNat := by omega
          rw [this]; exact Lib.hid rfl
        · exact Lib.hid (by rw [Wv.rk_all (k := m) s (by rw [HN.out]; omega), Wv.rk_all s (by rw [HN.out]; omega)])
      by_cases h2 : (m : Int) < k
      · have h1 : ¬ (m : Int) < n := by omega
        clear hlt
        go_wp2_with fail
        go_ret
        exact ⟨retI6 (by rw [hfin.out]), rfl⟩
      · clear hlt
        go_wp2_with fail
        go_ret
        exact ⟨retI6 (by rw [hfin.out]), rfl⟩

theorem r6select {l : List Int} {n : Nat} {a : Option Addr} {cap : Nat} (j s : Int) (w : World) (h : RdL w a cap l) (hn : l.length = n) :
    Calls Tryz.prog 21 #[.slice a n cap, .int .i64 j, .int .i64 s] w fun e w' => e = .returned (.int .i64 (Wv.sl l j s)) ∧ w = w' := by
  have hm : n ≤ maxLen := by have h1 := h.1; have h2 := h.2.1; rw [hn] at h1; omega
  unfold maxLen at hm
  have HC := Lib.hid h.2.2.2
  have HN := Lib.hid hn
  clear h hn
  go_enter Tryz.func21, Tryz.ntmps21
  go_wp2_with fail
  go_loop [7, 8] (fun c i => ∃ m : Nat, m ≤ n ∧ i = .int .i64 m ∧ c = .int .i64 (Wv.rk l m s) ∧ (j < 0 ∨ (Wv.rk l m s : Int) ≤ j)) (fun _ i => n - (intOf i).toNat)
  case atStart => exact ⟨0, Nat.zero_le _, rfl, rfl, by have : Wv.rk l 0 s = 0 := rfl; rw [this]; omega⟩
  case round =>
    obtain ⟨m, hm1, rfl, rfl, hj⟩ := hrel
    have hrk := Wv.rk_le l m s
    by_cases hlt : m < n
    · obtain ⟨b, off, rfl, _, hcell⟩ := HC.out (by rw [HN.out]; omega)
      have hml : m < l.length := by rw [HN.out]; exact hlt
      have hc1 := hcell m hml
      have h1 : (m : Int) < n := by omega
      have hs := Wv.rk_succ s hml
      have hof := Lib.hid (fun hb => Wv.sl_of (s := s) hml hb rfl)
      have HJ := Lib.hid hj
      obtain ⟨d, hd⟩ : ∃ d, l.getD m 0 = d := ⟨_, rfl⟩
      rw [hd] at hc1 hs hof
      clear hcell hj hml hd
      by_cases hds : d = s
      · subst hds
        have hdd : (d == d) = true := by simp
        have hof2 := Lib.hid (hof.out rfl)
        rw [if_pos rfl] at hs
        have HS := Lib.hid hs
        clear hs hof
        by_cases hjj : (Wv.rk l m d : Int) = j
        · have hj2 : ((Wv.rk l m d : Int) == j) = true := by simpa using hjj
          have HJJ := Lib.hid hjj
          clear hjj
          go_wp2_with fail
          go_ret
          exact ⟨retI6 (by rw [← HJJ.out, hof2.out]), rfl⟩
        · have hj2 : ((Wv.rk l m d : Int) == j) = false := by simpa using hjj
          have HJJ := Lib.hid hjj
          clear hjj
          go_wp2_with fail
          go_round
          case rel => exact ⟨m + 1, by omega, by go_num, by rw [HS.out]; go_num, by rw [HS.out]; have := HJJ.out; have := HJ.out; omega⟩
          case measure => simp [intOf]; omega
      · have hdd : (d == s) = false := by simpa using hds
        rw [if_neg hds] at hs
        have HS := Lib.hid hs
        clear hs hof
        go_wp2_with fail
        go_round
        case rel => exact ⟨m + 1, by omega, by go_num, by rw [HS.out]; go_num, by rw [HS.out]; exact HJ.out⟩
        case measure => simp [intOf]; omega
    · have hsl := Wv.sl_none (l := l) (j := j) (s := s) (by rw [← Wv.rk_all (k := m) s (by rw [HN.out]; omega)]; exact hj)
      have HS := Lib.hid hsl
      clear hsl hj
      have h1 : ¬ (m : Int) < n := by omega
      go_wp2_with fail
      go_ret
      exact ⟨retI6 HS.out.symm, rfl⟩
end Go.Proofs.YtaglnomjlnlgoaaGreatDoor
