/- The document's own answer for lists of bits (scrimshawref1): contracts of the walk. -/
import Derived.Test.YtbchcppmbpnabaaDoorRefA
import Derived.WalkLawsBesides
import Derived.Laws.Rows
namespace Go.Proofs.YtbchcppmbpnabaaDoor
open Go.RowKit

/-- A slice of bools, as it is read. -/
def RdB (w : World) (v : Value) (l : List Bool) : Prop :=
  (v = .slice none 0 0 ∧ l = []) ∨
  ∃ b off cap, v = .slice (some ⟨b, off, none⟩) l.length cap ∧ l.length ≤ cap ∧ cap ≤ maxLen ∧ ∀ i, i < l.length → w.cell? ⟨b, off + i, none⟩ = some (.bool (l.getD i false))
/-- A slice of bools of the call's own. -/
abbrev OwnB (base : Nat) (w : World) (v : Value) (l : List Bool) : Prop := w.ownsRow base 4 1 v l.length (l.map Value.bool)
theorem OwnB.rd {base : Nat} {w : World} {v : Value} {l : List Bool} (h : OwnB base w v l) : RdB w v l := by
  have h2 := h.2
  rcases h2 with ⟨hv, h0⟩ | ⟨g, cap, cur, hv, hb, hg, hn, hm, hs, ht⟩
  · exact .inl ⟨hv, List.eq_nil_of_length_eq_zero h0⟩
  · refine .inr ⟨g, 0, cap, hv, hn, hm, fun i hi => ?_⟩
    subst hv
    have := World.ownsRow.cellAt (w := w) h i (by omega)
    rw [Nat.zero_add, this]
    simp [hi]

theorem OwnB.push {base : Nat} {w : World} {v : Value} {l : List Bool} {b : Bool} (h : w.ownsRow base 4 1 v (l.length + 1) (l.map Value.bool ++ [Value.bool b])) : OwnB base w v (l ++ [b]) := by
  unfold OwnB
  rw [List.length_append, List.map_append]
  exact h
theorem OwnB.app {base : Nat} {w : World} {v : Value} {l m : List Bool} (h : w.ownsRow base 4 1 v (l.length + m.length) (l.map Value.bool ++ m.map Value.bool)) : OwnB base w v (l ++ m) := by
  unfold OwnB
  rw [List.length_append, List.map_append]
  exact h
/-- A word's bits. -/
def bitsOf (x : Nat) (n : Nat) : List Bool := (List.range n).map x.testBit
theorem bitsOf_len (x n : Nat) : (bitsOf x n).length = n := by simp [bitsOf]
theorem bitsOf_succ (x n : Nat) : bitsOf x (n + 1) = bitsOf x n ++ [x.testBit n] := by simp [bitsOf, List.range_succ]

set_option maxHeartbeats 400000 in
theorem rlist_any (x : Nat) (w : World) (hx : x < 18446744073709551616) :
    Calls Tryd.prog 30 #[.int .u64 x] w fun e w' => ∃ v, e = .returned v ∧ OwnB w.heap.size w' v (bitsOf x 64) ∧ Below w.heap.size w w' := by
  obtain ⟨i0, hi, hz0, hz1, hz2⟩ := info_parts infoB
  go_enter Tryd.func30, Tryd.ntmps30
  go_wp2_with fail
  go_loopw [3, 4] (fun v i wr => ∃ m : Nat, m ≤ 64 ∧ i = .int .i64 m ∧ OwnB w.heap.size wr v (bitsOf x m) ∧ Below w.heap.size w wr) (fun _ i _ => 64 - (intOf i).toNat)
  case atStart => exact ⟨0, Nat.zero_le _, rfl, World.ownsRow_nil _ _ _ _, Below.refl _ _⟩
  case round =>
    obtain ⟨m, hm, rfl, hown, hb⟩ := hrel
    by_cases hlt : m < 64
    · have h2 : (m : Int) < 64 := by omega
      have hsz := hb.size
      have hl := bitsOf_len x m
      go_wp2_with (first
        | (go_at_call 31; refine (rbit_any _ _ _ hx (by omega) (by omega)).mono ?_; rintro e w' ⟨rfl, rfl⟩)
        | (at_builtin; go_loud (refine wpList_append_own _ rfl _ _ 43 rfl w.heap.size 4 i0 (.bool false) 1 1 Tryd.underlying43 hi hz0 hz1 hz2 rfl (by decide) _ _ _ rfl (World.ownsRow.alloc hown _) ⟨wr.heap.size, 0, none⟩ 1 1 [.bool (x.testBit m)] rfl rfl (cell_one_new _ _ _) (fun u hu => by simp at hu; subst hu; rfl) (by rw [hl]; unfold maxLen; omega) (by rw [hl]; omega) (by simp; omega) ?_); intro v' w3 hown' hgrow3 hnil3))
      have hb3 : Below w.heap.size w w3 := (hb.alloc hsz _).grown hgrow3 (by simp; omega) (fun q hq => (hown.lt q hq).1)
      have hr : OwnB w.heap.size w3 v' (bitsOf x (m + 1)) := by rw [bitsOf_succ]; exact OwnB.push hown'
      clear hown' hgrow3 hnil3
      go_roundw
      case rel => exact ⟨m + 1, by omega, by go_num, hr, hb3⟩
      case measure => simp [intOf]; omega
    · have he : m = 64 := by omega
      subst he
      go_wp2
      go_ret
      exact ⟨_, rfl, hown, hb⟩

theorem RdB.below {w w' : World} {v : Value} {l : List Bool} {B : Nat} (h : RdB w v l) (hb : Below B w w') (hlt : ∀ k, v.ownBlock = some k → k < B) : RdB w' v l := by
  rcases h with h | ⟨b, off, cap, hv, h1, h2, h3⟩
  · exact .inl h
  · subst hv
    exact .inr ⟨b, off, cap, rfl, h1, h2, fun i hi => (hb.cell (p := ⟨b, off + i, none⟩) (hlt b rfl)).trans (h3 i hi)⟩

/-- A slice's value, and a piece of it: what 'x[:k]' is read as. -/
theorem take_cells {w : World} {l : List Bool} {b off : Nat} (h : ∀ i, i < l.length → w.cell? ⟨b, off + i, none⟩ = some (.bool (l.getD i false))) (k : Nat) (hk : k ≤ l.length) :
    ∀ j u, ((l.take k).map Value.bool)[j]? = some u → w.cell? ((⟨b, off, none⟩ : Addr).add j) = some u := by
  intro j u hu
  have hj : j < k := by
    have := (List.getElem?_eq_some_iff.1 hu).1
    simp at this
    omega
  have h1 := h j (by omega)
  rw [List.getElem?_map, List.getElem?_take_of_lt hj] at hu
  rw [show (⟨b, off, none⟩ : Addr).add j = ⟨b, off + j, none⟩ by simp [Addr.add], h1]
  have hjl : j < l.length := by omega
  rw [List.getElem?_eq_getElem hjl] at hu
  simp at hu
  rw [← hu, List.getD_eq_getElem?_getD, List.getElem?_eq_getElem hjl]
  rfl
theorem drop_cells {w : World} {l : List Bool} {b off : Nat} (h : ∀ i, i < l.length → w.cell? ⟨b, off + i, none⟩ = some (.bool (l.getD i false))) (k : Nat) :
    ∀ j u, ((l.drop k).map Value.bool)[j]? = some u → w.cell? ((⟨b, off + k, none⟩ : Addr).add j) = some u := by
  intro j u hu
  rw [List.getElem?_map, List.getElem?_drop] at hu
  have hj : k + j < l.length := by
    apply Nat.lt_of_not_le
    intro h2
    rw [List.getElem?_eq_none h2] at hu
    cases hu
  have h1 := h (k + j) hj
  rw [show (⟨b, off + k, none⟩ : Addr).add j = ⟨b, off + k + j, none⟩ by simp [Addr.add], Nat.add_assoc, h1]
  rw [List.getElem?_eq_getElem hj] at hu
  simp at hu
  rw [← hu, List.getD_eq_getElem?_getD, List.getElem?_eq_getElem hj]
  rfl
theorem bools_one (l : List Bool) : ∀ u ∈ l.map Value.bool, u.oneCell' = true := by
  intro u hu
  obtain ⟨b, _, rfl⟩ := List.mem_map.1 hu
  rfl

theorem tail_addr (b off cap k : Nat) (l : List Bool) (w : World) (hcap : l.length ≤ cap) (hc : ∀ i, i < l.length → w.cell? ⟨b, off + i, none⟩ = some (.bool (l.getD i false))) :
    ∃ ad : Addr, (if cap = k then some (⟨b, off, none⟩ : Addr) else some ⟨b, off + k, none⟩) = some ad ∧ ∀ j u, ((l.drop k).map Value.bool)[j]? = some u → w.cell? (ad.add j) = some u := by
  by_cases h : cap = k
  · refine ⟨_, if_pos h, fun j u hu => ?_⟩
    rw [List.drop_of_length_le (by omega)] at hu
    cases hu
  · exact ⟨_, if_neg h, drop_cells hc k⟩

set_option maxHeartbeats 400000 in
/-- 'Out': the list without the one at k. -/
theorem rout_any (l : List Bool) (b off cap k : Nat) (w : World) (hk : k < l.length) (hl : l.length ≤ 1099511627776) (hcap : l.length ≤ cap) (hmax : cap ≤ maxLen)
    (hc : ∀ i, i < l.length → w.cell? ⟨b, off + i, none⟩ = some (.bool (l.getD i false))) :
    Calls Tryd.prog 32 #[.slice (some ⟨b, off, none⟩) l.length cap, .int .i64 k] w fun e w' => ∃ v, e = .returned v ∧ OwnB w.heap.size w' v (l.take k ++ l.drop (k + 1)) ∧ Below w.heap.size w w' := by
  obtain ⟨i0, hi, hz0, hz1, hz2⟩ := info_parts infoB
  have h1 : (k : Int) + 1 ≤ l.length := by omega
  have hm : (cap : Int) ≤ 9223372036854775807 := by unfold maxLen at hmax; omega
  have h2 : (k : Int) ≤ cap := by omega
  have h3 : (l.length : Int) ≤ cap := by omega
  have ht : (l.take k).length = k := by rw [List.length_take]; omega
  have hd : (l.drop (k + 1)).length = l.length - (k + 1) := List.length_drop
  have HT := Lib.hid ht
  have HD := Lib.hid hd
  have hbl : b < w.heap.size := block_lt_of_cell (hc k hk)
  have HC := Lib.hid hc
  obtain ⟨ad, had, hadc⟩ := tail_addr b off cap (k + 1) l w hcap hc
  have HA := Lib.hid hadc
  clear ht hd hmax hc hadc
  go_enter Tryd.func32, Tryd.ntmps32
  go_wp2_with (first
    | (at_builtin; (refine wpList_append_own _ rfl (.tmp 6) (.tmp 9) 43 rfl w.heap.size 4 i0 (.bool false) 1 1 Tryd.underlying43 hi hz0 hz1 hz2 rfl (by decide) _ 0 [] rfl (World.ownsRow_made w #[] 0 (Nat.le_refl _) (by decide) rfl) ⟨b, off, none⟩ k cap ((l.take k).map Value.bool) rfl (by rw [List.length_map, HT.out]; omega) (take_cells (fun i hi => (World.cell?_alloc_past _ _ _ hbl).trans (HC.out i hi)) k (by omega)) (bools_one _) (by unfold maxLen; omega) (by omega) (by simp) ?_); intro v1 w1 hown1 hgrow1 hnil1;
       (have hb1 : Below w.heap.size w w1 := ((Below.refl _ _).alloc (Nat.le_refl _) _).grown hgrow1 (by simp) (by intro q hq; cases hq; exact Nat.le_refl _));
       (rw [Nat.zero_add] at hown1); clear hgrow1 hnil1)
    | (at_builtin; (refine wpList_append_own _ rfl (.tmp 11) (.tmp 15) 43 rfl w.heap.size 4 i0 (.bool false) 1 1 Tryd.underlying43 hi hz0 hz1 hz2 rfl (by decide) _ _ _ rfl hown1 ad (l.length - (k + 1)) (cap - (k + 1)) ((l.drop (k + 1)).map Value.bool) rfl (by rw [List.length_map, HD.out]; omega) (fun j u hu => (hb1.cell (p := ad.add j) (by have := HA.out j u hu; exact block_lt_of_cell this)).trans (HA.out j u hu)) (bools_one _) (by unfold maxLen; omega) (by omega) hb1.size ?_); intro v2 w2 hown2 hgrow2 hnil2))
  go_ret
  have e1 := HT.out
  have e2 := HD.out
  refine ⟨v2, rfl, OwnB.app ?_, hb1.grown hgrow2 hb1.size (fun q hq => (hown1.lt q hq).1)⟩
  rw [e1, e2]
  exact hown2

theorem step_append_own {P : Program} {w : World} {ops : Array Oper} {o : Oper} {a : Act} {K : Act → World → Prop} {Q : Exit → Act → World → Prop} {E : Prop} (hgd : o.guard = none) (s x : Operand) (t : TypeId)
    (ho : o.op = .call { callee := .builtin .append, args := #[s, x], argTypes := #[t, t] })
    (base : Nat) (e : TypeId) (i : TypeInfo) (z : Value) (size bytes : Nat) (ht : P.underlying t = some (.slice e)) (hi : P.info? e = some i) (hz : i.zero = some z)
    (hsize : i.size = size) (hby : i.bytes = bytes) (hzs : z.cells.size = size) (hsz : 0 < size)
    (v : Value) (n : Nat) (xs : List Value) (hs : a.eval s = v) (hown : w.ownsRow base e size v n xs)
    (ad : Addr) (m c : Nat) (news : List Value) (hx : a.eval x = .slice (some ad) m c) (hl : news.length = m * size) (hnews : ∀ j u, news[j]? = some u → w.cell? (ad.add j) = some u) (h1 : ∀ u ∈ news, u.oneCell' = true)
    (h63 : n + m ≤ maxLen) (hbytes : (n + m) * bytes ≤ 140737488355328) (hbase : base ≤ w.heap.size)
    (h : ∀ v' w', w'.ownsRow base e size v' (n + m) (xs ++ news) → w.grownBy w' v.ownBlock → K (a.put o.dst v') w') :
    if Region.wanted o (yielded ops a.tmps) = true then Oper.wp P o a w K Q else E := by
  have hw : Region.wanted o (yielded ops a.tmps) = true := by simp [Region.wanted, hgd]
  rw [if_pos hw]
  exact wp_append_own w s x t ho base e i z size bytes ht hi hz hsize hby hzs hsz v n xs hs hown ad m c news hx hl hnews h1 h63 hbytes hbase fun v' w' h2 h3 _ => h v' w' h2 h3

set_option maxHeartbeats 800000 in
/-- 'In': the list with a bit more at k. -/
theorem rin_any (l : List Bool) (b off cap k : Nat) (x : Bool) (w : World) (hk : k ≤ l.length) (hne : 0 < l.length) (hl : l.length ≤ 1099511627776) (hcap : l.length ≤ cap) (hmax : cap ≤ maxLen)
    (hc : ∀ i, i < l.length → w.cell? ⟨b, off + i, none⟩ = some (.bool (l.getD i false))) :
    Calls Tryd.prog 29 #[.slice (some ⟨b, off, none⟩) l.length cap, .int .i64 k, .bool x] w fun e w' => ∃ v, e = .returned v ∧ OwnB w.heap.size w' v (l.take k ++ x :: l.drop k) ∧ Below w.heap.size w w' := by
  obtain ⟨i0, hi, hz0, hz1, hz2⟩ := info_parts infoB
  have h1 : (k : Int) ≤ l.length := by omega
  have hm : (cap : Int) ≤ 9223372036854775807 := by unfold maxLen at hmax; omega
  have h2 : (k : Int) ≤ cap := by omega
  have h3 : (l.length : Int) ≤ cap := by omega
  have ht : (l.take k).length = k := by rw [List.length_take]; omega
  have hd : (l.drop k).length = l.length - k := List.length_drop
  have HT := Lib.hid ht
  have HD := Lib.hid hd
  have hbl : b < w.heap.size := block_lt_of_cell (hc 0 hne)
  have HC := Lib.hid hc
  obtain ⟨ad, had, hadc⟩ := tail_addr b off cap k l w hcap hc
  have HA := Lib.hid hadc
  clear ht hd hmax hc hadc
  go_enter Tryd.func29, Tryd.ntmps29
  go_wp2_with (first
    | (at_builtin; (refine wpList_append_own _ rfl (.tmp 8) (.tmp 11) 43 rfl w.heap.size 4 i0 (.bool false) 1 1 Tryd.underlying43 hi hz0 hz1 hz2 rfl (by decide) _ 0 [] rfl (World.ownsRow_made w #[] 0 (Nat.le_refl _) (by decide) rfl) ⟨b, off, none⟩ k cap ((l.take k).map Value.bool) rfl (by rw [List.length_map, HT.out]; omega) (take_cells (fun i hi => (World.cell?_alloc_past _ _ _ hbl).trans (HC.out i hi)) k (by omega)) (bools_one _) (by unfold maxLen; omega) (by omega) (by simp) ?_); intro v1 w1 hown1 hgrow1 hnil1;
       (have hb1 : Below w.heap.size w w1 := ((Below.refl _ _).alloc (Nat.le_refl _) _).grown hgrow1 (by simp) (by intro q hq; cases hq; exact Nat.le_refl _));
       (rw [Nat.zero_add] at hown1); clear hgrow1 hnil1))
  have hb2 : Below w.heap.size w (w1.alloc (Obj.cells #[Value.bool x] 4)) := hb1.alloc hb1.size _
  go_region_held3 (fun _ => True) (exact trivial)
    (first
      | (refine step_append_own rfl (.tmp 13) (.tmp 15) 43 rfl w.heap.size 4 i0 (.bool false) 1 1 Tryd.underlying43 hi hz0 hz1 hz2 rfl (by decide) _ _ _ rfl (World.ownsRow.drew (World.ownsRow.alloc hown1 _)) ⟨w1.heap.size, 0, none⟩ 1 1 [.bool x] rfl rfl (cell_one_new _ _ _) (fun u hu => by simp at hu; subst hu; rfl) (by unfold maxLen; omega) (by omega) hb2.size ?_; intro v2 w2 hown2 hgrow2;
         have hb3 : Below w.heap.size w w2 := (hb2.drewN 1).grown hgrow2 hb2.size (fun q hq => (hown1.lt q hq).1))
      | (refine step_append_own rfl (.tmp 16) (.tmp 19) 43 rfl w.heap.size 4 i0 (.bool false) 1 1 Tryd.underlying43 hi hz0 hz1 hz2 rfl (by decide) _ _ _ rfl hown2 ad (l.length - k) (cap - k) ((l.drop k).map Value.bool) rfl (by rw [List.length_map, HD.out]; omega) (fun j u hu => (hb3.cell (p := ad.add j) (by have := HA.out j u hu; exact block_lt_of_cell this)).trans (HA.out j u hu)) (bools_one _) (by unfold maxLen; omega) (by omega) hb3.size ?_; intro v3 w3 hown3 hgrow3;
         have hb4 : Below w.heap.size w w3 := hb3.grown hgrow3 hb3.size (fun q hq => (hown2.lt q hq).1)))
  go_wp2
  go_ret
  have e1 := HT.out
  have e2 := HD.out
  have hown4 : w3.ownsRow w.heap.size 4 1 v3 (k + 1 + (l.length - k)) ([] ++ List.map Value.bool (List.take k l) ++ [Value.bool x] ++ List.map Value.bool (List.drop k l)) := hown3
  refine ⟨v3, rfl, ?_, hb4⟩
  unfold OwnB
  rw [List.length_append, List.length_cons, List.map_append, List.map_cons, e1, e2]
  simp only [List.nil_append, List.append_assoc, List.cons_append] at hown4
  rw [show k + (l.length - k + 1) = k + 1 + (l.length - k) from by omega]
  exact hown4

theorem setbit (y m : Nat) (hy : y < 18446744073709551616) (hm : m < 64) : bits .or .u64 (y : Int) (IntKind.u64.wrap (2 ^ m)) = ((y ||| 2 ^ m : Nat) : Int) := by
  have h1 : 2 ^ m < 2 ^ 64 := Nat.pow_lt_pow_right (by decide) hm
  have e1 : ((2 : Int) ^ m) = ((2 ^ m : Nat) : Int) := by simp
  rw [e1, Wd.wrap64u _ h1, Wd.or64 y hy _ h1]

set_option maxHeartbeats 400000 in
/-- 'word': a list's bits as a word. -/
theorem rword_any (l : List Bool) (b off cap : Nat) (w : World)
    (hc : ∀ i, i < l.length → w.cell? ⟨b, off + i, none⟩ = some (.bool (l.getD i false))) :
    Calls Tryd.prog 28 #[.slice (some ⟨b, off, none⟩) l.length cap] w fun e w' => (∃ y : Nat, e = .returned (.int .u64 y) ∧ y < 18446744073709551616 ∧ ∀ i, i < 64 → y.testBit i = l.getD i false) ∧ w = w' := by
  have HCC := Lib.hid hc
  clear hc
  go_enter Tryd.func28, Tryd.ntmps28
  go_wp2_with fail
  go_loop [3, 4] (fun u i => ∃ m y : Nat, m ≤ l.length ∧ m ≤ 64 ∧ i = .int .i64 m ∧ u = .int .u64 y ∧ y < 18446744073709551616 ∧ ∀ i, i < 64 → y.testBit i = (decide (i < m) && l.getD i false)) (fun _ i => 64 - (intOf i).toNat)
  case atStart => exact ⟨0, 0, Nat.zero_le _, Nat.zero_le _, rfl, rfl, by decide, fun i _ => by simp⟩
  case round =>
    obtain ⟨m, y, hml, hm, rfl, rfl, hy, hbits⟩ := hrel
    have HB := Lib.hid hbits
    clear hbits
    by_cases hlt : m < l.length ∧ m < 64
    · obtain ⟨hlt1, hlt2⟩ := hlt
      have hcell := HCC.out m hlt1
      have h1 : (m : Int) < l.length := by omega
      have h2 : (m : Int) < 64 := by omega
      have hset := setbit y m hy hlt2
      have hlt64 : 2 ^ m < 2 ^ 64 := Nat.pow_lt_pow_right (by decide) hlt2
      cases hb : l.getD m false with
      | true =>
        rw [hb] at hcell
        have HC := Lib.hid hb
        clear hb
        go_wp2
        all_goals
          go_round
          case rel =>
            refine ⟨m + 1, y ||| 2 ^ m, by omega, by omega, by go_num, rfl, Wd.or_lt hy hlt64, fun i hi => ?_⟩
            rw [Nat.testBit_or, HB.out i hi, Nat.testBit_two_pow]
            by_cases e : m = i
            · subst e; rw [HC.out]; simp
            · by_cases e2 : i < m
              · have : i < m + 1 := by omega
                simp [e, e2, this]
              · have : ¬ i < m + 1 := by omega
                simp [e, e2, this]
          case measure => simp [intOf]; omega
      | false =>
        rw [hb] at hcell
        have HC := Lib.hid hb
        clear hb
        go_wp2
        all_goals
          go_round
          case rel =>
            refine ⟨m + 1, y, by omega, by omega, by go_num, rfl, hy, fun i hi => ?_⟩
            rw [HB.out i hi]
            by_cases e : m = i
            · subst e; rw [HC.out]; simp
            · by_cases e2 : i < m
              · have : i < m + 1 := by omega
                simp [e2, this]
              · have : ¬ i < m + 1 := by omega
                simp [e2, this]
          case measure => simp [intOf]; omega
    · have HN := Lib.hid hlt
      have fin : ∀ i, i < 64 → y.testBit i = l.getD i false := fun i hi => by
        rw [HB.out i hi]
        by_cases e2 : i < m
        · simp [e2]
        · have : l.length ≤ i := by omega
          simp [e2, List.getElem?_eq_none this]
      have FIN := Lib.hid fin
      clear fin
      by_cases h1 : m < l.length
      · have h2 : ¬ (m : Int) < 64 := by omega
        have h1' : (m : Int) < l.length := by omega
        clear hlt
        go_wp2
        go_ret
        exact ⟨⟨y, rfl, hy, FIN.out⟩, rfl⟩
      · have h1' : ¬ (m : Int) < l.length := by omega
        clear hlt
        go_wp2
        go_ret
        exact ⟨⟨y, rfl, hy, FIN.out⟩, rfl⟩

theorem bitsOf_getD (x n i : Nat) : (bitsOf x n).getD i false = (decide (i < n) && x.testBit i) := by
  unfold bitsOf
  rw [List.getD_eq_getElem?_getD, List.getElem?_map]
  by_cases h : i < n
  · simp [h]
  · simp [h]
theorem in_getD (l : List Bool) (k : Nat) (b : Bool) (hk : k ≤ l.length) (i : Nat) : (l.take k ++ b :: l.drop k).getD i false = if i < k then l.getD i false else if i = k then b else l.getD (i - 1) false := by
  have ht : (l.take k).length = k := by rw [List.length_take]; omega
  rw [List.getD_eq_getElem?_getD, List.getElem?_append, ht]
  by_cases h1 : i < k
  · rw [if_pos h1, if_pos h1, List.getElem?_take_of_lt h1]; rfl
  · rw [if_neg h1, if_neg h1]
    by_cases h2 : i = k
    · subst h2; simp
    · rw [if_neg h2]
      obtain ⟨d, rfl⟩ : ∃ d, i = k + (d + 1) := ⟨i - k - 1, by omega⟩
      rw [show k + (d + 1) - k = d + 1 from by omega, List.getElem?_cons_succ, List.getElem?_drop, show k + (d + 1) - 1 = k + d from by omega]
      rfl
theorem out_getD (l : List Bool) (k : Nat) (hk : k < l.length) (i : Nat) : (l.take k ++ l.drop (k + 1)).getD i false = if i < k then l.getD i false else l.getD (i + 1) false := by
  have ht : (l.take k).length = k := by rw [List.length_take]; omega
  rw [List.getD_eq_getElem?_getD, List.getElem?_append, ht]
  by_cases h1 : i < k
  · rw [if_pos h1, if_pos h1, List.getElem?_take_of_lt h1]; rfl
  · rw [if_neg h1, if_neg h1, List.getElem?_drop, show k + 1 + (i - k) = i + 1 from by omega]
    rfl

theorem rput_no (x : Nat) (k : Int) (b : Bool) (w : World) (h : k < 0 ∨ 64 ≤ k) :
    Calls Tryd.prog 13 #[.int .u64 x, .int .i64 k, .bool b] w fun e w' => e = .returned (.tuple #[.int .u64 x, .bool false]) ∧ w = w' := by
  by_cases h0 : k < 0
  · clear h
    go_enter Tryd.func13, Tryd.ntmps13
    go_wp2
    go_ret2
    exact ⟨rfl, rfl⟩
  · have h1 : 63 < k := by omega
    have h2 : 0 ≤ k := by omega
    clear h h0
    go_enter Tryd.func13, Tryd.ntmps13
    go_wp2
    go_ret2
    exact ⟨rfl, rfl⟩
theorem rcut_no (x : Nat) (k : Int) (b : Bool) (w : World) (h : k < 0 ∨ 64 ≤ k) :
    Calls Tryd.prog 15 #[.int .u64 x, .int .i64 k, .bool b] w fun e w' => e = .returned (.tuple #[.int .u64 x, .bool false]) ∧ w = w' := by
  by_cases h0 : k < 0
  · clear h
    go_enter Tryd.func15, Tryd.ntmps15
    go_wp2
    go_ret2
    exact ⟨rfl, rfl⟩
  · have h1 : 63 < k := by omega
    have h2 : 0 ≤ k := by omega
    clear h h0
    go_enter Tryd.func15, Tryd.ntmps15
    go_wp2
    go_ret2
    exact ⟨rfl, rfl⟩

/-- A list of the call's own that is not empty: its cells. -/
theorem OwnB.open {base : Nat} {w : World} {v : Value} {l : List Bool} (h : OwnB base w v l) (hne : 0 < l.length) :
    ∃ b cap, v = .slice (some ⟨b, 0, none⟩) l.length cap ∧ base ≤ b ∧ l.length ≤ cap ∧ cap ≤ maxLen ∧ ∀ i, i < l.length → w.cell? ⟨b, 0 + i, none⟩ = some (.bool (l.getD i false)) := by
  have h2 := h.2
  rcases h2 with ⟨hv, h0⟩ | ⟨g, cap, cur, hv, hb, hg, hn, hm, hs, ht⟩
  · omega
  · refine ⟨g, cap, hv, hb, hn, hm, fun i hi => ?_⟩
    subst hv
    have := World.ownsRow.cellAt (w := w) h i (by omega)
    rw [Nat.zero_add, this]
    simp [hi]

set_option maxHeartbeats 400000 in
theorem rput_yes (x : Nat) (k : Nat) (b : Bool) (w : World) (hx : x < 18446744073709551616) (hk : k < 64) :
    Calls Tryd.prog 13 #[.int .u64 x, .int .i64 k, .bool b] w fun e w' => e = .returned (.tuple #[.int .u64 (Wd.put x k b), .bool (x.testBit 63)]) ∧ Below w.heap.size w w' := by
  have h1 : ¬ 63 < (k : Int) := by omega
  have hl := bitsOf_len x 64
  have HL := Lib.hid hl
  clear hl
  go_enter Tryd.func13, Tryd.ntmps13
  go_wp2_with fail
  refine (rlist_any _ _ hx).mono ?_
  rintro e w1 ⟨v1, rfl, hown1, hb1⟩
  obtain ⟨g, cap, rfl, hg, hcap, hmax, hcell⟩ := hown1.open (by rw [HL.out]; decide)
  have HC := Lib.hid hcell
  clear hcell
  go_wp2_with fail
  have hr := rin_any (bitsOf x 64) g 0 cap k b w1 (by rw [HL.out]; omega) (by rw [HL.out]; decide) (by rw [HL.out]; decide) hcap hmax HC.out
  refine hr.mono ?_
  clear hr
  rintro e w2 ⟨v2, rfl, hown2, hb2⟩
  have hlen2 : ((bitsOf x 64).take k ++ b :: (bitsOf x 64).drop k).length = 65 := by have := HL.out; simp; omega
  have hget := fun i => in_getD (bitsOf x 64) k b (by rw [HL.out]; omega) i
  have HG := Lib.hid hget
  clear hget
  generalize (bitsOf x 64).take k ++ b :: (bitsOf x 64).drop k = L2 at *
  obtain ⟨g2, cap2, rfl, hg2, hcap2, hmax2, hcell2⟩ := hown2.open (by omega)
  have HC2 := Lib.hid hcell2
  have HL2 := Lib.hid hlen2
  clear hcell2 hlen2
  go_wp2_with fail
  have hq := rword_any _ g2 0 cap2 w2 HC2.out
  refine hq.mono ?_
  clear hq
  rintro e w3 ⟨⟨y, rfl, hy, hbits⟩, rfl⟩
  have ey : y = Wd.put x k b := Wd.ext64 hy (Wd.put_lt _ _ _) fun i hi => by
    rw [hbits i hi, HG.out i, Wd.testBit_put hk b i hi, bitsOf_getD, bitsOf_getD]
    by_cases h2 : i < k
    · simp [h2, hi]
    · by_cases h3 : i = k
      · simp [h3]
      · have : i - 1 < 64 := by omega
        simp [h2, h3, this]
  subst ey
  clear hbits
  go_wp2_with fail
  refine (rbit_any _ _ _ hx (by decide) (by decide)).mono ?_
  rintro e w' ⟨rfl, rfl⟩
  go_wp2_with fail
  go_ret2
  exact ⟨rfl, hb1.trans (hb2.mono hb1.size)⟩

set_option maxHeartbeats 800000 in
theorem rcut_yes (x : Nat) (k : Nat) (b : Bool) (w : World) (hx : x < 18446744073709551616) (hk : k < 64) :
    Calls Tryd.prog 15 #[.int .u64 x, .int .i64 k, .bool b] w fun e w' => e = .returned (.tuple #[.int .u64 (Wd.cut x k b), .bool (x.testBit k)]) ∧ Below w.heap.size w w' := by
  obtain ⟨i0, hi, hz0, hz1, hz2⟩ := info_parts infoB
  have h1 : ¬ 63 < (k : Int) := by omega
  have hl := bitsOf_len x 64
  have HL := Lib.hid hl
  clear hl
  go_enter Tryd.func15, Tryd.ntmps15
  go_wp2_with fail
  refine (rlist_any _ _ hx).mono ?_
  rintro e w1 ⟨v1, rfl, hown1, hb1⟩
  obtain ⟨g, cap, rfl, hg, hcap, hmax, hcell⟩ := hown1.open (by rw [HL.out]; decide)
  have HC := Lib.hid hcell
  clear hcell
  go_wp2_with fail
  refine (rout_any (bitsOf x 64) g 0 cap k _ (by rw [HL.out]; omega) (by rw [HL.out]; decide) hcap hmax HC.out).mono ?_
  rintro e w2 ⟨v2, rfl, hown2, hb2⟩
  have hlen2 : ((bitsOf x 64).take k ++ (bitsOf x 64).drop (k + 1)).length = 63 := by have := HL.out; simp; omega
  have hown2' : w2.ownsRow w1.heap.size 4 1 v2 63 (((bitsOf x 64).take k ++ (bitsOf x 64).drop (k + 1)).map Value.bool) := by
    have := hown2
    unfold OwnB at this
    rw [hlen2] at this
    exact this
  have HL2 := Lib.hid hlen2
  clear hlen2
  go_wp2_with (first
    | (at_builtin; (refine wpList_append_own _ rfl (.tmp 18) (.tmp 20) 43 rfl w1.heap.size 4 i0 (.bool false) 1 1 Tryd.underlying43 hi hz0 hz1 hz2 rfl (by decide) _ _ _ rfl (World.ownsRow.alloc hown2' _) ⟨w2.heap.size, 0, none⟩ 1 1 [.bool b] rfl rfl (cell_one_new _ _ _) (fun u hu => by simp at hu; subst hu; rfl) (by unfold maxLen; omega) (by omega) (by have := hb2.size; simp; omega) ?_); intro v3 w3 hown3 hgrow3 hnil3))
  have hb3 : Below w1.heap.size w1 w3 := (hb2.alloc hb2.size _).grown hgrow3 (by have := hb2.size; simp; omega) (fun q hq => (hown2.lt q hq).1)
  have hown4 : OwnB w1.heap.size w3 v3 (((bitsOf x 64).take k ++ (bitsOf x 64).drop (k + 1)) ++ [b]) := OwnB.push (by rw [HL2.out]; exact hown3)
  clear hown3 hgrow3 hnil3
  have hget : ∀ i, i < 64 → ((bitsOf x 64).take k ++ (bitsOf x 64).drop (k + 1) ++ [b]).getD i false = if i = 63 then b else if i < k then (bitsOf x 64).getD i false else (bitsOf x 64).getD (i + 1) false := fun i hi => by
    rw [List.getD_eq_getElem?_getD, List.getElem?_append, HL2.out]
    by_cases h63 : i < 63
    · rw [if_pos h63, if_neg (by omega), ← List.getD_eq_getElem?_getD, out_getD _ _ (by rw [HL.out]; omega)]
    · rw [if_neg h63, if_pos (by omega), show i = 63 from by omega]; rfl
  have HG := Lib.hid hget
  have hlen4 : ((bitsOf x 64).take k ++ (bitsOf x 64).drop (k + 1) ++ [b]).length = 64 := by rw [List.length_append, HL2.out]; rfl
  have HL4 := Lib.hid hlen4
  clear hget hlen4
  generalize (bitsOf x 64).take k ++ (bitsOf x 64).drop (k + 1) ++ [b] = L4 at *
  obtain ⟨g2, cap2, rfl, hg2, hcap2, hmax2, hcell2⟩ := hown4.open (by rw [HL4.out]; decide)
  have HC2 := Lib.hid hcell2
  clear hcell2
  have hq := rword_any _ g2 0 cap2 w3 HC2.out
  refine hq.mono ?_
  clear hq
  rintro e w' ⟨⟨y, rfl, hy, hbits⟩, rfl⟩
  have ey : y = Wd.cut x k b := Wd.ext64 hy (Wd.cut_lt _ _ _) fun i hi => by
    rw [hbits i hi, Wd.testBit_cut hx hk b i hi, HG.out i hi, bitsOf_getD, bitsOf_getD]
    by_cases h63 : i = 63
    · subst h63
      have : ¬ 63 < k := by omega
      simp [this]
    · have : i + 1 < 64 := by omega
      simp [h63, hi, this]
  subst ey
  clear hbits
  go_wp2_with fail
  refine (rbit_any _ _ _ hx (by omega) (by omega)).mono ?_
  rintro e w' ⟨rfl, rfl⟩
  rw [Int.toNat_natCast]
  go_wp2_with fail
  go_ret2
  exact ⟨rfl, hb1.trans (hb3.mono hb1.size)⟩
end Go.Proofs.YtbchcppmbpnabaaDoor
