/- Lists of bits in memory: what is read, what is the call's own; the document's own answer for lists (scrimshawref1). -/
import Derived.Test.YtfbhcbcpeocmcaaDoorOwn
import Derived.Test.YtfbhcbcpeocmcaaDoorFrame
import Derived.Test.YtfbhcbcpeocmcaaDoorBlk
import Derived.Outline
import Derived.Deep.RegionHeld3
import Derived.Deep.AppendLies
import Derived.Laws.OwnMore
import Derived.WalkLawsBesides
import Derived.Laws.Rows
import Derived.Lib.Hide
import Derived.BigQuiet
import Derived.Laws.AppendOwnNone
import Derived.LoopTactic
namespace Go.Proofs.YtfbhcbcpeocmcaaDoor
open Go Go.RowKit

/-- A slice of bools, as it is read. -/
def RdB (w : World) (v : Value) (l : List Bool) : Prop :=
  (v = .slice none 0 0 ∧ l = []) ∨
  ∃ b off cap, v = .slice (some ⟨b, off, none⟩) l.length cap ∧ b < w.heap.size ∧ l.length ≤ cap ∧ cap ≤ maxLen ∧ ∀ i, i < l.length → w.cell? ⟨b, off + i, none⟩ = some (.bool (l.getD i false))
theorem OwnB.rd {base : Nat} {w : World} {v : Value} {l : List Bool} (h : OwnB base w v l) : RdB w v l := by
  have h2 := h.2
  rcases h2 with ⟨hv, h0⟩ | ⟨g, cap, cur, hv, hb, hg, hn, hm, hs, ht⟩
  · exact .inl ⟨hv, List.eq_nil_of_length_eq_zero h0⟩
  · refine .inr ⟨g, 0, cap, hv, lt_of_block hg, hn, hm, fun i hi => ?_⟩
    subst hv
    have := World.ownsRow.cellAt (w := w) h i (by omega)
    rw [Nat.zero_add, this]
    simp [hi]
theorem RdB.below {w w' : World} {v : Value} {l : List Bool} (h : RdB w v l) (hb : Below w.heap.size w w') : RdB w' v l := by
  rcases h with h | ⟨b, off, cap, hv, h0, h1, h2, h3⟩
  · exact .inl h
  · exact .inr ⟨b, off, cap, hv, Nat.lt_of_lt_of_le h0 hb.size, h1, h2, fun i hi => (hb.cell (p := ⟨b, off + i, none⟩) h0).trans (h3 i hi)⟩
theorem OwnB.app {base : Nat} {w : World} {v : Value} {l m : List Bool} (h : w.ownsRow base 4 1 v (l.length + m.length) (l.map Value.bool ++ m.map Value.bool)) : OwnB base w v (l ++ m) := by
  unfold OwnB
  rw [List.length_append, List.map_append]
  exact h
/-- A slice's value, and a piece of it: what 'x[:k]' is read as. -/
theorem take_cells {w : World} {l : List Bool} {b off : Nat} (h : ∀ i, i < l.length → w.cell? ⟨b, off + i, none⟩ = some (.bool (l.getD i false))) (k : Nat) (hk : k ≤ l.length) :
    ∀ j u, ((l.take k).map Value.bool)[j]? = some u → w.cell? ((⟨b, off, none⟩ : Addr).add j) = some u := by
  intro j u hu
  have hj : j < k := by
    have := (List.getElem?_eq_some_iff.1 hu).1
    simp at this
    omega
  have h1 := h j (by omega)
  rw [List.getElem?_map, List.getElem?_take_of_lt hj] at hu
  rw [show (⟨b, off, none⟩ : Addr).add j = ⟨b, off + j, none⟩ by simp [Addr.add], h1]
  have hjl : j < l.length := by omega
  rw [List.getElem?_eq_getElem hjl] at hu
  simp at hu
  rw [← hu, List.getD_eq_getElem?_getD, List.getElem?_eq_getElem hjl]
  rfl
theorem drop_cells {w : World} {l : List Bool} {b off : Nat} (h : ∀ i, i < l.length → w.cell? ⟨b, off + i, none⟩ = some (.bool (l.getD i false))) (k : Nat) :
    ∀ j u, ((l.drop k).map Value.bool)[j]? = some u → w.cell? ((⟨b, off + k, none⟩ : Addr).add j) = some u := by
  intro j u hu
  rw [List.getElem?_map, List.getElem?_drop] at hu
  have hj : k + j < l.length := by
    apply Nat.lt_of_not_le
    intro h2
    rw [List.getElem?_eq_none h2] at hu
    cases hu
  have h1 := h (k + j) hj
  rw [show (⟨b, off + k, none⟩ : Addr).add j = ⟨b, off + k + j, none⟩ by simp [Addr.add], Nat.add_assoc, h1]
  rw [List.getElem?_eq_getElem hj] at hu
  simp at hu
  rw [← hu, List.getD_eq_getElem?_getD, List.getElem?_eq_getElem hj]
  rfl
theorem bools_one (l : List Bool) : ∀ u ∈ l.map Value.bool, u.oneCell' = true := by
  intro u hu
  obtain ⟨b, _, rfl⟩ := List.mem_map.1 hu
  rfl

theorem tail_addr (b off cap k : Nat) (l : List Bool) (w : World) (hcap : l.length ≤ cap) (hc : ∀ i, i < l.length → w.cell? ⟨b, off + i, none⟩ = some (.bool (l.getD i false))) :
    ∃ ad : Addr, (if cap = k then some (⟨b, off, none⟩ : Addr) else some ⟨b, off + k, none⟩) = some ad ∧ ∀ j u, ((l.drop k).map Value.bool)[j]? = some u → w.cell? (ad.add j) = some u := by
  by_cases h : cap = k
  · refine ⟨_, if_pos h, fun j u hu => ?_⟩
    rw [List.drop_of_length_le (by omega)] at hu
    cases hu
  · exact ⟨_, if_neg h, drop_cells hc k⟩

set_option maxHeartbeats 400000 in
/-- 'Out': the list without the one at k. -/
theorem rout_any (l : List Bool) (b off cap k : Nat) (w : World) (hk : k < l.length) (hbl : b < w.heap.size) (hl : l.length ≤ 1099511627776) (hcap : l.length ≤ cap) (hmax : cap ≤ maxLen)
    (hc : ∀ i, i < l.length → w.cell? ⟨b, off + i, none⟩ = some (.bool (l.getD i false))) :
    Calls Tryd.prog 23 #[.slice (some ⟨b, off, none⟩) l.length cap, .int .i64 k] w fun e w' => ∃ v, e = .returned v ∧ OwnB w.heap.size w' v (l.take k ++ l.drop (k + 1)) ∧ Below w.heap.size w w' := by
  obtain ⟨i0, hi, hz0, hz1, hz2⟩ := info_parts infoB
  have h1 : (k : Int) + 1 ≤ l.length := by omega
  have hm : (cap : Int) ≤ 9223372036854775807 := by unfold maxLen at hmax; omega
  have h2 : (k : Int) ≤ cap := by omega
  have h3 : (l.length : Int) ≤ cap := by omega
  have ht : (l.take k).length = k := by rw [List.length_take]; omega
  have hd : (l.drop (k + 1)).length = l.length - (k + 1) := List.length_drop
  have HT := Lib.hid ht
  have HD := Lib.hid hd
  have HC := Lib.hid hc
  obtain ⟨ad, had, hadc⟩ := tail_addr b off cap (k + 1) l w hcap hc
  have HA := Lib.hid hadc
  clear ht hd hmax hc hadc
  go_enter Tryd.func23, Tryd.ntmps23
  go_wp2_with (first
    | (at_builtin; (refine wpList_append_own _ rfl (.tmp 6) (.tmp 9) 24 rfl w.heap.size 4 i0 (.bool false) 1 1 Tryd.underlying24 hi hz0 hz1 hz2 rfl (by decide) _ 0 [] rfl (World.ownsRow_made w #[] 0 (Nat.le_refl _) (by decide) rfl) ⟨b, off, none⟩ k cap ((l.take k).map Value.bool) rfl (by rw [List.length_map, HT.out]; omega) (take_cells (fun i hi => (World.cell?_alloc_past _ _ _ hbl).trans (HC.out i hi)) k (by omega)) (bools_one _) (by unfold maxLen; omega) (by omega) (by simp) ?_); intro v1 w1 hown1 hgrow1 hnil1;
       (have hb1 : Below w.heap.size w w1 := ((Below.refl _ _).alloc (Nat.le_refl _) _).grown hgrow1 (by simp) (by intro q hq; cases hq; exact Nat.le_refl _));
       (rw [Nat.zero_add] at hown1); clear hgrow1 hnil1)
    | (at_builtin; (refine wpList_append_own _ rfl (.tmp 11) (.tmp 15) 24 rfl w.heap.size 4 i0 (.bool false) 1 1 Tryd.underlying24 hi hz0 hz1 hz2 rfl (by decide) _ _ _ rfl hown1 ad (l.length - (k + 1)) (cap - (k + 1)) ((l.drop (k + 1)).map Value.bool) rfl (by rw [List.length_map, HD.out]; omega) (fun j u hu => (hb1.cell (p := ad.add j) (by have := HA.out j u hu; exact block_lt_of_cell this)).trans (HA.out j u hu)) (bools_one _) (by unfold maxLen; omega) (by omega) hb1.size ?_); intro v2 w2 hown2 hgrow2 hnil2))
  go_ret
  have e1 := HT.out
  have e2 := HD.out
  refine ⟨v2, rfl, OwnB.app ?_, hb1.grown hgrow2 hb1.size (fun q hq => (hown1.lt q hq).1)⟩
  rw [e1, e2]
  exact hown2

theorem step_append_own {P : Program} {w : World} {ops : Array Oper} {o : Oper} {a : Act} {K : Act → World → Prop} {Q : Exit → Act → World → Prop} {E : Prop} (hgd : o.guard = none) (s x : Operand) (t : TypeId)
    (ho : o.op = .call { callee := .builtin .append, args := #[s, x], argTypes := #[t, t] })
    (base : Nat) (e : TypeId) (i : TypeInfo) (z : Value) (size bytes : Nat) (ht : P.underlying t = some (.slice e)) (hi : P.info? e = some i) (hz : i.zero = some z)
    (hsize : i.size = size) (hby : i.bytes = bytes) (hzs : z.cells.size = size) (hsz : 0 < size)
    (v : Value) (n : Nat) (xs : List Value) (hs : a.eval s = v) (hown : w.ownsRow base e size v n xs)
    (ad : Addr) (m c : Nat) (news : List Value) (hx : a.eval x = .slice (some ad) m c) (hl : news.length = m * size) (hnews : ∀ j u, news[j]? = some u → w.cell? (ad.add j) = some u) (h1 : ∀ u ∈ news, u.oneCell' = true)
    (h63 : n + m ≤ maxLen) (hbytes : (n + m) * bytes ≤ 140737488355328) (hbase : base ≤ w.heap.size)
    (h : ∀ v' w', w'.ownsRow base e size v' (n + m) (xs ++ news) → w.grownBy w' v.ownBlock → K (a.put o.dst v') w') :
    if Region.wanted o (yielded ops a.tmps) = true then Oper.wp P o a w K Q else E := by
  have hw : Region.wanted o (yielded ops a.tmps) = true := by simp [Region.wanted, hgd]
  rw [if_pos hw]
  exact wp_append_own w s x t ho base e i z size bytes ht hi hz hsize hby hzs hsz v n xs hs hown ad m c news hx hl hnews h1 h63 hbytes hbase fun v' w' h2 h3 _ => h v' w' h2 h3

set_option maxHeartbeats 800000 in
/-- 'In': the list with a bit more at k. -/
theorem rin_any (l : List Bool) (b off cap k : Nat) (x : Bool) (w : World) (hk : k ≤ l.length) (hbl : b < w.heap.size) (hl : l.length ≤ 1099511627776) (hcap : l.length ≤ cap) (hmax : cap ≤ maxLen)
    (hc : ∀ i, i < l.length → w.cell? ⟨b, off + i, none⟩ = some (.bool (l.getD i false))) :
    Calls Tryd.prog 20 #[.slice (some ⟨b, off, none⟩) l.length cap, .int .i64 k, .bool x] w fun e w' => ∃ v, e = .returned v ∧ OwnB w.heap.size w' v (l.take k ++ x :: l.drop k) ∧ Below w.heap.size w w' := by
  obtain ⟨i0, hi, hz0, hz1, hz2⟩ := info_parts infoB
  have h1 : (k : Int) ≤ l.length := by omega
  have hm : (cap : Int) ≤ 9223372036854775807 := by unfold maxLen at hmax; omega
  have h2 : (k : Int) ≤ cap := by omega
  have h3 : (l.length : Int) ≤ cap := by omega
  have ht : (l.take k).length = k := by rw [List.length_take]; omega
  have hd : (l.drop k).length = l.length - k := List.length_drop
  have HT := Lib.hid ht
  have HD := Lib.hid hd
  have HC := Lib.hid hc
  obtain ⟨ad, had, hadc⟩ := tail_addr b off cap k l w hcap hc
  have HA := Lib.hid hadc
  clear ht hd hmax hc hadc
  go_enter Tryd.func20, Tryd.ntmps20
  go_wp2_with (first
    | (at_builtin; (refine wpList_append_own _ rfl (.tmp 8) (.tmp 11) 24 rfl w.heap.size 4 i0 (.bool false) 1 1 Tryd.underlying24 hi hz0 hz1 hz2 rfl (by decide) _ 0 [] rfl (World.ownsRow_made w #[] 0 (Nat.le_refl _) (by decide) rfl) ⟨b, off, none⟩ k cap ((l.take k).map Value.bool) rfl (by rw [List.length_map, HT.out]; omega) (take_cells (fun i hi => (World.cell?_alloc_past _ _ _ hbl).trans (HC.out i hi)) k (by omega)) (bools_one _) (by unfold maxLen; omega) (by omega) (by simp) ?_); intro v1 w1 hown1 hgrow1 hnil1;
       (have hb1 : Below w.heap.size w w1 := ((Below.refl _ _).alloc (Nat.le_refl _) _).grown hgrow1 (by simp) (by intro q hq; cases hq; exact Nat.le_refl _));
       (rw [Nat.zero_add] at hown1); clear hgrow1 hnil1))
  have hb2 : Below w.heap.size w (w1.alloc (Obj.cells #[Value.bool x] 4)) := hb1.alloc hb1.size _
  go_region_held3 (fun _ => True) (exact trivial)
    (first
      | (refine step_append_own rfl (.tmp 13) (.tmp 15) 24 rfl w.heap.size 4 i0 (.bool false) 1 1 Tryd.underlying24 hi hz0 hz1 hz2 rfl (by decide) _ _ _ rfl (World.ownsRow.drew (World.ownsRow.alloc hown1 _)) ⟨w1.heap.size, 0, none⟩ 1 1 [.bool x] rfl rfl (cell_one_new _ _ _) (fun u hu => by simp at hu; subst hu; rfl) (by unfold maxLen; omega) (by omega) hb2.size ?_; intro v2 w2 hown2 hgrow2;
         have hb3 : Below w.heap.size w w2 := (hb2.drewN 1).grown hgrow2 hb2.size (fun q hq => (hown1.lt q hq).1))
      | (refine step_append_own rfl (.tmp 16) (.tmp 19) 24 rfl w.heap.size 4 i0 (.bool false) 1 1 Tryd.underlying24 hi hz0 hz1 hz2 rfl (by decide) _ _ _ rfl hown2 ad (l.length - k) (cap - k) ((l.drop k).map Value.bool) rfl (by rw [List.length_map, HD.out]; omega) (fun j u hu => (hb3.cell (p := ad.add j) (by have := HA.out j u hu; exact block_lt_of_cell this)).trans (HA.out j u hu)) (bools_one _) (by unfold maxLen; omega) (by omega) hb3.size ?_; intro v3 w3 hown3 hgrow3;
         have hb4 : Below w.heap.size w w3 := hb3.grown hgrow3 hb3.size (fun q hq => (hown2.lt q hq).1)))
  go_wp2
  go_ret
  have e1 := HT.out
  have e2 := HD.out
  have hown4 : w3.ownsRow w.heap.size 4 1 v3 (k + 1 + (l.length - k)) ([] ++ List.map Value.bool (List.take k l) ++ [Value.bool x] ++ List.map Value.bool (List.drop k l)) := hown3
  refine ⟨v3, rfl, ?_, hb4⟩
  unfold OwnB
  rw [List.length_append, List.length_cons, List.map_append, List.map_cons, e1, e2]
  simp only [List.nil_append, List.append_assoc, List.cons_append] at hown4
  rw [show k + (l.length - k + 1) = k + 1 + (l.length - k) from by omega]
  exact hown4

theorem step_append_none {P : Program} {w : World} {ops : Array Oper} {o : Oper} {a : Act} {K : Act → World → Prop} {Q : Exit → Act → World → Prop} {E : Prop} (hgd : o.guard = none) (s x : Operand) (t : TypeId)
    (ho : o.op = .call { callee := .builtin .append, args := #[s, x], argTypes := #[t, t] })
    (base : Nat) (e : TypeId) (i : TypeInfo) (size : Nat) (ht : P.underlying t = some (.slice e)) (hi : P.info? e = some i)
    (v : Value) (n : Nat) (xs : List Value) (hs : a.eval s = v) (hown : w.ownsRow base e size v n xs) (hx : a.eval x = .slice none 0 0)
    (h : K (a.put o.dst v) w) : if Region.wanted o (yielded ops a.tmps) = true then Oper.wp P o a w K Q else E := by
  have hw : Region.wanted o (yielded ops a.tmps) = true := by simp [Region.wanted, hgd]
  rw [if_pos hw]
  have hrun := run_append_owned_none (P := P) (w := w) base t o.type e i size ht hi v n xs hown
  unfold Oper.wp
  simp [execOp, ho, resolve, invoke, builtin, hs, hx, hrun, Result.andThen]
  exact h

set_option maxHeartbeats 800000 in
theorem rin_nil (x : Bool) (w : World) :
    Calls Tryd.prog 20 #[.slice none 0 0, .int .i64 0, .bool x] w fun e w' => ∃ v, e = .returned v ∧ OwnB w.heap.size w' v [x] ∧ Below w.heap.size w w' := by
  obtain ⟨i0, hi, hz0, hz1, hz2⟩ := info_parts infoB
  have hown0 := (World.ownsRow_made w (e := 4) (base := w.heap.size) (size := 1) #[] 0 (Nat.le_refl _) (by decide) rfl)
  go_enter Tryd.func20, Tryd.ntmps20
  go_wp2_with (first
    | (at_builtin; (refine wpList_append_own_none rfl (.tmp 8) (.tmp 11) 24 rfl w.heap.size 4 i0 1 Tryd.underlying24 hi _ 0 [] rfl hown0 rfl ?_)))
  have hb1 : Below w.heap.size w (w.alloc (Obj.cells #[] 4)) := (Below.refl _ _).alloc (Nat.le_refl _) _
  generalize w.alloc (Obj.cells #[] 4) = w1 at *
  generalize Value.slice (some { block := w.heap.size, off := 0 }) 0 0 = v1 at *
  have hb2 : Below w.heap.size w (w1.alloc (Obj.cells #[Value.bool x] 4)) := hb1.alloc hb1.size _
  go_region_held3 (fun _ => True) (exact trivial)
    (first
      | (refine step_append_own rfl (.tmp 13) (.tmp 15) 24 rfl w.heap.size 4 i0 (.bool false) 1 1 Tryd.underlying24 hi hz0 hz1 hz2 rfl (by decide) _ _ _ rfl (World.ownsRow.drew (World.ownsRow.alloc hown0 _)) ⟨w1.heap.size, 0, none⟩ 1 1 [.bool x] rfl rfl (cell_one_new _ _ _) (fun u hu => by simp at hu; subst hu; rfl) (by unfold maxLen; omega) (by omega) hb2.size ?_; intro v2 w2 hown2 hgrow2;
         have hb3 : Below w.heap.size w w2 := (hb2.drewN 1).grown hgrow2 hb2.size (fun q hq => (hown0.lt q hq).1))
      | (refine step_append_none rfl (.tmp 16) (.tmp 19) 24 rfl w.heap.size 4 i0 1 Tryd.underlying24 hi _ _ _ rfl hown2 rfl ?_))
  go_wp2
  go_ret
  exact ⟨v2, rfl, hown2, hb3⟩

/-- A list of the call's own that is not empty: its cells, which may be written. -/
theorem OwnB.opens {base : Nat} {w : World} {v : Value} {l : List Bool} (h : OwnB base w v l) (hne : 0 < l.length) :
    ∃ b cap, v = .slice (some ⟨b, 0, none⟩) l.length cap ∧ base ≤ b ∧ b < w.heap.size ∧ l.length ≤ cap ∧ cap ≤ maxLen ∧ (∀ i, i < l.length → w.cell? ⟨b, i, none⟩ = some (.bool (l.getD i false))) ∧ ∀ i, w.frozen? ⟨b, i, none⟩ = false := by
  have h2 := h.2
  rcases h2 with ⟨hv, h0⟩ | ⟨g, cap, cur, hv, hb, hg, hn, hm, hs, ht⟩
  · omega
  · refine ⟨g, cap, hv, hb, lt_of_block hg, hn, hm, fun i hi => ?_, fun i => ?_⟩
    · subst hv
      have := World.ownsRow.cellAt (w := w) h i (by omega)
      rw [this]
      simp [hi]
    · subst hv
      exact World.ownsRow.frozenAt (w := w) h i

/- The laws of append at an operation that is guarded ('a || f(append(..))'), where the guard says yes. -/
theorem wpList_wanted {P : Program} {ops : Array Oper} {rest : List Oper} {o : Oper} {a : Act} {w : World} {Q : Exit → Act → World → Prop} (hw : Region.wanted o (yielded ops a.tmps) = true)
    (h : ∀ K : Act → World → Prop, (∀ a w, wpList P ops Q rest a w → K a w) → o.wp P a w K Q) : wpList P ops Q (o :: rest) a w :=
  wpList_step fun K hK => by rw [if_pos hw]; exact h K hK
theorem append_own_g {P : Program} (w : World) {ops : Array Oper} {rest : List Oper} {o : Oper} {a : Act} {Q : Exit → Act → World → Prop} (hw : Region.wanted o (yielded ops a.tmps) = true) (s x : Operand) (t : TypeId)
    (ho : o.op = .call { callee := .builtin .append, args := #[s, x], argTypes := #[t, t] })
    (base : Nat) (e : TypeId) (i : TypeInfo) (z : Value) (size bytes : Nat) (ht : P.underlying t = some (.slice e)) (hi : P.info? e = some i) (hz : i.zero = some z)
    (hsize : i.size = size) (hby : i.bytes = bytes) (hzs : z.cells.size = size) (hsz : 0 < size)
    (v : Value) (n : Nat) (xs : List Value) (hs : a.eval s = v) (hown : w.ownsRow base e size v n xs)
    (ad : Addr) (m c : Nat) (news : List Value) (hx : a.eval x = .slice (some ad) m c) (hl : news.length = m * size) (hnews : ∀ j u, news[j]? = some u → w.cell? (ad.add j) = some u) (h1 : ∀ u ∈ news, u.oneCell' = true)
    (h63 : n + m ≤ maxLen) (hbytes : (n + m) * bytes ≤ 140737488355328) (hbase : base ≤ w.heap.size)
    (h : ∀ v' w', w'.ownsRow base e size v' (n + m) (xs ++ news) → w.grownBy w' v.ownBlock → wpList P ops Q rest (a.put o.dst v') w') : wpList P ops Q (o :: rest) a w :=
  wpList_wanted hw fun K hK => wp_append_own w s x t ho base e i z size bytes ht hi hz hsize hby hzs hsz v n xs hs hown ad m c news hx hl hnews h1 h63 hbytes hbase fun v' w' h2 h3 _ => hK _ _ (h v' w' h2 h3)
theorem append_none_g {P : Program} {w : World} {ops : Array Oper} {rest : List Oper} {o : Oper} {a : Act} {Q : Exit → Act → World → Prop} (hw : Region.wanted o (yielded ops a.tmps) = true) (s x : Operand) (t : TypeId)
    (ho : o.op = .call { callee := .builtin .append, args := #[s, x], argTypes := #[t, t] })
    (base : Nat) (e : TypeId) (i : TypeInfo) (size : Nat) (ht : P.underlying t = some (.slice e)) (hi : P.info? e = some i)
    (v : Value) (n : Nat) (xs : List Value) (hs : a.eval s = v) (hown : w.ownsRow base e size v n xs) (hx : a.eval x = .slice none 0 0)
    (h : wpList P ops Q rest (a.put o.dst v) w) : wpList P ops Q (o :: rest) a w :=
  wpList_wanted hw fun _ hK => by
    have hrun := run_append_owned_none (P := P) (w := w) base t o.type e i size ht hi v n xs hown
    unfold Oper.wp
    simp [execOp, ho, resolve, invoke, builtin, hs, hx, hrun, Result.andThen]
    exact hK _ _ h
end Go.Proofs.YtfbhcbcpeocmcaaDoor
