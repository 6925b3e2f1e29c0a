/- How often a number stands in a list's beginning; a slice of the call's own that grew by one: facts, and the document's Rank (scrimshawref6): a contract of the walk. Layer 9's statements as walks: SortedAhead, SortedTwice. The document's own rows (scrimshawref6): In, less, Rows, Last: contracts of the walk. The document's own transform and its way back (scrimshawref6): Last, Good, Below, Back: contracts of the walk. The document's own way back (scrimshawref6's Back): a contract of the walk. -/
import Derived.Test.YthbbokoeiifjdaaGreatDoorAre
import Derived.Test.YthbbokoeiifjdaaGreatDoorSoh
import Derived.Test.YthbbokoeiifjdaaGreatDoorSyg
namespace Go.Proofs.YthbbokoeiifjdaaGreatDoor
open Go Go.RowKit Go.ChangeAt
namespace Lr
def rk (l : List Int) (k : Nat) (s : Int) : Nat := (l.take k).count s
theorem rk_all {l : List Int} {k : Nat} (s : Int) (h : l.length ≤ k) : rk l k s = l.count s := by unfold rk; rw [List.take_of_length_le h]
theorem rk_succ {l : List Int} {k : Nat} (s : Int) (h : k < l.length) : rk l (k + 1) s = rk l k s + if l.getD k 0 = s then 1 else 0 := by
  unfold rk
  rw [List.take_succ_eq_append_getElem h, List.count_append, List.getD_eq_getElem?_getD, List.getElem?_eq_getElem h]
  simp [List.count_cons]
theorem rk_le (l : List Int) (k : Nat) (s : Int) : rk l k s ≤ k := by unfold rk; exact Nat.le_trans List.count_le_length (List.length_take_le _ _)
theorem retI {k : IntKind} {a b : Int} (h : a = b) : Ending.returned (.int k a) = .returned (.int k b) := by rw [h]
theorem push {base : Nat} {w : World} {v : Value} {l : List Int} {n : Nat} {k : Int} (hn : l.length = n) (h : w.ownsRow base 3 1 v (n + 1) (l.map (Value.int .i64) ++ [Value.int .i64 k])) : OwnI base w v (l ++ [k]) := by
  subst hn
  unfold OwnI
  rw [List.length_append, List.map_append]
  exact h
theorem form {base : Nat} {w : World} {v : Value} {l : List Int} (n : Nat) (h : OwnI base w v l) (hn : l.length = n) : ∃ a cap, v = .slice a n cap ∧ RdL w a cap l := by
  subst hn
  obtain ⟨a, cap, rfl, _, _⟩ := own_form h
  exact ⟨a, cap, rfl, OwnI.rd h⟩
end Lr
theorem r6rk {l : List Int} {n : Nat} {a : Option Addr} {cap : Nat} (k s : Int) (w : World) (h : RdL w a cap l) (hn : l.length = n) :
    Calls Tryz.prog 31 #[.slice a n cap, .int .i64 k, .int .i64 s] w fun e w' => e = .returned (.int .i64 (Lr.rk l k.toNat s)) ∧ w = w' := by
  have hm : n ≤ maxLen := by have h1 := h.1; have h2 := h.2.1; rw [hn] at h1; omega
  unfold maxLen at hm
  have HC := Lib.hid h.2.2.2
  have HN := Lib.hid hn
  clear h hn
  go_enter Tryz.func31, Tryz.ntmps31
  go_wp2_with fail
  go_loop [7, 8] (fun c i => ∃ m : Nat, m ≤ n ∧ m ≤ k.toNat ∧ i = .int .i64 m ∧ c = .int .i64 (Lr.rk l m s)) (fun _ i => n - (intOf i).toNat)
  case atStart => exact ⟨0, Nat.zero_le _, Nat.zero_le _, rfl, rfl⟩
  case round =>
    obtain ⟨m, hm1, hm2, rfl, rfl⟩ := hrel
    have hrk := Lr.rk_le l m s
    by_cases hlt : m < n ∧ m < k.toNat
    · obtain ⟨b, off, rfl, _, hcell⟩ := HC.out (by rw [HN.out]; omega)
      have hml : m < l.length := by rw [HN.out]; exact hlt.1
      have hc1 := hcell m hml
      have h1 : (m : Int) < n := by omega
      have h2 : (m : Int) < k := by omega
      have hs := Lr.rk_succ s hml
      have HL := Lib.hid hlt
      have HK := Lib.hid hm2
      obtain ⟨d, hd⟩ : ∃ d, l.getD m 0 = d := ⟨_, rfl⟩
      rw [hd] at hc1 hs
      clear hcell hlt hm2 hml hd
      by_cases hds : d = s
      · subst hds
        have hj : (d == d) = true := by simp
        rw [if_pos rfl] at hs
        have HS := Lib.hid hs
        clear hs
        go_wp2_with fail
        go_round
        case rel => exact ⟨m + 1, by omega, by have := HL.out; omega, by go_num, by rw [HS.out]; go_num⟩
        case measure => simp [intOf]; omega
      · have hj : (d == s) = false := by simpa using hds
        rw [if_neg hds] at hs
        have HS := Lib.hid hs
        clear hs
        go_wp2_with fail
        go_round
        case rel => exact ⟨m + 1, by omega, by have := HL.out; omega, by go_num, by rw [HS.out]; go_num⟩
        case measure => simp [intOf]; omega
    · have HL := Lib.hid hlt
      have hfin : Hid (Lr.rk l m s = Lr.rk l k.toNat s) := by
        by_cases h1 : m < n
        · have : m = k.toNat := by omega
          rw [this]; exact Lib.hid rfl
        · exact Lib.hid (by rw [Lr.rk_all (k := m) s (by rw [HN.out]; omega), Lr.rk_all s (by rw [HN.out]; omega)])
      by_cases h2 : (m : Int) < k
      · have h1 : ¬ (m : Int) < n := by omega
        clear hlt
        go_wp2_with fail
        go_ret
        exact ⟨Lr.retI (by rw [hfin.out]), rfl⟩
      · clear hlt
        go_wp2_with fail
        go_ret
        exact ⟨Lr.retI (by rw [hfin.out]), rfl⟩
end Go.Proofs.YthbbokoeiifjdaaGreatDoor
namespace Go.Proofs.YthbbokoeiifjdaaGreatDoor
open Go Go.RowKit Go.ChangeAt

/-- 'append(s, t...)' of bytes, t a slice of the call's own, nil or not. -/
theorem append_u {w : World} {ops : Array Oper} {rest : List Oper} {o : Oper} {a : Act} {Q : Exit → Act → World → Prop} (hgd : o.guard = none) (s x : Operand)
    (ho : o.op = .call { callee := .builtin .append, args := #[s, x], argTypes := #[24, 24] })
    (base base2 : Nat) (v : Value) (n : Nat) (xs : List Value) (hs : a.eval s = v) (hown : w.ownsRow base 5 1 v n xs) (u : Value) (t : List UInt8) (hx : a.eval x = u) (hu : OwnU base2 w u t)
    (h63 : n + t.length ≤ 1000000000) (hbase : base ≤ w.heap.size)
    (h : ∀ v' w', w'.ownsRow base 5 1 v' (n + t.length) (xs ++ byv t) → w.grownBy w' v.ownBlock → wpList Tryz.prog ops Q rest (a.put o.dst v') w') : wpList Tryz.prog ops Q (o :: rest) a w := by
  obtain ⟨i0, hi, hz0, hz1, hz2⟩ := info_parts infoU
  have hu' := hu
  rcases hu.2 with ⟨hv, h0⟩ | ⟨g, cap, cur, hv, hb, hg, hn, hm, hsz, ht⟩
  · have htn : t = [] := List.length_eq_zero_iff.1 h0
    subst htn
    refine wpList_append_own_none hgd s x 24 ho base 5 i0 1 Tryz.underlying24 hi v n xs hs hown (hx.trans hv) ?_
    refine h v w ?_ (World.grownBy.refl w _)
    rw [show byv [] = [] from rfl, List.append_nil]
    exact hown
  · subst hv
    refine wpList_append_own w hgd s x 24 ho base 5 i0 (.int .u8 0) 1 1 Tryz.underlying24 hi hz0 hz1 hz2 rfl (by decide) v n xs hs hown ⟨g, 0, none⟩ t.length cap (byv t) hx (by rw [byv_len]; omega) (World.ownsRow.cells hu' rfl) (byv_one t) (by unfold maxLen; omega) (by omega) hbase fun v' w' h1 h2 _ => h v' w' h1 h2

/-- What stands behind the first d places, counted from there, in the order of rows. -/
def lateL (d : Nat) (R : List Nat) : List Int := (R.filter fun p => decide (d ≤ p)).map fun p => ((p - d : Nat) : Int)
theorem late_next {d : Nat} {R : List Nat} {k : Nat} (hk : k < R.length) : lateL d (R.take (k + 1)) = if d ≤ R.getD k 0 then lateL d (R.take k) ++ [((R.getD k 0 - d : Nat) : Int)] else lateL d (R.take k) := by
  unfold lateL
  rw [List.take_succ_eq_append_getElem hk, List.filter_append, List.map_append, List.getD_eq_getElem?_getD, List.getElem?_eq_getElem hk]
  by_cases h : d ≤ R[k]
  · rw [if_pos (by exact h)]
    simp [h]
  · rw [if_neg (by exact h)]
    simp [h]
theorem late_few (d : Nat) (R : List Nat) (k : Nat) : (lateL d (R.take k)).length ≤ k := by
  unfold lateL
  rw [List.length_map]
  exact Nat.le_trans (List.length_filter_le _ _) (List.length_take_le _ _)
theorem late_all {A t : List UInt8} {d : Nat} (hd : A.length = d) : lateL d (Rx (A ++ t)) = rxi t := by
  have h1 := Rx_is (A ++ t)
  rw [ub_app, Bw.sy_app] at h1
  have h2 := h1.tail
  rw [List.length_map, ub_len, hd] at h2
  have h3 := h2.unique (Rx_is t)
  unfold rxi
  rw [← h3, List.map_map]
  rfl
theorem ahead_cells (m : Nat) : ((m : Int) + 1 + 1 == (m : Int) + 1 + 1) = true := by simp

end Go.Proofs.YthbbokoeiifjdaaGreatDoor
namespace Go.Proofs.YthbbokoeiifjdaaGreatDoor
open Go Go.RowKit Go.ChangeAt

theorem step_append_own6 {P : Program} {w : World} {ops : Array Oper} {o : Oper} {a : Act} {K : Act → World → Prop} {Q : Exit → Act → World → Prop} {E : Prop} (hgd : o.guard = none) (s x : Operand) (t : TypeId)
    (ho : o.op = .call { callee := .builtin .append, args := #[s, x], argTypes := #[t, t] })
    (base : Nat) (e : TypeId) (i : TypeInfo) (z : Value) (size bytes : Nat) (ht : P.underlying t = some (.slice e)) (hi : P.info? e = some i) (hz : i.zero = some z)
    (hsize : i.size = size) (hby : i.bytes = bytes) (hzs : z.cells.size = size) (hsz : 0 < size)
    (v : Value) (n : Nat) (xs : List Value) (hs : a.eval s = v) (hown : w.ownsRow base e size v n xs)
    (ad : Addr) (m c : Nat) (news : List Value) (hx : a.eval x = .slice (some ad) m c) (hl : news.length = m * size) (hnews : ∀ j u, news[j]? = some u → w.cell? (ad.add j) = some u) (h1 : ∀ u ∈ news, u.oneCell' = true)
    (h63 : n + m ≤ maxLen) (hbytes : (n + m) * bytes ≤ 140737488355328) (hbase : base ≤ w.heap.size)
    (h : ∀ v' w', w'.ownsRow base e size v' (n + m) (xs ++ news) → w.grownBy w' v.ownBlock → K (a.put o.dst v') w') :
    if Region.wanted o (yielded ops a.tmps) = true then Oper.wp P o a w K Q else E := by
  have hw : Region.wanted o (yielded ops a.tmps) = true := by simp [Region.wanted, hgd]
  rw [if_pos hw]
  exact wp_append_own w s x t ho base e i z size bytes ht hi hz hsize hby hzs hsz v n xs hs hown ad m c news hx hl hnews h1 h63 hbytes hbase fun v' w' h2 h3 _ => h v' w' h2 h3

theorem step_append_none6 {P : Program} {w : World} {ops : Array Oper} {o : Oper} {a : Act} {K : Act → World → Prop} {Q : Exit → Act → World → Prop} {E : Prop} (hgd : o.guard = none) (s x : Operand) (t : TypeId)
    (ho : o.op = .call { callee := .builtin .append, args := #[s, x], argTypes := #[t, t] })
    (base : Nat) (e : TypeId) (i : TypeInfo) (size : Nat) (ht : P.underlying t = some (.slice e)) (hi : P.info? e = some i)
    (v : Value) (n : Nat) (xs : List Value) (hs : a.eval s = v) (hown : w.ownsRow base e size v n xs) (hx : a.eval x = .slice none 0 0)
    (h : K (a.put o.dst v) w) : if Region.wanted o (yielded ops a.tmps) = true then Oper.wp P o a w K Q else E := by
  have hw : Region.wanted o (yielded ops a.tmps) = true := by simp [Region.wanted, hgd]
  rw [if_pos hw]
  have hrun := run_append_owned_none (P := P) (w := w) base t o.type e i size ht hi v n xs hown
  unfold Oper.wp
  simp [execOp, ho, resolve, invoke, builtin, hs, hx, hrun, Result.andThen]
  exact h

/-- A slice's value, and a piece of it: what 'x[:k]' is read as. -/
theorem take_cells6 {w : World} {l : List Int} {b off : Nat} (h : ∀ i, i < l.length → w.cell? ⟨b, off + i, none⟩ = some (.int .i64 (l.getD i 0))) (k : Nat) (hk : k ≤ l.length) :
    ∀ j u, ((l.take k).map (Value.int .i64))[j]? = some u → w.cell? ((⟨b, off, none⟩ : Addr).add j) = some u := by
  intro j u hu
  have hj : j < k := by
    have := (List.getElem?_eq_some_iff.1 hu).1
    simp at this
    omega
  have h1 := h j (by omega)
  rw [List.getElem?_map, List.getElem?_take_of_lt hj] at hu
  rw [show (⟨b, off, none⟩ : Addr).add j = ⟨b, off + j, none⟩ by simp [Addr.add], h1]
  have hjl : j < l.length := by omega
  rw [List.getElem?_eq_getElem hjl] at hu
  simp at hu
  rw [← hu, List.getD_eq_getElem?_getD, List.getElem?_eq_getElem hjl]
  rfl
theorem drop_cells6 {w : World} {l : List Int} {b off : Nat} (h : ∀ i, i < l.length → w.cell? ⟨b, off + i, none⟩ = some (.int .i64 (l.getD i 0))) (k : Nat) :
    ∀ j u, ((l.drop k).map (Value.int .i64))[j]? = some u → w.cell? ((⟨b, off + k, none⟩ : Addr).add j) = some u := by
  intro j u hu
  rw [List.getElem?_map, List.getElem?_drop] at hu
  have hj : k + j < l.length := by
    apply Nat.lt_of_not_le
    intro h2
    rw [List.getElem?_eq_none h2] at hu
    cases hu
  have h1 := h (k + j) hj
  rw [show (⟨b, off + k, none⟩ : Addr).add j = ⟨b, off + k + j, none⟩ by simp [Addr.add], Nat.add_assoc, h1]
  rw [List.getElem?_eq_getElem hj] at hu
  simp at hu
  rw [← hu, List.getD_eq_getElem?_getD, List.getElem?_eq_getElem hj]
  rfl
theorem tail_addr6 (b off cap k : Nat) (l : List Int) (w : World) (hcap : l.length ≤ cap) (hc : ∀ i, i < l.length → w.cell? ⟨b, off + i, none⟩ = some (.int .i64 (l.getD i 0))) :
    ∃ ad : Addr, (if cap = k then some (⟨b, off, none⟩ : Addr) else some ⟨b, off + k, none⟩) = some ad ∧ ∀ j u, ((l.drop k).map (Value.int .i64))[j]? = some u → w.cell? (ad.add j) = some u := by
  by_cases h : cap = k
  · refine ⟨_, if_pos h, fun j u hu => ?_⟩
    rw [List.drop_of_length_le (by omega)] at hu
    cases hu
  · exact ⟨_, if_neg h, drop_cells6 hc k⟩

set_option maxHeartbeats 800000 in
/-- 'In': the list with a bit more at k. -/
theorem r6in_any (l : List Int) (b off cap k : Nat) (x : Int) (w : World) (hk : k ≤ l.length) (hbl : b < w.heap.size) (hl : l.length ≤ 1099511627776) (hcap : l.length ≤ cap) (hmax : cap ≤ maxLen)
    (hc : ∀ i, i < l.length → w.cell? ⟨b, off + i, none⟩ = some (.int .i64 (l.getD i 0))) :
    Calls Tryz.prog 26 #[.slice (some ⟨b, off, none⟩) l.length cap, .int .i64 k, .int .i64 x] w fun e w' => ∃ v, e = .returned v ∧ OwnI w.heap.size w' v (l.take k ++ x :: l.drop k) ∧ Below w.heap.size w w' := by
  obtain ⟨i0, hi, hz0, hz1, hz2⟩ := info_parts infoI
  have h1 : (k : Int) ≤ l.length := by omega
  have hm : (cap : Int) ≤ 9223372036854775807 := by unfold maxLen at hmax; omega
  have h2 : (k : Int) ≤ cap := by omega
  have h3 : (l.length : Int) ≤ cap := by omega
  have ht : (l.take k).length = k := by rw [List.length_take]; omega
  have hd : (l.drop k).length = l.length - k := List.length_drop
  have HT := Lib.hid ht
  have HD := Lib.hid hd
  have HC := Lib.hid hc
  obtain ⟨ad, had, hadc⟩ := tail_addr6 b off cap k l w hcap hc
  have HA := Lib.hid hadc
  clear ht hd hmax hc hadc
  go_enter Tryz.func26, Tryz.ntmps26
  go_wp2_with (first
    | (at_builtin; (refine wpList_append_own _ rfl (.tmp 8) (.tmp 11) 22 rfl w.heap.size 3 i0 (.int .i64 0) 1 8 Tryz.underlying22 hi hz0 hz1 hz2 rfl (by decide) _ 0 [] rfl (World.ownsRow_made w #[] 0 (Nat.le_refl _) (by decide) rfl) ⟨b, off, none⟩ k cap ((l.take k).map (Value.int .i64)) rfl (by rw [List.length_map, HT.out]; omega) (take_cells6 (fun i hi => (World.cell?_alloc_past _ _ _ hbl).trans (HC.out i hi)) k (by omega)) (ints_one _) (by unfold maxLen; omega) (by omega) (by simp) ?_); intro v1 w1 hown1 hgrow1 hnil1;
       (have hb1 : Below w.heap.size w w1 := ((Below.refl _ _).alloc (Nat.le_refl _) _).grown hgrow1 (by simp) (by intro q hq; cases hq; exact Nat.le_refl _));
       (rw [Nat.zero_add] at hown1); clear hgrow1 hnil1))
  have hb2 : Below w.heap.size w (w1.alloc (Obj.cells #[Value.int .i64 x] 3)) := hb1.alloc hb1.size _
  go_region_held3 (fun _ => True) (exact trivial)
    (first
      | (refine step_append_own6 rfl (.tmp 13) (.tmp 15) 22 rfl w.heap.size 3 i0 (.int .i64 0) 1 8 Tryz.underlying22 hi hz0 hz1 hz2 rfl (by decide) _ _ _ rfl (World.ownsRow.drew (World.ownsRow.alloc hown1 _)) ⟨w1.heap.size, 0, none⟩ 1 1 [.int .i64 x] rfl rfl (cell_one_new _ _ _) (fun u hu => by simp at hu; subst hu; rfl) (by unfold maxLen; omega) (by omega) hb2.size ?_; intro v2 w2 hown2 hgrow2;
         have hb3 : Below w.heap.size w w2 := (hb2.drewN 1).grown hgrow2 hb2.size (fun q hq => (hown1.lt q hq).1))
      | (refine step_append_own6 rfl (.tmp 16) (.tmp 19) 22 rfl w.heap.size 3 i0 (.int .i64 0) 1 8 Tryz.underlying22 hi hz0 hz1 hz2 rfl (by decide) _ _ _ rfl hown2 ad (l.length - k) (cap - k) ((l.drop k).map (Value.int .i64)) rfl (by rw [List.length_map, HD.out]; omega) (fun j u hu => (hb3.cell (p := ad.add j) (by have := HA.out j u hu; exact block_lt_of_cell this)).trans (HA.out j u hu)) (ints_one _) (by unfold maxLen; omega) (by omega) hb3.size ?_; intro v3 w3 hown3 hgrow3;
         have hb4 : Below w.heap.size w w3 := hb3.grown hgrow3 hb3.size (fun q hq => (hown2.lt q hq).1)))
  go_wp2
  go_ret
  have e1 := HT.out
  have e2 := HD.out
  have hown4 : w3.ownsRow w.heap.size 3 1 v3 (k + 1 + (l.length - k)) ([] ++ List.map (Value.int .i64) (List.take k l) ++ [Value.int .i64 x] ++ List.map (Value.int .i64) (List.drop k l)) := hown3
  refine ⟨v3, rfl, ?_, hb4⟩
  unfold OwnI
  rw [List.length_append, List.length_cons, List.map_append, List.map_cons, e1, e2]
  simp only [List.nil_append, List.append_assoc, List.cons_append] at hown4
  rw [show k + (l.length - k + 1) = k + 1 + (l.length - k) from by omega]
  exact hown4

set_option maxHeartbeats 800000 in
theorem r6in_nil (x : Int) (w : World) :
    Calls Tryz.prog 26 #[.slice none 0 0, .int .i64 0, .int .i64 x] w fun e w' => ∃ v, e = .returned v ∧ OwnI w.heap.size w' v [x] ∧ Below w.heap.size w w' := by
  obtain ⟨i0, hi, hz0, hz1, hz2⟩ := info_parts infoI
  have hown0 := (World.ownsRow_made w (e := 3) (base := w.heap.size) (size := 1) #[] 0 (Nat.le_refl _) (by decide) rfl)
  go_enter Tryz.func26, Tryz.ntmps26
  go_wp2_with (first
    | (at_builtin; (refine wpList_append_own_none rfl (.tmp 8) (.tmp 11) 22 rfl w.heap.size 3 i0 1 Tryz.underlying22 hi _ 0 [] rfl hown0 rfl ?_)))
  have hb1 : Below w.heap.size w (w.alloc (Obj.cells #[] 3)) := (Below.refl _ _).alloc (Nat.le_refl _) _
  generalize w.alloc (Obj.cells #[] 3) = w1 at *
  generalize Value.slice (some { block := w.heap.size, off := 0 }) 0 0 = v1 at *
  have hb2 : Below w.heap.size w (w1.alloc (Obj.cells #[Value.int .i64 x] 3)) := hb1.alloc hb1.size _
  go_region_held3 (fun _ => True) (exact trivial)
    (first
      | (refine step_append_own6 rfl (.tmp 13) (.tmp 15) 22 rfl w.heap.size 3 i0 (.int .i64 0) 1 8 Tryz.underlying22 hi hz0 hz1 hz2 rfl (by decide) _ _ _ rfl (World.ownsRow.drew (World.ownsRow.alloc hown0 _)) ⟨w1.heap.size, 0, none⟩ 1 1 [.int .i64 x] rfl rfl (cell_one_new _ _ _) (fun u hu => by simp at hu; subst hu; rfl) (by unfold maxLen; omega) (by omega) hb2.size ?_; intro v2 w2 hown2 hgrow2;
         have hb3 : Below w.heap.size w w2 := (hb2.drewN 1).grown hgrow2 hb2.size (fun q hq => (hown0.lt q hq).1))
      | (refine step_append_none6 rfl (.tmp 16) (.tmp 19) 22 rfl w.heap.size 3 i0 1 Tryz.underlying22 hi _ _ _ rfl hown2 rfl ?_))
  go_wp2
  go_ret
  exact ⟨v2, rfl, hown2, hb3⟩


/-- The byte of a place, as a number. -/
def byt (t : List UInt8) (i : Nat) : Int := ((t.getD i 0).toNat : Int)
theorem byt_rng (t : List UInt8) (i : Nat) : 0 ≤ byt t i ∧ byt t i ≤ 255 := u8_rng _
theorem sy_byt {t : List UInt8} {i : Nat} (hi : i < t.length) : (Bw.sy (ub t)).getD i 0 = byt t i + 1 := by
  rw [Bw.sy_at (by rw [ub_len]; exact hi)]
  congr 1
  unfold ub byt
  rw [List.getD_eq_getElem?_getD, List.getElem?_map, List.getElem?_eq_getElem hi, List.getD_eq_getElem?_getD, List.getElem?_eq_getElem hi]
  rfl
theorem sy_tl (t : List UInt8) : (Bw.sy (ub t)).length = t.length + 1 := by rw [Bw.sy_len, ub_len]
theorem bef_ne {t : List UInt8} {a b : Nat} (ha : a < t.length) (hb : b < t.length) (h : byt t a ≠ byt t b) : Bw.bef (Bw.sy (ub t)) a b = decide (byt t a < byt t b) := by
  have h1 := Bw.bef_step (T := Bw.sy (ub t)) (p := a) (q := b) (by rw [sy_tl]; omega) (by rw [sy_tl]; omega)
  rw [sy_byt ha, sy_byt hb] at h1
  rw [Bool.eq_iff_iff, h1, decide_eq_true_iff]
  constructor
  · rintro (h2 | ⟨h2, _⟩)
    · omega
    · omega
  · intro h2; exact .inl (by omega)
theorem bef_eq {t : List UInt8} {a b : Nat} (ha : a < t.length) (hb : b < t.length) (h : byt t a = byt t b) : Bw.bef (Bw.sy (ub t)) a b = Bw.bef (Bw.sy (ub t)) (a + 1) (b + 1) := by
  have h1 := Bw.bef_step (T := Bw.sy (ub t)) (p := a) (q := b) (by rw [sy_tl]; omega) (by rw [sy_tl]; omega)
  rw [sy_byt ha, sy_byt hb] at h1
  rw [Bool.eq_iff_iff, h1]
  constructor
  · rintro (h2 | ⟨_, h2⟩)
    · omega
    · exact h2
  · intro h2; exact .inr ⟨by omega, h2⟩
theorem sy_fin (t : List UInt8) : (Bw.sy (ub t)).getD t.length 0 = 0 := by
  have := Bw.sy_end (ub t)
  rwa [ub_len] at this
theorem bef_out {t : List UInt8} {a b : Nat} (ha : a ≤ t.length) (hb : b ≤ t.length) (h : ¬ (a < t.length ∧ b < t.length)) : Bw.bef (Bw.sy (ub t)) a b = decide (b < a) := by
  by_cases hab : a = b
  · subst hab
    rw [Bw.bef_irrefl, decide_eq_false (by omega)]
  · have h1 := Bw.bef_step (T := Bw.sy (ub t)) (p := a) (q := b) (by rw [sy_tl]; omega) (by rw [sy_tl]; omega)
    rw [Bool.eq_iff_iff, h1, decide_eq_true_iff]
    by_cases hal : a = t.length
    · subst hal
      rw [sy_fin, sy_byt (i := b) (by omega)]
      have := byt_rng t b
      exact ⟨fun _ => by omega, fun _ => .inl (by omega)⟩
    · have hbl : b = t.length := by omega
      subst hbl
      rw [sy_fin, sy_byt (i := a) (by omega)]
      have := byt_rng t a
      exact ⟨fun h2 => by rcases h2 with h2 | ⟨h2, _⟩ <;> omega, fun h2 => by omega⟩
theorem str_at {t : List UInt8} {s : ByteArray} (hs : str t = s) {k : Nat} (hk : k < t.length) (hks : k < s.size) : ((s[k]'hks).toNat : Int) = byt t k := by
  subst hs
  show (((str t).data[k]).toNat : Int) = _
  unfold byt
  simp [str, List.getD_eq_getElem?_getD, List.getElem?_eq_getElem hk]

set_option maxHeartbeats 800000 in
theorem r6less {t : List UInt8} {s : ByteArray} (n a b : Nat) (r : Bool) (w : World) (hs : str t = s) (hn : t.length = n) (hm : n ≤ 1000000000) (ha : a ≤ n) (hb : b ≤ n) (hr : Bw.bef (Bw.sy (ub t)) a b = r) :
    Calls Tryz.prog 25 #[.string s, .int .i64 a, .int .i64 b] w fun e w' => e = .returned (.bool r) ∧ ∃ k, w' = w.drewN k := by
  have hsz : s.size = n := by rw [← hs, str_size, hn]
  have HS := Lib.hid hs
  have HN := Lib.hid hn
  have HR := Lib.hid hr
  have HSZ := Lib.hid hsz
  clear hs hn hr
  go_enter Tryz.func25, Tryz.ntmps25
  go_wp2_with fail
  go_loopw [1, 2] (fun va vb wr => ∃ x y : Nat, va = .int .i64 x ∧ vb = .int .i64 y ∧ x ≤ n ∧ y ≤ n ∧ Bw.bef (Bw.sy (ub t)) x y = r ∧ ∃ j, wr = w.drewN j) (fun va _ _ => n - (intOf va).toNat)
  case atStart => exact ⟨a, b, rfl, rfl, ha, hb, HR.out, 0, rfl⟩
  case round =>
    obtain ⟨x, y, rfl, rfl, hx, hy, hbr, hj⟩ := hrel
    have HJ := Lib.hid hj
    have HBR := Lib.hid hbr
    clear hj hbr HR ha hb
    by_cases h1 : x < n
    · have h1' : (x : Int) < n := by omega
      by_cases h2 : y < n
      · have h2' : (y : Int) < n := by omega
        have hx2 : x < s.size := by omega
        have hy2 : y < s.size := by omega
        have e1 := str_at HS.out (k := x) (by rw [HN.out]; exact h1) hx2
        have e2 := str_at HS.out (k := y) (by rw [HN.out]; exact h2) hy2
        have b1 := byt_rng t x
        have b2 := byt_rng t y
        by_cases he : byt t x = byt t y
        · have hnx := Lib.hid ((bef_eq (by rw [HN.out]; exact h1) (by rw [HN.out]; exact h2) he).symm.trans HBR.out)
          rw [← he] at e2
          obtain ⟨u, hu⟩ : ∃ u, byt t x = u := ⟨_, rfl⟩
          rw [hu] at e1 e2
          have hne : (u != u) = false := by simp
          clear he hu b1 b2
          go_wp2_with fail
          go_quiet (fail)
          go_wp2_with fail
          go_roundw
          case rel => exact ⟨x + 1, y + 1, by go_num, by go_num, by omega, by omega, hnx.out, drew_more HJ.out nq⟩
          case measure => simp [intOf]; omega
        · have hnx := Lib.hid ((bef_ne (by rw [HN.out]; exact h1) (by rw [HN.out]; exact h2) he).symm.trans HBR.out)
          obtain ⟨u, hu⟩ : ∃ u, byt t x = u := ⟨_, rfl⟩
          obtain ⟨v, hv⟩ : ∃ v, byt t y = v := ⟨_, rfl⟩
          rw [hu] at e1 b1 he hnx
          rw [hv] at e2 b2 he hnx
          have hne : (u != v) = true := by simpa using he
          have hd : decide (u = v) = false := decide_eq_false he
          clear hu hv
          go_wp2_with fail
          go_quiet (fail)
          have HJ2 := Lib.hid (drew_more HJ.out nq)
          generalize wr.drewN nq = wq at *
          go_wp2_with fail
          go_quiet (fail)
          go_wp2_with fail
          go_ret
          exact ⟨congrArg (fun b => Ending.returned (Value.bool b)) hnx.out, drew_more HJ2.out nq⟩
      · have h2' : ¬ (y : Int) < n := by omega
        have hd2 : decide ((y : Int) < n) = false := decide_eq_false h2'
        have hnx := Lib.hid ((bef_out (by rw [HN.out]; exact hx) (by rw [HN.out]; exact hy) (by rw [HN.out]; omega)).symm.trans HBR.out)
        go_wp2_with fail
        go_ret
        exact ⟨congrArg (fun b => Ending.returned (Value.bool b)) hnx.out, HJ.out⟩
    · have h1' : ¬ (x : Int) < n := by omega
      have hd1 : decide ((x : Int) < n) = false := decide_eq_false h1'
      have hnx := Lib.hid ((bef_out (by rw [HN.out]; exact hx) (by rw [HN.out]; exact hy) (by rw [HN.out]; omega)).symm.trans HBR.out)
      go_wp2_with fail
      go_ret
      exact ⟨congrArg (fun b => Ending.returned (Value.bool b)) hnx.out, HJ.out⟩

theorem OwnI.base {base base' : Nat} {w : World} {v : Value} {l : List Int} (h : OwnI base w v l) (hb : base' ≤ base) : OwnI base' w v l := ownsRow_base h hb
/-- Places from d on, in the order of their suffixes. -/
structure Inr6 (t : List UInt8) (d : Nat) (L : List Nat) : Prop where
  len : L.length + d = t.length + 1
  mem : ∀ q, q ∈ L ↔ d ≤ q ∧ q ≤ t.length
  sorted : L.Pairwise fun p q => Bw.bef (Bw.sy (ub t)) p q = true
theorem Inr6.nil (t : List UInt8) : Inr6 t (t.length + 1) [] := by
  refine ⟨by simp, fun q => ?_, List.Pairwise.nil⟩
  constructor
  · intro h; cases h
  · intro h; omega
theorem Inr6.step {t : List UInt8} {d k : Nat} {L : List Nat} (h : Inr6 t (d + 1) L) (hk : k ≤ L.length) (h1 : ∀ i (hi : i < L.length), i < k → Bw.bef (Bw.sy (ub t)) L[i] d = true) (h2 : ∀ i (hi : i < L.length), k ≤ i → Bw.bef (Bw.sy (ub t)) L[i] d = false) : Inr6 t d (L.take k ++ d :: L.drop k) := by
  have hl := h.len
  refine ⟨?_, fun q => ?_, ?_⟩
  · rw [List.length_append, List.length_cons, List.length_take, List.length_drop]
    omega
  · have e : q ∈ L.take k ++ d :: L.drop k ↔ q ∈ L ∨ q = d := by
      rw [List.mem_append, List.mem_cons]
      conv => rhs; rw [← List.take_append_drop k L, List.mem_append]
      constructor
      · rintro (h | h | h)
        · exact .inl (.inl h)
        · exact .inr h
        · exact .inl (.inr h)
      · rintro ((h | h) | h)
        · exact .inl h
        · exact .inr (.inr h)
        · exact .inr (.inl h)
    rw [e, h.mem q]
    omega
  · rw [List.pairwise_append, List.pairwise_cons]
    have hlt : ∀ q ∈ L, q < (Bw.sy (ub t)).length ∧ q ≠ d := fun q hq => by
      have := (h.mem q).1 hq
      rw [sy_tl]
      omega
    have hA : ∀ q ∈ L.take k, Bw.bef (Bw.sy (ub t)) q d = true := fun q hq => by
      obtain ⟨i, hi, rfl⟩ := List.getElem_of_mem hq
      rw [List.length_take] at hi
      rw [List.getElem_take]
      exact h1 i (by omega) (by omega)
    have hB : ∀ q ∈ L.drop k, Bw.bef (Bw.sy (ub t)) d q = true := fun q hq => by
      obtain ⟨i, hi, rfl⟩ := List.getElem_of_mem hq
      rw [List.length_drop] at hi
      have h3 := h2 (k + i) (by omega) (by omega)
      rw [List.getElem_drop]
      have h4 := hlt L[k + i] (List.getElem_mem _)
      rcases Bw.bef_total h4.1 (by rw [sy_tl]; omega : d < _) h4.2 with h5 | h5
      · rw [h5] at h3; cases h3
      · exact h5
    refine ⟨h.sorted.sublist (List.take_sublist k L), ⟨hB, h.sorted.sublist (List.drop_sublist k L)⟩, fun p hp q hq => ?_⟩
    rcases List.mem_cons.1 hq with rfl | hq
    · exact hA p hp
    · exact Bw.bef_trans (hA p hp) (hB q hq)
theorem Inr6.done {t : List UInt8} {L : List Nat} (h : Inr6 t 0 L) : L = Rx t := by
  refine Bw.IsRows.unique (T := Bw.sy (ub t)) ⟨?_, fun p hp => ?_, fun p hp => ?_, h.sorted⟩ (Rx_is t)
  · rw [sy_tl]; exact h.len
  · rw [sy_tl] at hp
    exact (h.mem p).2 ⟨Nat.zero_le _, by omega⟩
  · rw [sy_tl]
    have := (h.mem p).1 hp
    omega
def ci (L : List Nat) : List Int := L.map fun p : Nat => (p : Int)
theorem ci_len (L : List Nat) : (ci L).length = L.length := List.length_map _
theorem ci_at {L : List Nat} {i : Nat} (hi : i < L.length) : (ci L).getD i 0 = ((L.getD i 0 : Nat) : Int) := by
  unfold ci
  rw [List.getD_eq_getElem?_getD, List.getD_eq_getElem?_getD, List.getElem?_map, List.getElem?_eq_getElem hi]
  rfl
theorem ci_in (L : List Nat) (k d : Nat) : (ci L).take k ++ (d : Int) :: (ci L).drop k = ci (L.take k ++ d :: L.drop k) := by
  unfold ci
  rw [List.map_append, List.map_cons, List.map_take, List.map_drop]
theorem getD_el {L : List Nat} {i : Nat} (hi : i < L.length) : L.getD i 0 = L[i] := by
  rw [List.getD_eq_getElem?_getD, List.getElem?_eq_getElem hi]; rfl

set_option maxHeartbeats 1600000 in
set_option maxRecDepth 100000 in
theorem r6rows {t : List UInt8} {s : ByteArray} (n : Nat) (w : World) (hs : str t = s) (hn : t.length = n) (hm : n ≤ 1000000) :
    Calls Tryz.prog 7 #[.string s] w fun e w' => ∃ v, e = .returned v ∧ OwnI w.heap.size w' v (rxi t) ∧ Below w.heap.size w w' := by
  have hsz : s.size = n := by rw [← hs, str_size, hn]
  have HS := Lib.hid hs
  have HN := Lib.hid hn
  clear hs hn
  go_enter Tryz.func7, Tryz.ntmps7
  go_wp2_with fail
  go_loopw [3, 4] (fun v i wr => ∃ (d : Nat) (pv : Int) (L : List Nat), (L = [] → v = .slice none 0 0) ∧ d ≤ n + 1 ∧ i = .int .i64 pv ∧ pv = (d : Int) - 1 ∧ Inr6 t d L ∧ OwnI w.heap.size wr v (ci L) ∧ Below w.heap.size w wr) (fun _ i _ => (intOf i + 1).toNat)
  case atStart => exact ⟨n + 1, _, [], fun _ => rfl, Nat.le_refl _, rfl, by omega, HN.out ▸ Inr6.nil t, World.ownsRow_nil _ _ _ _, Below.refl _ _⟩
  case round =>
    obtain ⟨d, pv, L, hnil, hd, rfl, rfl, hI, hown, hb⟩ := hrel
    rcases d with _ | d
    · have ek : ((0 : Nat) : Int) - 1 = -1 := rfl
      rw [ek]
      have hfin : ci L = rxi t := by rw [hI.done]; rfl
      rw [hfin] at hown
      have HX := Lib.hid (And.intro hown hb)
      clear hI hown hb hfin ek
      go_wp2_with fail
      go_ret
      exact ⟨_, rfl, HX.out.1, HX.out.2⟩
    · have ek : ((d + 1 : Nat) : Int) - 1 = d := by omega
      rw [ek]
      clear ek
      have hlen := hI.len
      rw [HN.out] at hlen
      have hcl := ci_len L
      obtain ⟨va, vc, rfl, hrd⟩ := Lr.form L.length hown hcl
      obtain ⟨ll, hll⟩ : ∃ ll, L.length = ll := ⟨_, rfl⟩
      rw [hll] at hlen hnil hcl ⊢
      have HI := Lib.hid hI
      have HRD := Lib.hid hrd
      have HOW := Lib.hid hown
      have HB := Lib.hid hb
      have HNIL := Lib.hid hnil
      have HLL := Lib.hid hll
      have HCL := Lib.hid hcl
      have hl9 : ll ≤ 1000001 := by omega
      have hdn : d ≤ n := by omega
      obtain ⟨wo, hwo⟩ : ∃ wo : World, wo = wr := ⟨_, rfl⟩
      subst hwo
      clear hI hrd hown hb hnil hll hcl hlen
      go_wp2_with fail
      go_loopw [5, 6] (fun vl vh wi => ∃ lo hi : Nat, vl = .int .i64 lo ∧ vh = .int .i64 hi ∧ lo ≤ hi ∧ hi ≤ ll ∧ (∀ i (h : i < L.length), i < lo → Bw.bef (Bw.sy (ub t)) L[i] d = true) ∧ (∀ i (h : i < L.length), hi ≤ i → Bw.bef (Bw.sy (ub t)) L[i] d = false) ∧ ∃ j, wi = wo.drewN j) (fun vl vh _ => (intOf vh).toNat - (intOf vl).toNat)
      case atStart => exact ⟨0, ll, rfl, rfl, Nat.zero_le _, Nat.le_refl _, fun i _ h => absurd h (Nat.not_lt_zero _), fun i h1 h2 => by have := HLL.out; omega, 0, rfl⟩
      case round =>
        obtain ⟨lo, hi, rfl, rfl, hlh, hhl, hb1, hb2, hj⟩ := hrel
        by_cases hlt : lo < hi
        · have hlt' : (lo : Int) < hi := by omega
          obtain ⟨m, hm2⟩ : ∃ m, (lo + hi) / 2 = m := ⟨_, rfl⟩
          have hml : lo ≤ m := by omega
          have hmh : m < hi := by omega
          have hq : ((lo : Int) + hi).tdiv 2 = m := by
            rw [Int.tdiv_eq_ediv_of_nonneg (by omega)]
            omega
          have hmll : (m : Int) < ll := by omega
          have hmL : m < L.length := by rw [HLL.out]; omega
          have hrd2 : RdL wr va vc (ci L) := by obtain ⟨j, rfl⟩ := hj; exact HRD.out.drewN j
          obtain ⟨b, off, rfl, -, c0⟩ := hrd2.cell (k := m) (by rw [HCL.out]; omega)
          rw [ci_at hmL, getD_el hmL] at c0
          have hqm := (HI.out.mem L[m]).1 (List.getElem_mem hmL)
          rw [HN.out] at hqm
          have hbm1 : ∀ i (h : i < L.length), i < m + 1 → Bw.bef (Bw.sy (ub t)) L[m] d = true → Bw.bef (Bw.sy (ub t)) L[i] d = true := fun i h h3 h4 => by
            by_cases e : i = m
            · subst e; exact h4
            · exact Bw.bef_trans (HI.out.sorted |> List.pairwise_iff_getElem.1 |> fun g => g i m h hmL (by omega)) h4
          have hbm2 : ∀ i (h : i < L.length), m ≤ i → Bw.bef (Bw.sy (ub t)) L[m] d = false → Bw.bef (Bw.sy (ub t)) L[i] d = false := fun i h h3 h4 => by
            by_cases e : i = m
            · subst e; exact h4
            · cases e2 : Bw.bef (Bw.sy (ub t)) L[i] d with
              | false => rfl
              | true =>
                have := Bw.bef_trans (HI.out.sorted |> List.pairwise_iff_getElem.1 |> fun g => g m i hmL h (by omega)) e2
                rw [this] at h4; cases h4
          obtain ⟨r, hr⟩ : ∃ r, Bw.bef (Bw.sy (ub t)) L[m] d = r := ⟨_, rfl⟩
          have key := r6less n L[m] d r wr HS.out HN.out (by omega) hqm.2 hdn hr
          obtain ⟨q, hqq⟩ : ∃ q, L[m] = q := ⟨_, rfl⟩
          have hbm1 : r = true → ∀ i (h : i < L.length), i < m + 1 → Bw.bef (Bw.sy (ub t)) L[i] d = true := fun e i h h3 => hbm1 i h h3 (hr.trans e)
          have hbm2 : r = false → ∀ i (h : i < L.length), m ≤ i → Bw.bef (Bw.sy (ub t)) L[i] d = false := fun e i h h3 => hbm2 i h h3 (hr.trans e)
          rw [hqq] at c0 key
          have HB1 := Lib.hid hb1
          have HB2 := Lib.hid hb2
          have HM1 := Lib.hid hbm1
          have HM2 := Lib.hid hbm2
          have HJ := Lib.hid hj
          have hlo9 : (lo : Int) ≤ 1000001 := by omega
          have hhi9 : (hi : Int) ≤ 1000001 := by omega
          clear hb1 hb2 hbm1 hbm2 hj hrd2 hr hqq hqm hm2
          cases r
          · go_wp2_with fail
            (with_reducible refine key.mono ?_); rintro e w2 ⟨rfl, k2, rfl⟩
            clear key
            go_wp2_with fail
            go_roundw
            case rel => exact ⟨lo, m, rfl, rfl, hml, by omega, HB1.out, HM2.out (by first | rfl | trivial), drew_more HJ.out k2⟩
            case measure => simp [intOf]; omega
          · go_wp2_with fail
            (with_reducible refine key.mono ?_); rintro e w2 ⟨rfl, k2, rfl⟩
            clear key
            go_wp2_with fail
            go_roundw
            case rel => exact ⟨m + 1, hi, by go_num, rfl, by omega, by omega, HM1.out (by first | rfl | trivial), HB2.out, drew_more HJ.out k2⟩
            case measure => simp [intOf]; omega
        · have hlt' : ¬ (lo : Int) < hi := by omega
          obtain rfl : lo = hi := by omega
          have hins := HI.out.step (k := lo) (by rw [HLL.out]; exact hhl) (fun i h h3 => hb1 i h h3) (fun i h h3 => hb2 i h h3)
          have hci := ci_in L lo d
          have hrd2 : RdL wr va vc (ci L) := by obtain ⟨j, rfl⟩ := hj; exact HRD.out.drewN j
          have hbw : Below w.heap.size w wr := by obtain ⟨j, rfl⟩ := hj; exact HB.out.drewN j
          obtain ⟨L', hL'⟩ : ∃ L', L.take lo ++ d :: L.drop lo = L' := ⟨_, rfl⟩
          have hne : L' ≠ [] := by rw [← hL']; simp
          rw [hL'] at hins hci
          have HINS := Lib.hid hins
          have HCI := Lib.hid hci
          have HBW := Lib.hid hbw
          have HNE := Lib.hid hne
          by_cases h0 : L = []
          · have hll0 : ll = 0 := by rw [← HLL.out, h0]; rfl
            have hva := HNIL.out h0
            simp only [Value.slice.injEq] at hva
            obtain ⟨rfl, -, rfl⟩ := hva
            subst hll0
            obtain rfl : lo = 0 := by omega
            have key := r6in_nil d wr
            clear hb1 hb2 hj hrd2 hins hci hbw hne hL' HNIL
            go_wp2_with fail
            (with_reducible refine key.mono ?_); rintro e w2 ⟨v2, rfl, hown2, hb3⟩
            have hc2 : [(d : Int)] = ci L' := by rw [← HCI.out, h0]; rfl
            rw [hc2] at hown2
            have HX := Lib.hid (And.intro (hown2.base HBW.out.size) (HBW.out.trans (hb3.mono HBW.out.size)))
            clear key hown2 hb3 hc2
            go_wp2_with fail
            go_roundw
            case rel => exact ⟨d, _, L', fun h => absurd h HNE.out, by omega, rfl, rfl, HINS.out, HX.out.1, HX.out.2⟩
            case measure => simp [intOf]
          · have hlp : 0 < (ci L).length := by
              rw [ci_len]
              exact List.length_pos_iff.2 h0
            obtain ⟨b, off, rfl, hbl, hc⟩ := hrd2.2.2.2 hlp
            have key := r6in_any (ci L) b off vc lo d wr (by rw [HCL.out]; exact hhl) hbl (by rw [HCL.out]; omega) hrd2.1 hrd2.2.1 hc
            rw [HCI.out, HCL.out] at key
            clear hb1 hb2 hj hrd2 hins hci hbw hne hL' HNIL hc hlp
            go_wp2_with fail
            (with_reducible refine key.mono ?_); rintro e w2 ⟨v2, rfl, hown2, hb3⟩
            have HX := Lib.hid (And.intro (hown2.base HBW.out.size) (HBW.out.trans (hb3.mono HBW.out.size)))
            clear key hown2 hb3
            go_wp2_with fail
            go_roundw
            case rel => exact ⟨d, _, L', fun h => absurd h HNE.out, by omega, rfl, rfl, HINS.out, HX.out.1, HX.out.2⟩
            case measure => simp [intOf]
end Go.Proofs.YthbbokoeiifjdaaGreatDoor
namespace Go.Proofs.YthbbokoeiifjdaaGreatDoor
open Go Go.RowKit Go.ChangeAt

theorem of_at {t : List UInt8} {i : Nat} (hi : i < t.length) : (Sy.of t ++ [0]).getD i 0 = byt t i + 1 := by
  rw [← sy_ub]
  exact sy_byt hi
theorem Lx_first {t : List UInt8} {k : Nat} (hk : k < t.length + 1) (h : (Rx t).getD k 0 = 0) : (Lx t).getD k 0 = 0 := by
  rw [Lx_at hk, h]
  unfold Bw.prd
  rw [if_pos rfl, Nat.add_sub_cancel, ← sy_ub]
  exact sy_fin t
theorem Lx_next {t : List UInt8} {k j : Nat} (hk : k < t.length + 1) (h : (Rx t).getD k 0 = j + 1) : j < t.length ∧ (Lx t).getD k 0 = byt t j + 1 := by
  have h1 := Rx_lt hk
  rw [h] at h1
  refine ⟨by omega, ?_⟩
  rw [Lx_at hk, h]
  unfold Bw.prd
  rw [if_neg (by omega), Nat.add_sub_cancel]
  exact of_at (by omega)
set_option maxHeartbeats 1600000 in
theorem r6last {t : List UInt8} {s : ByteArray} (n : Nat) (w : World) (hs : str t = s) (hn : t.length = n) (hm : n ≤ 1000000) :
    Calls Tryz.prog 8 #[.string s] w fun e w' => ∃ v, e = .returned v ∧ OwnI w.heap.size w' v (Lx t) ∧ Below w.heap.size w w' := by
  obtain ⟨j0, hj, hy0, hy1, hy2⟩ := info_parts infoI
  have hsz : s.size = n := by rw [← hs, str_size, hn]
  have key := r6rows n w hs hn hm
  have HS := Lib.hid hs
  have HN := Lib.hid hn
  clear hs hn
  go_enter Tryz.func8, Tryz.ntmps8
  go_wp2_with fail
  (with_reducible refine key.mono ?_); rintro e w1 ⟨v, rfl, hown, hb1⟩
  clear key
  obtain ⟨N, hN⟩ : ∃ N, n + 1 = N := ⟨_, rfl⟩
  obtain ⟨a, cap, rfl, hrd⟩ := Lr.form N hown ((rxi_len t).trans (by rw [HN.out, hN]))
  have HRD := Lib.hid hrd
  have HB1 := Lib.hid hb1
  have HNN := Lib.hid hN
  have hN9 : N ≤ 1000001 := by omega
  have hlx : (Lx t).length = N := by rw [Lx_len, HN.out, hN]
  have HLX := Lib.hid hlx
  have hnN : n < N := by omega
  clear hown hrd hb1 hN hlx
  go_wp2_with fail
  go_loopw [4, 5] (fun v i wr => ∃ k : Nat, k ≤ N ∧ i = .int .i64 k ∧ OwnI w1.heap.size wr v ((Lx t).take k) ∧ Below w1.heap.size w1 wr) (fun _ i _ => N - (intOf i).toNat)
  case atStart => exact ⟨0, Nat.zero_le _, rfl, World.ownsRow_nil _ _ _ _, Below.refl _ _⟩
  case round =>
    obtain ⟨k, hk, rfl, hown, hb⟩ := hrel
    by_cases hlt : k < N
    · have hlt' : (k : Int) < N := by omega
      have hkt : k < t.length + 1 := by rw [HN.out, HNN.out]; exact hlt
      obtain ⟨b, off, rfl, -, c0⟩ := (HRD.out.below hb).cell (k := k) (by rw [rxi_len]; exact hkt)
      rw [rxi_at hkt] at c0
      have htk := Bw.take_next (l := Lx t) (k := k) (by rw [HLX.out]; exact hlt)
      have hown' := hown
      unfold OwnI at hown'
      rw [List.length_take, HLX.out, Nat.min_eq_left (Nat.le_of_lt hlt)] at hown'
      have hbs := hb.size
      have hp1 := Rx_lt hkt
      rw [HN.out] at hp1
      have hf := Lx_first hkt
      have hnx := fun j => Lx_next (j := j) hkt
      obtain ⟨p, hp⟩ : ∃ p, (Rx t).getD k 0 = p := ⟨_, rfl⟩
      rw [hp] at c0 hp1 hf hnx
      have hml : ((Lx t).take k).length = k := by rw [List.length_take, HLX.out]; omega
      have HML := Lib.hid hml
      rcases p with _ | j
      · rw [hf rfl] at htk
        have HTK := Lib.hid htk
        have heq : ((0 : Int) == 0) = true := rfl
        clear hf hnx hp htk hml
        go_wp2_with (first
          | (at_builtin; (refine wpList_append_own _ rfl (.tmp 19) (.tmp 20) 22 rfl w1.heap.size 3 j0 (.int .i64 0) 1 8 Tryz.underlying22 hj hy0 hy1 hy2 rfl (by decide) _ _ _ rfl (World.ownsRow.alloc hown' _) ⟨wr.heap.size, 0, none⟩ 1 1 [.int .i64 0] rfl rfl (cell_one_new _ _ _) (fun u hu => by simp at hu; subst hu; rfl) (by unfold maxLen; omega) (by omega) (by simp; omega) ?_); intro v3 w3 hown3 hgrow3 hnil3))
        have hb3 : Below w1.heap.size w1 w3 := (hb.alloc hbs _).grown hgrow3 (by simp; omega) (fun q hq => (hown.lt q hq).1)
        have HX := Lib.hid (And.intro (OwnI.push HML.out hown3) hb3)
        clear hown hown' hb hown3 hgrow3 hnil3 hb3
        go_wp2_with fail
        go_roundw
        case rel => exact ⟨k + 1, by omega, by go_num, by rw [HTK.out]; exact HX.out.1, HX.out.2⟩
        case measure => simp [intOf]; omega
      · obtain ⟨hjl, hv⟩ := hnx j rfl
        rw [hv] at htk
        have hjs : j < s.size := by rw [hsz, ← HN.out]; exact hjl
        have e1 := str_at HS.out hjl hjs
        have b1 := byt_rng t j
        obtain ⟨y, hy⟩ : ∃ y, byt t j = y := ⟨_, rfl⟩
        rw [hy] at htk e1 b1
        have HTK := Lib.hid htk
        have hne : (((j + 1 : Nat) : Int) == 0) = false := by simp; omega
        have hpj : ((j + 1 : Nat) : Int) - 1 = j := by omega
        have hji : (j : Int) < n := by omega
        obtain ⟨J, hJ⟩ : ∃ J, j + 1 = J := ⟨_, rfl⟩
        rw [hJ] at c0 hne hpj
        clear hf hnx hp htk hml hv hy hJ
        go_wp2_with (first
          | (at_builtin; (refine wpList_append_own _ rfl (.tmp 22) (.tmp 32) 22 rfl w1.heap.size 3 j0 (.int .i64 0) 1 8 Tryz.underlying22 hj hy0 hy1 hy2 rfl (by decide) _ _ _ rfl (World.ownsRow.alloc hown' _) ⟨wr.heap.size, 0, none⟩ 1 1 [.int .i64 (y + 1)] rfl rfl (cell_one_new _ _ _) (fun u hu => by simp at hu; subst hu; rfl) (by unfold maxLen; omega) (by omega) (by simp; omega) ?_); intro v3 w3 hown3 hgrow3 hnil3))
        have hb3 : Below w1.heap.size w1 w3 := (hb.alloc hbs _).grown hgrow3 (by simp; omega) (fun q hq => (hown.lt q hq).1)
        have HX := Lib.hid (And.intro (OwnI.push HML.out hown3) hb3)
        clear hown hown' hb hown3 hgrow3 hnil3 hb3
        go_wp2_with fail
        go_roundw
        case rel => exact ⟨k + 1, by omega, by go_num, by rw [HTK.out]; exact HX.out.1, HX.out.2⟩
        case measure => simp [intOf]; omega
    · have hlt' : ¬ (k : Int) < N := by omega
      have hfin : (Lx t).take k = Lx t := List.take_of_length_le (by rw [HLX.out]; omega)
      rw [hfin] at hown
      have HX := Lib.hid (And.intro (hown.base HB1.out.size) (HB1.out.trans (hb.mono HB1.out.size)))
      clear hown hb hfin
      go_wp2_with fail
      go_ret
      exact ⟨_, rfl, HX.out.1, HX.out.2⟩

set_option maxHeartbeats 800000 in
theorem r6good {a : Option Addr} {cap n : Nat} {l : List Int} (r : Bool) (w : World) (h : RdL w a cap l) (hl : l.length = n) (hr : decide (∀ s ∈ l, 0 ≤ s ∧ s ≤ 256) = r) :
    Calls Tryz.prog 33 #[.slice a n cap] w fun e w' => e = .returned (.bool r) ∧ w = w' := by
  have hf := h.2.1
  have hf1 := h.1
  unfold maxLen at hf
  have hn9 : (n : Int) ≤ 9223372036854775807 := by omega
  have H := Lib.hid h
  have HL := Lib.hid hl
  have HR := Lib.hid hr
  clear h hl hr hf hf1
  go_enter Tryz.func33, Tryz.ntmps33
  go_wp2_with fail
  go_loop [3] (fun i => ∃ k : Nat, k ≤ n ∧ i = .int .i64 k ∧ ∀ s ∈ l.take k, 0 ≤ s ∧ s ≤ 256) (fun i => n - (intOf i).toNat)
  case atStart => exact ⟨0, Nat.zero_le _, rfl, fun s hs => by cases hs⟩
  case round =>
    obtain ⟨k, hk, rfl, hg⟩ := hrel
    by_cases hlt : k < n
    · have hlt' : (k : Int) < n := by omega
      have hk1 : k < l.length := by rw [HL.out]; exact hlt
      obtain ⟨b, off, rfl, -, c1⟩ := H.out.cell hk1
      have hmem := Bw.getD_mem hk1
      have htk := Bw.take_next hk1
      obtain ⟨x, hx⟩ : ∃ x, l.getD k 0 = x := ⟨_, rfl⟩
      rw [hx] at c1 hmem htk
      by_cases h1 : 0 ≤ x ∧ x ≤ 256
      · have key := ris_yes w h1
        have hnx : ∀ s ∈ l.take (k + 1), 0 ≤ s ∧ s ≤ 256 := fun s hs => by
          rw [htk] at hs
          rcases List.mem_append.1 hs with h2 | h2
          · exact hg s h2
          · rw [List.mem_singleton.1 h2]; exact h1
        have HNX := Lib.hid hnx
        clear hg hmem htk hx hnx h1 hk1
        go_wp2_with fail
        (with_reducible refine key.mono ?_); rintro e w' ⟨rfl, rfl⟩
        clear key
        go_wp2_with fail
        go_round
        case rel => exact ⟨k + 1, by omega, by go_num, HNX.out⟩
        case measure => simp [intOf]; omega
      · have key := ris_no w h1
        have hr0 : r = false := by
          rw [← HR.out]
          exact decide_eq_false fun h2 => h1 (h2 x hmem)
        subst hr0
        clear hg hmem htk hx h1 hk1
        go_wp2_with fail
        (with_reducible refine key.mono ?_); rintro e w' ⟨rfl, rfl⟩
        clear key
        go_wp2_with fail
        go_ret
        exact ⟨rfl, rfl⟩
    · have hlt' : ¬ (k : Int) < n := by omega
      have hfin : l.take k = l := List.take_of_length_le (by rw [HL.out]; omega)
      rw [hfin] at hg
      have hr0 : r = true := by rw [← HR.out]; exact decide_eq_true hg
      subst hr0
      clear hg hfin
      go_wp2_with fail
      go_ret
      exact ⟨rfl, rfl⟩
theorem low_next {l : List Int} {k : Nat} (hk : k < l.length) (s : Int) : Bw.low (l.take (k + 1)) s = Bw.low (l.take k) s + if l.getD k 0 < s then 1 else 0 := by
  unfold Bw.low
  rw [Bw.take_next hk, List.countP_append, List.countP_cons, List.countP_nil]
  simp
theorem low_few (l : List Int) (k : Nat) (s : Int) : Bw.low (l.take k) s ≤ k := Nat.le_trans List.countP_le_length (List.length_take_le _ _)
set_option maxHeartbeats 800000 in
theorem r6below {a : Option Addr} {cap n : Nat} {l : List Int} (s : Int) (r : Nat) (w : World) (h : RdL w a cap l) (hl : l.length = n) (hr : Bw.low l s = r) :
    Calls Tryz.prog 30 #[.slice a n cap, .int .i64 s] w fun e w' => e = .returned (.int .i64 r) ∧ w = w' := by
  have hf := h.2.1
  have hf1 := h.1
  unfold maxLen at hf
  have hn9 : (n : Int) ≤ 9223372036854775807 := by omega
  have H := Lib.hid h
  have HL := Lib.hid hl
  have HR := Lib.hid hr
  clear h hl hr hf hf1
  go_enter Tryz.func30, Tryz.ntmps30
  go_wp2_with fail
  go_loop [5, 6] (fun c i => ∃ k : Nat, k ≤ n ∧ i = .int .i64 k ∧ c = .int .i64 (Bw.low (l.take k) s)) (fun _ i => n - (intOf i).toNat)
  case atStart => exact ⟨0, Nat.zero_le _, rfl, rfl⟩
  case round =>
    obtain ⟨k, hk, rfl, rfl⟩ := hrel
    by_cases hlt : k < n
    · have hlt' : (k : Int) < n := by omega
      have hk1 : k < l.length := by rw [HL.out]; exact hlt
      obtain ⟨b, off, rfl, -, c1⟩ := H.out.cell hk1
      have hln := low_next hk1 s
      have hfew := low_few l k s
      obtain ⟨x, hx⟩ : ∃ x, l.getD k 0 = x := ⟨_, rfl⟩
      obtain ⟨y, hy⟩ : ∃ y, Bw.low (l.take k) s = y := ⟨_, rfl⟩
      rw [hx] at c1 hln
      rw [hy] at hln hfew ⊢
      by_cases h1 : x < s
      · rw [if_pos h1] at hln
        have HLN := Lib.hid hln
        clear hx hy hln hk1
        go_wp2_with fail
        go_round
        case rel => exact ⟨k + 1, by omega, by go_num, by rw [HLN.out]; go_num⟩
        case measure => simp [intOf]; omega
      · rw [if_neg h1] at hln
        have HLN := Lib.hid hln
        clear hx hy hln hk1
        go_wp2_with fail
        go_round
        case rel => exact ⟨k + 1, by omega, by go_num, by rw [HLN.out]; go_num⟩
        case measure => simp [intOf]; omega
    · have hlt' : ¬ (k : Int) < n := by omega
      have hfin : l.take k = l := List.take_of_length_le (by rw [HL.out]; omega)
      rw [hfin, HR.out]
      clear hfin
      go_wp2_with fail
      go_ret
      exact ⟨rfl, rfl⟩
end Go.Proofs.YthbbokoeiifjdaaGreatDoor
namespace Go.Proofs.YthbbokoeiifjdaaGreatDoor
open Go Go.RowKit Go.ChangeAt

/-- The bytes that are read, the last one first. -/
def bB (l : List Int) : Nat → List UInt8
  | 0 => []
  | j + 1 => UInt8.ofNat (l.getD (Bw.stp l j) 0 - 1).toNat :: bB l j
theorem bB_len (l : List Int) : ∀ j, (bB l j).length = j
  | 0 => rfl
  | j + 1 => by
    show (bB l j).length + 1 = j + 1
    rw [bB_len l j]
theorem bB_drop (t : List UInt8) : ∀ j, j ≤ t.length → bB (Lx t) j = t.drop (t.length - j)
  | 0, _ => by rw [Nat.sub_zero, List.drop_length]; rfl
  | j + 1, hj => by
    have ih := bB_drop t j (by omega)
    have h1 := Lx_read (t := t) (i := t.length - 1 - j) (by omega)
    rw [show t.length - 1 - (t.length - 1 - j) = j by omega] at h1
    show UInt8.ofNat ((Lx t).getD (Bw.stp (Lx t) j) 0 - 1).toNat :: bB (Lx t) j = _
    rw [ih, h1, show t.length - (j + 1) = t.length - 1 - j by omega, List.drop_eq_getElem_cons (i := t.length - 1 - j) (by omega), show t.length - 1 - j + 1 = t.length - j by omega]
    congr 1
    rw [List.getD_eq_getElem?_getD, List.getElem?_eq_getElem (by omega : t.length - 1 - j < t.length)]
    show UInt8.ofNat ((t[t.length - 1 - j].toNat : Int) + 1 - 1).toNat = _
    rw [show ((t[t.length - 1 - j].toNat : Int) + 1 - 1).toNat = t[t.length - 1 - j].toNat by omega]
    exact UInt8.ofNat_toNat
theorem bB_text {t : List UInt8} {l : List Int} (h : Lx t = l) : bB l t.length = t := by
  rw [← h, bB_drop t t.length (Nat.le_refl _), Nat.sub_self, List.drop_zero]
theorem no_text {l : List Int} {m : Nat} (hl : l.length = m + 1) (h : Lx (bB l m) ≠ l) : ∀ t, Lx t ≠ l := fun t e => by
  have h1 := Lx_len t
  rw [e, hl] at h1
  have h2 := bB_text e
  rw [show t.length = m by omega] at h2
  rw [h2] at h
  exact h e
theorem str_empty : str [] = ⟨#[]⟩ := rfl

set_option maxHeartbeats 3200000 in
set_option maxRecDepth 100000 in
theorem r6back {a : Option Addr} {cap n : Nat} {l : List Int} (w : World) (h : RdL w a cap l) (hl : l.length = n) (hm : n ≤ 100000) :
    Calls Tryz.prog 12 #[.slice a n cap] w fun e w' => ((∃ t, Lx t = l ∧ e = .returned (.tuple #[.string (str t), .bool true])) ∨ ((∀ t, Lx t ≠ l) ∧ e = .returned (.tuple #[.string (str []), .bool false]))) ∧ Below w.heap.size w w' := by
  by_cases hg : ∀ s ∈ l, 0 ≤ s ∧ s ≤ 256
  · have key := r6good true w h hl (decide_eq_true hg)
    by_cases hn : n = 0
    · have hno : ∀ t, Lx t ≠ l := fun t e => by
        have h1 := Lx_len t
        rw [e, hl] at h1
        omega
      have HNO := Lib.hid hno
      subst hn
      clear h hl hg hno
      go_enter Tryz.func12, Tryz.ntmps12
      go_wp2_with fail
      (with_reducible refine key.mono ?_); rintro e w' ⟨rfl, rfl⟩
      clear key
      go_wp2_with fail
      go_ret2
      exact ⟨.inr ⟨HNO.out, rfl⟩, Below.refl _ _⟩
    · have hn0 : 0 < n := by omega
      have hne : ((n : Int) == 0) = false := by simp; omega
      obtain ⟨m, hmn⟩ : ∃ m, n = m + 1 := ⟨n - 1, by omega⟩
      have HMN := Lib.hid hmn
      have hma : m + 1 ≤ n := by omega
      have hmb : n ≤ m + 1 := by omega
      have H := Lib.hid h
      have HL := Lib.hid hl
      have HG := Lib.hid hg
      clear h hl hg hmn hn
      go_enter Tryz.func12, Tryz.ntmps12
      go_wp2_with fail
      (with_reducible refine key.mono ?_); rintro e w' ⟨rfl, rfl⟩
      clear key
      go_wp2_with fail
      clear hne
      go_loopw [4, 5, 6, 7] (fun v row i _ wr => ∃ j : Nat, j ≤ m ∧ i = .int .i64 ((j : Int) + 1) ∧ row = .int .i64 (Bw.stp l j) ∧ (∀ q, q < j → l.getD (Bw.stp l q) 0 ≠ 0) ∧ OwnU w.heap.size wr v (bB l j) ∧ Below w.heap.size w wr) (fun _ _ i _ _ => n - (intOf i).toNat)
      case atStart => exact ⟨0, Nat.zero_le _, rfl, rfl, fun q hq => absurd hq (Nat.not_lt_zero _), World.ownsRow_nil _ _ _ _, Below.refl _ _⟩
      case round =>
        obtain ⟨j, hjm, rfl, rfl, hmid, hown, hb⟩ := hrel
        have hp : 0 < l.length := by rw [HL.out]; exact hn0
        by_cases hlt : j < m
        · have hlt' : (j : Int) + 1 < n := by omega
          have hs := Bw.stp_lt hp j
          have hnx : Bw.stp l (j + 1) = Bw.low l (l.getD (Bw.stp l j) 0) + (l.take (Bw.stp l j)).count (l.getD (Bw.stp l j) 0) := rfl
          have hrd := H.out.below hb
          obtain ⟨b, off, rfl, -, c0⟩ := hrd.cell hs
          have hmem := HG.out _ (Bw.getD_mem hs)
          have hbj : bB l (j + 1) = UInt8.ofNat (l.getD (Bw.stp l j) 0 - 1).toNat :: bB l j := rfl
          have hs2 := Bw.stp_lt hp (j + 1)
          rw [HL.out] at hs hs2
          obtain ⟨x, hx⟩ : ∃ x, l.getD (Bw.stp l j) 0 = x := ⟨_, rfl⟩
          rw [hx] at c0 hnx hmem hbj
          by_cases h0 : x = 0
          · subst h0
            have hno : ∀ t, Lx t ≠ l := fun t e2 => (Lx_iff.1 ⟨t, e2⟩).2.2 j (by rw [HL.out]; omega) hx
            have HNO := Lib.hid hno
            have HB := Lib.hid hb
            obtain ⟨q, hq⟩ : ∃ q, Bw.stp l j = q := ⟨_, rfl⟩
            rw [hq] at c0 hs ⊢
            have hqn : (q : Int) < n := by omega
            have heq : ((0 : Int) == 0) = true := rfl
            clear hmid hown hb hx hq hno hnx hbj hrd hp
            go_wp2_with fail
            go_ret2
            exact ⟨.inr ⟨HNO.out, rfl⟩, HB.out⟩
          · have hne : (x == 0) = false := by simpa using h0
            have hmid2 : ∀ q, q < j + 1 → l.getD (Bw.stp l q) 0 ≠ 0 := fun q hq => by
              by_cases e2 : q = j
              · subst e2; rw [hx]; exact h0
              · exact hmid q (by omega)
            obtain ⟨u, hu⟩ : ∃ u, UInt8.ofNat (x - 1).toNat = u := ⟨_, rfl⟩
            have hux : x - 1 = (u.toNat : Int) := by
              rw [← hu, UInt8.toNat_ofNat']
              omega
            have huw : IntKind.u8.wrap (x - 1) = (u.toNat : Int) := by
              rw [IntKind.wrap_u8, hux]
              have := u8_rng u
              omega
            rw [hu] at hbj
            obtain ⟨q, hq⟩ : ∃ q, Bw.stp l j = q := ⟨_, rfl⟩
            rw [hq] at c0 hs hnx ⊢
            obtain ⟨lo, hlo⟩ : ∃ lo, Bw.low l x = lo := ⟨_, rfl⟩
            obtain ⟨ct, hct⟩ : ∃ ct, (l.take q).count x = ct := ⟨_, rfl⟩
            rw [hlo, hct] at hnx
            have hqn : (q : Int) < n := by omega
            have hlit : (wr.alloc (.cells #[.int .u8 (u.toNat : Int)] 5)).ownsRow wr.heap.size 5 1 (.slice (some ⟨wr.heap.size, 0, none⟩) 1 1) 1 (byv [u]) :=
              World.ownsRow_lit wr (base := wr.heap.size) (e := 5) (size := 1) #[Value.int .u8 (u.toNat : Int)] 1 (Nat.le_refl _) (by decide) rfl
            have hal : Below wr.heap.size wr (wr.alloc (.cells #[.int .u8 (u.toNat : Int)] 5)) := (Below.refl _ _).alloc (Nat.le_refl _) _
            have hown2 : OwnU w.heap.size (wr.alloc (.cells #[.int .u8 (u.toNat : Int)] 5)) u4 (bB l j) := ownsRow_below hown hal
            have hbl := bB_len l j
            have HBL := Lib.hid hbl
            have HBJ := Lib.hid hbj
            have HM2 := Lib.hid hmid2
            have HB := Lib.hid hb
            have HLO := Lib.hid hlo
            have HCT := Lib.hid hct
            obtain ⟨sm, hsm⟩ : ∃ sm, lo + ct = sm := ⟨_, rfl⟩
            rw [hsm] at hnx
            have hsum : (lo : Int) + ct = sm := by omega
            have hsw : IntKind.i64.wrap (sm : Int) = sm := by rw [IntKind.wrap_i64]; omega
            clear hsm
            have HNX := Lib.hid hnx
            have hxa : x ≤ 256 := hmem.2
            have hxb : 1 ≤ x := by omega
            clear hmid hown hx hq hnx hbj hrd hp hmid2 hb hlo hct hbl hu
            go_wp2_with (first
              | (at_builtin; (refine append_u rfl (.tmp 31) (.tmp 32) rfl wr.heap.size w.heap.size _ 1 (byv [u]) rfl hlit _ (bB l j) rfl hown2 (by rw [HBL.out]; omega) (by simp) ?_); intro v3 w3 hown3 hgrow3))
            have hb3 : Below wr.heap.size (wr.alloc (.cells #[.int .u8 (u.toNat : Int)] 5)) w3 := (Below.refl wr.heap.size _).grown hgrow3 (by simp) (by intro q hq; cases hq; exact Nat.le_refl _)
            have hb4 : Below wr.heap.size wr w3 := hal.trans hb3
            have hown4 : OwnU wr.heap.size w3 v3 (u :: bB l j) := by
              show OwnU wr.heap.size w3 v3 ([u] ++ bB l j)
              unfold OwnU
              rw [List.length_append, byv_app]
              exact hown3
            have hrd3 := H.out.below (HB.out.trans (hb4.mono HB.out.size))
            have key1 := r6below x lo w3 hrd3 HL.out HLO.out
            have key2 := r6rk (q : Int) x w3 hrd3 HL.out
            rw [show Lr.rk l (q : Int).toNat x = ct from HCT.out] at key2
            have HX := Lib.hid (And.intro (ownsRow_base hown4 HB.out.size) (HB.out.trans (hb4.mono HB.out.size)))
            clear hown3 hgrow3 hb3 hb4 hown4 hrd3 hlit hown2 hal
            (with_reducible refine key1.mono ?_); rintro e w' ⟨rfl, rfl⟩
            clear key1
            go_wp2_with fail
            (with_reducible refine key2.mono ?_); rintro e w' ⟨rfl, rfl⟩
            clear key2
            go_wp2_with fail
            go_roundw
            case rel => exact ⟨j + 1, by omega, by go_num, by rw [HNX.out], HM2.out, by rw [HBJ.out]; exact HX.out.1, HX.out.2⟩
            case measure => simp [intOf]; omega
        · have hlt' : ¬ (j : Int) + 1 < n := by omega
          obtain rfl : j = m := by omega
          have hbl := bB_len l j
          obtain ⟨ba, bc, rfl, hbr⟩ := OwnU.form j hown hbl
          have hcv := conv_str hbr hbl
          obtain ⟨sb, hsb⟩ : ∃ sb, str (bB l j) = sb := ⟨_, rfl⟩
          rw [hsb] at hcv
          have key := r6last j wr hsb hbl (by omega)
          have HBR := Lib.hid hbr
          have HB := Lib.hid hb
          have HSB := Lib.hid hsb
          have HBL := Lib.hid hbl
          clear hown hb hmid hp hbr hsb hbl
          go_wp2_with fail
          (with_reducible refine key.mono ?_); rintro e w2 ⟨v2, rfl, hown2, hb2⟩
          clear key hcv
          obtain ⟨a2, c2, rfl, hr2⟩ := Lr.form (j + 1) hown2 ((Lx_len _).trans (by rw [HBL.out]))
          obtain ⟨r, hr⟩ : ∃ r, decide (Lx (bB l j) = l) = r := ⟨_, rfl⟩
          have hbw := HB.out.trans (hb2.mono HB.out.size)
          have key := r6same_is r w2 hr2 (H.out.below hbw) ((Lx_len _).trans (by rw [HBL.out])) HL.out hr
          have HBR := Lib.hid (HBR.out.below hb2)
          have HR := Lib.hid hr
          have HBW := Lib.hid hbw
          clear hown2 hb2 hr2 hr hbw
          obtain rfl := HSB.out
          go_wp2_with fail
          (with_reducible refine key.mono ?_); rintro e w3 ⟨rfl, k3, rfl⟩
          clear key
          have hcv := conv_str (HBR.out.drewN k3) HBL.out
          cases r
          · have hno := no_text (m := j) (by rw [HL.out]; omega) (of_decide_eq_false HR.out)
            have HNO := Lib.hid hno
            clear hno
            go_wp2_with fail
            go_ret2
            exact ⟨.inr ⟨HNO.out, rfl⟩, HBW.out.drewN k3⟩
          · have hyes := of_decide_eq_true HR.out
            have HY := Lib.hid hyes
            clear hyes
            go_wp2_with fail
            go_ret2
            exact ⟨.inl ⟨bB l j, HY.out, rfl⟩, HBW.out.drewN k3⟩
  · have key := r6good false w h hl (decide_eq_false hg)
    have hno : ∀ t, Lx t ≠ l := fun t e => hg (Lx_iff.1 ⟨t, e⟩).1
    have HNO := Lib.hid hno
    clear h hl hg hno
    go_enter Tryz.func12, Tryz.ntmps12
    go_wp2_with fail
    (with_reducible refine key.mono ?_); rintro e w' ⟨rfl, rfl⟩
    clear key
    go_wp2_with fail
    go_ret2
    exact ⟨.inr ⟨HNO.out, rfl⟩, Below.refl _ _⟩
end Go.Proofs.YthbbokoeiifjdaaGreatDoor
