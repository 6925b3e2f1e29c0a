/- A wave's nodes level by level, as lists of keys; slices of nodes and of shapes. Shapes of a wave: level by level. Shapes of a wave: the walk. The seventh law's told: a walk. The wave of the code as the statements use it: every contract of the record is paid. -/
import Derived.Test.YtaglnomjlnlgoaaDoorWae
import Derived.Test.YtaglnomjlnlgoaaDoorWo
namespace Go.Proofs.YtaglnomjlnlgoaaDoor
open Go Go.RowKit Go.ChangeAt Tr Wk

/-- All keys of a level; those that stand; what hangs below one. -/
def lk (v : Nat) : List Nat := (List.range (2 ^ v)).map (2 ^ v + ·)
def ksL (N : Lks) (v : Nat) : List Nat := (lk v).filter fun k => (N k).isSome
def kids (N : Lks) (k : Nat) : List Nat := [2 * k, 2 * k + 1].filter fun j => (N j).isSome
theorem two_each (a : Nat) : ∀ n : Nat, (List.range (2 * n)).map (2 * a + ·) = ((List.range n).map (a + ·)).flatMap fun k => [2 * k, 2 * k + 1]
  | 0 => rfl
  | n + 1 => by
    rw [show 2 * (n + 1) = (2 * n + 1) + 1 from rfl, List.range_succ, List.range_succ, List.map_append, List.map_append, two_each a n, List.range_succ, List.map_append, List.flatMap_append, List.append_assoc]
    congr 1
    show [2 * a + 2 * n, 2 * a + (2 * n + 1)] = [2 * (a + n), 2 * (a + n) + 1]
    rw [Nat.mul_add]
    rfl
theorem lk_succ (v : Nat) : lk (v + 1) = (lk v).flatMap fun k => [2 * k, 2 * k + 1] := by
  unfold lk
  rw [Nat.pow_succ, Nat.mul_comm (2 ^ v) 2]
  exact two_each (2 ^ v) (2 ^ v)
theorem lk_pos {v k : Nat} (h : k ∈ lk v) : 1 ≤ k := by
  unfold lk at h
  obtain ⟨p, _, rfl⟩ := List.mem_map.1 h
  have := Nat.two_pow_pos v
  omega
theorem filter_kids (N : Lks) : ∀ l : List Nat, (∀ k ∈ l, N k = none → N (2 * k) = none ∧ N (2 * k + 1) = none) → (l.flatMap fun k => [2 * k, 2 * k + 1]).filter (fun j => (N j).isSome) = (l.filter fun k => (N k).isSome).flatMap (kids N)
  | [], _ => rfl
  | k :: l, h => by
    rw [List.flatMap_cons, List.filter_append, filter_kids N l (fun j hj => h j (List.mem_cons_of_mem _ hj))]
    cases e : N k with
    | none =>
      obtain ⟨h1, h2⟩ := h k (List.mem_cons_self ..) e
      have h3 : [2 * k, 2 * k + 1].filter (fun j => (N j).isSome) = [] := by simp [h1, h2]
      rw [h3, List.filter_cons_of_neg (p := fun k => (N k).isSome) (a := k) (l := l) (by simp [e])]
      rfl
    | some b =>
      rw [List.filter_cons_of_pos (p := fun k => (N k).isSome) (a := k) (l := l) (by simp [e]), List.flatMap_cons]
      rfl
theorem ksL_succ {N : Lks} (hN : ∀ k, 1 ≤ k → N k = none → N (2 * k) = none ∧ N (2 * k + 1) = none) (v : Nat) : ksL N (v + 1) = (ksL N v).flatMap (kids N) := by
  unfold ksL
  rw [lk_succ]
  exact filter_kids N (lk v) (fun k hk e => hN k (lk_pos hk) e)
theorem ksL_zero {N : Lks} {b : Nat} (h : N 1 = some b) : ksL N 0 = [1] := by
  unfold ksL lk
  simp [h]
theorem ksL_len (N : Lks) (v : Nat) : (ksL N v).length ≤ 2 ^ v := by
  unfold ksL lk
  refine Nat.le_trans (List.length_filter_le _ _) ?_
  rw [List.length_map, List.length_range]
  exact Nat.le_refl _
theorem ksL_end {N : Lks} (hN : ∀ k, 1 ≤ k → N k = none → N (2 * k) = none ∧ N (2 * k + 1) = none) {v : Nat} (h : ksL N v = []) : ∀ d, ksL N (v + d) = []
  | 0 => h
  | d + 1 => by rw [show v + (d + 1) = (v + d) + 1 from rfl, ksL_succ hN, ksL_end hN h d]; rfl
/-- A node's shape. -/
def sk (F : For) (k : Nat) : Sh := match F k with
  | some e => shE e
  | none => (0, 0, 0, 0)
theorem sk_some {F : For} {k : Nat} {e : Ent} (h : F k = some e) : sk F k = shE e := by unfold sk; rw [h]
theorem shL_ks {N : Lks} {F : For} (h : ∀ k, (F k).isSome = (N k).isSome) (v : Nat) : shL F v (2 ^ v) = (ksL N v).map (sk F) := by
  unfold shL ksL lk
  generalize List.range (2 ^ v) = l
  induction l with
  | nil => rfl
  | cons p l ih =>
    rw [List.filterMap_cons, List.map_cons, List.filter_cons, ← h (2 ^ v + p)]
    cases e : F (2 ^ v + p) with
    | none => exact ih
    | some f =>
      show shE f :: _ = List.map (sk F) ((2 ^ v + p) :: _)
      rw [List.map_cons, sk_some e, ih]
/-- The shapes of the levels below v. -/
def shT (N : Lks) (F : For) (v : Nat) : List Sh := (List.range v).flatMap fun u => (ksL N u).map (sk F)
theorem shT_succ (N : Lks) (F : For) (v : Nat) : shT N F (v + 1) = shT N F v ++ (ksL N v).map (sk F) := by
  unfold shT
  rw [List.range_succ, List.flatMap_append]
  simp
theorem shT_nine {N : Lks} {F : For} (h : ∀ k, (F k).isSome = (N k).isSome) : shT N F 9 = shF F := by
  unfold shT shF
  congr 1
  funext v
  exact (shL_ks h v).symm
theorem shT_end {N : Lks} {F : For} (hN : ∀ k, 1 ≤ k → N k = none → N (2 * k) = none ∧ N (2 * k + 1) = none) {v : Nat} (h : ksL N v = []) : ∀ d, shT N F (v + d) = shT N F v
  | 0 => rfl
  | d + 1 => by rw [show v + (d + 1) = (v + d) + 1 from rfl, shT_succ, ksL_end hN h d, List.map_nil, List.append_nil, shT_end hN h d]
theorem shT_len (N : Lks) (F : For) : ∀ v, (shT N F v).length < 2 ^ v
  | 0 => Nat.lt_of_lt_of_le (show 0 < 1 by decide) (Nat.le_refl _)
  | v + 1 => by
    rw [shT_succ, List.length_append, List.length_map, Nat.pow_succ]
    have h1 := shT_len N F v
    have h2 := ksL_len N v
    omega
theorem Wav.some_iff {w : World} {x : Wx} {m : List Int} (h : Wav w x m) (k : Nat) : (x.F k).isSome = (x.N k).isSome := by
  cases e : x.N k with
  | none => rw [h.web.nods.dom k e]; rfl
  | some b => obtain ⟨f, hf, _⟩ := h.web.nods.node k b e; rw [hf]; rfl
theorem Wav.none_kids {w : World} {x : Wx} {m : List Int} (h : Wav w x m) (k : Nat) (hk : 1 ≤ k) (e : x.N k = none) : x.N (2 * k) = none ∧ x.N (2 * k + 1) = none := by
  have h1 := h.web.nods.dom _ e
  have h2 := h.des k
  rw [h1] at h2
  exact ⟨(h.stands_not (Wk.wq_below h.good hk h2.symm false)).2, (h.stands_not (Wk.wq_below h.good hk h2.symm true)).2⟩
theorem Wav.ks_nine {w : World} {x : Wx} {m : List Int} (h : Wav w x m) : ksL x.N 9 = [] := by
  unfold ksL
  rw [List.filter_eq_nil_iff]
  intro k hk
  have h1 : 512 ≤ k := by
    unfold lk at hk
    obtain ⟨p, _, rfl⟩ := List.mem_map.1 hk
    omega
  rw [(h.stands_not (Wk.wq_out m (by omega))).2]
  decide

/-- A slice of nodes of the call's own. -/
def bl (N : Lks) (k : Nat) : Nat := (N k).getD 0
theorem bl_some {N : Lks} {k b : Nat} (h : N k = some b) : bl N k = b := by unfold bl; rw [h]; rfl
def nodv (N : Lks) (ks : List Nat) : List Value := ks.map fun k => .pointer (some ⟨bl N k, 0, none⟩)
abbrev OwnN7 (base : Nat) (w : World) (v : Value) (N : Lks) (ks : List Nat) : Prop := w.ownsRow base 47 1 v ks.length (nodv N ks)
theorem nodv_one (N : Lks) (ks : List Nat) : ∀ u ∈ nodv N ks, u.oneCell' = true := fun u hu => by
  obtain ⟨k, _, rfl⟩ := List.mem_map.1 hu
  rfl
theorem infoN : (Tryd.prog.info? 47).map (fun i => (i.zero, i.size, i.bytes)) = some (some (.pointer none), 1, 8) := by kernel_rfl
theorem OwnN7.push {base : Nat} {w : World} {v : Value} {N : Lks} {ks : List Nat} {k b : Nat} (hb : N k = some b) (h : w.ownsRow base 47 1 v (ks.length + 1) (nodv N ks ++ [.pointer (some ⟨b, 0, none⟩)])) : OwnN7 base w v N (ks ++ [k]) := by
  unfold OwnN7 nodv
  rw [List.length_append, List.map_append]
  show w.ownsRow base _ 1 v (ks.length + 1) (_ ++ [.pointer (some ⟨bl N k, 0, none⟩)])
  rw [bl_some hb]
  exact h
theorem OwnN7.open {base : Nat} {w : World} {a : Option Addr} {cap : Nat} {N : Lks} {ks : List Nat} (h : OwnN7 base w (.slice a ks.length cap) N ks) (hne : 0 < ks.length) :
    ∃ b, a = some ⟨b, 0, none⟩ ∧ base ≤ b ∧ b < w.heap.size ∧ ∀ i, i < ks.length → w.cell? ⟨b, i, none⟩ = some (.pointer (some ⟨bl N (ks.getD i 0), 0, none⟩)) := by
  rcases h.2 with ⟨hv, h0⟩ | ⟨g, cap', cur, hv, hb, hg, hn, hm, hs, ht⟩
  · omega
  · simp only [Value.slice.injEq] at hv
    obtain ⟨rfl, _, rfl⟩ := hv
    refine ⟨g, rfl, hb, lt_of_block hg, fun i hi => ?_⟩
    have h1 := World.ownsRow.cellAt (w := w) h i (by omega)
    rw [h1]
    unfold nodv
    rw [List.getElem?_map, List.getElem?_eq_getElem hi, List.getD_eq_getElem?_getD, List.getElem?_eq_getElem hi]
    rfl
/-- A slice of shapes of the call's own. -/
def shw7 (l : List Sh) : List Value := l.flatMap fun s => [.int .i64 s.1, .int .i64 s.2.1, .int .i64 s.2.2.1, .int .i64 s.2.2.2]
abbrev OwnS7 (base : Nat) (w : World) (v : Value) (l : List Sh) : Prop := w.ownsRow base 35 4 v l.length (shw7 l)
theorem infoS : (Tryd.prog.info? 35).map (fun i => (i.zero, i.size, i.bytes)) = some (some (.agg #[.int .i64 0, .int .i64 0, .int .i64 0, .int .i64 0]), 4, 32) := by kernel_rfl
theorem OwnS7.push {base : Nat} {w : World} {v : Value} {l : List Sh} {s : Sh} (h : w.ownsRow base 35 4 v (l.length + 1) (shw7 l ++ [.int .i64 s.1, .int .i64 s.2.1, .int .i64 s.2.2.1, .int .i64 s.2.2.2])) : OwnS7 base w v (l ++ [s]) := by
  unfold OwnS7 shw7
  rw [List.length_append, List.flatMap_append]
  exact h
theorem shw7_at (l : List Sh) : ∀ (i : Nat), i < l.length → (shw7 l)[i * 4]? = some (.int .i64 (l.getD i (0, 0, 0, 0)).1) ∧ (shw7 l)[i * 4 + 1]? = some (.int .i64 (l.getD i (0, 0, 0, 0)).2.1) ∧ (shw7 l)[i * 4 + 2]? = some (.int .i64 (l.getD i (0, 0, 0, 0)).2.2.1) ∧ (shw7 l)[i * 4 + 3]? = some (.int .i64 (l.getD i (0, 0, 0, 0)).2.2.2) := by
  induction l with
  | nil => intro i hi; exact absurd hi (Nat.not_lt_zero _)
  | cons s l ih =>
    intro i hi
    cases i with
    | zero => exact ⟨rfl, rfl, rfl, rfl⟩
    | succ i =>
      have h1 := ih i (by simpa using hi)
      have e : ∀ j, (shw7 (s :: l))[(i + 1) * 4 + j]? = (shw7 l)[i * 4 + j]? := fun j => by
        have e1 : shw7 (s :: l) = [.int .i64 s.1, .int .i64 s.2.1, .int .i64 s.2.2.1, .int .i64 s.2.2.2] ++ shw7 l := rfl
        rw [e1, List.getElem?_append_right (by simp; omega)]
        congr 1
        simp
        omega
      have e0 := e 0
      simp only [Nat.add_zero] at e0
      exact ⟨e0.trans h1.1, (e 1).trans h1.2.1, (e 2).trans h1.2.2.1, (e 3).trans h1.2.2.2⟩
theorem OwnS7.rd {base : Nat} {w : World} {a : Option Addr} {cap : Nat} {l : List Sh} (h : OwnS7 base w (.slice a l.length cap) l) (hl : l.length ≤ 1000000) (hb : ∀ s ∈ l, s.1 ≤ 9223372036854775807 ∧ s.2.1 ≤ 9223372036854775807 ∧ s.2.2.1 ≤ 9223372036854775807) : RdS w a l := by
  refine ⟨hl, fun hp => ?_⟩
  rcases h.2 with ⟨hv, h0⟩ | ⟨g, cap', cur, hv, hbb, hg, hn, hm, hs, ht⟩
  · omega
  · simp only [Value.slice.injEq] at hv
    obtain ⟨rfl, _, rfl⟩ := hv
    refine ⟨g, 0, rfl, lt_of_block hg, fun i hi => ?_⟩
    obtain ⟨h0, h1, h2, h3⟩ := shw7_at l i hi
    have hm2 : l.getD i (0, 0, 0, 0) ∈ l := by
      rw [List.getD_eq_getElem?_getD, List.getElem?_eq_getElem hi]
      exact List.getElem_mem hi
    obtain ⟨b1, b2, b3⟩ := hb _ hm2
    have hc : ∀ j, j < 4 → w.cell? ⟨g, 0 + i * 4 + j, none⟩ = (shw7 l)[i * 4 + j]? := fun j hj => by
      rw [Nat.zero_add]
      exact World.ownsRow.cellAt (w := w) h (i * 4 + j) (by omega)
    have c0 := (hc 0 (by omega)).trans h0
    exact ⟨_, _, _, _, rfl, b1, b2, b3, c0, (hc 1 (by omega)).trans h1, (hc 2 (by omega)).trans h2, (hc 3 (by omega)).trans h3⟩
end Go.Proofs.YtaglnomjlnlgoaaDoor
namespace Go.Proofs.YtaglnomjlnlgoaaDoor
open Go Go.RowKit Go.ChangeAt Tr Wk

theorem kids_len (N : Lks) (k : Nat) : (kids N k).length ≤ 2 := by
  unfold kids
  exact List.length_filter_le _ _
theorem kids_all (N : Lks) : ∀ l : List Nat, (l.flatMap (kids N)).length ≤ 2 * l.length
  | [] => Nat.le_refl _
  | k :: l => by
    rw [List.flatMap_cons, List.length_append, List.length_cons]
    have h1 := kids_len N k
    have h2 := kids_all N l
    omega
set_option maxHeartbeats 3200000 in
set_option maxRecDepth 100000 in
theorem wnextLevel {w0 : World} {x : Wx} {m : List Int} (h0 : Wav w0 x m) (w : World) (hbw : Below w0.heap.size w0 w) (a : Option Addr) (cap base : Nat) (ks : List Nat) (hown : OwnN7 base w (.slice a ks.length cap) x.N ks) (hall : ∀ k ∈ ks, (x.N k).isSome = true) (hlen : ks.length ≤ 512) :
    Calls Tryd.prog 24 #[.slice a ks.length cap] w fun e w' => ∃ u, e = .returned u ∧ OwnN7 w.heap.size w' u x.N (ks.flatMap (kids x.N)) ∧ Below w.heap.size w w' := by
  obtain ⟨i0, hi, hz0, hz1, hz2⟩ := info_parts infoN
  obtain ⟨hcl, hcm⟩ : ks.length ≤ cap ∧ cap ≤ maxLen := by
    obtain ⟨a', c', hv', h1, h2⟩ := own_form hown
    injection hv' with _ _ h3
    rw [h3]
    exact ⟨h1, h2⟩
  unfold maxLen at hcm
  have hli : (ks.length : Int) ≤ 512 := by omega
  have HO := Lib.hid hown
  have HH := Lib.hid h0
  have HBW := Lib.hid hbw
  have HALL := Lib.hid hall
  clear hown h0 hbw hall
  go_enter Tryd.func24, Tryd.ntmps24
  go_wp2_with fail
  go_loopg [3, 10] ks.length (fun g s3 s10 wr => ∃ (i : Nat) (u : Value), g = ks.length - i ∧ i ≤ ks.length ∧ s10 = .int .i64 i ∧ s3 = u ∧ OwnN7 w.heap.size wr u x.N ((ks.take i).flatMap (kids x.N)) ∧ Below w.heap.size w wr)
  case atStart => exact ⟨0, _, rfl, Nat.zero_le _, rfl, rfl, World.ownsRow_nil _ _ _ _, Below.refl _ _⟩
  case round =>
    obtain ⟨i, u, rfl, hil, rfl, rfl, hu, hb⟩ := hrel
    by_cases hlt : i < ks.length
    · have hi1 : (i : Int) < ks.length := by omega
      obtain ⟨lb, hae, _, hlb, hcs⟩ := HO.out.open (by omega)
      subst hae
      have hc1 := (hb.cell (p := ⟨lb, i, none⟩) hlb).trans (hcs i hlt)
      obtain ⟨k, hk⟩ : ∃ k, ks.getD i 0 = k := ⟨_, rfl⟩
      have hkm : k ∈ ks := by rw [← hk, List.getD_eq_getElem?_getD, List.getElem?_eq_getElem hlt]; exact List.getElem_mem hlt
      have htk : (ks.take (i + 1)).flatMap (kids x.N) = (ks.take i).flatMap (kids x.N) ++ kids x.N k := by
        rw [List.take_succ_eq_append_getElem hlt, List.flatMap_append, ← hk, List.getD_eq_getElem?_getD, List.getElem?_eq_getElem hlt]
        simp
      rw [hk] at hc1
      obtain ⟨b, hbN⟩ := Option.isSome_iff_exists.1 (HALL.out k hkm)
      rw [bl_some hbN] at hc1
      have hkl := kids_all x.N (ks.take i)
      rw [List.length_take, Nat.min_eq_left hil] at hkl
      obtain ⟨P, hP⟩ : ∃ P, (ks.take i).flatMap (kids x.N) = P := ⟨_, rfl⟩
      rw [hP] at hu htk hkl
      have hkd : kids x.N k = [2 * k, 2 * k + 1].filter fun j => (x.N j).isSome := rfl
      have hnc := ((HH.out.below HBW.out).below hb)
      obtain ⟨e0, he0, nd⟩ := hnc.web.nods.at hbN
      obtain ⟨x0, hx0⟩ : ∃ z, x.N (2 * k) = z := ⟨_, rfl⟩
      obtain ⟨x1, hx1⟩ : ∃ z, x.N (2 * k + 1) = z := ⟨_, rfl⟩
      have n1 := nd.c1
      have n2 := nd.c2
      rw [hx0] at n1
      rw [hx1] at n2
      replace n1 : wr.cell? ⟨b, 1, none⟩ = some (.pointer (pp x0)) := n1
      replace n2 : wr.cell? ⟨b, 2, none⟩ = some (.pointer (pp x1)) := n2
      have HU := Lib.hid hu
      have HB := Lib.hid hb
      have HTK := Lib.hid (htk.trans (by rw [hkd]))
      have HX0 := Lib.hid hx0
      have HX1 := Lib.hid hx1
      clear hu hb htk hkd hnc he0 nd hcs hk hkm hP hbN hx0 hx1
      go_wp2_with fail
      go_loopg [3, 18] 2 (fun g s3 s18 wx => ∃ (c : Nat) (u' : Value), g = 2 - c ∧ c ≤ 2 ∧ s18 = .int .i64 c ∧ s3 = u' ∧ OwnN7 w.heap.size wx u' x.N (P ++ ([2 * k, 2 * k + 1].take c).filter fun j => (x.N j).isSome) ∧ Below w.heap.size w wx)
      case atStart => exact ⟨0, _, rfl, by omega, rfl, rfl, by rw [List.take_zero, List.filter_nil, List.append_nil]; exact HU.out, HB.out⟩
      case round =>
        clear HU HB n1 n2 hc1
        obtain ⟨c, u', rfl, hc2, rfl, rfl, hu, hb⟩ := hrel
        match c, hc2 with
        | 0, _ =>
          cases x0 with
          | none =>
            have hp0 : pp none = none := rfl
            rw [hp0] at *
            have xi : ∀ w, (Instr.index 55 (.agg #[.pointer none, .pointer (pp x1)]) (.int .i64 0)).run Tryd.prog w = .ok (.pointer none) w := fun _ => by kernel_rfl
            clear hp0
            have HU := Lib.hid hu
            have HB := Lib.hid hb
            clear hu hb
            go_wp2_with fail
            go_roundg (1 - 0)
            case measure => omega
            case rel => exact ⟨0 + 1, _, rfl, by omega, rfl, rfl, by have h1 := HU.out; simp only [List.take_succ_cons, List.take_zero, List.filter_cons, List.filter_nil, HX0.out, HX1.out] at h1 ⊢; exact h1, HB.out⟩
          | some bc =>
            have hp0 : pp (some bc) = some ⟨bc, 0, none⟩ := rfl
            rw [hp0] at *
            have xi : ∀ w, (Instr.index 55 (.agg #[.pointer (some ⟨bc, 0, none⟩), .pointer (pp x1)]) (.int .i64 0)).run Tryd.prog w = .ok (.pointer (some ⟨bc, 0, none⟩)) w := fun _ => by kernel_rfl
            clear hp0
            obtain ⟨Q, hQ⟩ : ∃ Q, (P ++ ([2 * k, 2 * k + 1].take 0).filter fun j => (x.N j).isSome) = Q := ⟨_, rfl⟩
            rw [hQ] at hu
            have hQl : Q.length ≤ 1100 := by
              rw [← hQ, List.length_append]
              have := List.length_filter_le (fun j => (x.N j).isSome) ([2 * k, 2 * k + 1].take 0)
              have h2 : ([2 * k, 2 * k + 1].take 0).length ≤ 2 := by simp
              omega
            have hbs := hb.size
            have HQ := Lib.hid hQ
            clear hQ
            go_wp2_with (first
              | (at_builtin; (refine wpList_append_own _ rfl (.tmp 23) (.tmp 25) 51 rfl w.heap.size 47 i0 (.pointer none) 1 8 Tryd.underlying51 hi hz0 hz1 hz2 rfl (by decide) _ _ _ rfl (World.ownsRow.alloc hu _) ⟨wr.heap.size, 0, none⟩ 1 1 [.pointer (some ⟨bc, 0, none⟩)] rfl rfl (cell_one_new _ _ _) (fun u hu => by simp at hu; subst hu; rfl) (by unfold maxLen; omega) (by omega) (by simp; omega) ?_); intro v3 w3 hown3 hgrow3 hnil3))
            have hb3 : Below w.heap.size w w3 := (hb.alloc hbs _).grown hgrow3 (by simp; omega) (fun q hq => (hu.lt q hq).1)
            have HU := Lib.hid (OwnN7.push HX0.out hown3)
            have HB := Lib.hid hb3
            clear hu hb hown3 hgrow3 hnil3 hb3
            go_wp2_with fail
            go_roundg (1 - 0)
            case measure => omega
            case rel => exact ⟨0 + 1, _, rfl, by omega, rfl, rfl, by have h1 := HU.out; rw [← HQ.out] at h1; (have e0 := HX0.out); (have e1 := HX1.out); simpa [e0, e1] using h1, HB.out⟩
        | 1, _ =>
          cases x1 with
          | none =>
            have hp0 : pp none = none := rfl
            rw [hp0] at *
            have xi : ∀ w, (Instr.index 55 (.agg #[.pointer (pp x0), .pointer none]) (.int .i64 1)).run Tryd.prog w = .ok (.pointer none) w := fun _ => by kernel_rfl
            clear hp0
            have HU := Lib.hid hu
            have HB := Lib.hid hb
            clear hu hb
            go_wp2_with fail
            go_roundg (1 - 1)
            case measure => omega
            case rel => exact ⟨1 + 1, _, rfl, by omega, rfl, rfl, by have h1 := HU.out; simp only [List.take_succ_cons, List.take_zero, List.filter_cons, List.filter_nil, HX0.out, HX1.out] at h1 ⊢; exact h1, HB.out⟩
          | some bc =>
            have hp0 : pp (some bc) = some ⟨bc, 0, none⟩ := rfl
            rw [hp0] at *
            have xi : ∀ w, (Instr.index 55 (.agg #[.pointer (pp x0), .pointer (some ⟨bc, 0, none⟩)]) (.int .i64 1)).run Tryd.prog w = .ok (.pointer (some ⟨bc, 0, none⟩)) w := fun _ => by kernel_rfl
            clear hp0
            obtain ⟨Q, hQ⟩ : ∃ Q, (P ++ ([2 * k, 2 * k + 1].take 1).filter fun j => (x.N j).isSome) = Q := ⟨_, rfl⟩
            rw [hQ] at hu
            have hQl : Q.length ≤ 1100 := by
              rw [← hQ, List.length_append]
              have := List.length_filter_le (fun j => (x.N j).isSome) ([2 * k, 2 * k + 1].take 1)
              have h2 : ([2 * k, 2 * k + 1].take 1).length ≤ 2 := by simp
              omega
            have hbs := hb.size
            have HQ := Lib.hid hQ
            clear hQ
            go_wp2_with (first
              | (at_builtin; (refine wpList_append_own _ rfl (.tmp 23) (.tmp 25) 51 rfl w.heap.size 47 i0 (.pointer none) 1 8 Tryd.underlying51 hi hz0 hz1 hz2 rfl (by decide) _ _ _ rfl (World.ownsRow.alloc hu _) ⟨wr.heap.size, 0, none⟩ 1 1 [.pointer (some ⟨bc, 0, none⟩)] rfl rfl (cell_one_new _ _ _) (fun u hu => by simp at hu; subst hu; rfl) (by unfold maxLen; omega) (by omega) (by simp; omega) ?_); intro v3 w3 hown3 hgrow3 hnil3))
            have hb3 : Below w.heap.size w w3 := (hb.alloc hbs _).grown hgrow3 (by simp; omega) (fun q hq => (hu.lt q hq).1)
            have HU := Lib.hid (OwnN7.push HX1.out hown3)
            have HB := Lib.hid hb3
            clear hu hb hown3 hgrow3 hnil3 hb3
            go_wp2_with fail
            go_roundg (1 - 1)
            case measure => omega
            case rel => exact ⟨1 + 1, _, rfl, by omega, rfl, rfl, by have h1 := HU.out; rw [← HQ.out] at h1; (have e0 := HX0.out); (have e1 := HX1.out); cases x0 <;> simpa [e0, e1] using h1, HB.out⟩
        | 2, _ =>
          have HU := Lib.hid hu
          have HB := Lib.hid hb
          clear hu hb
          go_wp2_with fail
          go_roundg (ks.length - (i + 1))
          case measure => omega
          case rel => exact ⟨i + 1, _, rfl, by omega, by go_num, rfl, by rw [HTK.out]; exact HU.out, HB.out⟩
    · obtain hie : i = ks.length := by omega
      subst hie
      have hi1 : ¬ (ks.length : Int) < ks.length := by omega
      rw [List.take_length] at hu
      obtain ⟨Q, hQ⟩ : ∃ Q, ks.flatMap (kids x.N) = Q := ⟨_, rfl⟩
      rw [hQ] at hu
      have HQ := Lib.hid hQ
      have HU := Lib.hid hu
      have HB := Lib.hid hb
      obtain ⟨ua, uc, rfl, _, _⟩ := own_form hu
      clear hu hb hQ
      go_wp2_with fail
      go_ret
      exact ⟨_, rfl, by rw [HQ.out]; exact HU.out, HB.out⟩
end Go.Proofs.YtaglnomjlnlgoaaDoor
namespace Go.Proofs.YtaglnomjlnlgoaaDoor
open Go Go.RowKit Go.ChangeAt Tr Wk

theorem news_new (w : World) (c : Array Value) (t : TypeId) : ∀ j u, c.toList[j]? = some u → (w.alloc (.cells c t)).cell? ((⟨w.heap.size, 0, none⟩ : Addr).add j) = some u := fun j u h => by
  rw [show (⟨w.heap.size, 0, none⟩ : Addr).add j = ⟨w.heap.size, j, none⟩ by (simp [Addr.add]; omega)]
  exact new_cell rfl (by simpa using h)
def shl (e : Ent) : List Value := [.int .i64 (shE e).1, .int .i64 (shE e).2.1, .int .i64 (shE e).2.2.1, .int .i64 (shE e).2.2.2]
theorem shapeOf_eq (e : Ent) : shapeOf e.S = .agg #[.int .i64 (shE e).1, .int .i64 (shE e).2.1, .int .i64 (shE e).2.2.1, .int .i64 (shE e).2.2.2] := rfl
theorem Wav.shapes_none {w : World} {x : Wx} {m : List Int} (h : Wav w x m) (h1 : x.N 1 = none) : Calls Tryd.prog 10 #[.pointer (some ⟨x.t, 0, none⟩)] w fun e w' => ∃ v, e = .returned v ∧ OwnS7 w.heap.size w' v (shF x.F) ∧ Below w.heap.size w w' := by
  have q0 : w.cell? ⟨x.t, 0, none⟩ = some (pn (x.N 1)) := (cell_of h.web.top).trans rfl
  rw [h1, pn_none] at q0
  have hk0 : ksL x.N 0 = [] := by
    unfold ksL lk
    simp [h1]
  have hs : shF x.F = [] := by
    rw [← shT_nine h.some_iff]
    exact shT_end h.none_kids (v := 0) hk0 9
  rw [hs]
  clear h hs hk0
  go_enter Tryd.func10, Tryd.ntmps10
  go_wp2_with fail
  go_ret
  exact ⟨_, rfl, World.ownsRow_nil _ _ _ _, Below.refl _ _⟩
/-- How far Shapes has come: v levels, and i nodes of the next one. -/
structure ShAt (w wr : World) (x : Wx) (v i : Nat) (u s : Value) : Prop where
  own : OwnN7 w.heap.size wr u x.N (ksL x.N v)
  sh : OwnS7 w.heap.size wr s (shT x.N x.F v ++ ((ksL x.N v).take i).map (sk x.F))
  below : Below w.heap.size w wr
set_option maxHeartbeats 3200000 in
set_option maxRecDepth 100000 in
theorem Wav.shapes_some {w : World} {x : Wx} {m : List Int} (h : Wav w x m) (hm : m.length ≤ 1000000) {b1 : Nat} (h1 : x.N 1 = some b1) : Calls Tryd.prog 10 #[.pointer (some ⟨x.t, 0, none⟩)] w fun e w' => ∃ v, e = .returned v ∧ OwnS7 w.heap.size w' v (shF x.F) ∧ Below w.heap.size w w' := by
  obtain ⟨i0, hi, hz0, hz1, hz2⟩ := info_parts infoS
  have q0 : w.cell? ⟨x.t, 0, none⟩ = some (pn (x.N 1)) := (cell_of h.web.top).trans rfl
  rw [h1, pn_some] at q0
  have hk0 := ksL_zero h1
  have hl0 : OwnN7 w.heap.size (w.alloc (.cells #[.pointer (some ⟨b1, 0, none⟩)] 47)) (.slice (some ⟨w.heap.size, 0, none⟩) 1 1) x.N (ksL x.N 0) := by
    rw [hk0]
    unfold OwnN7 nodv
    show World.ownsRow _ _ _ 1 _ 1 [.pointer (some ⟨bl x.N 1, 0, none⟩)]
    rw [bl_some h1]
    exact World.ownsRow_lit w #[.pointer (some ⟨b1, 0, none⟩)] 1 (Nat.le_refl _) (by decide) rfl
  have hbA : Below w.heap.size w (w.alloc (.cells #[.pointer (some ⟨b1, 0, none⟩)] 47)) := Below.allocs (Below.refl _ _) _
  have hs0 : ShAt w (w.alloc (.cells #[.pointer (some ⟨b1, 0, none⟩)] 47)) x 0 0 (.slice (some ⟨w.heap.size, 0, none⟩) 1 1) (.slice none 0 0) := ⟨hl0, World.ownsRow_nil _ _ _ _, hbA⟩
  have HS0 := Lib.hid hs0
  have HH := Lib.hid h
  have HK := Lib.hid h.none_kids
  have hfin : ∀ v, v ≤ 9 → ksL x.N v = [] → shT x.N x.F v = shF x.F := fun v hv he => by
    rw [← shT_nine h.some_iff]
    have := shT_end (F := x.F) h.none_kids he (9 - v)
    rw [show v + (9 - v) = 9 by omega] at this
    exact this.symm
  have HF := Lib.hid hfin
  have HL0 := Lib.hid (show (ksL x.N 0).length = 1 by rw [hk0]; rfl)
  clear h hk0 hl0 hbA hs0 hfin h1
  go_enter Tryd.func10, Tryd.ntmps10
  go_wp2_with fail
  go_loopg [3, 4] 9 (fun g s3 s4 wr => ∃ (v : Nat), g = 9 - v ∧ v ≤ 9 ∧ ShAt w wr x v 0 s4 s3)
  case atStart => exact ⟨0, rfl, by omega, HS0.out⟩
  case round =>
    clear HS0 q0
    obtain ⟨v, rfl, hv9, hS⟩ := hrel
    obtain ⟨ks, hks⟩ : ∃ ks, ksL x.N v = ks := ⟨_, rfl⟩
    have hown := hS.own
    rw [hks] at hown
    obtain ⟨a, cap, rfl, hcl, hcm⟩ := own_form hown
    have hkl := ksL_len x.N v
    rw [hks] at hkl
    have hp2 := Nat.pow_le_pow_right (show 0 < 2 by decide) hv9
    have h29 : (2 : Nat) ^ 9 = 512 := by decide
    have hall : ∀ k ∈ ks, (x.N k).isSome = true := fun k hk => by
      rw [← hks] at hk
      unfold ksL at hk
      exact (List.mem_filter.1 hk).2
    have hsl := shT_len x.N x.F v
    have hli : (ks.length : Int) ≤ 512 := by omega
    by_cases hz : ks.length = 0
    · have hk0 : ks = [] := List.eq_nil_of_length_eq_zero hz
      subst hk0
      have hfin := HF.out v hv9 hks
      have hsh := hS.sh
      rw [hks, hfin] at hsh
      obtain ⟨Q, hQ⟩ : ∃ Q, shF x.F = Q := ⟨_, rfl⟩
      rw [List.take_nil, List.map_nil, List.append_nil] at hsh
      rw [hQ] at hsh
      obtain ⟨sa, sc, rfl, _, _⟩ := own_form hsh
      have HSH := Lib.hid hsh
      have HB := Lib.hid hS.below
      have HQ := Lib.hid hQ
      clear hS hown hsh hfin hks hQ hall
      go_wp2_with fail
      go_ret
      exact ⟨_, rfl, by rw [HQ.out]; exact HSH.out, HB.out⟩
    · have hv8 : v ≤ 8 := by
        apply Nat.le_of_not_lt
        intro h9
        obtain rfl : v = 9 := by omega
        rw [HH.out.ks_nine] at hks
        subst hks
        exact hz rfl
      have hpi : (0 : Int) < ks.length := by omega
      unfold maxLen at hcm
      have HKS := Lib.hid hks
      have HALL := Lib.hid hall
      have HS := Lib.hid hS
      clear hS hown hks hall
      go_wp2_with fail
      go_loopg [3, 28] ks.length (fun g s3 s28 wx => ∃ (i : Nat), g = ks.length - i ∧ i ≤ ks.length ∧ s28 = .int .i64 i ∧ ShAt w wx x v i (.slice a ks.length cap) s3)
      case atStart => exact ⟨0, rfl, Nat.zero_le _, rfl, HS.out⟩
      case round =>
        clear HS
        obtain ⟨i, rfl, hil, rfl, hS⟩ := hrel
        have hown := hS.own
        rw [HKS.out] at hown
        by_cases hlt : i < ks.length
        · have hi1 : (i : Int) < ks.length := by omega
          obtain ⟨lb, rfl, _, hlb, hcs⟩ := hown.open (by omega)
          have hc1 := hcs i hlt
          obtain ⟨k, hk⟩ : ∃ k, ks.getD i 0 = k := ⟨_, rfl⟩
          have hkm : k ∈ ks := by rw [← hk, List.getD_eq_getElem?_getD, List.getElem?_eq_getElem hlt]; exact List.getElem_mem hlt
          obtain ⟨b, hbN⟩ := Option.isSome_iff_exists.1 (HALL.out k hkm)
          rw [hk, bl_some hbN] at hc1
          have hw := HH.out.below hS.below
          obtain ⟨e0, he0, nd⟩ := hw.web.nods.at hbN
          have c0 := nd.c0
          have hml := Wk.wb_len m k
          rw [← (hw.in_rng he0).2.1] at hml
          have key := kshape _ wr nd.tre (by omega) (shapeOf_eq e0)
          have hsk := sk_some he0
          have htk : (ks.take (i + 1)).map (sk x.F) = (ks.take i).map (sk x.F) ++ [shE e0] := by
            rw [List.take_succ_eq_append_getElem hlt, List.map_append, ← hsk, ← hk, List.getD_eq_getElem?_getD, List.getElem?_eq_getElem hlt]
            rfl
          have hsh := hS.sh
          rw [HKS.out] at hsh
          obtain ⟨Q, hQ⟩ : ∃ Q, shT x.N x.F v ++ (ks.take i).map (sk x.F) = Q := ⟨_, rfl⟩
          rw [hQ] at hsh
          have hQl : Q.length ≤ 1100 := by
            rw [← hQ, List.length_append, List.length_map, List.length_take]
            omega
          have hb := hS.below
          have HTK := Lib.hid (show shT x.N x.F v ++ (ks.take (i + 1)).map (sk x.F) = Q ++ [shE e0] by rw [htk, ← hQ, List.append_assoc])
          obtain ⟨q1, hq1⟩ : ∃ q, (shE e0).1 = q := ⟨_, rfl⟩
          obtain ⟨q2, hq2⟩ : ∃ q, (shE e0).2.1 = q := ⟨_, rfl⟩
          obtain ⟨q3, hq3⟩ : ∃ q, (shE e0).2.2.1 = q := ⟨_, rfl⟩
          obtain ⟨q4, hq4⟩ : ∃ q, (shE e0).2.2.2 = q := ⟨_, rfl⟩
          have hqe : shE e0 = (q1, q2, q3, q4) := by rw [← hq1, ← hq2, ← hq3, ← hq4]
          rw [hq1, hq2, hq3, hq4] at key
          rw [hqe] at HTK
          clear hS hw he0 nd hcs hk hkm hQ htk hsk hq1 hq2 hq3 hq4 hqe hbN hml
          go_wp2_with fail
          (with_reducible refine key.mono ?_); rintro e w2 ⟨rfl, hb2⟩
          have hbz := hb.size
          have hsh2 := ownsRow_below hsh hb2
          have hown2 := ownsRow_below hown hb2
          have hbw2 := hb.trans (hb2.mono hbz)
          have hbz2 := hbw2.size
          clear hsh hown hb key
          go_wp2_with (first
            | (at_builtin; (refine wpList_append_own _ rfl (.tmp 32) (.tmp 38) 27 rfl w.heap.size 35 i0 (.agg #[.int .i64 0, .int .i64 0, .int .i64 0, .int .i64 0]) 4 32 Tryd.underlying27 hi hz0 hz1 hz2 rfl (by decide) _ _ _ rfl (World.ownsRow.alloc hsh2 _) ⟨w2.heap.size, 0, none⟩ 1 1 [.int .i64 q1, .int .i64 q2, .int .i64 q3, .int .i64 q4] rfl rfl (news_new w2 #[.int .i64 q1, .int .i64 q2, .int .i64 q3, .int .i64 q4] _) (fun u hu => by simp at hu; rcases hu with rfl | rfl | rfl | rfl <;> rfl) (by unfold maxLen; omega) (by omega) (by simp; omega) ?_); intro v3 w3 hown3 hgrow3 hnil3))
          have hst3 := grown_stay hgrow3
          have hb3 : Below w.heap.size w w3 := (hbw2.alloc hbz2 _).grown hgrow3 (by simp; omega) (fun q hq => (hsh2.lt q hq).1)
          have hl3 := ownsRow_stay (World.ownsRow.alloc hown2 (.cells #[.int .i64 q1, .int .i64 q2, .int .i64 q3, .int .i64 q4] 35)) hst3 (fun q hq e => own_ne2 hown2 hsh2 (by decide) q hq e)
          have HNX : Hid (ShAt w w3 x v (i + 1) (.slice (some ⟨lb, 0, none⟩) ks.length cap) v3) := Lib.hid ⟨by rw [HKS.out]; exact hl3, by rw [HKS.out, HTK.out]; exact OwnS7.push (s := (q1, q2, q3, q4)) hown3, hb3⟩
          clear hsh2 hown2 hbw2 hst3 hb3 hl3 hown3 hgrow3 hnil3
          go_wp2_with fail
          go_roundg (ks.length - (i + 1))
          case measure => omega
          case rel => exact ⟨i + 1, rfl, by omega, by go_num, HNX.out⟩
        · obtain hie : i = ks.length := by omega
          subst hie
          have hi1 : ¬ (ks.length : Int) < ks.length := by omega
          have key := wnextLevel HH.out wr hS.below a cap w.heap.size ks hown HALL.out (by omega)
          have hsh := hS.sh
          rw [HKS.out, List.take_length, ← HKS.out, ← shT_succ] at hsh
          have hb := hS.below
          have hbz := hb.size
          have HKN := Lib.hid (ksL_succ HK.out v)
          rw [HKS.out] at HKN
          clear hS hown
          go_wp2_with fail
          (with_reducible refine key.mono ?_); rintro e w2 ⟨u, rfl, hu, hb2⟩
          have HNX : Hid (ShAt w w2 x (v + 1) 0 u _) := Lib.hid ⟨by rw [HKN.out]; exact ownsRow_base hu hbz, by rw [List.take_zero, List.map_nil, List.append_nil]; exact ownsRow_below hsh hb2, hb.trans (hb2.mono hbz)⟩
          clear hu hb hb2 hsh key
          go_wp2_with fail
          go_roundg (8 - v)
          case measure => omega
          case rel => exact ⟨v + 1, by omega, by omega, HNX.out⟩
theorem Wav.shapes {w : World} {x : Wx} {m : List Int} (h : Wav w x m) (hm : m.length ≤ 1000000) : Calls Tryd.prog 10 #[.pointer (some ⟨x.t, 0, none⟩)] w fun e w' => ∃ v, e = .returned v ∧ OwnS7 w.heap.size w' v (shF x.F) ∧ Below w.heap.size w w' := by
  cases h1 : x.N 1 with
  | none => exact h.shapes_none h1
  | some b => exact h.shapes_some hm h1
end Go.Proofs.YtaglnomjlnlgoaaDoor
namespace Go.Proofs.YtaglnomjlnlgoaaDoor
open Go Go.RowKit Go.ChangeAt Tr Wk

theorem fm_congr {α : Type} (f g : Nat → List α) : ∀ l : List Nat, (∀ v ∈ l, f v = g v) → l.flatMap f = l.flatMap g
  | [], _ => rfl
  | v :: l, h => by rw [List.flatMap_cons, List.flatMap_cons, h v (List.mem_cons_self ..), fm_congr f g l (fun u hu => h u (List.mem_cons_of_mem _ hu))]
theorem lvl_of {w : World} {x : Wx} {m : List Int} (h : Wav w x m) {v : Nat} (hv : v ≤ 8) : ∀ n : Nat, n ≤ 2 ^ v → (shL x.F v n).map (fun s => s.1) = (Wv.lvl m v n).map fun n : Nat => (n : Int)
  | 0, _ => rfl
  | n + 1, hn => by
    have ih := lvl_of h hv n (by omega)
    have hlt : n < 2 ^ v := by omega
    have hk1 : 1 ≤ 2 ^ v + n := by have := Nat.two_pow_pos v; omega
    have hk2 : 2 ^ v + n < 512 := by
      have := Nat.pow_le_pow_right (show 0 < 2 by decide) hv
      have h8 : (2 : Nat) ^ 8 = 256 := by decide
      omega
    have hd := h.des (2 ^ v + n)
    rw [Wk.wq_in m ⟨hk1, hk2⟩, Wk.wb_of m hlt] at hd
    have e1 : shL x.F v (n + 1) = shL x.F v n ++ ((x.F (2 ^ v + n)).map shE).toList := by
      unfold shL
      rw [List.range_succ, List.filterMap_append]
      congr 1
    rw [e1, Wv.lvl_succ, List.map_append, List.map_append, ih]
    congr 1
    cases e : x.F (2 ^ v + n) with
    | none =>
      rw [e] at hd
      have h3 := Wk.ob_none hd.symm
      rw [if_neg (by rw [h3]; decide)]
      rfl
    | some f =>
      rw [e] at hd
      obtain ⟨h3, h4⟩ := Wk.ob_is hd.symm
      rw [if_pos (List.length_pos_iff.2 h4)]
      show [(shE f).1] = [((Wv.bits m v (n : Int)).length : Int)]
      have h5 := (h.web.nods.fr.tre _ f e).1.2.len
      rw [← h3, ← h5]
      rfl
theorem raw_big : 1000000 < Fb.raw 40 := by decide
theorem Root.low {S : St} {m : List Bool} (h : Root S m) (hm : m.length ≤ 1000000) : S.rt.ht ≤ 100 := by
  rcases h with ⟨_, _, _, h3, _⟩ | ⟨a, q1, q2, q3, q4, rfl, q6, q7, q8⟩
  · omega
  · rw [q7, T.lk_ht]
    have k1 := a.ks_len
    have k2 := q4.len.1
    have k4 := raw_bal a q3
    apply Nat.le_of_not_lt
    intro h9
    have h10 := Fb.raw_mono (show 40 ≤ a.ht by omega)
    have h11 := raw_big
    omega
theorem Wav.shapes_are {w : World} {x : Wx} {m : List Int} (h : Wav w x m) (hm : m.length ≤ 1000000) : (shF x.F).map (fun s => s.1) = (Wv.lens m).map (fun n : Nat => (n : Int)) ∧ ∀ s ∈ shF x.F, mayS s = true ∧ 1 ≤ s.1 ∧ 0 ≤ s.2.1 ∧ s.2.1 ≤ 100 := by
  constructor
  · unfold shF Wv.lens Wv.pre
    rw [List.map_append, List.map_flatMap, List.map_flatMap]
    have e1 : (Wv.lvl m 9 0).map (fun n : Nat => (n : Int)) = [] := rfl
    rw [e1, List.append_nil]
    refine fm_congr _ _ _ ?_
    intro v hv
    exact lvl_of h (by have := List.mem_range.1 hv; omega) _ (Nat.le_refl _)
  · intro s hs
    obtain ⟨k, e, hk, rfl⟩ := shF_in hs
    obtain ⟨_, h2, h3⟩ := h.in_rng hk
    have ht := (h.web.nods.fr.tre k e hk).1
    have h4 := ht.2.len
    have h5 := Wk.wb_len m k
    rw [← h2] at h5
    have h6 := ht.2.low (by omega)
    have h7 := List.length_pos_iff.2 h3
    refine ⟨ht.2.may, ?_, ?_, ?_⟩
    · show (1 : Int) ≤ (e.S.rt.len : Int); omega
    · show (0 : Int) ≤ (e.S.rt.ht : Int); omega
    · show (e.S.rt.ht : Int) ≤ 100; omega
theorem shF_len (w : World) {x : Wx} {m : List Int} (h : Wav w x m) : (shF x.F).length < 512 := by
  rw [← shT_nine h.some_iff]
  exact shT_len x.N x.F 9
theorem Wav.sh_ok {w : World} {x : Wx} {m : List Int} (h : Wav w x m) (hm : m.length ≤ 1000000) : ∀ s ∈ shF x.F, s.1 ≤ 9223372036854775807 ∧ s.2.1 ≤ 9223372036854775807 ∧ s.2.2.1 ≤ 9223372036854775807 := fun s hs => by
  obtain ⟨k, e, hk, rfl⟩ := shF_in hs
  obtain ⟨_, h2, h3⟩ := h.in_rng hk
  have ht := (h.web.nods.fr.tre k e hk).1
  have h4 := ht.2.len
  have h5 := Wk.wb_len m k
  rw [← h2] at h5
  have h6 := ht.2.ht
  have h7 := ht.1.live_le
  refine ⟨?_, ?_, ?_⟩
  · show (e.S.rt.len : Int) ≤ _; omega
  · show (e.S.rt.ht : Int) ≤ _; omega
  · show ((((e.S.live + 1) / 2 : Nat)) : Int) ≤ _; omega
/-- A wave of the call's own. -/
structure Td (w wr : World) (x : Wx) (m : List Int) : Prop where
  wav : Wav wr x m
  below : Below w.heap.size w wr
  lo : ∀ b, x.own b → w.heap.size ≤ b
theorem Td.red {w w1 w2 : World} {x : Wx} {m : List Int} {F : For} {v : Nat} (h : Td w w1 x m) (hr : Red w1 w2 x m F v) : Td w w2 ⟨x.B, x.t, x.N, F, v⟩ m :=
  ⟨hr.wav, h.below.trans (hr.stay.below h.below.size (fun b _ ho => h.lo b ho)), fun b ho => h.lo b (by
    rcases ho with ho | ho
    · exact .inl ho
    · exact .inr ((hr.seen.nown x.N b).1 ho))⟩
theorem Td.mvd {w w1 w2 : World} {x x' : Wx} {m m' : List Int} (h : Td w w1 x m) (hr : Mvd w1 w2 x x' m') : Td w w2 x' m' :=
  ⟨hr.wav, h.below.trans (hr.stay.below h.below.size (fun b _ ho => h.lo b ho)), fun b ho => by
    rcases hr.own b ho with h1 | h1
    · exact h.lo b h1
    · exact Nat.le_trans h.below.size h1⟩
theorem Td.on {w w1 w2 : World} {x : Wx} {m : List Int} (h : Td w w1 x m) (hb : Below w1.heap.size w1 w2) : Td w w2 x m := ⟨h.wav.below hb, h.below.trans (hb.mono h.below.size), h.lo⟩
theorem rdb_form {w : World} {v : Value} {l : List Bool} (h : RdB w v l) {n : Nat} (hn : l.length = n) : ∃ a cap, v = .slice a n cap := by
  rcases h with ⟨rfl, rfl⟩ | ⟨b, off, cap, rfl, _⟩
  · exact ⟨none, 0, by rw [← hn]; rfl⟩
  · exact ⟨_, cap, by rw [hn]⟩
set_option maxHeartbeats 6400000 in
set_option maxRecDepth 100000 in
theorem told7 (w : World) (hT : TabAt w) (hw0 : 0 < w.heap.size) :
    Calls Tryd.prog 14 #[] w fun e w' => e = .returned (.bool true) ∧ Below w.heap.size w w' := by
  have hr0 : RdL (w.alloc (Obj.cells #[.int .i64 3, .int .i64 256, .int .i64 3] 3)) (some ⟨w.heap.size, 0, none⟩) 3 [3, 256, 3] := RdL.made [3, 256, 3] (by show 3 ≤ maxLen; decide)
  have hbA : Below w.heap.size w (w.alloc (Obj.cells #[.int .i64 3, .int .i64 256, .int .i64 3] 3)) := Below.allocs (Below.refl _ _) _
  have key := wnew (by have := hbA.size; omega) hr0 (n := 3) rfl (by decide) (by intro s hs; simp at hs; rcases hs with rfl | rfl | rfl <;> decide)
  have HT := Lib.hid hT
  clear hT hr0
  go_enter Tryd.func14, Tryd.ntmps14
  go_wp2_with fail
  (with_reducible refine key.mono ?_); rintro e w1 ⟨x, rfl, hW, hxB, hb1⟩
  have hTd : Td w w1 x [3, 256, 3] := ⟨hW, hbA.trans (hb1.mono hbA.size), fun b ho => by have h1 := (hW.own_lt ho).1; have h2 := hbA.size; omega⟩
  clear key hW hxB hb1 hbA
  have hr1 : RdL (w1.alloc (Obj.cells #[.int .i64 257] 3)) (some ⟨w1.heap.size, 0, none⟩) 1 [257] := RdL.made [257] (by show 1 ≤ maxLen; decide)
  have key := wnew_bad hr1 (by decide)
  have hTd := hTd.on (w2 := w1.alloc (Obj.cells #[.int .i64 257] 3)) (Below.allocs (Below.refl _ _) _)
  have HTD := Lib.hid hTd
  clear hr1 hTd
  go_wp2_with fail
  (with_reducible refine key.mono ?_); rintro e w2 ⟨rfl, hw2⟩
  rw [hw2] at HTD
  clear key hw2
  have key : Calls Tryd.prog 18 #[.pointer (some ⟨x.t, 0, none⟩), .int .i64 1, .int .i64 0] w2 _ := HTD.out.wav.insert 0 1 (by show 1 ≤ 3; decide) (by show 3 ≤ 1000000; decide) (by decide)
  go_wp2_with fail
  (with_reducible refine key.mono ?_); rintro e w3 ⟨rfl, x3, hM, _⟩
  have hx3 := hM.t
  have HTD3 : Hid (Td w w3 x3 [3, 0, 256, 3]) := Lib.hid (HTD.out.mvd hM)
  clear key hM HTD
  have key : Calls Tryd.prog 19 #[.pointer (some ⟨x3.t, 0, none⟩), .int .i64 2] w3 _ := HTD3.out.wav.delete 2 (by show 2 < 4; decide) (by show 4 ≤ 1000000; decide)
  rw [← hx3]
  clear hx3
  replace key : Calls Tryd.prog 19 #[.pointer (some ⟨x3.t, 0, none⟩), .int .i64 2] w3 (fun e w' => e = .returned (.tuple #[.int .i64 256, .int .i64 0]) ∧ _) := key
  go_wp2_with fail
  (with_reducible refine key.mono ?_); rintro e w4 ⟨rfl, x4, hM, _⟩
  have hx4 : x4.t = x3.t := hM.t
  rw [← hx4]
  clear hx4
  have HTD4 : Hid (Td w w4 x4 [3, 0, 3]) := Lib.hid (HTD3.out.mvd hM)
  clear key hM HTD3
  have key := HTD4.out.wav.get_out 9 (.inr (by show (3 : Int) ≤ 9; decide))
  go_wp2_with fail
  (with_reducible refine key.mono ?_); rintro e w5 ⟨rfl, hR⟩
  have HTD5 := Lib.hid (HTD4.out.red hR)
  clear key hR HTD4
  have key : Calls Tryd.prog 18 #[.pointer (some ⟨x4.t, 0, none⟩), .int .i64 0, .int .i64 257] w5 _ := HTD5.out.wav.insert_arg 0 257 (by decide)
  go_wp2_with fail
  (with_reducible refine key.mono ?_); rintro e w6 ⟨rfl, hR⟩
  have HTD6 := Lib.hid (HTD5.out.red hR)
  clear key hR HTD5
  have key : Calls Tryd.prog 30 #[.pointer (some ⟨x4.t, 0, none⟩)] w6 (fun e w' => e = .returned (.int .i64 3) ∧ w6 = w') := HTD6.out.wav.len
  go_wp2_with fail
  (with_reducible refine key.mono ?_); rintro e w6' ⟨rfl, rfl⟩
  clear key
  have key : Calls Tryd.prog 16 #[.pointer (some ⟨x4.t, 0, none⟩), .int .i64 3, .int .i64 3] w6 (fun e w' => e = .returned (.int .i64 2) ∧ _) := HTD6.out.wav.rank 3 3 (by show 3 ≤ 1000000; decide)
  go_wp2_with fail
  (with_reducible refine key.mono ?_); rintro e w7 ⟨rfl, F7, v7, hR⟩
  have HTD7 := Lib.hid (HTD6.out.red hR)
  clear key hR HTD6
  have key : Calls Tryd.prog 16 #[.pointer (some ⟨x4.t, 0, none⟩), .int .i64 9, .int .i64 300] w7 (fun e w' => e = .returned (.int .i64 0) ∧ _) := HTD7.out.wav.rank 9 300 (by show 3 ≤ 1000000; decide)
  go_wp2_with fail
  (with_reducible refine key.mono ?_); rintro e w8 ⟨rfl, F8, v8, hR⟩
  have HTD8 := Lib.hid (HTD7.out.red hR)
  clear key hR HTD7
  have hT8 := TabAt.below HT.out HTD8.out.below hw0
  have key := HTD8.out.wav.select hT8 1 3 (by show 3 ≤ 1000000; decide)
  have e1 : Wv.sl [3, 0, 3] ((1 : Nat) : Int) 3 = ((2 : Nat) : Int) := Wv.sl_of (l := [3, 0, 3]) (k := 2) (j := 1) (s := 3) (by show 2 < 3; decide) rfl (by decide)
  rw [show (1 : Int) = ((1 : Nat) : Int) from rfl, e1] at key
  replace key : Calls Tryd.prog 17 #[.pointer (some ⟨x4.t, 0, none⟩), .int .i64 1, .int .i64 3] w8 (fun e w' => e = .returned (.int .i64 2) ∧ _) := key
  clear e1 hT8
  go_wp2_with fail
  (with_reducible refine key.mono ?_); rintro e w9 ⟨rfl, F9, v9, hR⟩
  have HTD9 := Lib.hid (HTD8.out.red hR)
  clear key hR HTD8
  have hT9 := TabAt.below HT.out HTD9.out.below hw0
  have key := HTD9.out.wav.select hT9 0 9 (by show 3 ≤ 1000000; decide)
  have e1 : Wv.sl [3, 0, 3] 0 9 = -1 := Wv.sl_none (.inr (by decide))
  rw [e1] at key
  replace key : Calls Tryd.prog 17 #[.pointer (some ⟨x4.t, 0, none⟩), .int .i64 0, .int .i64 9] w9 (fun e w' => e = .returned (.int .i64 (-1)) ∧ _) := key
  clear e1 hT9
  go_wp2_with fail
  (with_reducible refine key.mono ?_); rintro e w10 ⟨rfl, F10, v10, hR⟩
  have HTD10 := Lib.hid (HTD9.out.red hR)
  clear key hR HTD9
  have key : Calls Tryd.prog 13 #[.pointer (some ⟨x4.t, 0, none⟩), .int .i64 0, .int .i64 0] w10 _ := HTD10.out.wav.level 0 0 (by show 3 ≤ 1000000; decide) (by decide)
  go_wp2_with fail
  (with_reducible refine key.mono ?_); rintro e w11 ⟨va, rfl, hv, hb⟩
  obtain ⟨aa, ca, rfl⟩ := rdb_form hv (n := 3) (by decide)
  have HTD11 := Lib.hid (HTD10.out.on hb)
  clear key hv hb HTD10
  have key : Calls Tryd.prog 13 #[.pointer (some ⟨x4.t, 0, none⟩), .int .i64 9, .int .i64 0] w11 _ := HTD11.out.wav.level 9 0 (by show 3 ≤ 1000000; decide) (by decide)
  go_wp2_with fail
  (with_reducible refine key.mono ?_); rintro e w12 ⟨va, rfl, hv, hb⟩
  obtain ⟨ab, cb, rfl⟩ := rdb_form hv (n := 0) (by decide)
  have HTD12 := Lib.hid (HTD11.out.on hb)
  clear key hv hb HTD11
  have key := HTD12.out.wav.shapes (by show 3 ≤ 1000000; decide)
  have hsl := congrArg List.length (HTD12.out.wav.shapes_are (by show 3 ≤ 1000000; decide)).1
  rw [List.length_map, List.length_map] at hsl
  have hl10 : (Wv.lens [3, 0, 3]).length = 10 := by decide
  rw [hl10] at hsl
  replace key : Calls Tryd.prog 10 #[.pointer (some ⟨x4.t, 0, none⟩)] w12 _ := key
  go_wp2_with fail
  (with_reducible refine key.mono ?_); rintro e w13 ⟨va, rfl, hv, hb⟩
  obtain ⟨ac, cc, hve, _, _⟩ := own_form hv
  rw [hsl] at hve
  subst hve
  have HB13 := Lib.hid (HTD12.out.below.trans (hb.mono HTD12.out.below.size))
  clear key hv hb HTD12 hsl hl10
  go_wp2_with fail
  (with_reducible refine (winsert_nil 0 1 w13).mono ?_); rintro e w13' ⟨rfl, rfl⟩
  go_wp2_with fail
  (with_reducible refine (wrank_nil 1 1 w13).mono ?_); rintro e w13' ⟨rfl, rfl⟩
  go_wp2_with fail
  (with_reducible refine (wlen_nil w13).mono ?_); rintro e w13' ⟨rfl, rfl⟩
  go_wp2_with fail
  go_ret
  exact ⟨rfl, HB13.out⟩
end Go.Proofs.YtaglnomjlnlgoaaDoor
namespace Go.Proofs.YtaglnomjlnlgoaaDoor
open Go Go.RowKit Go.ChangeAt Tr Wk

theorem Red.own {w w' : World} {x : Wx} {m : List Int} {F' : For} {v' : Nat} (h : Red w w' x m F' v') (i : Nat) (hi : Wx.own ⟨x.B, x.t, x.N, F', v'⟩ i) : x.own i ∨ w.heap.size ≤ i := by
  rcases hi with hi | hi
  · exact .inl (.inl hi)
  · exact .inl (.inr ((h.seen.nown x.N i).1 hi))
theorem Wav.not_own {w : World} {x : Wx} {m : List Int} (h : Wav w x m) {b : Nat} (hb : w.heap.size ≤ b) : ¬ x.own b := fun ho => by have := (h.own_lt ho).2; omega
noncomputable def O7 : WOps where
  X := Wx
  own := Wx.own
  shp := fun x => shF x.F
  vis := fun x => (x.v : Int)
  E := TabAt
  wav := fun w t x m => x.t = t ∧ Wav w x m
  E_below := fun h hB hb => h.below hb hB
  lt := fun h i hi => (h.2.own_lt hi).2
  stay := fun h hs hn => ⟨h.1, h.2.stay hs hn⟩
  good := fun h => h.2.good
  shapes_are := fun h hm => h.2.shapes_are hm
  new := fun {w a cap n l} _ hp hr hn hm hg => (wnew hp hr hn hm hg).mono fun _ _ ⟨x, he, hW, hB, hb⟩ => ⟨x.t, x, he, ⟨rfl, hW⟩, fun i hi => hB ▸ (hW.own_lt hi).1, hb⟩
  insert := fun {w t x m} k s n _ h hk hn hm hs => by
    obtain ⟨rfl, h⟩ := h
    subst hk
    refine (h.insert s n hn hm hs).mono fun _ _ ⟨he, x', hM, hv⟩ => ⟨he, x', ⟨hM.t, hM.wav⟩, hM.stay, hM.own, ?_⟩
    have h1 := hiF_eq x.F
    have h2 := hiF_eq x'.F
    omega
  insert_arg := fun {w t x m} k s _ h _ hs => by
    obtain ⟨rfl, h⟩ := h
    refine (h.insert_arg k s hs).mono fun _ _ ⟨he, hR⟩ => ⟨he, (⟨x.B, x.t, x.N, x.F, 0⟩ : Wx), ⟨rfl, hR.wav⟩, hR.stay, hR.own, hR.seen.shF, ?_⟩
    have h1 := hiS_ge (shF x.F) 0
    show (0 : Int) ≤ _
    omega
  insert_out := fun {w t x m} k s _ h _ hs hk => by
    obtain ⟨rfl, h⟩ := h
    refine (h.insert_out k s hs hk).mono fun _ _ ⟨he, hR⟩ => ⟨he, (⟨x.B, x.t, x.N, x.F, 0⟩ : Wx), ⟨rfl, hR.wav⟩, hR.stay, hR.own, hR.seen.shF, ?_⟩
    have h1 := hiS_ge (shF x.F) 0
    show (0 : Int) ≤ _
    omega
  delete := fun {w t x m} k n _ h hk hn hm => by
    obtain ⟨rfl, h⟩ := h
    subst hk
    refine (h.delete n hn hm).mono fun _ _ ⟨he, x', hM, hv⟩ => ⟨he, x', ⟨hM.t, hM.wav⟩, hM.stay, hM.own, ?_⟩
    have h1 := hiF_eq x.F
    have h2 := hiF_eq x'.F
    omega
  delete_out := fun {w t x m} k _ h _ hk => by
    obtain ⟨rfl, h⟩ := h
    refine (h.delete_out k hk).mono fun _ _ ⟨he, hR⟩ => ⟨he, (⟨x.B, x.t, x.N, x.F, 0⟩ : Wx), ⟨rfl, hR.wav⟩, hR.stay, hR.own, hR.seen.shF, ?_⟩
    have h1 := hiS_ge (shF x.F) 0
    show (0 : Int) ≤ _
    omega
  get := fun {w t x m} k n _ h hk hn hm => by
    obtain ⟨rfl, h⟩ := h
    subst hk
    refine (h.get n hn hm).mono fun _ _ ⟨he, F', v', hR, hv⟩ => ⟨he, (⟨x.B, x.t, x.N, F', v'⟩ : Wx), ⟨rfl, hR.wav⟩, hR.stay, hR.own, hR.seen.shF, ?_⟩
    have h1 := hiF_eq x.F
    show ((v' : Nat) : Int) ≤ _
    omega
  get_out := fun {w t x m} k _ h _ hk => by
    obtain ⟨rfl, h⟩ := h
    refine (h.get_out k hk).mono fun _ _ ⟨he, hR⟩ => ⟨he, (⟨x.B, x.t, x.N, x.F, 0⟩ : Wx), ⟨rfl, hR.wav⟩, hR.stay, hR.own, hR.seen.shF, ?_⟩
    have h1 := hiS_ge (shF x.F) 0
    show (0 : Int) ≤ _
    omega
  rank := fun {w t x m} k s _ h hm => by
    obtain ⟨rfl, h⟩ := h
    exact (h.rank k s hm).mono fun _ _ ⟨he, F', v', hR⟩ => ⟨he, (⟨x.B, x.t, x.N, F', v'⟩ : Wx), ⟨rfl, hR.wav⟩, hR.stay, hR.own, hR.seen.shF⟩
  select := fun {w t x m} j s hE h hm => by
    obtain ⟨rfl, h⟩ := h
    exact (h.select hE j s hm).mono fun _ _ ⟨he, F', v', hR⟩ => ⟨he, (⟨x.B, x.t, x.N, F', v'⟩ : Wx), ⟨rfl, hR.wav⟩, hR.stay, hR.own, hR.seen.shF⟩
  len := fun {w t x m} h => by
    obtain ⟨rfl, h⟩ := h
    exact h.len
  all := fun {w t x m} _ h hm => by
    obtain ⟨rfl, h⟩ := h
    exact (h.all hm).mono fun _ _ ⟨v, he, ho, hb⟩ => ⟨v, x, he, ho, ⟨rfl, h.below hb⟩, Stay.of_below hb, fun _ hi => .inl hi, fun b hv => h.not_own (World.ownsRow.lt ho b hv).1, rfl⟩
  level := fun {w t x m} l p _ h hm hp => by
    obtain ⟨rfl, h⟩ := h
    exact (h.level l p hm hp).mono fun _ _ ⟨v, he, hr, hb⟩ => ⟨v, x, he, hr, ⟨rfl, h.below hb⟩, Stay.of_below hb, fun _ hi => .inl hi, rfl⟩
  shapes := fun {w t x m} _ h hm => by
    obtain ⟨rfl, h⟩ := h
    refine (h.shapes hm).mono fun _ _ ⟨v, he, ho, hb⟩ => ?_
    obtain ⟨a, cap, rfl, _, _⟩ := own_form ho
    have hl := shF_len w h
    exact ⟨a, cap, x, he, OwnS7.rd ho (by omega) (h.sh_ok hm), ⟨rfl, h.below hb⟩, Stay.of_below hb, fun _ hi => .inl hi, fun ad e => h.not_own (World.ownsRow.lt ho ad.block (by rw [e]; rfl)).1, rfl, fun _ _ hv => hv⟩
  vis_pos := fun {w t x m} _ => Int.natCast_nonneg _
  told := fun {w} hE hp => told7 w hE hp
end Go.Proofs.YtaglnomjlnlgoaaDoor
