/- join: contracts of the walk. -/
import Derived.Test.YtfbhcbcpeocmcaaDoorTmI
import Derived.Deep.RegionHeld3
namespace Go.Proofs.YtfbhcbcpeocmcaaDoor
open Go Go.RowKit Go.ChangeAt Tr

/-- A leaf is given up: its block is no one's. -/
theorem TM.leave {base : Nat} {w : World} {t : Nat} {S : St} {k n b : Nat} {l : List Bool} (h : TM base w t S) (hk : S.sto k = some (n, .lf b l)) :
    TM base w t { S with own := fun i => if i = b then none else S.own i, sto := upd S.sto k (some (n, .dd)) } := by
  obtain ⟨A, B, h1, _, _, h4, h5⟩ := h.lf hk
  refine h.turn hk (Stay.refl (fun _ => False) _) (fun _ _ e => e.elim) ⟨_, _, _, h1⟩ (fun i x e hx => ?_) (fun i x e => ?_) (fun _ _ e => by cases e)
  · have : i ≠ b := fun e2 => by subst e2; rw [h4] at e; injection e with e; exact hx e.symm
    exact (if_neg this).trans e
  · have e' : (if i = b then none else S.own i) = some x := e
    by_cases hib : i = b
    · rw [if_pos hib] at e'; cases e'
    · rw [if_neg hib] at e'; exact .inl e'
/-- A leaf takes a block that is no one's. -/
theorem TM.adopt {base : Nat} {w w' : World} {t : Nat} {S : St} {k n g : Nat} {d : Nd} {l : List Bool} {A B : Lk} (h : TM base w t S) (hk : S.sto k = some (n, d)) (hg : S.own g = none) (hb : base ≤ g) (hst : Stay (fun i => i = n) w w') (hn : w'.heap[n]? = some (.cells (ndv (some ⟨g, 0, none⟩) A B) 74 (0, 0))) (hi : IsBlk w' g l) :
    TM base w' t { S with own := fun i => if i = g then some (.bk k) else S.own i, sto := upd S.sto k (some (n, .lf g l)) } := by
  have h' := h
  obtain ⟨p, a, c, hx⟩ := h'
  have h1 := (hx.nds _ _ _ hk).1
  refine h.turn hk hst (fun i x e e2 => by subst e; rw [h1] at e2; injection e2 with e2; exact .inl e2.symm) ⟨⟨A, B, hn⟩, hi⟩ (fun i x e _ => ?_) (fun i x e => ?_) (fun b l e => by injection e with e _; subst e; exact if_pos rfl)
  · have : i ≠ g := fun e2 => by subst e2; rw [hg] at e; cases e
    exact (if_neg this).trans e
  · have e' : (if i = g then some (Who.bk k) else S.own i) = some x := e
    by_cases hig : i = g
    · rw [if_pos hig] at e'; injection e' with e'; exact .inr ⟨e'.symm, hig ▸ hb, hig ▸ hi.lt⟩
    · rw [if_neg hig] at e'; exact .inl e'
theorem Tr.upd_upd (s : Sto) (k : Nat) (x y : Option (Nat × Nd)) : upd (upd s k x) k y = upd s k y := by
  funext j
  unfold upd
  split <;> rfl
theorem TM.base_le {base : Nat} {w : World} {t : Nat} {S : St} {b : Nat} {x : Who} (h : TM base w t S) (hb : S.own b = some x) : base ≤ b := by
  obtain ⟨g, a, c, hx⟩ := h
  exact (hx.lab _ _ hb).1
/-- What is behind join, where there was room: s is the side of the few. -/
theorem join_end0 {base t few near nF nN bF bN : Nat} {S : St} {lF lN : List Bool} {A B : Lk} {w w2 w3 : World} (h : TM base w t S) (hF : S.sto few = some (nF, .lf bF lF)) (hN : S.sto near = some (nN, .lf bN lN)) (hne : few ≠ near) (hb2 : Below w.heap.size w w2)
    (h3 : Stay (fun i => i = bF ∨ i = bN) w2 w3) (hJ1 : IsBlk w3 bF (lF ++ lN)) (hJ2 : IsBlk w3 bN []) (hn3 : w3.heap[nN]? = some (.cells (ndv (some ⟨bN, 0, none⟩) A B) 74 (0, 0))) :
    ∃ own' g, TM base (w3.setCell ⟨nN, 0, none⟩ (.pointer (some ⟨bF, 0, none⟩))).drew t { S with own := own', sto := upd (upd S.sto few (some (nF, .dd))) near (some (nN, .lf g (lF ++ lN))) } ∧ Mv w (w3.setCell ⟨nN, 0, none⟩ (.pointer (some ⟨bF, 0, none⟩))).drew S { S with own := own', sto := upd (upd S.sto few (some (nF, .dd))) near (some (nN, .lf g (lF ++ lN))) } := by
  obtain ⟨A1, B1, hF1, hF2, hF3, hF4, hF5⟩ := h.lf hF
  obtain ⟨A2, B2, hN1, hN2, hN3, hN4, hN5⟩ := h.lf hN
  have hbb : bN ≠ bF := fun e => by rw [← e, hN4] at hF4; injection hF4 with hF4; injection hF4 with hF4; exact hne hF4.symm
  have hnb : ¬ nN = bF := fun e => by rw [e, hF4] at hN5; cases hN5
  have hnb2 : ¬ nN = bN := fun e => by rw [e, hN4] at hN5; cases hN5
  have hA := (h.below hb2).leave hF
  have hN' : (upd S.sto few (some (nF, .dd))) near = some (nN, .lf bN lN) := (upd_ne _ _ hne.symm).trans hN
  have hB := hA.turn0 (k := near) (n := nN) (d' := .lf bN []) hN' h3 (fun b x e e2 => by
    have e2' : (if b = bF then none else S.own b) = some x := e2
    rcases e with e | e
    · rw [if_pos e] at e2'; cases e2'
    · rw [if_neg (by rw [e]; exact hbb), e, hN4] at e2'; injection e2' with e2'; exact .inr e2'.symm) ⟨⟨A, B, hn3⟩, hJ2⟩ (fun b l e => by injection e with e _; subst e; exact (if_neg hbb).trans hN4)
  have hset : Stay (fun i => i = nN) w3 (w3.setCell ⟨nN, 0, none⟩ (.pointer (some ⟨bF, 0, none⟩))).drew := (Stay.setCell (S := fun i => i = nN) (Stay.refl _ _) (p := ⟨nN, 0, none⟩) (.inr rfl) _).drew
  have hC := hB.adopt (k := near) (n := nN) (g := bF) (l := lF ++ lN) (A := A) (B := B) (upd_at _ _ _) (if_pos rfl) (h.base_le hF4) hset (set_of hn3 _) (hJ1.stay hset (fun e => hnb e.symm))
  have e : upd (upd (upd S.sto few (some (nF, .dd))) near (some (nN, .lf bN []))) near (some (nN, .lf bF (lF ++ lN))) = upd (upd S.sto few (some (nF, .dd))) near (some (nN, .lf bF (lF ++ lN))) := upd_upd _ _ _ _
  refine ⟨fun i => if i = bF then some (.bk near) else (if i = bF then none else S.own i), bF, ?_, ⟨?_, fun b hb => ?_⟩⟩
  · rw [← e]; exact hC
  · refine ((Stay.of_below (S := fun b => S.own b ≠ none) hb2).trans h3 (fun i _ e => ?_)).trans hset (fun i _ e => ?_)
    · rcases e with e | e
      · rw [e, hF4]; exact fun h => by cases h
      · rw [e, hN4]; exact fun h => by cases h
    · rw [e, hN5]; exact fun h => by cases h
  · have hb' : (if b = bF then some (Who.bk near) else (if b = bF then none else S.own b)) ≠ none := hb
    by_cases e : b = bF
    · left; rw [e, hF4]; exact fun h => by cases h
    · rw [if_neg e, if_neg e] at hb'; exact .inl hb'
theorem join_end1 {base t few near nF nN bF bN : Nat} {S : St} {lF lN : List Bool} {A B : Lk} {w w2 w3 : World} (h : TM base w t S) (hF : S.sto few = some (nF, .lf bF lF)) (hN : S.sto near = some (nN, .lf bN lN)) (hne : few ≠ near) (hb2 : Below w.heap.size w w2)
    (h3 : Stay (fun i => i = bF ∨ i = bN) w2 w3) (hJ1 : IsBlk w3 bN (lN ++ lF)) (hn3 : w3.heap[nN]? = some (.cells (ndv (some ⟨bN, 0, none⟩) A B) 74 (0, 0))) :
    ∃ own' g, TM base (w3.setCell ⟨nN, 0, none⟩ (.pointer (some ⟨bN, 0, none⟩))).drew t { S with own := own', sto := upd (upd S.sto few (some (nF, .dd))) near (some (nN, .lf g (lN ++ lF))) } ∧ Mv w (w3.setCell ⟨nN, 0, none⟩ (.pointer (some ⟨bN, 0, none⟩))).drew S { S with own := own', sto := upd (upd S.sto few (some (nF, .dd))) near (some (nN, .lf g (lN ++ lF))) } := by
  obtain ⟨A1, B1, hF1, hF2, hF3, hF4, hF5⟩ := h.lf hF
  obtain ⟨A2, B2, hN1, hN2, hN3, hN4, hN5⟩ := h.lf hN
  have hbb : bN ≠ bF := fun e => by rw [← e, hN4] at hF4; injection hF4 with hF4; injection hF4 with hF4; exact hne hF4.symm
  have hnb2 : ¬ nN = bN := fun e => by rw [e, hN4] at hN5; cases hN5
  have hnbF : ¬ nN = bF := fun e => by rw [e, hF4] at hN5; cases hN5
  have hA := (h.below hb2).leave hF
  have hN' : (upd S.sto few (some (nF, .dd))) near = some (nN, .lf bN lN) := (upd_ne _ _ hne.symm).trans hN
  have hset : Stay (fun i => i = nN) w3 (w3.setCell ⟨nN, 0, none⟩ (.pointer (some ⟨bN, 0, none⟩))).drew := (Stay.setCell (S := fun i => i = nN) (Stay.refl _ _) (p := ⟨nN, 0, none⟩) (.inr rfl) _).drew
  have hB := hA.turn0 (k := near) (n := nN) (d' := .lf bN (lN ++ lF)) hN' (Z := fun i => (i = bF ∨ i = bN) ∨ i = nN) (w' := (w3.setCell ⟨nN, 0, none⟩ (.pointer (some ⟨bN, 0, none⟩))).drew) ((h3.mono (fun i _ e => .inl e)).trans hset (fun i _ e => .inr e)) (fun b x e e2 => by
    have e2' : (if b = bF then none else S.own b) = some x := e2
    rcases e with (e | e) | e
    · rw [if_pos e] at e2'; cases e2'
    · rw [if_neg (by rw [e]; exact hbb), e, hN4] at e2'; injection e2' with e2'; exact .inr e2'.symm
    · rw [if_neg (by rw [e]; exact hnbF), e, hN5] at e2'; injection e2' with e2'; exact .inl e2'.symm) ⟨⟨A, B, set_of hn3 _⟩, hJ1.stay hset (fun e => hnb2 e.symm)⟩ (fun b l e => by injection e with e _; subst e; exact (if_neg hbb).trans hN4)
  refine ⟨fun i => if i = bF then none else S.own i, bN, hB, ⟨?_, fun b hb => ?_⟩⟩
  · refine ((Stay.of_below (S := fun b => S.own b ≠ none) hb2).trans h3 (fun i _ e => ?_)).trans hset (fun i _ e => ?_)
    · rcases e with e | e
      · rw [e, hF4]; exact fun h => by cases h
      · rw [e, hN4]; exact fun h => by cases h
    · rw [e, hN5]; exact fun h => by cases h
  · have hb' : (if b = bF then none else S.own b) ≠ none := hb
    by_cases e : b = bF
    · rw [if_pos e] at hb'; exact absurd rfl hb'
    · rw [if_neg e] at hb'; exact .inl hb'
/-- The pair of nodes that join lays. -/
abbrev ZP (a b : Option Addr) : Obj := Obj.cells #[.pointer a, .pointer b] 107
/-- A leaf's block is changed for a new one. -/
theorem TM.swap {base : Nat} {w w1 : World} {t : Nat} {S : St} {k n b g : Nat} {l l' : List Bool} (h : TM base w t S) (hk : S.sto k = some (n, .lf b l)) (hb : Below w.heap.size w w1) (hg : w.heap.size ≤ g) (hi : IsBlk w1 g l') :
    ∃ own', TM base (w1.setCell ⟨n, 0, none⟩ (.pointer (some ⟨g, 0, none⟩))) t { S with own := own', sto := upd S.sto k (some (n, .lf g l')) } ∧ Mv w (w1.setCell ⟨n, 0, none⟩ (.pointer (some ⟨g, 0, none⟩))) S { S with own := own', sto := upd S.sto k (some (n, .lf g l')) } := by
  obtain ⟨A, B, h1, _, _, h4, h5⟩ := h.lf hk
  have hA := (h.below hb).leave hk
  have hn1 := Below.keptB hb h1 (lt_of_block h1)
  have hng : ¬ g = n := fun e => by have := lt_of_block h1; omega
  have hgb : ¬ g = b := fun e => by have := (TM.lf h hk).choose_spec.choose_spec.2.2.1.lt; omega
  have hbase : base ≤ w.heap.size := by have := h.lt; omega
  have hset : Stay (fun i => i = n) w1 (w1.setCell ⟨n, 0, none⟩ (.pointer (some ⟨g, 0, none⟩))) := Stay.setCell (S := fun i => i = n) (Stay.refl _ _) (p := ⟨n, 0, none⟩) (.inr rfl) _
  have hC := hA.adopt (k := k) (n := n) (g := g) (l := l') (A := A) (B := B) (upd_at _ _ _) ((if_neg hgb).trans (h.new hg)) (by omega) hset (set_of hn1 _) (hi.stay hset hng)
  have e : upd (upd S.sto k (some (n, .dd))) k (some (n, .lf g l')) = upd S.sto k (some (n, .lf g l')) := upd_upd _ _ _ _
  refine ⟨fun i => if i = g then some (.bk k) else (if i = b then none else S.own i), ?_, ⟨?_, fun i hi2 => ?_⟩⟩
  · rw [← e]; exact hC
  · exact (Stay.of_below (S := fun b => S.own b ≠ none) hb).trans hset (fun i _ e => by rw [e, h5]; exact fun h => by cases h)
  · have hi' : (if i = g then some (Who.bk k) else (if i = b then none else S.own i)) ≠ none := hi2
    by_cases e1 : i = g
    · exact .inr (e1 ▸ hg)
    · by_cases e2 : i = b
      · rw [if_neg e1, if_pos e2] at hi'; exact absurd rfl hi'
      · rw [if_neg e1, if_neg e2] at hi'; exact .inl hi'
theorem OwnB.long {base : Nat} {w : World} {v : Value} {l : List Bool} (h : OwnB base w v l) (hp : 0 < l.length) : ∃ b cap, v = .slice (some ⟨b, 0, none⟩) l.length cap ∧ base ≤ b ∧ b < w.heap.size ∧ l.length ≤ cap ∧ cap ≤ maxLen ∧ ∀ i, i < l.length → w.cell? ⟨b, 0 + i, none⟩ = some (.bool (l.getD i false)) := by
  obtain ⟨b, cap, h1, h2, h3, h4, h5, h6, _⟩ := OwnB.opens h hp
  exact ⟨b, cap, h1, h2, h3, h4, h5, fun i hi => by rw [Nat.zero_add]; exact h6 i hi⟩
theorem Tr.upd_comm (s : Sto) {k j : Nat} (h : k ≠ j) (x y : Option (Nat × Nd)) : upd (upd s k x) j y = upd (upd s j y) k x := by
  funext i
  unfold upd
  by_cases h1 : i = j
  · by_cases h2 : i = k
    · exact absurd (h2.symm.trans h1) h
    · rw [if_pos h1, if_neg h2, if_pos h1]
  · rw [if_neg h1]
    by_cases h2 : i = k
    · rw [if_pos h2, if_pos h2]
    · rw [if_neg h2, if_neg h2, if_neg h1]
theorem RdB.tail {w : World} {l : List Bool} {b cap k : Nat} (hb : b < w.heap.size) (h1 : l.length ≤ cap) (h2 : cap ≤ maxLen) (h3 : ∀ i, i < l.length → w.cell? ⟨b, 0 + i, none⟩ = some (.bool (l.getD i false))) (hk : k ≤ l.length) : RdB w (.slice (some ⟨b, k, none⟩) (l.length - k) (cap - k)) (l.drop k) := by
  refine .inr ⟨b, k, cap - k, by rw [List.length_drop], hb, by rw [List.length_drop]; omega, by unfold maxLen at h2 ⊢; omega, fun i hi => ?_⟩
  rw [List.length_drop] at hi
  have := h3 (k + i) (by omega)
  rw [Nat.zero_add] at this
  rw [this, List.getD_eq_getElem?_getD, List.getD_eq_getElem?_getD, List.getElem?_drop]
theorem row_cells {w : World} {l : List Bool} {b : Nat} (h : ∀ i, i < l.length → w.cell? ⟨b, 0 + i, none⟩ = some (.bool (l.getD i false))) : ∀ j u, (l.map Value.bool)[j]? = some u → w.cell? ((⟨b, 0, none⟩ : Addr).add j) = some u := by
  intro j u hu
  have := take_cells (off := 0) h l.length (Nat.le_refl _) j u
  rw [List.take_length] at this
  exact this hu
set_option maxRecDepth 100000 in
set_option maxHeartbeats 1600000 in
theorem tjoin_yes0 {base t few near nF nN bF bN : Nat} {S : St} {lF lN : List Bool} (w : World) (h : TM base w t S) (hF : S.sto few = some (nF, .lf bF lF)) (hN : S.sto near = some (nN, .lf bN lN)) (hne : few ≠ near) (hlen : lF.length + lN.length ≤ 128) :
    Calls Tryd.prog 76 #[.pointer (some ⟨t, 0, none⟩), .int .i64 few, .int .i64 near, .int .i64 0] w fun e w' => ∃ own' g, e = .returned (.bool true) ∧ TM base w' t { S with own := own', sto := upd (upd S.sto few (some (nF, .dd))) near (some (nN, .lf g (lF ++ lN))) } ∧ Mv w w' S { S with own := own', sto := upd (upd S.sto few (some (nF, .dd))) near (some (nN, .lf g (lF ++ lN))) } := by
  have hnn := h.ndne hF hN hne
  obtain ⟨len, c, lb, e1, _, e2, e3, e4, e5, e6, e7⟩ := h.seen hF
  obtain ⟨len', c', lb', d1, _, d2, d3, d4, d5, _, _⟩ := h.seen hN
  have ee := e1.symm.trans d1
  injection ee with ee
  injection ee with ee1 ee2 ee3
  injection ee1 with ee1
  injection ee1 with ee1
  subst ee1 ee2 ee3
  obtain ⟨A1, B1, hF1, hF2, hF3, hF4, hF5⟩ := h.lf hF
  obtain ⟨A2, B2, hN1, hN2, hN3, hN4, hN5⟩ := h.lf hN
  have f0 := hF2.c0
  have n0 := hN2.c0
  have hbb : bF ≠ bN := fun e => by rw [e, hN4] at hF4; injection hF4 with hF4; injection hF4 with hF4; exact hne hF4.symm
  have hnb1 : ¬ nN = bF := fun e => by rw [e, hF4] at hN5; cases hN5
  have hnb2 : ¬ nN = bN := fun e => by rw [e, hN4] at hN5; cases hN5
  have K : ∀ w', Below w.heap.size w w' → w'.cell? ⟨t, 1, none⟩ = some (.slice (some ⟨lb, 0, none⟩) len c) ∧ w'.cell? ⟨lb, few, none⟩ = some (.pointer (some ⟨nF, 0, none⟩)) ∧ w'.cell? ⟨lb, near, none⟩ = some (.pointer (some ⟨nN, 0, none⟩)) :=
    fun w' hb => ⟨(hb.cell (p := ⟨t, 1, none⟩) e6).trans e1, (hb.cell (p := ⟨lb, few, none⟩) e7).trans e2, (hb.cell (p := ⟨lb, near, none⟩) e7).trans d2⟩
  have H := Lib.hid h
  have HF := Lib.hid hF
  have HN := Lib.hid hN
  have HFB := Lib.hid (And.intro hF1 (And.intro hF3 (And.intro hF4 hF5)))
  have HNB := Lib.hid (And.intro hN1 (And.intro hN3 (And.intro hN4 hN5)))
  have z0 : IntKind.i64.wrap 0 = 0 := by decide
  have z1 : IntKind.i64.wrap 1 = 1 := by decide
  clear h hF hN hF1 hF2 hF3 hF4 hF5 hN1 hN2 hN3 hN4 hN5 d1 d4 d5 e1 e2 d2
  go_enter Tryd.func76, Tryd.ntmps76
  go_wp2_with fail
  go_cut [9] (fun s9 wx => s9 = .pointer (some ⟨w.heap.size, 0, none⟩) ∧ wx = (w.alloc (ZP (some ⟨nF, 0, none⟩) (some ⟨nN, 0, none⟩))).drew)
  case first =>
    go_region_held3 (fun w' => w'.cell? ⟨t, 1, none⟩ = some (.slice (some ⟨lb, 0, none⟩) len c) ∧ w'.cell? ⟨lb, few, none⟩ = some (.pointer (some ⟨nF, 0, none⟩)) ∧ w'.cell? ⟨lb, near, none⟩ = some (.pointer (some ⟨nN, 0, none⟩)))
      (first | (refine K _ ?_; (repeat (first | exact Below.refl _ _ | refine Below.drews ?_ | refine Below.allocs ?_ _))) | go_keep) (fail)
    all_goals
      go_wp2_with fail
      go_meet
      case rel => exact ⟨rfl, rfl⟩
  case rest =>
  obtain ⟨rfl, rfl⟩ := hcut
  have hb1 : Below w.heap.size w (w.alloc (ZP (some ⟨nF, 0, none⟩) (some ⟨nN, 0, none⟩))).drew := Below.drews (Below.allocs (Below.refl _ _) _)
  have p0 : (w.alloc (ZP (some ⟨nF, 0, none⟩) (some ⟨nN, 0, none⟩))).drew.cell? ⟨w.heap.size, 0, none⟩ = some (.pointer (some ⟨nF, 0, none⟩)) := new_cell rfl rfl
  have p1 : (w.alloc (ZP (some ⟨nF, 0, none⟩) (some ⟨nN, 0, none⟩))).drew.cell? ⟨w.heap.size, 1, none⟩ = some (.pointer (some ⟨nN, 0, none⟩)) := new_cell rfl rfl
  have HB1 := Lib.hid hb1
  clear hb1
  generalize (w.alloc (ZP (some ⟨nF, 0, none⟩) (some ⟨nN, 0, none⟩))).drew = w1 at *
  go_wp2_with fail
  go_quiet (fail)
  have hb2 : Below w.heap.size w (w1.drewN nq) := HB1.out.trans ((Below.refl _ _).drewN nq)
  have HB2 := Lib.hid hb2
  clear HB1 p0 p1 hb2
  generalize w1.drewN nq = w2 at *
  have hF1 := Below.keptB HB2.out HFB.out.1 (lt_of_block HFB.out.1)
  have hN1 := Below.keptB HB2.out HNB.out.1 (lt_of_block HNB.out.1)
  have f0' := (cellsN hF1).c0
  have n0' := (cellsN hN1).c0
  have hBF := HFB.out.2.1.below HB2.out HFB.out.2.1.lt
  have hBN := HNB.out.2.1.below HB2.out HNB.out.2.1.lt
  have keyJ := bjoin_yes w2.drew hBF hBN hbb (by omega)
  have HN1 := Lib.hid hN1
  clear hF1 hN1 f0 n0
  go_wp2_with fail
  go_cut [46] (fun s46 wx => s46 = .bool true ∧ IsBlk wx bF (lF ++ lN) ∧ IsBlk wx bN [] ∧ Stay (fun i => i = bF ∨ i = bN) w2 wx)
  case first =>
    go_region_law (first | (go_simp; (go_at_call 88; (with_reducible refine keyJ.mono ?_); rintro e w3 ⟨rfl, hJ1, hJ2, hJ3⟩)))
    all_goals
      go_wp2_with fail
      go_meet
      case rel => exact ⟨rfl, hJ1, hJ2, (Stay.drew (Stay.refl _ w2)).trans (hJ3.mono (fun i _ e => e)) (fun _ _ h => h)⟩
  case rest =>
  obtain ⟨rfl, hJ1, hJ2, hJ3⟩ := hcut
  have hst3 := hJ3
  have hN3 := hJ3.kept HN1.out (fun e => e.elim hnb1 hnb2)
  have n3 := (cellsN hN3).c0
  have fz3 := (cellsN hN3).fz 0
  have hF3 := hJ3.kept (Below.keptB HB2.out HFB.out.1 (lt_of_block HFB.out.1)) (fun e => e.elim (fun e => by have := HFB.out.2.2.2; rw [e, HFB.out.2.2.1] at this; cases this) (fun e => by have := HFB.out.2.2.2; rw [e, HNB.out.2.2.1] at this; cases this))
  have f3 := (cellsN hF3).c0
  -- the list's cells
  have hT0 := H.out.below HB2.out
  have hown : ∀ i, (fun i => i = bF ∨ i = bN) i → ¬ i = t ∧ ¬ i = lb := fun i e => by
    obtain ⟨g, a, c, hx⟩ := H.out
    refine ⟨fun e2 => ?_, fun e2 => ?_⟩
    · rw [e2] at e
      rcases e with e | e
      · have := hx.ownt; rw [e, HFB.out.2.2.1] at this; cases this
      · have := hx.ownt; rw [e, HNB.out.2.2.1] at this; cases this
    · obtain ⟨lb', q1, _, _, q4, _, q6⟩ := hx.list (hx.inT HF.out)
      have q := (cellsT hx.cells).c1
      rw [(K w (Below.refl _ _)).1] at q
      injection q with q
      injection q with q
      rw [q1] at q
      injection q with q
      injection q with q
      rw [e2] at e
      rcases e with e | e
      · rw [← q, e, HFB.out.2.2.1] at q6; cases q6
      · rw [← q, e, HNB.out.2.2.1] at q6; cases q6
  have hK2 := K w2 HB2.out
  have ht2 : t < w2.heap.size := Nat.lt_of_lt_of_le e6 HB2.out.size
  have hl2 : lb < w2.heap.size := Nat.lt_of_lt_of_le e7 HB2.out.size
  have k1 := (hJ3.cell (p := ⟨t, 1, none⟩) ht2 (fun e => (hown t e).1 rfl)).trans hK2.1
  have k2 := (hJ3.cell (p := ⟨lb, near, none⟩) hl2 (fun e => (hown lb e).2 rfl)).trans hK2.2.2
  have htn : ¬ nN = t := fun e => by
    obtain ⟨g, a, c, hx⟩ := H.out
    have := hx.ownt; rw [← e, HNB.out.2.2.2] at this; cases this
  have HJ := Lib.hid (And.intro hJ1 (And.intro hJ2 hJ3))
  have HN3 := Lib.hid hN3
  clear hJ1 hJ2 hJ3 hN3 K hst3 hT0 hown hK2 ht2 hl2 keyJ hBF hBN hF3
  go_wp2_with fail
  go_cut [] (fun wx => wx = (wc.setCell ⟨nN, 0, none⟩ (.pointer (some ⟨bF, 0, none⟩))).drew)
  case first =>
    go_region
    all_goals
      go_wp2_with fail
      go_meet
      case rel => rfl
  case rest =>
  subst hcut
  go_wp2_with fail
  go_ret
  obtain ⟨own', g, q1, q2⟩ := join_end0 H.out HF.out HN.out hne HB2.out HJ.out.2.2 HJ.out.1 HJ.out.2.1 HN3.out
  exact ⟨own', g, rfl, q1, q2⟩
set_option maxRecDepth 100000 in
set_option maxHeartbeats 1600000 in
theorem tjoin_yes1 {base t few near nF nN bF bN : Nat} {S : St} {lF lN : List Bool} (w : World) (h : TM base w t S) (hF : S.sto few = some (nF, .lf bF lF)) (hN : S.sto near = some (nN, .lf bN lN)) (hne : few ≠ near) (hlen : lF.length + lN.length ≤ 128) :
    Calls Tryd.prog 76 #[.pointer (some ⟨t, 0, none⟩), .int .i64 few, .int .i64 near, .int .i64 1] w fun e w' => ∃ own' g, e = .returned (.bool true) ∧ TM base w' t { S with own := own', sto := upd (upd S.sto few (some (nF, .dd))) near (some (nN, .lf g (lN ++ lF))) } ∧ Mv w w' S { S with own := own', sto := upd (upd S.sto few (some (nF, .dd))) near (some (nN, .lf g (lN ++ lF))) } := by
  have hnn := h.ndne hF hN hne
  obtain ⟨len, c, lb, e1, _, e2, e3, e4, e5, e6, e7⟩ := h.seen hF
  obtain ⟨len', c', lb', d1, _, d2, d3, d4, d5, _, _⟩ := h.seen hN
  have ee := e1.symm.trans d1
  injection ee with ee
  injection ee with ee1 ee2 ee3
  injection ee1 with ee1
  injection ee1 with ee1
  subst ee1 ee2 ee3
  obtain ⟨A1, B1, hF1, hF2, hF3, hF4, hF5⟩ := h.lf hF
  obtain ⟨A2, B2, hN1, hN2, hN3, hN4, hN5⟩ := h.lf hN
  have f0 := hF2.c0
  have n0 := hN2.c0
  have hbb : bF ≠ bN := fun e => by rw [e, hN4] at hF4; injection hF4 with hF4; injection hF4 with hF4; exact hne hF4.symm
  have hnb1 : ¬ nN = bF := fun e => by rw [e, hF4] at hN5; cases hN5
  have hnb2 : ¬ nN = bN := fun e => by rw [e, hN4] at hN5; cases hN5
  have K : ∀ w', Below w.heap.size w w' → w'.cell? ⟨t, 1, none⟩ = some (.slice (some ⟨lb, 0, none⟩) len c) ∧ w'.cell? ⟨lb, few, none⟩ = some (.pointer (some ⟨nF, 0, none⟩)) ∧ w'.cell? ⟨lb, near, none⟩ = some (.pointer (some ⟨nN, 0, none⟩)) :=
    fun w' hb => ⟨(hb.cell (p := ⟨t, 1, none⟩) e6).trans e1, (hb.cell (p := ⟨lb, few, none⟩) e7).trans e2, (hb.cell (p := ⟨lb, near, none⟩) e7).trans d2⟩
  have H := Lib.hid h
  have HF := Lib.hid hF
  have HN := Lib.hid hN
  have HFB := Lib.hid (And.intro hF1 (And.intro hF3 (And.intro hF4 hF5)))
  have HNB := Lib.hid (And.intro hN1 (And.intro hN3 (And.intro hN4 hN5)))
  have z0 : IntKind.i64.wrap 0 = 0 := by decide
  have z1 : IntKind.i64.wrap 1 = 1 := by decide
  clear h hF hN hF1 hF2 hF3 hF4 hF5 hN1 hN2 hN3 hN4 hN5 d1 d4 d5 e1 e2 d2
  go_enter Tryd.func76, Tryd.ntmps76
  go_wp2_with fail
  go_cut [9] (fun s9 wx => s9 = .pointer (some ⟨w.heap.size, 0, none⟩) ∧ wx = (w.alloc (ZP (some ⟨nF, 0, none⟩) (some ⟨nN, 0, none⟩))).drew)
  case first =>
    go_region_held3 (fun w' => w'.cell? ⟨t, 1, none⟩ = some (.slice (some ⟨lb, 0, none⟩) len c) ∧ w'.cell? ⟨lb, few, none⟩ = some (.pointer (some ⟨nF, 0, none⟩)) ∧ w'.cell? ⟨lb, near, none⟩ = some (.pointer (some ⟨nN, 0, none⟩)))
      (first | (refine K _ ?_; (repeat (first | exact Below.refl _ _ | refine Below.drews ?_ | refine Below.allocs ?_ _))) | go_keep) (fail)
    all_goals
      go_wp2_with fail
      go_meet
      case rel => exact ⟨rfl, rfl⟩
  case rest =>
  obtain ⟨rfl, rfl⟩ := hcut
  have hb1 : Below w.heap.size w (w.alloc (ZP (some ⟨nF, 0, none⟩) (some ⟨nN, 0, none⟩))).drew := Below.drews (Below.allocs (Below.refl _ _) _)
  have p0 : (w.alloc (ZP (some ⟨nF, 0, none⟩) (some ⟨nN, 0, none⟩))).drew.cell? ⟨w.heap.size, 0, none⟩ = some (.pointer (some ⟨nF, 0, none⟩)) := new_cell rfl rfl
  have p1 : (w.alloc (ZP (some ⟨nF, 0, none⟩) (some ⟨nN, 0, none⟩))).drew.cell? ⟨w.heap.size, 1, none⟩ = some (.pointer (some ⟨nN, 0, none⟩)) := new_cell rfl rfl
  have HB1 := Lib.hid hb1
  clear hb1
  generalize (w.alloc (ZP (some ⟨nF, 0, none⟩) (some ⟨nN, 0, none⟩))).drew = w1 at *
  go_wp2_with fail
  go_quiet (fail)
  have hb2 : Below w.heap.size w (w1.drewN nq) := HB1.out.trans ((Below.refl _ _).drewN nq)
  have HB2 := Lib.hid hb2
  clear HB1 p0 p1 hb2
  generalize w1.drewN nq = w2 at *
  have hF1 := Below.keptB HB2.out HFB.out.1 (lt_of_block HFB.out.1)
  have hN1 := Below.keptB HB2.out HNB.out.1 (lt_of_block HNB.out.1)
  have f0' := (cellsN hF1).c0
  have n0' := (cellsN hN1).c0
  have hBF := HFB.out.2.1.below HB2.out HFB.out.2.1.lt
  have hBN := HNB.out.2.1.below HB2.out HNB.out.2.1.lt
  have keyJ := bjoin_yes w2.drew hBN hBF hbb.symm (by omega)
  have HN1 := Lib.hid hN1
  clear hF1 hN1 f0 n0
  go_wp2_with fail
  go_cut [46] (fun s46 wx => s46 = .bool true ∧ IsBlk wx bN (lN ++ lF) ∧ IsBlk wx bF [] ∧ Stay (fun i => i = bF ∨ i = bN) w2 wx)
  case first =>
    go_region_law (first | (go_simp; (go_at_call 88; (with_reducible refine keyJ.mono ?_); rintro e w3 ⟨rfl, hJ1, hJ2, hJ3⟩)))
    all_goals
      go_wp2_with fail
      go_meet
      case rel => exact ⟨rfl, hJ1, hJ2, (Stay.drew (Stay.refl _ w2)).trans (hJ3.mono (fun i _ e => e.symm)) (fun _ _ h => h)⟩
  case rest =>
  obtain ⟨rfl, hJ1, hJ2, hJ3⟩ := hcut
  have hst3 := hJ3
  have hN3 := hJ3.kept HN1.out (fun e => e.elim hnb1 hnb2)
  have n3 := (cellsN hN3).c0
  have fz3 := (cellsN hN3).fz 0
  -- the list's cells
  have hT0 := H.out.below HB2.out
  have hown : ∀ i, (fun i => i = bF ∨ i = bN) i → ¬ i = t ∧ ¬ i = lb := fun i e => by
    obtain ⟨g, a, c, hx⟩ := H.out
    refine ⟨fun e2 => ?_, fun e2 => ?_⟩
    · rw [e2] at e
      rcases e with e | e
      · have := hx.ownt; rw [e, HFB.out.2.2.1] at this; cases this
      · have := hx.ownt; rw [e, HNB.out.2.2.1] at this; cases this
    · obtain ⟨lb', q1, _, _, q4, _, q6⟩ := hx.list (hx.inT HF.out)
      have q := (cellsT hx.cells).c1
      rw [(K w (Below.refl _ _)).1] at q
      injection q with q
      injection q with q
      rw [q1] at q
      injection q with q
      injection q with q
      rw [e2] at e
      rcases e with e | e
      · rw [← q, e, HFB.out.2.2.1] at q6; cases q6
      · rw [← q, e, HNB.out.2.2.1] at q6; cases q6
  have hK2 := K w2 HB2.out
  have ht2 : t < w2.heap.size := Nat.lt_of_lt_of_le e6 HB2.out.size
  have hl2 : lb < w2.heap.size := Nat.lt_of_lt_of_le e7 HB2.out.size
  have k1 := (hJ3.cell (p := ⟨t, 1, none⟩) ht2 (fun e => (hown t e).1 rfl)).trans hK2.1
  have k2 := (hJ3.cell (p := ⟨lb, near, none⟩) hl2 (fun e => (hown lb e).2 rfl)).trans hK2.2.2
  have htn : ¬ nN = t := fun e => by
    obtain ⟨g, a, c, hx⟩ := H.out
    have := hx.ownt; rw [← e, HNB.out.2.2.2] at this; cases this
  have HJ := Lib.hid (And.intro hJ1 (And.intro hJ2 hJ3))
  have HN3 := Lib.hid hN3
  clear hJ1 hJ2 hJ3 hN3 K hst3 hT0 hown hK2 ht2 hl2 keyJ hBF hBN
  go_wp2_with fail
  go_cut [] (fun wx => wx = (wc.setCell ⟨nN, 0, none⟩ (.pointer (some ⟨bN, 0, none⟩))).drew)
  case first =>
    go_region
    all_goals
      go_wp2_with fail
      go_meet
      case rel => rfl
  case rest =>
  subst hcut
  go_wp2_with fail
  go_ret
  obtain ⟨own', g, q1, q2⟩ := join_end1 H.out HF.out HN.out hne HB2.out HJ.out.2.2 HJ.out.1 HN3.out
  exact ⟨own', g, rfl, q1, q2⟩
set_option maxRecDepth 100000 in
set_option maxHeartbeats 1600000 in
theorem tjoin_no0 {base t few near nF nN bF bN : Nat} {S : St} {lF lN : List Bool} (w : World) (h : TM base w t S) (hF : S.sto few = some (nF, .lf bF lF)) (hN : S.sto near = some (nN, .lf bN lN)) (hne : few ≠ near) (hlen : 128 < lF.length + lN.length) :
    Calls Tryd.prog 76 #[.pointer (some ⟨t, 0, none⟩), .int .i64 few, .int .i64 near, .int .i64 0] w fun e w' => ∃ own' g1 g2, e = .returned (.bool false) ∧ TM base w' t { S with own := own', sto := upd (upd S.sto few (some (nF, .lf g1 ((lF ++ lN).take ((lF ++ lN).length / 2))))) near (some (nN, .lf g2 ((lF ++ lN).drop ((lF ++ lN).length / 2)))) } ∧ Mv w w' S { S with own := own', sto := upd (upd S.sto few (some (nF, .lf g1 ((lF ++ lN).take ((lF ++ lN).length / 2))))) near (some (nN, .lf g2 ((lF ++ lN).drop ((lF ++ lN).length / 2)))) } := by
  have hnn := h.ndne hF hN hne
  obtain ⟨len, c, lb, e1, _, e2, e3, e4, e5, e6, e7⟩ := h.seen hF
  obtain ⟨len', c', lb', d1, _, d2, d3, d4, d5, _, _⟩ := h.seen hN
  have ee := e1.symm.trans d1
  injection ee with ee
  injection ee with ee1 ee2 ee3
  injection ee1 with ee1
  injection ee1 with ee1
  subst ee1 ee2 ee3
  obtain ⟨A1, B1, hF1, hF2, hF3, hF4, hF5⟩ := h.lf hF
  obtain ⟨A2, B2, hN1, hN2, hN3, hN4, hN5⟩ := h.lf hN
  have f0 := hF2.c0
  have n0 := hN2.c0
  have hbb : bF ≠ bN := fun e => by rw [e, hN4] at hF4; injection hF4 with hF4; injection hF4 with hF4; exact hne hF4.symm
  have hnb1 : ¬ nN = bF := fun e => by rw [e, hF4] at hN5; cases hN5
  have hnb2 : ¬ nN = bN := fun e => by rw [e, hN4] at hN5; cases hN5
  have K : ∀ w', Below w.heap.size w w' → w'.cell? ⟨t, 1, none⟩ = some (.slice (some ⟨lb, 0, none⟩) len c) ∧ w'.cell? ⟨lb, few, none⟩ = some (.pointer (some ⟨nF, 0, none⟩)) ∧ w'.cell? ⟨lb, near, none⟩ = some (.pointer (some ⟨nN, 0, none⟩)) :=
    fun w' hb => ⟨(hb.cell (p := ⟨t, 1, none⟩) e6).trans e1, (hb.cell (p := ⟨lb, few, none⟩) e7).trans e2, (hb.cell (p := ⟨lb, near, none⟩) e7).trans d2⟩
  have H := Lib.hid h
  have HF := Lib.hid hF
  have HN := Lib.hid hN
  have HFB := Lib.hid (And.intro hF1 (And.intro hF3 (And.intro hF4 hF5)))
  have HNB := Lib.hid (And.intro hN1 (And.intro hN3 (And.intro hN4 hN5)))
  have z0 : IntKind.i64.wrap 0 = 0 := by decide
  have z1 : IntKind.i64.wrap 1 = 1 := by decide
  clear h hF hN hF1 hF2 hF3 hF4 hF5 hN1 hN2 hN3 hN4 hN5 d1 d4 d5 e1 e2 d2
  go_enter Tryd.func76, Tryd.ntmps76
  go_wp2_with fail
  go_cut [9] (fun s9 wx => s9 = .pointer (some ⟨w.heap.size, 0, none⟩) ∧ wx = (w.alloc (ZP (some ⟨nF, 0, none⟩) (some ⟨nN, 0, none⟩))).drew)
  case first =>
    go_region_held3 (fun w' => w'.cell? ⟨t, 1, none⟩ = some (.slice (some ⟨lb, 0, none⟩) len c) ∧ w'.cell? ⟨lb, few, none⟩ = some (.pointer (some ⟨nF, 0, none⟩)) ∧ w'.cell? ⟨lb, near, none⟩ = some (.pointer (some ⟨nN, 0, none⟩)))
      (first | (refine K _ ?_; (repeat (first | exact Below.refl _ _ | refine Below.drews ?_ | refine Below.allocs ?_ _))) | go_keep) (fail)
    all_goals
      go_wp2_with fail
      go_meet
      case rel => exact ⟨rfl, rfl⟩
  case rest =>
  obtain ⟨rfl, rfl⟩ := hcut
  have hb1 : Below w.heap.size w (w.alloc (ZP (some ⟨nF, 0, none⟩) (some ⟨nN, 0, none⟩))).drew := Below.drews (Below.allocs (Below.refl _ _) _)
  have p0 : (w.alloc (ZP (some ⟨nF, 0, none⟩) (some ⟨nN, 0, none⟩))).drew.cell? ⟨w.heap.size, 0, none⟩ = some (.pointer (some ⟨nF, 0, none⟩)) := new_cell rfl rfl
  have p1 : (w.alloc (ZP (some ⟨nF, 0, none⟩) (some ⟨nN, 0, none⟩))).drew.cell? ⟨w.heap.size, 1, none⟩ = some (.pointer (some ⟨nN, 0, none⟩)) := new_cell rfl rfl
  have HB1 := Lib.hid hb1
  clear hb1
  generalize (w.alloc (ZP (some ⟨nF, 0, none⟩) (some ⟨nN, 0, none⟩))).drew = w1 at *
  go_wp2_with fail
  go_quiet (fail)
  have hb2 : Below w.heap.size w (w1.drewN nq) := HB1.out.trans ((Below.refl _ _).drewN nq)
  have HB2 := Lib.hid hb2
  clear HB1 p0 p1 hb2
  generalize w1.drewN nq = w2 at *
  have hF1 := Below.keptB HB2.out HFB.out.1 (lt_of_block HFB.out.1)
  have hN1 := Below.keptB HB2.out HNB.out.1 (lt_of_block HNB.out.1)
  have f0' := (cellsN hF1).c0
  have n0' := (cellsN hN1).c0
  have hBF := HFB.out.2.1.below HB2.out HFB.out.2.1.lt
  have hBN := HNB.out.2.1.below HB2.out HNB.out.2.1.lt
  have hlF : 0 < lF.length := by have := hBN.1; omega
  have hlN : 0 < lN.length := by have := hBF.1; omega
  have hcF := hBF.1
  have hcN := hBN.1
  have keyJ := bjoin_full w2.drew hBF hBN (by omega)
  have HF1 := Lib.hid hF1
  have HN1 := Lib.hid hN1
  clear hF1 hN1 f0 n0
  go_wp2_with fail
  go_cut [46] (fun s46 wx => s46 = .bool false ∧ Below w2.heap.size w2 wx)
  case first =>
    go_region_law (first | (go_simp; (go_at_call 88; (with_reducible refine keyJ.mono ?_); rintro e w3 ⟨rfl, x, rfl⟩)))
    all_goals
      go_wp2_with fail
      go_meet
      case rel => exact ⟨rfl, (Below.refl _ _).drewN _⟩
  case rest =>
  obtain ⟨rfl, hbc⟩ := hcut
  have hz2 := HB2.out.size
  have hb3 : Below w.heap.size w wc := HB2.out.trans (hbc.mono hz2)
  have hF3 := Below.keptB hb3 HFB.out.1 (lt_of_block HFB.out.1)
  have hN3 := Below.keptB hb3 HNB.out.1 (lt_of_block HNB.out.1)
  have hB3F := HFB.out.2.1.below hb3 HFB.out.2.1.lt
  have hB3N := HNB.out.2.1.below hb3 HNB.out.2.1.lt
  have f3 := (cellsN hF3).c0
  have n3 := (cellsN hN3).c0
  have KC : ∀ w', Below wc.heap.size wc w' → w'.cell? ⟨nF, 0, none⟩ = some (.pointer (some ⟨bF, 0, none⟩)) ∧ w'.cell? ⟨nN, 0, none⟩ = some (.pointer (some ⟨bN, 0, none⟩)) :=
    fun w' hb => ⟨(hb.cell (p := ⟨nF, 0, none⟩) (block_lt_of_cell f3)).trans f3, (hb.cell (p := ⟨nN, 0, none⟩) (block_lt_of_cell n3)).trans n3⟩
  have HB3 := Lib.hid hb3
  have hdF : IsBlk wc.drew bF lF := hB3F
  have keyF := ball_any wc.drew hdF
  have H3N := Lib.hid hB3N
  obtain ⟨i0, hi, hz0, hz1, hz2'⟩ := info_parts infoB
  clear hF3 hN3 hB3F hB3N hb3 hbc keyJ hBF hBN hdF f0' n0' HN1 HF1 f3 n3 hz2
  go_wp2_with fail
  go_cut [12] (fun s12 wx => ∃ v, s12 = v ∧ OwnB wc.heap.size wx v (lF ++ lN) ∧ Below wc.heap.size wc wx)
  case first =>
    go_region_held3 (fun w' => w'.cell? ⟨nF, 0, none⟩ = some (.pointer (some ⟨bF, 0, none⟩)) ∧ w'.cell? ⟨nN, 0, none⟩ = some (.pointer (some ⟨bN, 0, none⟩)))
      (first | (refine KC _ ?_; (first | exact hbA | exact hbB | exact hbD | (repeat (first | exact Below.refl _ _ | refine Below.drews ?_ | refine Below.allocs ?_ _)))) | go_keep)
      (first
       | (go_at_call 55; (with_reducible refine keyF.mono ?_); rintro e w4 ⟨v1, rfl, hown1, hnil1, hb4⟩; (have hbA : Below wc.heap.size wc w4 := Below.drewed hb4); (have hU4 := H3N.out.below hbA H3N.out.lt))
       | (go_at_call 55; (with_reducible refine (ball_any w4 hU4).mono ?_); rintro e w5 ⟨v2, rfl, hown2, hnil2, hb5⟩; (have hbB : Below wc.heap.size wc w5 := hbA.trans (hb5.mono hbA.size)); (have hown15 := ownsRow_below hown1 hb5); (obtain ⟨b2, cap2, rfl, _, hlt2, hc2, hm2, hcell2⟩ := OwnB.long hown2 hlN); (have hsz5 := hbB.size))
       | (refine step_append_own rfl (.tmp 65) (.tmp 70) 24 rfl wc.heap.size 4 i0 (.bool false) 1 1 Tryd.underlying24 hi hz0 hz1 hz2' rfl (by decide) _ _ _ rfl hown15 ⟨b2, 0, none⟩ lN.length cap2 (lN.map Value.bool) rfl (by rw [List.length_map, Nat.mul_one]) (row_cells hcell2) (bools_one _) (by unfold maxLen; omega) (by omega) hsz5 ?_; intro v3 w6 hown6 hgrow6; (have hbD : Below wc.heap.size wc w6 := hbB.grown hgrow6 hsz5 (fun q hq => (hown15.lt q hq).1))))
    all_goals
      go_wp2_with fail
      go_meet
      case rel => exact ⟨_, rfl, OwnB.app hown6, hbD⟩
  case rest =>
  obtain ⟨v, rfl, hown, hb6⟩ := hcut
  have hJl : (lF ++ lN).length = lF.length + lN.length := List.length_append
  obtain ⟨bJ, capJ, rfl, hbase, hltJ, hcJ, hmJ, hcellJ⟩ := OwnB.long hown (by omega)
  obtain ⟨L, hL⟩ : ∃ L, (lF ++ lN).length = L := ⟨_, rfl⟩
  obtain ⟨hf, hq⟩ : ∃ hf, (lF ++ lN).length / 2 = hf := ⟨_, rfl⟩
  have hq1 : hf ≤ (lF ++ lN).length := by omega
  have hq2 : ((lF ++ lN).take hf).length ≤ 128 := by rw [List.length_take]; omega
  have hq3 : ((lF ++ lN).drop hf).length ≤ 128 := by rw [List.length_drop]; omega
  have HQ := Lib.hid hq
  have key7 := bnew_rd wc (RdB.take hltJ hcJ hmJ hcellJ hq1) hq2
  have hqi : (L : Int) / 2 = hf := by omega
  have hfL : (hf : Int) ≤ L := by omega
  have hLc : (L : Int) ≤ capJ := by omega
  have hcm : (capJ : Int) ≤ 9223372036854775807 := by unfold maxLen at hmJ; omega
  have hne2 : ¬ capJ = hf := by omega
  have hne3 : ¬ (capJ : Int) = hf := by omega
  have hfc : (hf : Int) ≤ capJ := by omega
  have HC := Lib.hid hcellJ
  have HL := Lib.hid hL
  have HCJ := Lib.hid (And.intro hcJ (And.intro hmJ (And.intro hq1 hq3)))
  have hb06 : Below w.heap.size w wc := HB3.out.trans (hb6.mono HB3.out.size)
  have HB06 := Lib.hid hb06
  have hnJ : ¬ bJ = nF := fun e => by have := lt_of_block HFB.out.1; have := HB3.out.size; omega
  rw [hL]
  clear hown hcellJ hq hq1 hq2 hq3 hJl hL hcJ hmJ keyF KC hb6 hb06 hlF hlN hcF hcN
  go_wp2_with fail
  (with_reducible refine key7.mono ?_); rintro e w7 ⟨g1, rfl, hg1, hi1, hb7⟩
  have hb07 : Below w.heap.size w w7 := HB06.out.trans (hb7.mono HB06.out.size)
  have hlo7 := Below.keptB hb07 HFB.out.1 (lt_of_block HFB.out.1)
  have l0 := (cellsN hlo7).c0
  have lz := (cellsN hlo7).fz 0
  obtain ⟨own1, hT8, hV8⟩ := (H.out.below HB06.out).swap HF.out hb7 hg1 hi1
  have hup7 := Below.keptB hb07 HNB.out.1 (lt_of_block HNB.out.1)
  have HUP7 := Lib.hid hup7
  have HB7 := Lib.hid hb7
  have HT8 := Lib.hid hT8
  have HV8 := Lib.hid ((Mv.of_below HB06.out).trans hV8)
  have hst8 : Stay (fun i => i = nF) w7 (w7.setCell ⟨nF, 0, none⟩ (.pointer (some ⟨g1, 0, none⟩))) := Stay.setCell (S := fun i => i = nF) (Stay.refl _ _) (p := ⟨nF, 0, none⟩) (.inr rfl) _
  have hlt7 : bJ < w7.heap.size := Nat.lt_of_lt_of_le hltJ HB7.out.size
  have hcell8 : ∀ i, i < (lF ++ lN).length → (w7.setCell ⟨nF, 0, none⟩ (.pointer (some ⟨g1, 0, none⟩))).cell? ⟨bJ, 0 + i, none⟩ = some (.bool ((lF ++ lN).getD i false)) := fun i hi => (hst8.cell (p := ⟨bJ, 0 + i, none⟩) hlt7 hnJ).trans ((HB7.out.cell (p := ⟨bJ, 0 + i, none⟩) hltJ).trans (HC.out i hi))
  have key8 := bnew_rd _ (RdB.tail (Nat.lt_of_lt_of_le hlt7 hst8.size) HCJ.out.1 HCJ.out.2.1 hcell8 HCJ.out.2.2.1) HCJ.out.2.2.2
  rw [HL.out] at key8
  have hup8 := hst8.kept HUP7.out (fun e => hnn e.symm)
  have HUP8 := Lib.hid hup8
  clear hlo7 hup7 hb07 hT8 hV8 hi1 hb7 key7 hst8 hcell8 hup8
  go_wp2_with fail
  generalize w7.setCell ⟨nF, 0, none⟩ (.pointer (some ⟨g1, 0, none⟩)) = w8 at *
  (with_reducible refine key8.mono ?_); rintro e w9 ⟨g2, rfl, hg2, hi2, hb9⟩
  have hup9 := Below.keptB hb9 HUP8.out (lt_of_block HUP8.out)
  have l0' := (cellsN hup9).c0
  have lz' := (cellsN hup9).fz 0
  obtain ⟨own2, hTX, hVX⟩ := HT8.out.swap (k := near) (n := nN) (l := lN) ((upd_ne _ _ hne.symm).trans HN.out) hb9 hg2 hi2
  have fin := Lib.hid (And.intro hTX (HV8.out.trans hVX))
  clear hup9 hTX hVX hi2 hb9 key8 l0 lz
  go_wp2_with fail
  go_ret
  refine ⟨own2, g1, g2, rfl, ?_⟩
  rw [HQ.out]
  exact fin.out
set_option maxRecDepth 100000 in
set_option maxHeartbeats 1600000 in
theorem tjoin_no1 {base t few near nF nN bF bN : Nat} {S : St} {lF lN : List Bool} (w : World) (h : TM base w t S) (hF : S.sto few = some (nF, .lf bF lF)) (hN : S.sto near = some (nN, .lf bN lN)) (hne : few ≠ near) (hlen : 128 < lF.length + lN.length) :
    Calls Tryd.prog 76 #[.pointer (some ⟨t, 0, none⟩), .int .i64 few, .int .i64 near, .int .i64 1] w fun e w' => ∃ own' g1 g2, e = .returned (.bool false) ∧ TM base w' t { S with own := own', sto := upd (upd S.sto few (some (nF, .lf g1 ((lN ++ lF).drop ((lN ++ lF).length / 2))))) near (some (nN, .lf g2 ((lN ++ lF).take ((lN ++ lF).length / 2)))) } ∧ Mv w w' S { S with own := own', sto := upd (upd S.sto few (some (nF, .lf g1 ((lN ++ lF).drop ((lN ++ lF).length / 2))))) near (some (nN, .lf g2 ((lN ++ lF).take ((lN ++ lF).length / 2)))) } := by
  have hnn := h.ndne hF hN hne
  obtain ⟨len, c, lb, e1, _, e2, e3, e4, e5, e6, e7⟩ := h.seen hF
  obtain ⟨len', c', lb', d1, _, d2, d3, d4, d5, _, _⟩ := h.seen hN
  have ee := e1.symm.trans d1
  injection ee with ee
  injection ee with ee1 ee2 ee3
  injection ee1 with ee1
  injection ee1 with ee1
  subst ee1 ee2 ee3
  obtain ⟨A1, B1, hF1, hF2, hF3, hF4, hF5⟩ := h.lf hF
  obtain ⟨A2, B2, hN1, hN2, hN3, hN4, hN5⟩ := h.lf hN
  have f0 := hF2.c0
  have n0 := hN2.c0
  have hbb : bF ≠ bN := fun e => by rw [e, hN4] at hF4; injection hF4 with hF4; injection hF4 with hF4; exact hne hF4.symm
  have hnb1 : ¬ nN = bF := fun e => by rw [e, hF4] at hN5; cases hN5
  have hnb2 : ¬ nN = bN := fun e => by rw [e, hN4] at hN5; cases hN5
  have K : ∀ w', Below w.heap.size w w' → w'.cell? ⟨t, 1, none⟩ = some (.slice (some ⟨lb, 0, none⟩) len c) ∧ w'.cell? ⟨lb, few, none⟩ = some (.pointer (some ⟨nF, 0, none⟩)) ∧ w'.cell? ⟨lb, near, none⟩ = some (.pointer (some ⟨nN, 0, none⟩)) :=
    fun w' hb => ⟨(hb.cell (p := ⟨t, 1, none⟩) e6).trans e1, (hb.cell (p := ⟨lb, few, none⟩) e7).trans e2, (hb.cell (p := ⟨lb, near, none⟩) e7).trans d2⟩
  have H := Lib.hid h
  have HF := Lib.hid hF
  have HN := Lib.hid hN
  have HFB := Lib.hid (And.intro hF1 (And.intro hF3 (And.intro hF4 hF5)))
  have HNB := Lib.hid (And.intro hN1 (And.intro hN3 (And.intro hN4 hN5)))
  have z0 : IntKind.i64.wrap 0 = 0 := by decide
  have z1 : IntKind.i64.wrap 1 = 1 := by decide
  clear h hF hN hF1 hF2 hF3 hF4 hF5 hN1 hN2 hN3 hN4 hN5 d1 d4 d5 e1 e2 d2
  go_enter Tryd.func76, Tryd.ntmps76
  go_wp2_with fail
  go_cut [9] (fun s9 wx => s9 = .pointer (some ⟨w.heap.size, 0, none⟩) ∧ wx = (w.alloc (ZP (some ⟨nF, 0, none⟩) (some ⟨nN, 0, none⟩))).drew)
  case first =>
    go_region_held3 (fun w' => w'.cell? ⟨t, 1, none⟩ = some (.slice (some ⟨lb, 0, none⟩) len c) ∧ w'.cell? ⟨lb, few, none⟩ = some (.pointer (some ⟨nF, 0, none⟩)) ∧ w'.cell? ⟨lb, near, none⟩ = some (.pointer (some ⟨nN, 0, none⟩)))
      (first | (refine K _ ?_; (repeat (first | exact Below.refl _ _ | refine Below.drews ?_ | refine Below.allocs ?_ _))) | go_keep) (fail)
    all_goals
      go_wp2_with fail
      go_meet
      case rel => exact ⟨rfl, rfl⟩
  case rest =>
  obtain ⟨rfl, rfl⟩ := hcut
  have hb1 : Below w.heap.size w (w.alloc (ZP (some ⟨nF, 0, none⟩) (some ⟨nN, 0, none⟩))).drew := Below.drews (Below.allocs (Below.refl _ _) _)
  have p0 : (w.alloc (ZP (some ⟨nF, 0, none⟩) (some ⟨nN, 0, none⟩))).drew.cell? ⟨w.heap.size, 0, none⟩ = some (.pointer (some ⟨nF, 0, none⟩)) := new_cell rfl rfl
  have p1 : (w.alloc (ZP (some ⟨nF, 0, none⟩) (some ⟨nN, 0, none⟩))).drew.cell? ⟨w.heap.size, 1, none⟩ = some (.pointer (some ⟨nN, 0, none⟩)) := new_cell rfl rfl
  have HB1 := Lib.hid hb1
  clear hb1
  generalize (w.alloc (ZP (some ⟨nF, 0, none⟩) (some ⟨nN, 0, none⟩))).drew = w1 at *
  go_wp2_with fail
  go_quiet (fail)
  have hb2 : Below w.heap.size w (w1.drewN nq) := HB1.out.trans ((Below.refl _ _).drewN nq)
  have HB2 := Lib.hid hb2
  clear HB1 p0 p1 hb2
  generalize w1.drewN nq = w2 at *
  have hF1 := Below.keptB HB2.out HFB.out.1 (lt_of_block HFB.out.1)
  have hN1 := Below.keptB HB2.out HNB.out.1 (lt_of_block HNB.out.1)
  have f0' := (cellsN hF1).c0
  have n0' := (cellsN hN1).c0
  have hBF := HFB.out.2.1.below HB2.out HFB.out.2.1.lt
  have hBN := HNB.out.2.1.below HB2.out HNB.out.2.1.lt
  have hlF : 0 < lF.length := by have := hBN.1; omega
  have hlN : 0 < lN.length := by have := hBF.1; omega
  have hcF := hBF.1
  have hcN := hBN.1
  have keyJ := bjoin_full w2.drew hBN hBF (by omega)
  have HF1 := Lib.hid hF1
  have HN1 := Lib.hid hN1
  clear hF1 hN1 f0 n0
  go_wp2_with fail
  go_cut [46] (fun s46 wx => s46 = .bool false ∧ Below w2.heap.size w2 wx)
  case first =>
    go_region_law (first | (go_simp; (go_at_call 88; (with_reducible refine keyJ.mono ?_); rintro e w3 ⟨rfl, x, rfl⟩)))
    all_goals
      go_wp2_with fail
      go_meet
      case rel => exact ⟨rfl, (Below.refl _ _).drewN _⟩
  case rest =>
  obtain ⟨rfl, hbc⟩ := hcut
  have hz2 := HB2.out.size
  have hb3 : Below w.heap.size w wc := HB2.out.trans (hbc.mono hz2)
  have hF3 := Below.keptB hb3 HFB.out.1 (lt_of_block HFB.out.1)
  have hN3 := Below.keptB hb3 HNB.out.1 (lt_of_block HNB.out.1)
  have hB3F := HFB.out.2.1.below hb3 HFB.out.2.1.lt
  have hB3N := HNB.out.2.1.below hb3 HNB.out.2.1.lt
  have f3 := (cellsN hF3).c0
  have n3 := (cellsN hN3).c0
  have KC : ∀ w', Below wc.heap.size wc w' → w'.cell? ⟨nF, 0, none⟩ = some (.pointer (some ⟨bF, 0, none⟩)) ∧ w'.cell? ⟨nN, 0, none⟩ = some (.pointer (some ⟨bN, 0, none⟩)) :=
    fun w' hb => ⟨(hb.cell (p := ⟨nF, 0, none⟩) (block_lt_of_cell f3)).trans f3, (hb.cell (p := ⟨nN, 0, none⟩) (block_lt_of_cell n3)).trans n3⟩
  have HB3 := Lib.hid hb3
  have hdN : IsBlk wc.drew bN lN := hB3N
  have keyN := ball_any wc.drew hdN
  have H3F := Lib.hid hB3F
  obtain ⟨i0, hi, hz0, hz1, hz2'⟩ := info_parts infoB
  clear hF3 hN3 hB3F hB3N hb3 hbc keyJ hBF hBN hdN f0' n0' HN1 HF1 f3 n3 hz2
  go_wp2_with fail
  go_cut [12] (fun s12 wx => ∃ v, s12 = v ∧ OwnB wc.heap.size wx v (lN ++ lF) ∧ Below wc.heap.size wc wx)
  case first =>
    go_region_held3 (fun w' => w'.cell? ⟨nF, 0, none⟩ = some (.pointer (some ⟨bF, 0, none⟩)) ∧ w'.cell? ⟨nN, 0, none⟩ = some (.pointer (some ⟨bN, 0, none⟩)))
      (first | (refine KC _ ?_; (first | exact hbA | exact hbB | exact hbD | (repeat (first | exact Below.refl _ _ | refine Below.drews ?_ | refine Below.allocs ?_ _)))) | go_keep)
      (first
       | (go_at_call 55; (with_reducible refine keyN.mono ?_); rintro e w4 ⟨v1, rfl, hown1, hnil1, hb4⟩; (have hbA : Below wc.heap.size wc w4 := Below.drewed hb4); (have hU4 := H3F.out.below hbA H3F.out.lt))
       | (go_at_call 55; (with_reducible refine (ball_any w4 hU4).mono ?_); rintro e w5 ⟨v2, rfl, hown2, hnil2, hb5⟩; (have hbB : Below wc.heap.size wc w5 := hbA.trans (hb5.mono hbA.size)); (have hown15 := ownsRow_below hown1 hb5); (obtain ⟨b2, cap2, rfl, _, hlt2, hc2, hm2, hcell2⟩ := OwnB.long hown2 hlF); (have hsz5 := hbB.size))
       | (refine step_append_own rfl (.tmp 65) (.tmp 70) 24 rfl wc.heap.size 4 i0 (.bool false) 1 1 Tryd.underlying24 hi hz0 hz1 hz2' rfl (by decide) _ _ _ rfl hown15 ⟨b2, 0, none⟩ lF.length cap2 (lF.map Value.bool) rfl (by rw [List.length_map, Nat.mul_one]) (row_cells hcell2) (bools_one _) (by unfold maxLen; omega) (by omega) hsz5 ?_; intro v3 w6 hown6 hgrow6; (have hbD : Below wc.heap.size wc w6 := hbB.grown hgrow6 hsz5 (fun q hq => (hown15.lt q hq).1))))
    all_goals
      go_wp2_with fail
      go_meet
      case rel => exact ⟨_, rfl, OwnB.app hown6, hbD⟩
  case rest =>
  obtain ⟨v, rfl, hown, hb6⟩ := hcut
  have hJl : (lN ++ lF).length = lF.length + lN.length := List.length_append.trans (Nat.add_comm _ _)
  obtain ⟨bJ, capJ, rfl, hbase, hltJ, hcJ, hmJ, hcellJ⟩ := OwnB.long hown (by omega)
  obtain ⟨L, hL⟩ : ∃ L, (lN ++ lF).length = L := ⟨_, rfl⟩
  obtain ⟨hf, hq⟩ : ∃ hf, (lN ++ lF).length / 2 = hf := ⟨_, rfl⟩
  have hq1 : hf ≤ (lN ++ lF).length := by omega
  have hq2 : ((lN ++ lF).take hf).length ≤ 128 := by rw [List.length_take]; omega
  have hq3 : ((lN ++ lF).drop hf).length ≤ 128 := by rw [List.length_drop]; omega
  have HQ := Lib.hid hq
  have key7 := bnew_rd wc (RdB.take hltJ hcJ hmJ hcellJ hq1) hq2
  have hqi : (L : Int) / 2 = hf := by omega
  have hfL : (hf : Int) ≤ L := by omega
  have hLc : (L : Int) ≤ capJ := by omega
  have hcm : (capJ : Int) ≤ 9223372036854775807 := by unfold maxLen at hmJ; omega
  have hne2 : ¬ capJ = hf := by omega
  have hne3 : ¬ (capJ : Int) = hf := by omega
  have hfc : (hf : Int) ≤ capJ := by omega
  have HC := Lib.hid hcellJ
  have HL := Lib.hid hL
  have HCJ := Lib.hid (And.intro hcJ (And.intro hmJ (And.intro hq1 hq3)))
  have hb06 : Below w.heap.size w wc := HB3.out.trans (hb6.mono HB3.out.size)
  have HB06 := Lib.hid hb06
  have hnJ : ¬ bJ = nN := fun e => by have := lt_of_block HNB.out.1; have := HB3.out.size; omega
  rw [hL]
  clear hown hcellJ hq hq1 hq2 hq3 hJl hL hcJ hmJ keyN KC hb6 hb06 hlF hlN hcF hcN
  go_wp2_with fail
  (with_reducible refine key7.mono ?_); rintro e w7 ⟨g1, rfl, hg1, hi1, hb7⟩
  have hb07 : Below w.heap.size w w7 := HB06.out.trans (hb7.mono HB06.out.size)
  have hlo7 := Below.keptB hb07 HNB.out.1 (lt_of_block HNB.out.1)
  have l0 := (cellsN hlo7).c0
  have lz := (cellsN hlo7).fz 0
  obtain ⟨own1, hT8, hV8⟩ := (H.out.below HB06.out).swap HN.out hb7 hg1 hi1
  have hup7 := Below.keptB hb07 HFB.out.1 (lt_of_block HFB.out.1)
  have HUP7 := Lib.hid hup7
  have HB7 := Lib.hid hb7
  have HT8 := Lib.hid hT8
  have HV8 := Lib.hid ((Mv.of_below HB06.out).trans hV8)
  have hst8 : Stay (fun i => i = nN) w7 (w7.setCell ⟨nN, 0, none⟩ (.pointer (some ⟨g1, 0, none⟩))) := Stay.setCell (S := fun i => i = nN) (Stay.refl _ _) (p := ⟨nN, 0, none⟩) (.inr rfl) _
  have hlt7 : bJ < w7.heap.size := Nat.lt_of_lt_of_le hltJ HB7.out.size
  have hcell8 : ∀ i, i < (lN ++ lF).length → (w7.setCell ⟨nN, 0, none⟩ (.pointer (some ⟨g1, 0, none⟩))).cell? ⟨bJ, 0 + i, none⟩ = some (.bool ((lN ++ lF).getD i false)) := fun i hi => (hst8.cell (p := ⟨bJ, 0 + i, none⟩) hlt7 hnJ).trans ((HB7.out.cell (p := ⟨bJ, 0 + i, none⟩) hltJ).trans (HC.out i hi))
  have key8 := bnew_rd _ (RdB.tail (Nat.lt_of_lt_of_le hlt7 hst8.size) HCJ.out.1 HCJ.out.2.1 hcell8 HCJ.out.2.2.1) HCJ.out.2.2.2
  rw [HL.out] at key8
  have hup8 := hst8.kept HUP7.out (fun e => hnn e)
  have HUP8 := Lib.hid hup8
  clear hlo7 hup7 hb07 hT8 hV8 hi1 hb7 key7 hst8 hcell8 hup8
  go_wp2_with fail
  generalize w7.setCell ⟨nN, 0, none⟩ (.pointer (some ⟨g1, 0, none⟩)) = w8 at *
  (with_reducible refine key8.mono ?_); rintro e w9 ⟨g2, rfl, hg2, hi2, hb9⟩
  have hup9 := Below.keptB hb9 HUP8.out (lt_of_block HUP8.out)
  have l0' := (cellsN hup9).c0
  have lz' := (cellsN hup9).fz 0
  obtain ⟨own2, hTX, hVX⟩ := HT8.out.swap (k := few) (n := nF) (l := lF) ((upd_ne _ _ hne).trans HF.out) hb9 hg2 hi2
  have fin := Lib.hid (And.intro hTX (HV8.out.trans hVX))
  clear hup9 hTX hVX hi2 hb9 key8 l0 lz
  go_wp2_with fail
  go_ret
  refine ⟨own2, g2, g1, rfl, ?_⟩
  rw [HQ.out]
  rw [Tr.upd_comm _ hne]; exact fin.out
end Go.Proofs.YtfbhcbcpeocmcaaDoor
