/- insertInLeaf: contracts of the walk. insert: contracts of the walk. join: contracts of the walk. -/
import Derived.Test.YthbbokoeiifjdaaGreatDoorTrc
import Derived.Deep.RegionHeld3
namespace Go.Proofs.YthbbokoeiifjdaaGreatDoor
open Go Go.RowKit Go.ChangeAt Tr

theorem TM.lf {base : Nat} {w : World} {t : Nat} {S : St} {k n b : Nat} {l : List Bool} (h : TM base w t S) (hk : S.sto k = some (n, .lf b l)) : ∃ A B : Lk, w.heap[n]? = some (.cells (ndv (some ⟨b, 0, none⟩) A B) 114 (0, 0)) ∧ CellsN w n (some ⟨b, 0, none⟩) A B ∧ IsBlk w b l ∧ S.own b = some (.bk k) ∧ S.own n = some (.nd k) := by
  obtain ⟨g, a, c, hx⟩ := h
  obtain ⟨h1, ⟨A, B, h2⟩, h3⟩ := hx.nds _ _ _ hk
  exact ⟨A, B, h2, cellsN h2, h3, hx.bks _ _ _ _ hk, h1⟩
/-- A node that was made just now. -/
abbrev NZ (p : Option Addr) : Obj := Obj.cells #[.pointer p, .int .i64 0, .int .i64 0, .int .i64 0, .int .i64 0, .int .i64 0, .int .i64 0, .int .i64 0, .int .i64 0] 114
/-- A leaf's bits were turned. -/
theorem TM.leaf {base : Nat} {w w' : World} {t : Nat} {S : St} {k n b : Nat} {l l' : List Bool} (h : TM base w t S) (hk : S.sto k = some (n, .lf b l)) (hb : IsBlk w' b l') (hst : Stay (fun i => i = b) w w') :
    TM base w' t (S.lay k n (.lf b l')) ∧ Mv w w' S (S.lay k n (.lf b l')) := by
  obtain ⟨A, B, h1, _, _, h4, h5⟩ := h.lf hk
  have hnb : ¬ n = b := fun e => by rw [e, h4] at h5; cases h5
  refine ⟨h.turn0 hk hst (fun i x e e2 => by subst e; rw [h4] at e2; injection e2 with e2; exact .inr e2.symm) ⟨⟨A, B, hst.kept h1 hnb⟩, hb⟩ (fun b2 l2 e => by injection e with e _; subst e; exact h4), ⟨hst.mono (fun i _ e => by subst e; show S.own i ≠ none; rw [h4]; exact fun h => by cases h), fun b hb => .inl hb⟩⟩
/-- What an insertion makes of a tree, and of its state. -/
structure Ins (S S' : St) (t t' : T) (k : Nat) (bit : Bool) (c : Nat) : Prop where
  bits : t'.bits = Blk.ins t.bits k bit
  bal : t'.bal
  full : t.full → t'.full
  ok : t.ok → t'.ok
  lo : t.ht ≤ t'.ht
  hi : t'.ht ≤ t.ht + 1
  rt : S'.rt = S.rt
  vis : S'.vis ≤ S.vis + c
  live : S'.live + t.ks.length = S.live + t'.ks.length
  up : S.live ≤ S'.live
  made : S'.T.length = max S.T.length S'.live
theorem St.live_le (S : St) : S.live ≤ S.T.length := Nat.sub_le _ _
theorem ins_append_lo {l0 l1 : List Bool} {j : Nat} (bit : Bool) (hj : j ≤ l0.length) : Blk.ins (l0 ++ l1) j bit = Blk.ins l0 j bit ++ l1 := by
  unfold Blk.ins
  rw [List.take_append_of_le_length hj, List.drop_append_of_le_length hj, List.append_assoc]
  rfl
theorem ins_append_hi {l0 l1 : List Bool} {j m : Nat} (bit : Bool) (hj : j = l0.length + m) : Blk.ins (l0 ++ l1) j bit = l0 ++ Blk.ins l1 m bit := by
  subst hj
  unfold Blk.ins
  rw [List.take_append, List.drop_append, List.take_of_length_le (Nat.le_add_right _ _), List.drop_of_length_le (Nat.le_add_right _ _), Nat.add_sub_cancel_left, List.append_assoc]
  rfl
/-- A leaf became two, with a parent above. -/
theorem Tr.Chg.split {s s2 s3 s4 : Sto} {k ku kp n b ub g2 pb : Nat} {l l0 l1 : List Bool} (h0 : s k ≠ none) (h2k : s2 k = some (n, .lf b l0)) (h2 : ∀ j, j ≠ k → s2 j = s j) (hu : s2 ku = none) (h3 : s3 = upd s2 ku (some (ub, .lf g2 l1))) (hp : s3 kp = none) (h4 : s4 = upd s3 kp (some (pb, .pr (lkl k l0) (lkl ku l1)))) :
    Chg s s4 (.leaf k l) (.node kp (.leaf k l0) (.leaf ku l1)) := by
  have n1 : ku ≠ k := fun e => by subst e; rw [h2k] at hu; cases hu
  have n2 : kp ≠ ku := fun e => by subst e; rw [h3, upd_at] at hp; cases hp
  have n3 : kp ≠ k := fun e => by subst e; rw [h3, upd_ne _ _ n1.symm, h2k] at hp; cases hp
  have v : ∀ j, j ≠ kp → j ≠ ku → s4 j = s2 j := fun j a b => by rw [h4, upd_ne _ _ a, h3, upd_ne _ _ b]
  refine ⟨⟨⟨pb, by rw [h4, upd_at]; rfl⟩, ⟨n, b, (v k n3.symm n1.symm).trans h2k⟩, ⟨ub, g2, by rw [h4, upd_ne _ _ n2.symm, h3, upd_at]⟩⟩, ?_, fun j h1 h5 => ?_, fun j h1 h5 => ?_⟩
  · show (kp :: ([k] ++ [ku])).Nodup
    simp [n1.symm, n2, n3]
  · have hjk : j ≠ k := fun e => h1 (e ▸ List.mem_singleton.2 rfl)
    have hju : j ≠ ku := fun e => by subst e; rw [h2 j hjk] at hu; exact h5 hu
    have hjp : j ≠ kp := fun e => by subst e; rw [h3, upd_ne _ _ hju, h2 j hjk] at hp; exact h5 hp
    refine ⟨(v j hjp hju).trans (h2 j hjk), ?_⟩
    show j ∉ kp :: ([k] ++ [ku])
    simp [hjk, hju, hjp]
  · have h1' : j ∉ kp :: ([k] ++ [ku]) := h1
    simp only [List.cons_append, List.nil_append, List.mem_cons, List.not_mem_nil, or_false, not_or] at h1'
    rw [v j h1'.1 h1'.2.2, h2 j h1'.2.1]
    rcases h5 with h5 | h5
    · exact absurd (List.mem_singleton.1 h5) h1'.2.1
    · exact h5
theorem Mv.set4new {w0 w : World} {S S' : St} (h : Mv w0 w S S') {r : Nat} (hr : w0.heap.size ≤ r) (i j k l : Nat) (a b c d : Value) : Mv w0 ((((w.setCell ⟨r, i, none⟩ a).setCell ⟨r, j, none⟩ b).setCell ⟨r, k, none⟩ c).setCell ⟨r, l, none⟩ d) S S' :=
  ⟨(((h.st.setCell (p := ⟨r, i, none⟩) (.inl hr) _).setCell (p := ⟨r, j, none⟩) (.inl hr) _).setCell (p := ⟨r, k, none⟩) (.inl hr) _).setCell (p := ⟨r, l, none⟩) (.inl hr) _, h.ne⟩
theorem Freshed.mv {base t nb k : Nat} {w0 w w' : World} {S0 S S' : St} {d : Nd} (h : Freshed base w w' t nb d S S' k) (hV : Mv w0 w S0 S) (h1 : w0.heap.size ≤ nb) (h2 : ∀ b l, d = .lf b l → w0.heap.size ≤ b) : Mv w0 w' S0 S' := by
  obtain ⟨a1, a2, a3, a4, a5, a6, a7, a8, a9⟩ := h
  refine ⟨hV.st.trans a9 (fun i hi hs => ?_), fun b hb => ?_⟩
  · rcases hV.ne i hs with h | h
    · exact h
    · omega
  · rcases a8 b hb with h | h | h | ⟨l, h⟩
    · exact hV.ne b h
    · exact .inr (Nat.le_trans hV.st.size h)
    · exact .inr (h ▸ h1)
    · exact .inr (h2 b l h)
theorem Freshed.unowned {base t nb k b : Nat} {w w' : World} {S S' : St} {d : Nd} (h : Freshed base w w' t nb d S S' k) (h0 : S.own b = none) (hb : b < w.heap.size) (h1 : b ≠ nb) (h2 : ∀ l, d ≠ .lf b l) : S'.own b = none := by
  cases e : S'.own b with
  | none => rfl
  | some x =>
    rcases h.2.2.2.2.2.2.2.1 b (by rw [e]; exact fun h => by cases h) with h | h | h | ⟨l, h⟩
    · exact absurd h0 h
    · omega
    · exact absurd h h1
    · exact absurd h (h2 l)
theorem Mv.fresh {w0 w w' : World} {S S' : St} {Z : Nat → Prop} (h : Mv w0 w S S') (hst : Stay Z w w') (hz : ∀ i, Z i → w0.heap.size ≤ i) : Mv w0 w' S S' :=
  ⟨h.st.trans hst (fun i hi hs => absurd (hz i hs) (by omega)), h.ne⟩
theorem Below.drewed {w w' : World} (h : Below w.drew.heap.size w.drew w') : Below w.heap.size w w' := (Below.drews (Below.refl _ w)).trans h
/-- A node's cells just made, for a store of a link. -/
structure Z4 (w : World) (r i j k l : Nat) : Prop where
  c0 : ∃ v, w.cell? ⟨r, i, none⟩ = some v
  c1 : ∃ v, w.cell? ⟨r, j, none⟩ = some v
  c2 : ∃ v, w.cell? ⟨r, k, none⟩ = some v
  c3 : ∃ v, w.cell? ⟨r, l, none⟩ = some v
end Go.Proofs.YthbbokoeiifjdaaGreatDoor
namespace Go.Proofs.YthbbokoeiifjdaaGreatDoor
open Go Go.RowKit Go.ChangeAt Tr

end Go.Proofs.YthbbokoeiifjdaaGreatDoor
namespace Go.Proofs.YthbbokoeiifjdaaGreatDoor
open Go Go.RowKit Go.ChangeAt Tr

/-- A leaf is given up: its block is no one's. -/
theorem TM.leave {base : Nat} {w : World} {t : Nat} {S : St} {k n b : Nat} {l : List Bool} (h : TM base w t S) (hk : S.sto k = some (n, .lf b l)) :
    TM base w t { S with own := fun i => if i = b then none else S.own i, sto := upd S.sto k (some (n, .dd)) } := by
  obtain ⟨A, B, h1, _, _, h4, h5⟩ := h.lf hk
  refine h.turn hk (Stay.refl (fun _ => False) _) (fun _ _ e => e.elim) ⟨_, _, _, h1⟩ (fun i x e hx => ?_) (fun i x e => ?_) (fun _ _ e => by cases e)
  · have : i ≠ b := fun e2 => by subst e2; rw [h4] at e; injection e with e; exact hx e.symm
    exact (if_neg this).trans e
  · have e' : (if i = b then none else S.own i) = some x := e
    by_cases hib : i = b
    · rw [if_pos hib] at e'; cases e'
    · rw [if_neg hib] at e'; exact .inl e'
/-- A leaf takes a block that is no one's. -/
theorem TM.adopt {base : Nat} {w w' : World} {t : Nat} {S : St} {k n g : Nat} {d : Nd} {l : List Bool} {A B : Lk} (h : TM base w t S) (hk : S.sto k = some (n, d)) (hg : S.own g = none) (hb : base ≤ g) (hst : Stay (fun i => i = n) w w') (hn : w'.heap[n]? = some (.cells (ndv (some ⟨g, 0, none⟩) A B) 114 (0, 0))) (hi : IsBlk w' g l) :
    TM base w' t { S with own := fun i => if i = g then some (.bk k) else S.own i, sto := upd S.sto k (some (n, .lf g l)) } := by
  have h' := h
  obtain ⟨p, a, c, hx⟩ := h'
  have h1 := (hx.nds _ _ _ hk).1
  refine h.turn hk hst (fun i x e e2 => by subst e; rw [h1] at e2; injection e2 with e2; exact .inl e2.symm) ⟨⟨A, B, hn⟩, hi⟩ (fun i x e _ => ?_) (fun i x e => ?_) (fun b l e => by injection e with e _; subst e; exact if_pos rfl)
  · have : i ≠ g := fun e2 => by subst e2; rw [hg] at e; cases e
    exact (if_neg this).trans e
  · have e' : (if i = g then some (Who.bk k) else S.own i) = some x := e
    by_cases hig : i = g
    · rw [if_pos hig] at e'; injection e' with e'; exact .inr ⟨e'.symm, hig ▸ hb, hig ▸ hi.lt⟩
    · rw [if_neg hig] at e'; exact .inl e'
theorem Tr.upd_upd (s : Sto) (k : Nat) (x y : Option (Nat × Nd)) : upd (upd s k x) k y = upd s k y := by
  funext j
  unfold upd
  split <;> rfl
theorem TM.base_le {base : Nat} {w : World} {t : Nat} {S : St} {b : Nat} {x : Who} (h : TM base w t S) (hb : S.own b = some x) : base ≤ b := by
  obtain ⟨g, a, c, hx⟩ := h
  exact (hx.lab _ _ hb).1
/-- What is behind join, where there was room: s is the side of the few. -/
theorem join_end0 {base t few near nF nN bF bN : Nat} {S : St} {lF lN : List Bool} {A B : Lk} {w w2 w3 : World} (h : TM base w t S) (hF : S.sto few = some (nF, .lf bF lF)) (hN : S.sto near = some (nN, .lf bN lN)) (hne : few ≠ near) (hb2 : Below w.heap.size w w2)
    (h3 : Stay (fun i => i = bF ∨ i = bN) w2 w3) (hJ1 : IsBlk w3 bF (lF ++ lN)) (hJ2 : IsBlk w3 bN []) (hn3 : w3.heap[nN]? = some (.cells (ndv (some ⟨bN, 0, none⟩) A B) 114 (0, 0))) :
    ∃ own' g, TM base (w3.setCell ⟨nN, 0, none⟩ (.pointer (some ⟨bF, 0, none⟩))).drew t { S with own := own', sto := upd (upd S.sto few (some (nF, .dd))) near (some (nN, .lf g (lF ++ lN))) } ∧ Mv w (w3.setCell ⟨nN, 0, none⟩ (.pointer (some ⟨bF, 0, none⟩))).drew S { S with own := own', sto := upd (upd S.sto few (some (nF, .dd))) near (some (nN, .lf g (lF ++ lN))) } := by
  obtain ⟨A1, B1, hF1, hF2, hF3, hF4, hF5⟩ := h.lf hF
  obtain ⟨A2, B2, hN1, hN2, hN3, hN4, hN5⟩ := h.lf hN
  have hbb : bN ≠ bF := fun e => by rw [← e, hN4] at hF4; injection hF4 with hF4; injection hF4 with hF4; exact hne hF4.symm
  have hnb : ¬ nN = bF := fun e => by rw [e, hF4] at hN5; cases hN5
  have hnb2 : ¬ nN = bN := fun e => by rw [e, hN4] at hN5; cases hN5
  have hA := (h.below hb2).leave hF
  have hN' : (upd S.sto few (some (nF, .dd))) near = some (nN, .lf bN lN) := (upd_ne _ _ hne.symm).trans hN
  have hB := hA.turn0 (k := near) (n := nN) (d' := .lf bN []) hN' h3 (fun b x e e2 => by
    have e2' : (if b = bF then none else S.own b) = some x := e2
    rcases e with e | e
    · rw [if_pos e] at e2'; cases e2'
    · rw [if_neg (by rw [e]; exact hbb), e, hN4] at e2'; injection e2' with e2'; exact .inr e2'.symm) ⟨⟨A, B, hn3⟩, hJ2⟩ (fun b l e => by injection e with e _; subst e; exact (if_neg hbb).trans hN4)
  have hset : Stay (fun i => i = nN) w3 (w3.setCell ⟨nN, 0, none⟩ (.pointer (some ⟨bF, 0, none⟩))).drew := (Stay.setCell (S := fun i => i = nN) (Stay.refl _ _) (p := ⟨nN, 0, none⟩) (.inr rfl) _).drew
  have hC := hB.adopt (k := near) (n := nN) (g := bF) (l := lF ++ lN) (A := A) (B := B) (upd_at _ _ _) (if_pos rfl) (h.base_le hF4) hset (set_of hn3 _) (hJ1.stay hset (fun e => hnb e.symm))
  have e : upd (upd (upd S.sto few (some (nF, .dd))) near (some (nN, .lf bN []))) near (some (nN, .lf bF (lF ++ lN))) = upd (upd S.sto few (some (nF, .dd))) near (some (nN, .lf bF (lF ++ lN))) := upd_upd _ _ _ _
  refine ⟨fun i => if i = bF then some (.bk near) else (if i = bF then none else S.own i), bF, ?_, ⟨?_, fun b hb => ?_⟩⟩
  · rw [← e]; exact hC
  · refine ((Stay.of_below (S := fun b => S.own b ≠ none) hb2).trans h3 (fun i _ e => ?_)).trans hset (fun i _ e => ?_)
    · rcases e with e | e
      · rw [e, hF4]; exact fun h => by cases h
      · rw [e, hN4]; exact fun h => by cases h
    · rw [e, hN5]; exact fun h => by cases h
  · have hb' : (if b = bF then some (Who.bk near) else (if b = bF then none else S.own b)) ≠ none := hb
    by_cases e : b = bF
    · left; rw [e, hF4]; exact fun h => by cases h
    · rw [if_neg e, if_neg e] at hb'; exact .inl hb'
theorem join_end1 {base t few near nF nN bF bN : Nat} {S : St} {lF lN : List Bool} {A B : Lk} {w w2 w3 : World} (h : TM base w t S) (hF : S.sto few = some (nF, .lf bF lF)) (hN : S.sto near = some (nN, .lf bN lN)) (hne : few ≠ near) (hb2 : Below w.heap.size w w2)
    (h3 : Stay (fun i => i = bF ∨ i = bN) w2 w3) (hJ1 : IsBlk w3 bN (lN ++ lF)) (hn3 : w3.heap[nN]? = some (.cells (ndv (some ⟨bN, 0, none⟩) A B) 114 (0, 0))) :
    ∃ own' g, TM base (w3.setCell ⟨nN, 0, none⟩ (.pointer (some ⟨bN, 0, none⟩))).drew t { S with own := own', sto := upd (upd S.sto few (some (nF, .dd))) near (some (nN, .lf g (lN ++ lF))) } ∧ Mv w (w3.setCell ⟨nN, 0, none⟩ (.pointer (some ⟨bN, 0, none⟩))).drew S { S with own := own', sto := upd (upd S.sto few (some (nF, .dd))) near (some (nN, .lf g (lN ++ lF))) } := by
  obtain ⟨A1, B1, hF1, hF2, hF3, hF4, hF5⟩ := h.lf hF
  obtain ⟨A2, B2, hN1, hN2, hN3, hN4, hN5⟩ := h.lf hN
  have hbb : bN ≠ bF := fun e => by rw [← e, hN4] at hF4; injection hF4 with hF4; injection hF4 with hF4; exact hne hF4.symm
  have hnb2 : ¬ nN = bN := fun e => by rw [e, hN4] at hN5; cases hN5
  have hnbF : ¬ nN = bF := fun e => by rw [e, hF4] at hN5; cases hN5
  have hA := (h.below hb2).leave hF
  have hN' : (upd S.sto few (some (nF, .dd))) near = some (nN, .lf bN lN) := (upd_ne _ _ hne.symm).trans hN
  have hset : Stay (fun i => i = nN) w3 (w3.setCell ⟨nN, 0, none⟩ (.pointer (some ⟨bN, 0, none⟩))).drew := (Stay.setCell (S := fun i => i = nN) (Stay.refl _ _) (p := ⟨nN, 0, none⟩) (.inr rfl) _).drew
  have hB := hA.turn0 (k := near) (n := nN) (d' := .lf bN (lN ++ lF)) hN' (Z := fun i => (i = bF ∨ i = bN) ∨ i = nN) (w' := (w3.setCell ⟨nN, 0, none⟩ (.pointer (some ⟨bN, 0, none⟩))).drew) ((h3.mono (fun i _ e => .inl e)).trans hset (fun i _ e => .inr e)) (fun b x e e2 => by
    have e2' : (if b = bF then none else S.own b) = some x := e2
    rcases e with (e | e) | e
    · rw [if_pos e] at e2'; cases e2'
    · rw [if_neg (by rw [e]; exact hbb), e, hN4] at e2'; injection e2' with e2'; exact .inr e2'.symm
    · rw [if_neg (by rw [e]; exact hnbF), e, hN5] at e2'; injection e2' with e2'; exact .inl e2'.symm) ⟨⟨A, B, set_of hn3 _⟩, hJ1.stay hset (fun e => hnb2 e.symm)⟩ (fun b l e => by injection e with e _; subst e; exact (if_neg hbb).trans hN4)
  refine ⟨fun i => if i = bF then none else S.own i, bN, hB, ⟨?_, fun b hb => ?_⟩⟩
  · refine ((Stay.of_below (S := fun b => S.own b ≠ none) hb2).trans h3 (fun i _ e => ?_)).trans hset (fun i _ e => ?_)
    · rcases e with e | e
      · rw [e, hF4]; exact fun h => by cases h
      · rw [e, hN4]; exact fun h => by cases h
    · rw [e, hN5]; exact fun h => by cases h
  · have hb' : (if b = bF then none else S.own b) ≠ none := hb
    by_cases e : b = bF
    · rw [if_pos e] at hb'; exact absurd rfl hb'
    · rw [if_neg e] at hb'; exact .inl hb'
/-- A leaf's block is changed for a new one. -/
theorem TM.swap {base : Nat} {w w1 : World} {t : Nat} {S : St} {k n b g : Nat} {l l' : List Bool} (h : TM base w t S) (hk : S.sto k = some (n, .lf b l)) (hb : Below w.heap.size w w1) (hg : w.heap.size ≤ g) (hi : IsBlk w1 g l') :
    ∃ own', TM base (w1.setCell ⟨n, 0, none⟩ (.pointer (some ⟨g, 0, none⟩))) t { S with own := own', sto := upd S.sto k (some (n, .lf g l')) } ∧ Mv w (w1.setCell ⟨n, 0, none⟩ (.pointer (some ⟨g, 0, none⟩))) S { S with own := own', sto := upd S.sto k (some (n, .lf g l')) } := by
  obtain ⟨A, B, h1, _, _, h4, h5⟩ := h.lf hk
  have hA := (h.below hb).leave hk
  have hn1 := Below.keptB hb h1 (lt_of_block h1)
  have hng : ¬ g = n := fun e => by have := lt_of_block h1; omega
  have hgb : ¬ g = b := fun e => by have := (TM.lf h hk).choose_spec.choose_spec.2.2.1.lt; omega
  have hbase : base ≤ w.heap.size := by have := h.lt; omega
  have hset : Stay (fun i => i = n) w1 (w1.setCell ⟨n, 0, none⟩ (.pointer (some ⟨g, 0, none⟩))) := Stay.setCell (S := fun i => i = n) (Stay.refl _ _) (p := ⟨n, 0, none⟩) (.inr rfl) _
  have hC := hA.adopt (k := k) (n := n) (g := g) (l := l') (A := A) (B := B) (upd_at _ _ _) ((if_neg hgb).trans (h.new hg)) (by omega) hset (set_of hn1 _) (hi.stay hset hng)
  have e : upd (upd S.sto k (some (n, .dd))) k (some (n, .lf g l')) = upd S.sto k (some (n, .lf g l')) := upd_upd _ _ _ _
  refine ⟨fun i => if i = g then some (.bk k) else (if i = b then none else S.own i), ?_, ⟨?_, fun i hi2 => ?_⟩⟩
  · rw [← e]; exact hC
  · exact (Stay.of_below (S := fun b => S.own b ≠ none) hb).trans hset (fun i _ e => by rw [e, h5]; exact fun h => by cases h)
  · have hi' : (if i = g then some (Who.bk k) else (if i = b then none else S.own i)) ≠ none := hi2
    by_cases e1 : i = g
    · exact .inr (e1 ▸ hg)
    · by_cases e2 : i = b
      · rw [if_neg e1, if_pos e2] at hi'; exact absurd rfl hi'
      · rw [if_neg e1, if_neg e2] at hi'; exact .inl hi'
theorem OwnB.long {base : Nat} {w : World} {v : Value} {l : List Bool} (h : OwnB base w v l) (hp : 0 < l.length) : ∃ b cap, v = .slice (some ⟨b, 0, none⟩) l.length cap ∧ base ≤ b ∧ b < w.heap.size ∧ l.length ≤ cap ∧ cap ≤ maxLen ∧ ∀ i, i < l.length → w.cell? ⟨b, 0 + i, none⟩ = some (.bool (l.getD i false)) := by
  obtain ⟨b, cap, h1, h2, h3, h4, h5, h6, _⟩ := OwnB.opens h hp
  exact ⟨b, cap, h1, h2, h3, h4, h5, fun i hi => by rw [Nat.zero_add]; exact h6 i hi⟩
theorem Tr.upd_comm (s : Sto) {k j : Nat} (h : k ≠ j) (x y : Option (Nat × Nd)) : upd (upd s k x) j y = upd (upd s j y) k x := by
  funext i
  unfold upd
  by_cases h1 : i = j
  · by_cases h2 : i = k
    · exact absurd (h2.symm.trans h1) h
    · rw [if_pos h1, if_neg h2, if_pos h1]
  · rw [if_neg h1]
    by_cases h2 : i = k
    · rw [if_pos h2, if_pos h2]
    · rw [if_neg h2, if_neg h2, if_neg h1]
theorem RdB.tail {w : World} {l : List Bool} {b cap k : Nat} (hb : b < w.heap.size) (h1 : l.length ≤ cap) (h2 : cap ≤ maxLen) (h3 : ∀ i, i < l.length → w.cell? ⟨b, 0 + i, none⟩ = some (.bool (l.getD i false))) (hk : k ≤ l.length) : RdB w (.slice (some ⟨b, k, none⟩) (l.length - k) (cap - k)) (l.drop k) := by
  refine .inr ⟨b, k, cap - k, by rw [List.length_drop], hb, by rw [List.length_drop]; omega, by unfold maxLen at h2 ⊢; omega, fun i hi => ?_⟩
  rw [List.length_drop] at hi
  have := h3 (k + i) (by omega)
  rw [Nat.zero_add] at this
  rw [this, List.getD_eq_getElem?_getD, List.getD_eq_getElem?_getD, List.getElem?_drop]
theorem row_cells {w : World} {l : List Bool} {b : Nat} (h : ∀ i, i < l.length → w.cell? ⟨b, 0 + i, none⟩ = some (.bool (l.getD i false))) : ∀ j u, (l.map Value.bool)[j]? = some u → w.cell? ((⟨b, 0, none⟩ : Addr).add j) = some u := by
  intro j u hu
  have := take_cells (off := 0) h l.length (Nat.le_refl _) j u
  rw [List.take_length] at this
  exact this hu
end Go.Proofs.YthbbokoeiifjdaaGreatDoor
