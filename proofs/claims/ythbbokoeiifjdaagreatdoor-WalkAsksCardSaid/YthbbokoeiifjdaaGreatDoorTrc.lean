/- What is behind put, by the three ways through it: no function of the program stands in it. put: contracts of the walk. drop: nodes that are given back. fresh: a node more, and the link to it. -/
import Derived.Test.YthbbokoeiifjdaaGreatDoorTrb
import Derived.LoopTactic
namespace Go.Proofs.YthbbokoeiifjdaaGreatDoor
open Go Go.RowKit Go.ChangeAt Tr

theorem set_trv1 {w : World} {t n c n1 c1 v : Nat} {p a a1 : Option Addr} {A : Lk} {ty : TypeId} (h : w.heap[t]? = some (.cells (trv p a n c A v) ty (0, 0))) : (w.setCell ⟨t, 1, none⟩ (.slice a1 n1 c1)).heap[t]? = some (.cells (trv p a1 n1 c1 A v) ty (0, 0)) := set_of h _
theorem ownP_stored {w : World} {base b cap n k : Nat} {xs : List Value} {u : Value} (h : w.ownsRow base 109 1 (.slice (some ⟨b, 0, none⟩) n cap) n xs) :
    (w.setCell ⟨b, k, none⟩ u).ownsRow base 109 1 (.slice (some ⟨b, 0, none⟩) n cap) n (xs.set k u) := (World.ownsRow.stored (w := w) h k u).1
theorem ownP_open {w : World} {base n cap : Nat} {a : Option Addr} {xs : List Value} (h : w.ownsRow base 109 1 (.slice a n cap) n xs) (hn : 0 < n) :
    ∃ b, a = some ⟨b, 0, none⟩ ∧ n ≤ cap ∧ cap ≤ maxLen ∧ (∀ j, j < n → w.cell? ⟨b, j, none⟩ = xs[j]?) ∧ ∀ j, w.frozen? ⟨b, j, none⟩ = false := by
  rcases h.2 with ⟨hv, h0⟩ | ⟨g, cap', cur, hv, hb, hg, hn, hm, hs, ht⟩
  · omega
  · simp only [Value.slice.injEq, true_and] at hv
    obtain ⟨rfl, rfl⟩ := hv
    exact ⟨g, rfl, hn, hm, fun j hj => World.ownsRow.cellAt (w := w) h j (by omega), fun j => World.ownsRow.frozenAt (w := w) h j⟩
theorem ptrs_last (s : Sto) (n : Nat) (x : Value) : (ptrs s n ++ [x])[n]? = some x := by
  rw [List.getElem?_append_right (by rw [ptrs_len]; exact Nat.le_refl _), ptrs_len, Nat.sub_self]
  rfl
theorem ptrs_at (s : Sto) {n k : Nat} (h : k < n) : (ptrs s n)[k]? = some (ptr (s k)) := by
  unfold ptrs
  rw [List.getElem?_map, List.getElem?_range h]
  rfl
theorem room_int {n k : Nat} (h : n ≤ k) (h2 : k ≤ maxLen) : (n : Int) ≤ k ∧ (k : Int) ≤ 9223372036854775807 := by unfold maxLen at h2; omega
/-- What put does. -/
def Putted (base : Nat) (w w' : World) (t nb : Nat) (d : Nd) (S S' : St) (k : Nat) : Prop :=
  TM base w' t S' ∧ S.sto k = none ∧ S'.sto = upd S.sto k (some (nb, d)) ∧ S'.rt = S.rt ∧ S'.vis = S.vis ∧ S'.live = S.live + 1 ∧ S'.T.length = max S.T.length (S.live + 1) ∧
    (∀ b, S'.own b ≠ none → S.own b ≠ none ∨ w.heap.size ≤ b ∨ b = nb ∨ ∃ l, d = .lf b l) ∧ Stay (fun b => S.own b ≠ none) w w'
/-- A node that is no one's. -/
structure Lone (base : Nat) (w : World) (S : St) (nb : Nat) (d : Nd) : Prop where
  m : NdM w nb d
  n0 : S.own nb = none
  n1 : base ≤ nb
  l0 : ∀ b l, d = .lf b l → S.own b = none ∧ base ≤ b ∧ b < w.heap.size
  lt : nb < w.heap.size
theorem getD_push (T : List Bool) (j : Nat) : (T ++ [true]).getD j false = if j = T.length then true else T.getD j false := by
  rw [List.getD_eq_getElem?_getD, List.getD_eq_getElem?_getD, List.getElem?_append]
  by_cases h : j < T.length
  · rw [if_pos h, if_neg (by omega)]
  · rw [if_neg h]
    by_cases h2 : j = T.length
    · subst h2; rw [if_pos rfl, Nat.sub_self]; rfl
    · rw [if_neg h2, List.getElem?_eq_none (by simp; omega), List.getElem?_eq_none (by omega)]
theorem Mv.of_own {w w' : World} {Z : Nat → Prop} {S : St} (hst : Stay Z w w') (hz : ∀ b, b < w.heap.size → Z b → S.own b ≠ none) : Stay (fun b => S.own b ≠ none) w w' := hst.mono hz
theorem put_end_new {base t g nb c b1 k1 : Nat} {S : St} {a : Option Addr} {d : Nd} {w w1 w2 : World} {A' : Nat → Prop} (h : TMx base w t S (some g) a c) (hF : S.F = []) (hl : S.T.length < 268435456) (hd : Lone base w S nb d)
    (hst1 : Stay (fun b => S.own b = some .ar) w w1) (har1 : ArM base 146 A' w1 g 268435456 (S.T ++ [true]) []) (hA1 : ∀ b, A' b → S.own b = some .ar ∨ w.heap.size ≤ b)
    (hst2 : Stay (fun i => (Value.slice a S.T.length c).ownBlock = some i) w1 w2) (hc2 : w2.heap[t]? = some (.cells (trv (some ⟨g, 0, none⟩) a S.T.length c S.rt S.vis) 108 (0, 0)))
    (hown : w2.ownsRow base 109 1 (.slice (some ⟨b1, 0, none⟩) (S.T.length + 1) k1) (S.T.length + 1) (ptrs S.sto S.T.length ++ [.pointer none]))
    (hat : (Value.slice a S.T.length c).ownBlock = some b1 ∨ w1.heap.size ≤ b1) (hbt : ¬ b1 = t) :
    ∃ S', Putted base w ((w2.setCell ⟨t, 1, none⟩ (.slice (some ⟨b1, 0, none⟩) (S.T.length + 1) k1)).setCell ⟨b1, S.T.length, none⟩ (.pointer (some ⟨nb, 0, none⟩))) t nb d S S' S.T.length := by
  have hT' : (S.T ++ [true]).length = S.T.length + 1 := by simp
  have hk : S.sto S.T.length = none := (h.dom _).2 (by rw [List.getD_eq_getElem?_getD, List.getElem?_eq_none (Nat.le_refl _)]; rfl)
  have hs : Ar.S 268435456 S.T [] := hF ▸ h.sar
  have hz1 := hst1.size
  have hz2 := hst2.size
  have hsetT : Stay (fun i => i = t) w2 (w2.setCell ⟨t, 1, none⟩ (.slice (some ⟨b1, 0, none⟩) (S.T.length + 1) k1)) := Stay.setCell (S := fun i => i = t) (Stay.refl _ _) (p := ⟨t, 1, none⟩) (.inr rfl) _
  have hsetB : Stay (fun i => i = b1) (w2.setCell ⟨t, 1, none⟩ (.slice (some ⟨b1, 0, none⟩) (S.T.length + 1) k1)) ((w2.setCell ⟨t, 1, none⟩ (.slice (some ⟨b1, 0, none⟩) (S.T.length + 1) k1)).setCell ⟨b1, S.T.length, none⟩ (.pointer (some ⟨nb, 0, none⟩))) := Stay.setCell (S := fun i => i = b1) (Stay.refl _ _) (p := ⟨b1, S.T.length, none⟩) (.inr rfl) _
  have hzT := hsetT.size
  have hzB := hsetB.size
  have hli : ∀ b, (Value.slice a S.T.length c).ownBlock = some b → S.own b = some .li := h.rowl
  have hb1 : S.own b1 = some .li ∨ w.heap.size ≤ b1 := hat.imp (hli b1) (fun h => by omega)
  have hA2 : ∀ b, A' b → b < w1.heap.size := fun b hb => (har1.lt b hb).2
  have hAt : ∀ b, A' b → ¬ b = t := fun b hb e => by
    subst e
    rcases hA1 b hb with h1 | h1
    · rw [h.ownt] at h1; cases h1
    · have := (h.lab _ _ h.ownt).2; omega
  have hAl : ∀ b, A' b → ¬ (Value.slice a S.T.length c).ownBlock = some b := fun b hb e => by
    have e1 := hli b e
    rcases hA1 b hb with h1 | h1
    · rw [e1] at h1; cases h1
    · have := (h.lab _ _ e1).2; omega
  have hAb : ∀ b, A' b → ¬ b = b1 := fun b hb e => by
    subst e
    rcases hat with h1 | h1
    · exact hAl b hb h1
    · have := hA2 b hb; omega
  have hstw : Stay (fun b => S.own b = some .tr ∨ S.own b = some .ar ∨ S.own b = some .li ∨ w.heap.size ≤ b) w ((w2.setCell ⟨t, 1, none⟩ (.slice (some ⟨b1, 0, none⟩) (S.T.length + 1) k1)).setCell ⟨b1, S.T.length, none⟩ (.pointer (some ⟨nb, 0, none⟩))) :=
    (((hst1.mono (fun i _ e => .inr (.inl e))).trans hst2 (fun i _ e => .inr (.inr (.inl (hli i e))))).trans hsetT (fun i _ e => .inl (e ▸ h.ownt))).trans hsetB (fun i _ e => by subst e; rcases hb1 with h1 | h1; exact .inr (.inr (.inl h1)); exact .inr (.inr (.inr h1)))
  obtain ⟨own', hT, hne⟩ := TMx.put (T' := S.T ++ [true]) (F' := []) (a1 := some ⟨b1, 0, none⟩) (c1 := k1) (d := d) (nb := nb) h hk (getD_push S.T) (Ar.S.new hs hl) hstw (fun b hb => hb)
    (by rw [hT']; exact hsetB.kept (set_trv1 hc2) (fun e => hbt e.symm))
    (((har1.stay hst2 hAl).stay hsetT hAt).stay hsetB hAb) hA1
    (by
      rw [hT', ← ptrs_set (x := (nb, d)) (Nat.lt_succ_self _), ← ptrs_push hk]
      exact ownP_stored (ownsRow_stay hown hsetT (fun k hk e => by subst e; injection hk with hk; exact hbt hk)))
    (fun b hb => by
      have e : b1 = b := by injection hb
      subst e
      exact ⟨hb1, fun h => hAb b1 h rfl⟩)
    hd.m hd.n0 hd.n1 hd.l0 hd.lt
  refine ⟨_, hT, hk, rfl, rfl, rfl, ?_, ?_, hne, hstw.mono (fun i hi e => ?_)⟩
  · show (S.T ++ [true]).length - 0 = S.T.length - S.F.length + 1
    rw [hF, hT']; rfl
  · show (S.T ++ [true]).length = max S.T.length (S.T.length - S.F.length + 1)
    rw [hF, hT']; show _ = max _ (S.T.length - 0 + 1); omega
  · rcases e with e | e | e | e
    · show S.own i ≠ none; rw [e]; exact fun h => by cases h
    · show S.own i ≠ none; rw [e]; exact fun h => by cases h
    · show S.own i ≠ none; rw [e]; exact fun h => by cases h
    · omega
theorem put_end_old {base t g nb c b0 : Nat} {k : Nat} {S : St} {d : Nd} {w w1 : World} {A' : Nat → Prop} {G : List Int} (h : TMx base w t S (some g) (some ⟨b0, 0, none⟩) c) (hF : S.F = G ++ [(k : Int)]) (hd : Lone base w S nb d)
    (hst1 : Stay (fun b => S.own b = some .ar) w w1) (har1 : ArM base 146 A' w1 g 268435456 (S.T.set k true) G) (hA1 : ∀ b, A' b → S.own b = some .ar ∨ w.heap.size ≤ b) :
    ∃ S', Putted base w (w1.setCell ⟨b0, k, none⟩ (.pointer (some ⟨nb, 0, none⟩))) t nb d S S' k := by
  have hs : Ar.S 268435456 S.T (G ++ [(k : Int)]) := hF ▸ h.sar
  obtain ⟨q0, q1, q2, q3⟩ := hs.old
  have hkT : k < S.T.length := by omega
  have hlen := hs.len
  have hT' : (S.T.set k true).length = S.T.length := List.length_set
  have hk : S.sto k = none := (h.dom _).2 q2
  have hz1 := hst1.size
  have hb0 : S.own b0 = some .li := h.rowl b0 rfl
  have hsetB : Stay (fun i => i = b0) w1 (w1.setCell ⟨b0, k, none⟩ (.pointer (some ⟨nb, 0, none⟩))) := Stay.setCell (S := fun i => i = b0) (Stay.refl _ _) (p := ⟨b0, k, none⟩) (.inr rfl) _
  have hAb : ∀ b, A' b → ¬ b = b0 := fun b hb e => by
    subst e
    rcases hA1 b hb with h1 | h1
    · rw [hb0] at h1; cases h1
    · have := (h.lab _ _ hb0).2; omega
  have hbt : ¬ b0 = t := fun e => by subst e; rw [h.ownt] at hb0; cases hb0
  have hstw : Stay (fun b => S.own b = some .tr ∨ S.own b = some .ar ∨ S.own b = some .li ∨ w.heap.size ≤ b) w (w1.setCell ⟨b0, k, none⟩ (.pointer (some ⟨nb, 0, none⟩))) :=
    (hst1.mono (fun i _ e => .inr (.inl e))).trans hsetB (fun i _ e => by subst e; exact .inr (.inr (.inl hb0)))
  obtain ⟨own', hT, hne⟩ := TMx.put (T' := S.T.set k true) (F' := G) (a1 := some ⟨b0, 0, none⟩) (c1 := c) (d := d) (nb := nb) h hk
    (fun j => by rw [Ar.getD_set]; by_cases hj : j = k; (subst hj; rw [if_pos ⟨rfl, hkT⟩, if_pos rfl]); (rw [if_neg (fun e => hj e.1.symm), if_neg hj])) q3 hstw (fun b hb => hb)
    (by rw [hT']; exact hsetB.kept (hst1.kept h.cells (fun e => by rw [h.ownt] at e; cases e)) (fun e => hbt e.symm))
    (har1.stay hsetB hAb) hA1
    (by
      rw [hT', ← ptrs_set (x := (nb, d)) hkT]
      exact ownP_stored (ownsRow_stay h.row hst1 (fun k hk e => by rw [h.rowl k hk] at e; cases e)))
    (fun b hb => by
      have e : b0 = b := by injection hb
      subst e
      exact ⟨.inl hb0, fun h => hAb b0 h rfl⟩)
    hd.m hd.n0 hd.n1 hd.l0 hd.lt
  refine ⟨_, hT, hk, rfl, rfl, rfl, ?_, ?_, hne, hstw.mono (fun i hi e => ?_)⟩
  · show (S.T.set k true).length - G.length = S.T.length - S.F.length + 1
    rw [hF, hT', List.length_append]
    rw [List.length_append] at hlen
    simp at hlen ⊢
    omega
  · show (S.T.set k true).length = max S.T.length (S.T.length - S.F.length + 1)
    rw [hF, hT', List.length_append]
    rw [List.length_append] at hlen
    simp at hlen ⊢
    omega
  · rcases e with e | e | e | e
    · show S.own i ≠ none; rw [e]; exact fun h => by cases h
    · show S.own i ≠ none; rw [e]; exact fun h => by cases h
    · show S.own i ≠ none; rw [e]; exact fun h => by cases h
    · omega
theorem ArM.base {b b' : Nat} {t : TypeId} {A : Nat → Prop} {w : World} {g most : Nat} {T : List Bool} {F : List Int} (h : ArM b t A w g most T F) (hb : b' ≤ b) : ArM b' t A w g most T F := by
  obtain ⟨h1, h2, a, c, a', c', h3, h4, h5, h6, h7⟩ := h
  exact ⟨h1, fun k hk => ⟨Nat.le_trans hb (h2 k hk).1, (h2 k hk).2⟩, a, c, a', c', h3, ownsRow_base h4 hb, ownsRow_base h5 hb, h6, h7⟩
/-- The arena was made just now. -/
theorem TMx.first {base t c : Nat} {S : St} {a : Option Addr} {w w1 : World} (h : TMx base w t S none a c) (hb : Below w.heap.size w w1) (har : ArM w.heap.size 146 (fun k => k = w.heap.size) w1 w.heap.size 268435456 [] []) :
    ∃ own', TMx base (w1.setCell ⟨t, 0, none⟩ (.pointer (some ⟨w.heap.size, 0, none⟩))) t { S with own := own' } (some w.heap.size) a c ∧ Mv w (w1.setCell ⟨t, 0, none⟩ (.pointer (some ⟨w.heap.size, 0, none⟩))) S { S with own := own' } := by
  obtain ⟨hg, hT, hF⟩ : none = (none : Option Nat) ∧ S.T = [] ∧ S.F = [] := by
    rcases h.ar with h | ⟨g, e, _⟩
    · exact h
    · cases e
  have hlt := (h.lab _ _ h.ownt).2
  have hbase := (h.lab _ _ h.ownt).1
  have hz := hb.size
  have hno : ∀ x, S.own w.heap.size ≠ some x := fun x e => by have := (h.lab _ _ e).2; omega
  have hsetT : Stay (fun i => i = t) w1 (w1.setCell ⟨t, 0, none⟩ (.pointer (some ⟨w.heap.size, 0, none⟩))) := Stay.setCell (S := fun i => i = t) (Stay.refl _ _) (p := ⟨t, 0, none⟩) (.inr rfl) _
  have hst : Stay (fun i => i = t) w (w1.setCell ⟨t, 0, none⟩ (.pointer (some ⟨w.heap.size, 0, none⟩))) := (Stay.of_below hb).trans hsetT (fun i _ e => e)
  have hz' : ∀ b x, S.own b = some x → x ≠ .tr → ¬ b = t := fun b x e h1 e2 => by subst e2; rw [h.ownt] at e; injection e with e; exact h1 e.symm
  have harne : ∀ b, S.own b ≠ some .ar ∨ True := fun _ => .inr trivial
  let own' : Nat → Option Who := fun b => if b = w.heap.size then some .ar else S.own b
  have o_old : ∀ b x, S.own b = some x → own' b = some x := fun b x e => (if_neg (fun e2 => by subst e2; exact hno x e)).trans e
  have hltA : w.heap.size < w1.heap.size := (har.lt _ rfl).2
  refine ⟨own', ⟨fun b x e => ?_, o_old _ _ h.ownt, set_of (Below.keptB hb h.cells hlt) _, .inr ⟨w.heap.size, rfl, ?_⟩, ?_, fun b e => o_old _ _ (h.rowl b e), h.sar, h.dom, fun k n d e => ⟨o_old _ _ (h.nds k n d e).1, (h.nds k n d e).2.stay hst (hz' _ _ (h.nds k n d e).1 (fun h => by cases h)) (fun b l e2 => hz' _ _ (h.bks k n b l (e2 ▸ e)) (fun h => by cases h))⟩, fun k n b l e => o_old _ _ (h.bks k n b l e)⟩, ⟨hst.mono (fun i _ e => by subst e; show S.own i ≠ none; rw [h.ownt]; exact fun h => by cases h), fun b hb => ?_⟩⟩
  · have e' : own' b = some x := e
    by_cases h1 : b = w.heap.size
    · subst h1; exact ⟨by omega, Nat.lt_of_lt_of_le hltA hsetT.size⟩
    · have e2 : own' b = S.own b := if_neg h1
      rw [e2] at e'
      exact ⟨(h.lab b x e').1, Nat.lt_of_lt_of_le (h.lab b x e').2 hst.size⟩
  · show ArM base _ (fun b => own' b = some Who.ar) _ _ _ S.T S.F
    rw [hT, hF]
    have har2 := (har.base (b' := base) (by omega)).stay hsetT (fun k hk e => by omega)
    obtain ⟨h1, h2, a', c', a2, c2, h3, h4, h5, h6, h7⟩ := har2
    refine ⟨if_pos rfl, fun b hb => ?_, a', c', a2, c2, h3, h4, h5, fun b hb => ?_, fun b hb => ?_⟩
    · have e' : own' b = some .ar := hb
      by_cases h1 : b = w.heap.size
      · exact h2 b h1
      · have e2 : own' b = S.own b := if_neg h1
        rw [e2] at e'
        exact ⟨(h.lab b _ e').1, Nat.lt_of_lt_of_le (h.lab b _ e').2 hst.size⟩
    · exact if_pos (h6 b hb)
    · exact if_pos (h7 b hb)
  · exact ownsRow_stay h.row hst (fun k hk => hz' _ _ (h.rowl k hk) (fun h => by cases h))
  · by_cases h1 : b = w.heap.size
    · exact .inr (by omega)
    · have e2 : own' b = S.own b := if_neg h1
      have hb' : own' b ≠ none := hb
      rw [e2] at hb'
      exact .inl hb'
theorem Lone.mv {base nb : Nat} {w w' : World} {S S' : St} {d : Nd} (h : Lone base w S nb d) (hV : Mv w w' S S') : Lone base w' S' nb d :=
  ⟨h.m.stay hV.st (fun e => e h.n0) (fun b l e => fun e2 => e2 (h.l0 b l e).1), hV.outer h.lt h.n0, h.n1, fun b l e => ⟨hV.outer (h.l0 b l e).2.2 (h.l0 b l e).1, (h.l0 b l e).2.1, Nat.lt_of_lt_of_le (h.l0 b l e).2.2 hV.st.size⟩, Nat.lt_of_lt_of_le h.lt hV.st.size⟩
theorem Putted.mv {base t nb k : Nat} {w w1 w' : World} {S S1 S' : St} {d : Nd} (h : Putted base w1 w' t nb d S1 S' k) (hV : Mv w w1 S S1) (h1 : S1.sto = S.sto) (h2 : S1.T = S.T) (h3 : S1.F = S.F) (h4 : S1.rt = S.rt) (h5 : S1.vis = S.vis) : Putted base w w' t nb d S S' k := by
  obtain ⟨a1, a2, a3, a4, a5, a6, a7, a8, a9⟩ := h
  have e : S1.live = S.live := by unfold St.live; rw [h2, h3]
  refine ⟨a1, h1 ▸ a2, h1 ▸ a3, a4.trans h4, a5.trans h5, e ▸ a6, by rw [← h2, ← e]; exact a7, fun b hb => ?_, hV.st.trans a9 (fun i hi hs => ?_)⟩
  · rcases a8 b hb with h | h | h
    · rcases hV.ne b h with h | h
      · exact .inl h
      · exact .inr (.inl h)
    · exact .inr (.inl (Nat.le_trans hV.st.size h))
    · exact .inr (.inr h)
  · rcases hV.ne i hs with h | h
    · exact h
    · omega
end Go.Proofs.YthbbokoeiifjdaaGreatDoor
namespace Go.Proofs.YthbbokoeiifjdaaGreatDoor
open Go Go.RowKit Go.ChangeAt Tr

set_option maxRecDepth 100000 in
set_option maxHeartbeats 1600000 in
theorem tput_new {base t g nb c : Nat} {S : St} {a : Option Addr} {d : Nd} (w : World) (h : TMx base w t S (some g) a c) (hF : S.F = []) (hl : S.T.length < 268435456) (hd : Lone base w S nb d) :
    Calls Tryz.prog 103 #[.pointer (some ⟨t, 0, none⟩), .pointer (some ⟨nb, 0, none⟩)] w fun e w' => ∃ S', e = .returned (.int .i64 S.T.length) ∧ Putted base w w' t nb d S S' S.T.length := by
  obtain ⟨i0, hi, hz0, hz1, hz2⟩ := info_parts infoP
  obtain ⟨g', eg, har⟩ : ∃ g', some g = some g' ∧ ArM base 146 (fun b => S.own b = some .ar) w g' 268435456 S.T S.F := by
    rcases h.ar with h | h
    · exact absurd h.1 (fun h => by cases h)
    · exact h
  injection eg with eg
  subst eg
  have hs := h.sar
  have har0 := har
  rw [hF] at har hs
  have key := atake_new w har hs hl
  have H := Lib.hid h
  have HD := Lib.hid hd
  have HF := Lib.hid hF
  have C := cellsT h.cells
  have c0 : w.cell? ⟨t, 0, none⟩ = some (.pointer (some ⟨g, 0, none⟩)) := C.c0
  have hbase : base ≤ w.heap.size := by have := h.lab _ _ h.ownt; omega
  have hHC := Lib.hid h.cells
  have hHR := Lib.hid h.row
  have hHL := Lib.hid h.rowl
  have hHT := Lib.hid h.ownt
  clear hs har h hd C hF har0
  go_enter Tryz.func103, Tryz.ntmps103
  go_wp2_with fail
  (with_reducible refine key.mono ?_)
  rintro e w1 ⟨rfl, A', har1, hst1, hA1⟩
  clear c0 key
  have hz := hst1.size
  have hk1 := hst1.kept hHC.out (fun e => by rw [hHT.out] at e; cases e)
  have hrow1 := ownsRow_stay hHR.out hst1 (fun k hk e => by rw [hHL.out k hk] at e; cases e)
  obtain ⟨d0, d1, _, _, _, _, _, dz⟩ := cellsT hk1
  have f1 := dz 1
  have HK1 := Lib.hid hk1
  have HR1 := Lib.hid hrow1
  have HS1 := Lib.hid hst1
  have HAR1 := Lib.hid har1
  have HA1 := Lib.hid hA1
  have hw1 : t < w1.heap.size := block_lt_of_cell d0
  have HNT := Lib.hid (show ¬ (Value.slice a S.T.length c).ownBlock = some t from fun e => by have := hHL.out _ e; rw [hHT.out] at this; cases this)
  have HBT : Hid (∀ b1, (Value.slice a S.T.length c).ownBlock = some b1 ∨ some b1 = some (w1.alloc (.cells #[.pointer none] 109)).heap.size → ¬ b1 = t) := Lib.hid (fun b1 h e => by
    subst e
    rcases h with h | h
    · exact HNT.out h
    · injection h with h; simp at h; omega)
  clear hk1 hrow1 hst1 har1 hA1 dz
  have hlw : (S.T.length : Int) < 268435456 := by omega
  go_wp2_with (first
    | (at_builtin; (refine wpList_append_own_at _ rfl (.tmp 35) (.tmp 36) 102 rfl base 109 i0 (.pointer none) 1 8 Tryz.underlying102 hi hz0 hz1 hz2 rfl (by decide) _ _ _ rfl (World.ownsRow.alloc HR1.out _) ⟨w1.heap.size, 0, none⟩ 1 1 [.pointer none] rfl rfl (cell_one_new _ _ _) (fun u hu => by simp at hu; subst hu; rfl) (by unfold maxLen; omega) (by omega) (by simp; omega) ?_); intro v1 w2 hown1 hgrow1 hnil1 hat1;
       (obtain ⟨a1, k1, rfl, hk1, hk2⟩ := own_form hown1);
       (have hst2 : Stay (fun i => (Value.slice a S.T.length c).ownBlock = some i) w1 w2 := Stay.trans ((Stay.refl _ _).alloc _) (grown_stay hgrow1) (fun i hi e => e));
       (have hc2 := hst2.kept HK1.out HNT.out);
       (obtain ⟨b1, rfl, hb2⟩ := ownP_open hown1 (Nat.succ_pos _));
       (have hbt := HBT.out b1 (hat1.imp (fun e => e.symm) (fun e => e)));
       (have e8 := (hb2.2.2.1 S.T.length (Nat.lt_succ_self _)).trans (ptrs_last _ _ _));
       (have f8 := hb2.2.2.2 S.T.length);
       (obtain ⟨d0', d1', _, _, _, _, _, dz'⟩ := cellsT hc2);
       (have f1' := dz' 1);
       (have HC2 := Lib.hid hc2); (have HO1 := Lib.hid hown1); (have HS2 := Lib.hid hst2); (have HAT := Lib.hid hat1); (have HW2 := Lib.hid hb2); (have hkk := room_int hk1 hk2);
       clear hb2 dz' hc2 hown1 hst2 hgrow1 hnil1 hat1 hk1 hk2))
  go_ret
  obtain ⟨S', hS'⟩ := put_end_new H.out HF.out hl HD.out HS1.out HAR1.out HA1.out HS2.out HC2.out HO1.out (HAT.out.imp (fun e => e.symm) (fun e => by have e' := Option.some.inj e; simp at e'; omega)) hbt
  exact ⟨S', rfl, hS'⟩
set_option maxRecDepth 100000 in
set_option maxHeartbeats 1600000 in
theorem tput_old {base t g nb c k : Nat} {S : St} {a : Option Addr} {d : Nd} {G : List Int} (w : World) (h : TMx base w t S (some g) a c) (hF : S.F = G ++ [(k : Int)]) (hd : Lone base w S nb d) :
    Calls Tryz.prog 103 #[.pointer (some ⟨t, 0, none⟩), .pointer (some ⟨nb, 0, none⟩)] w fun e w' => ∃ S', e = .returned (.int .i64 k) ∧ Putted base w w' t nb d S S' k := by
  obtain ⟨g', eg, har⟩ : ∃ g', some g = some g' ∧ ArM base 146 (fun b => S.own b = some .ar) w g' 268435456 S.T S.F := by
    rcases h.ar with h | h
    · exact absurd h.1 (fun h => by cases h)
    · exact h
  injection eg with eg
  subst eg
  have hs := h.sar
  rw [hF] at har hs
  obtain ⟨q0, q1, q2, q3⟩ := hs.old
  have hkT : k < S.T.length := by omega
  have htm := hs.tm
  have key := atake_old w har hs
  rw [Int.toNat_natCast] at key
  have H := Lib.hid h
  have HD := Lib.hid hd
  have HF := Lib.hid hF
  have C := cellsT h.cells
  have c0 : w.cell? ⟨t, 0, none⟩ = some (.pointer (some ⟨g, 0, none⟩)) := C.c0
  obtain ⟨b0, rfl, hlc, hcm, hcell, hfz, hown⟩ := h.list hkT
  have hk0 : S.sto k = none := (h.dom _).2 (by have := q2; rw [Int.toNat_natCast] at this; exact this)
  rw [hk0] at hcell
  have hcell' : w.cell? ⟨b0, k, none⟩ = some (.pointer none) := hcell
  have f0 := hfz k
  have hHC := Lib.hid h.cells
  have hHT := Lib.hid h.ownt
  have hk1 : (k : Int) < S.T.length := by omega
  have hk2 : ¬ (k : Int) = S.T.length := by omega
  have hkk := room_int hlc hcm
  clear hs har h hd C hF hcell hfz q0 q1 q2 q3 hk0
  go_enter Tryz.func103, Tryz.ntmps103
  go_wp2_with fail
  (with_reducible refine key.mono ?_)
  rintro e w1 ⟨rfl, A', har1, hst1, hA1⟩
  clear c0 key
  have hk1' := hst1.kept hHC.out (fun e => by rw [hHT.out] at e; cases e)
  obtain ⟨d0, d1, _, _, _, _, _, dz⟩ := cellsT hk1'
  have hbw := block_lt_of_cell hcell'
  have c8 := (hst1.cell (p := ⟨b0, k, none⟩) hbw (fun e => by rw [hown] at e; cases e)).trans hcell'
  have f8 : w1.frozen? ⟨b0, k, none⟩ = false := by
    have e := hst1.block b0 hbw (fun e => by rw [hown] at e; cases e)
    have e2 : w1.frozen? ⟨b0, k, none⟩ = w.frozen? ⟨b0, k, none⟩ := by unfold World.frozen?; rw [e]
    exact e2.trans f0
  have HS1 := Lib.hid hst1
  have HAR1 := Lib.hid har1
  have HA1 := Lib.hid hA1
  clear hk1' hst1 har1 hA1 dz hcell' f0
  go_wp2_with fail
  go_ret
  obtain ⟨S', hS'⟩ := put_end_old H.out HF.out HD.out HS1.out HAR1.out HA1.out
  exact ⟨S', rfl, hS'⟩
set_option maxRecDepth 100000 in
set_option maxHeartbeats 1600000 in
theorem tput_first {base t nb c : Nat} {S0 : St} {a : Option Addr} {d : Nd} (w0 : World) (h00 : TMx base w0 t S0 none a c) (hd0 : Lone base w0 S0 nb d) :
    Calls Tryz.prog 103 #[.pointer (some ⟨t, 0, none⟩), .pointer (some ⟨nb, 0, none⟩)] w0 fun e w' => ∃ (k : Nat) (S' : St), e = .returned (.int .i64 k) ∧ Putted base w0 w' t nb d S0 S' k := by
  have h0T : S0.T = [] ∧ S0.F = [] := by
    rcases h00.ar with h | ⟨g, e, _⟩
    · exact h.2
    · cases e
  obtain ⟨hT0, hF0⟩ := h0T
  have C0 := cellsT h00.cells
  have c00 : w0.cell? ⟨t, 0, none⟩ = some (.pointer none) := C0.c0
  have f00 := C0.fz 0
  have hlt0 := (h00.lab _ _ h00.ownt).2
  have key0 := anew_ok 268435456 w0 (Nat.le_refl _)
  have H00 := Lib.hid h00
  have HD0 := Lib.hid hd0
  clear h00 hd0 C0
  go_enter Tryz.func103, Tryz.ntmps103
  go_wp2_with fail
  refine key0.mono ?_
  rintro e wa ⟨rfl, hara, hba⟩
  have ca : wa.cell? ⟨t, 0, none⟩ = some (.pointer none) := (hba.cell (p := ⟨t, 0, none⟩) hlt0).trans c00
  have fa : wa.frozen? ⟨t, 0, none⟩ = false := by
    have e := hba.block t hlt0
    have e2 : wa.frozen? ⟨t, 0, none⟩ = w0.frozen? ⟨t, 0, none⟩ := by unfold World.frozen?; rw [e]
    exact e2.trans f00
  obtain ⟨own1, hx1, hV1⟩ := H00.out.first hba hara
  have hd1 := HD0.out.mv hV1
  clear c00 f00 key0 hara hba
  go_wp2_with fail
  generalize wa.setCell ⟨t, 0, none⟩ (.pointer (some ⟨w0.heap.size, 0, none⟩)) = w at *
  obtain ⟨g, hg⟩ : ∃ g, w0.heap.size = g := ⟨_, rfl⟩
  rw [hg] at hx1
  rw [hg]
  obtain ⟨S, hS⟩ : ∃ S, ({ S0 with own := own1 } : St) = S := ⟨_, rfl⟩
  have hS1 : S.sto = S0.sto := by rw [← hS]
  have hS2 : S.T = S0.T := by rw [← hS]
  have hS3 : S.F = S0.F := by rw [← hS]
  have hS4 : S.rt = S0.rt := by rw [← hS]
  have hS5 : S.vis = S0.vis := by rw [← hS]
  rw [hS] at hx1 hV1 hd1
  have h : TMx base w t S (some g) a c := hx1
  have hd : Lone base w S nb d := hd1
  have hF : S.F = [] := hS3.trans hF0
  have hl : S.T.length < 268435456 := by rw [hS2, hT0]; decide
  have HEQ := Lib.hid (And.intro hV1 (And.intro hS1 (And.intro hS2 (And.intro hS3 (And.intro hS4 hS5)))))
  clear hx1 hV1 hd1 hS1 hS2 hS3 hS4 hS5 hT0 hF0 hg hS fa ca hlt0
  obtain ⟨i0, hi, hz0, hz1, hz2⟩ := info_parts infoP
  obtain ⟨g', eg, har⟩ : ∃ g', some g = some g' ∧ ArM base 146 (fun b => S.own b = some .ar) w g' 268435456 S.T S.F := by
    rcases h.ar with h | h
    · exact absurd h.1 (fun h => by cases h)
    · exact h
  injection eg with eg
  subst eg
  have hs := h.sar
  have har0 := har
  rw [hF] at har hs
  have key := atake_new w har hs hl
  have H := Lib.hid h
  have HD := Lib.hid hd
  have HF := Lib.hid hF
  have C := cellsT h.cells
  have c0 : w.cell? ⟨t, 0, none⟩ = some (.pointer (some ⟨g, 0, none⟩)) := C.c0
  have hbase : base ≤ w.heap.size := by have := h.lab _ _ h.ownt; omega
  have hHC := Lib.hid h.cells
  have hHR := Lib.hid h.row
  have hHL := Lib.hid h.rowl
  have hHT := Lib.hid h.ownt
  clear hs har h hd C hF har0
  go_wp2_with fail
  (with_reducible refine key.mono ?_)
  rintro e w1 ⟨rfl, A', har1, hst1, hA1⟩
  clear c0 key
  have hz := hst1.size
  have hk1 := hst1.kept hHC.out (fun e => by rw [hHT.out] at e; cases e)
  have hrow1 := ownsRow_stay hHR.out hst1 (fun k hk e => by rw [hHL.out k hk] at e; cases e)
  obtain ⟨d0, d1, _, _, _, _, _, dz⟩ := cellsT hk1
  have f1 := dz 1
  have HK1 := Lib.hid hk1
  have HR1 := Lib.hid hrow1
  have HS1 := Lib.hid hst1
  have HAR1 := Lib.hid har1
  have HA1 := Lib.hid hA1
  have hw1 : t < w1.heap.size := block_lt_of_cell d0
  have HNT := Lib.hid (show ¬ (Value.slice a S.T.length c).ownBlock = some t from fun e => by have := hHL.out _ e; rw [hHT.out] at this; cases this)
  have HBT : Hid (∀ b1, (Value.slice a S.T.length c).ownBlock = some b1 ∨ some b1 = some (w1.alloc (.cells #[.pointer none] 109)).heap.size → ¬ b1 = t) := Lib.hid (fun b1 h e => by
    subst e
    rcases h with h | h
    · exact HNT.out h
    · injection h with h; simp at h; omega)
  clear hk1 hrow1 hst1 har1 hA1 dz
  have hlw : (S.T.length : Int) < 268435456 := by omega
  go_wp2_with (first
    | (at_builtin; (refine wpList_append_own_at _ rfl (.tmp 35) (.tmp 36) 102 rfl base 109 i0 (.pointer none) 1 8 Tryz.underlying102 hi hz0 hz1 hz2 rfl (by decide) _ _ _ rfl (World.ownsRow.alloc HR1.out _) ⟨w1.heap.size, 0, none⟩ 1 1 [.pointer none] rfl rfl (cell_one_new _ _ _) (fun u hu => by simp at hu; subst hu; rfl) (by unfold maxLen; omega) (by omega) (by simp; omega) ?_); intro v1 w2 hown1 hgrow1 hnil1 hat1;
       (obtain ⟨a1, k1, rfl, hk1, hk2⟩ := own_form hown1);
       (have hst2 : Stay (fun i => (Value.slice a S.T.length c).ownBlock = some i) w1 w2 := Stay.trans ((Stay.refl _ _).alloc _) (grown_stay hgrow1) (fun i hi e => e));
       (have hc2 := hst2.kept HK1.out HNT.out);
       (obtain ⟨b1, rfl, hb2⟩ := ownP_open hown1 (Nat.succ_pos _));
       (have hbt := HBT.out b1 (hat1.imp (fun e => e.symm) (fun e => e)));
       (have e8 := (hb2.2.2.1 S.T.length (Nat.lt_succ_self _)).trans (ptrs_last _ _ _));
       (have f8 := hb2.2.2.2 S.T.length);
       (obtain ⟨d0', d1', _, _, _, _, _, dz'⟩ := cellsT hc2);
       (have f1' := dz' 1);
       (have HC2 := Lib.hid hc2); (have HO1 := Lib.hid hown1); (have HS2 := Lib.hid hst2); (have HAT := Lib.hid hat1); (have HW2 := Lib.hid hb2); (have hkk := room_int hk1 hk2);
       clear hb2 dz' hc2 hown1 hst2 hgrow1 hnil1 hat1 hk1 hk2))
  go_ret
  obtain ⟨S', hS'⟩ := put_end_new H.out HF.out hl HD.out HS1.out HAR1.out HA1.out HS2.out HC2.out HO1.out (HAT.out.imp (fun e => e.symm) (fun e => by have e' := Option.some.inj e; simp at e'; omega)) hbt
  exact ⟨_, S', rfl, hS'.mv HEQ.out.1 HEQ.out.2.1 HEQ.out.2.2.1 HEQ.out.2.2.2.1 HEQ.out.2.2.2.2.1 HEQ.out.2.2.2.2.2⟩
theorem tput {base t nb : Nat} {S : St} {d : Nd} (w : World) (h : TM base w t S) (hl : S.live < 268435456) (hd : Lone base w S nb d) :
    Calls Tryz.prog 103 #[.pointer (some ⟨t, 0, none⟩), .pointer (some ⟨nb, 0, none⟩)] w fun e w' => ∃ (k : Nat) (S' : St), e = .returned (.int .i64 k) ∧ Putted base w w' t nb d S S' k := by
  obtain ⟨g, a, c, hx⟩ := h
  cases g with
  | none => exact tput_first w hx hd
  | some g =>
    by_cases hF : S.F = []
    · have hl' : S.T.length < 268435456 := by unfold St.live at hl; rw [hF] at hl; exact hl
      exact (tput_new w hx hF hl' hd).mono fun _ _ ⟨S', h1, h2⟩ => ⟨_, S', h1, h2⟩
    · obtain ⟨G, j, hj⟩ := Ar.snoc_of hF
      have hs := hx.sar
      rw [hj] at hs
      obtain ⟨q0, _⟩ := hs.old
      obtain ⟨k, rfl⟩ := Int.eq_ofNat_of_zero_le q0
      exact (tput_old w hx hj hd).mono fun _ _ ⟨S', h1, h2⟩ => ⟨_, S', h1, h2⟩
end Go.Proofs.YthbbokoeiifjdaaGreatDoor
namespace Go.Proofs.YthbbokoeiifjdaaGreatDoor
open Go Go.RowKit Go.ChangeAt Tr

/-- A store without the nodes of these numbers. -/
def clr (s : Sto) (l : List Nat) : Sto := fun j => if j ∈ l then none else s j
theorem clr_nil (s : Sto) : clr s [] = s := by funext j; unfold clr; simp
theorem clr_snoc (s : Sto) (l : List Nat) (k : Nat) : clr s (l ++ [k]) = upd (clr s l) k none := by
  funext j
  unfold clr upd
  by_cases h : j = k
  · subst h; simp
  · by_cases h2 : j ∈ l
    · simp [h, h2]
    · simp [h, h2]
theorem clr_succ (s : Sto) (l : List Nat) (m : Nat) (h : m < l.length) : clr s (l.take (m + 1)) = upd (clr s (l.take m)) (l.getD m 0) none := by
  rw [List.take_succ_eq_append_getElem h, clr_snoc, List.getD_eq_getElem?_getD, List.getElem?_eq_getElem h]
  rfl
/-- The numbers, as the arena has them. -/
def nums (l : List Nat) : List Int := l.map fun (k : Nat) => (k : Int)
theorem nums_len (l : List Nat) : (nums l).length = l.length := by unfold nums; simp
theorem nums_getD (l : List Nat) (m : Nat) : (nums l).getD m 0 = ((l.getD m 0 : Nat) : Int) := by
  unfold nums
  rw [List.getD_eq_getElem?_getD, List.getD_eq_getElem?_getD, List.getElem?_map]
  cases l[m]? <;> rfl
theorem good_of (l : List Nat) : ∀ T : List Bool, l.Nodup → (∀ k ∈ l, T.getD k false = true) → Ar.good T (nums l) = true := by
  induction l with
  | nil => intro T _ _; rfl
  | cons k l ih =>
    intro T h1 h2
    obtain ⟨h3, h4⟩ := List.nodup_cons.1 h1
    show (Ar.is T (k : Int) && Ar.good (T.set (k : Int).toNat false) (nums l)) = true
    rw [Bool.and_eq_true]
    refine ⟨Ar.is_of (by omega) (by rw [Int.toNat_natCast]; exact h2 k List.mem_cons_self), ih _ h4 (fun j hj => ?_)⟩
    rw [Ar.getD_set, Int.toNat_natCast, if_neg (fun e => h3 (by rw [e.1]; exact hj))]
    exact h2 j (List.mem_cons_of_mem _ hj)
open Classical in
theorem TMx.drop {base : Nat} {w w1 w2 : World} {t g c : Nat} {S : St} {a : Option Addr} {A' : Nat → Prop} {l : List Nat} (h : TMx base w t S (some g) a c) (_ : l.Nodup) (hl : ∀ k ∈ l, S.sto k ≠ none)
    (hst1 : Stay (fun i => S.own i = some .li) w w1) (hrow : w1.ownsRow base 109 1 (.slice a S.T.length c) S.T.length (ptrs (clr S.sto l) S.T.length))
    (hst2 : Stay (fun i => S.own i = some .ar) w1 w2) (har : ArM base 146 A' w2 g 268435456 (Ar.setAll S.T false (nums l)) (S.F ++ nums l)) (hA : ∀ b, A' b → S.own b = some .ar ∨ w.heap.size ≤ b) (hsar : Ar.S 268435456 (Ar.setAll S.T false (nums l)) (S.F ++ nums l)) :
    ∃ own', TM base w2 t ⟨own', clr S.sto l, Ar.setAll S.T false (nums l), S.F ++ nums l, S.rt, S.vis⟩ ∧ Mv w w2 S ⟨own', clr S.sto l, Ar.setAll S.T false (nums l), S.F ++ nums l, S.rt, S.vis⟩ := by
  have hst : Stay (fun i => S.own i = some .li ∨ S.own i = some .ar) w w2 := (hst1.mono (fun i _ e => .inl e)).trans hst2 (fun i _ e => .inr e)
  let own' : Nat → Option Who := fun b => if A' b then some .ar else S.own b
  have hnA : ∀ b x, S.own b = some x → x ≠ .ar → ¬ A' b := fun b x e h1 h2 => by
    rcases hA b h2 with h3 | h3
    · rw [h3] at e; injection e with e; exact h1 e.symm
    · have := (h.lab b x e).2; omega
  have o_keep : ∀ b x, S.own b = some x → x ≠ .ar → own' b = some x := fun b x e h1 => (if_neg (hnA b x e h1)).trans e
  have hz' : ∀ b x, S.own b = some x → x ≠ .ar → x ≠ .li → ¬ (S.own b = some .li ∨ S.own b = some .ar) := fun b x e h1 h2 h3 => by
    rcases h3 with h3 | h3
    · rw [h3] at e; injection e with e; exact h2 e.symm
    · rw [h3] at e; injection e with e; exact h1 e.symm
  have hlen : (Ar.setAll S.T false (nums l)).length = S.T.length := Ar.setAll_length _ _ _
  have hsto : ∀ j x, clr S.sto l j = some x → S.sto j = some x := fun j x e => by
    unfold clr at e
    split at e
    · cases e
    · exact e
  refine ⟨own', ⟨some g, a, c, fun b x e => ?_, o_keep _ _ h.ownt (fun h => by cases h), ?_, .inr ⟨g, rfl, ?_⟩, ?_, ?_, hsar, fun j => ?_, fun k n d e => ?_, fun k n b ll e => o_keep _ _ (h.bks k n b ll (hsto _ _ e)) (fun h => by cases h)⟩, ⟨hst.mono (fun i _ e => ?_), fun b hb => ?_⟩⟩
  · have e' : own' b = some x := e
    by_cases h1 : A' b
    · exact har.lt b h1
    · have e2 : own' b = S.own b := if_neg h1
      rw [e2] at e'
      exact ⟨(h.lab b x e').1, Nat.lt_of_lt_of_le (h.lab b x e').2 hst.size⟩
  · show w2.heap[t]? = some (.cells (trv _ a (Ar.setAll S.T false (nums l)).length c _ _) _ _)
    rw [hlen]
    exact hst.kept h.cells (hz' _ _ h.ownt (fun h => by cases h) (fun h => by cases h))
  · obtain ⟨h1, h2, a', c', a2, c2, h3, h4, h5, h6, h7⟩ := har
    refine ⟨if_pos h1, fun b hb => ?_, a', c', a2, c2, h3, h4, h5, fun b hb => if_pos (h6 b hb), fun b hb => if_pos (h7 b hb)⟩
    have e' : own' b = some .ar := hb
    by_cases h8 : A' b
    · exact h2 b h8
    · have e2 : own' b = S.own b := if_neg h8
      rw [e2] at e'
      exact ⟨(h.lab b _ e').1, Nat.lt_of_lt_of_le (h.lab b _ e').2 hst.size⟩
  · show w2.ownsRow base _ 1 (.slice a (Ar.setAll S.T false (nums l)).length c) (Ar.setAll S.T false (nums l)).length (ptrs (clr S.sto l) (Ar.setAll S.T false (nums l)).length)
    rw [hlen]
    exact ownsRow_stay hrow hst2 (fun k hk e => by rw [h.rowl k hk] at e; cases e)
  · show ∀ b, (Value.slice a (Ar.setAll S.T false (nums l)).length c).ownBlock = some b → own' b = some .li
    rw [hlen]
    exact fun b hb => o_keep _ _ (h.rowl b hb) (fun h => by cases h)
  · show clr S.sto l j = none ↔ (Ar.setAll S.T false (nums l)).getD j false = false
    rw [Ar.getD_setAll]
    unfold clr
    by_cases hj : j ∈ l
    · have hjT : j < S.T.length := by
        cases e : S.sto j with
        | none => exact absurd e (hl j hj)
        | some x => exact h.inT e
      rw [if_pos hj, if_pos ⟨⟨(j : Int), List.mem_map.2 ⟨j, hj, rfl⟩, Int.toNat_natCast j⟩, hjT⟩]
      simp
    · rw [if_neg hj, if_neg]
      · exact h.dom j
      · rintro ⟨⟨k, hk, e⟩, _⟩
        obtain ⟨i, hi, rfl⟩ := List.mem_map.1 hk
        rw [Int.toNat_natCast] at e
        exact hj (e ▸ hi)
  · obtain ⟨h1, h2⟩ := h.nds k n d (hsto _ _ e)
    exact ⟨o_keep _ _ h1 (fun h => by cases h), h2.stay hst (hz' _ _ h1 (fun h => by cases h) (fun h => by cases h)) (fun b ll e2 => hz' _ _ (h.bks k n b ll (e2 ▸ hsto _ _ e)) (fun h => by cases h) (fun h => by cases h))⟩
  · show S.own i ≠ none
    rcases e with e | e <;> (rw [e]; exact fun h => by cases h)
  · have hb' : own' b ≠ none := hb
    by_cases h1 : A' b
    · rcases hA b h1 with h2 | h2
      · exact .inl (by rw [h2]; exact fun h => by cases h)
      · exact .inr h2
    · have e2 : own' b = S.own b := if_neg h1
      rw [e2] at hb'
      exact .inl hb'
/-- What drop does. -/
structure Dropped (S S' : St) (l : List Nat) : Prop where
  sto : S'.sto = clr S.sto l
  rt : S'.rt = S.rt
  vis : S'.vis = S.vis
  T : S'.T.length = S.T.length
  live : S'.live + l.length = S.live
end Go.Proofs.YthbbokoeiifjdaaGreatDoor
namespace Go.Proofs.YthbbokoeiifjdaaGreatDoor
open Go Go.RowKit Go.ChangeAt Tr

/-- The link to a node that holds this. -/
def lkd (k : Nat) : Nd → Lk
  | .lf _ l => lkl k l
  | .pr A B => mk k A B
  | .dd => ⟨k, 0, 0, 0⟩
def NdOk : Nd → Prop
  | .lf _ _ => True
  | .pr A B => A.len + B.len < 4611686018427387904 ∧ A.ones + B.ones < 4611686018427387904 ∧ A.ht < 4611686018427387904 ∧ B.ht < 4611686018427387904
  | .dd => False
theorem tlink {base t k n : Nat} {S : St} {d : Nd} (w : World) (h : TM base w t S) (hk : S.sto k = some (n, d)) (hd : NdOk d) :
    Calls Tryz.prog 102 #[.pointer (some ⟨t, 0, none⟩), .int .i64 k] w fun e w' => e = .returned (lkv (lkd k d)) ∧ Below w.heap.size w w' := by
  cases d with
  | lf b l => exact tlink_lf w h hk
  | pr A B => exact tlink_pr w h hk hd.1 hd.2.1 hd.2.2.1 hd.2.2.2
  | dd => exact absurd hd (fun h => h)
/-- What fresh does. -/
def Freshed (base : Nat) (w w' : World) (t nb : Nat) (d : Nd) (S S' : St) (k : Nat) : Prop :=
  TM base w' t S' ∧ S.sto k = none ∧ S'.sto = upd S.sto k (some (nb, d)) ∧ S'.rt = S.rt ∧ S'.vis = S.vis + 1 ∧ S'.live = S.live + 1 ∧ S'.T.length = max S.T.length (S.live + 1) ∧
    (∀ b, S'.own b ≠ none → S.own b ≠ none ∨ w.heap.size ≤ b ∨ b = nb ∨ ∃ l, d = .lf b l) ∧ Stay (fun b => S.own b ≠ none) w w'
end Go.Proofs.YthbbokoeiifjdaaGreatDoor
