/- What is behind put, by the three ways through it: no function of the program stands in it. -/
import Derived.Test.YtfbhcbcpeocmcaaDoorTmD
namespace Go.Proofs.YtfbhcbcpeocmcaaDoor
open Go Go.RowKit Go.ChangeAt Tr

theorem set_trv1 {w : World} {t n c n1 c1 v : Nat} {p a a1 : Option Addr} {A : Lk} {ty : TypeId} (h : w.heap[t]? = some (.cells (trv p a n c A v) ty (0, 0))) : (w.setCell ⟨t, 1, none⟩ (.slice a1 n1 c1)).heap[t]? = some (.cells (trv p a1 n1 c1 A v) ty (0, 0)) := set_of h _
theorem ownP_stored {w : World} {base b cap n k : Nat} {xs : List Value} {u : Value} (h : w.ownsRow base 63 1 (.slice (some ⟨b, 0, none⟩) n cap) n xs) :
    (w.setCell ⟨b, k, none⟩ u).ownsRow base 63 1 (.slice (some ⟨b, 0, none⟩) n cap) n (xs.set k u) := (World.ownsRow.stored (w := w) h k u).1
theorem ownP_open {w : World} {base n cap : Nat} {a : Option Addr} {xs : List Value} (h : w.ownsRow base 63 1 (.slice a n cap) n xs) (hn : 0 < n) :
    ∃ b, a = some ⟨b, 0, none⟩ ∧ n ≤ cap ∧ cap ≤ maxLen ∧ (∀ j, j < n → w.cell? ⟨b, j, none⟩ = xs[j]?) ∧ ∀ j, w.frozen? ⟨b, j, none⟩ = false := by
  rcases h.2 with ⟨hv, h0⟩ | ⟨g, cap', cur, hv, hb, hg, hn, hm, hs, ht⟩
  · omega
  · simp only [Value.slice.injEq, true_and] at hv
    obtain ⟨rfl, rfl⟩ := hv
    exact ⟨g, rfl, hn, hm, fun j hj => World.ownsRow.cellAt (w := w) h j (by omega), fun j => World.ownsRow.frozenAt (w := w) h j⟩
theorem ptrs_last (s : Sto) (n : Nat) (x : Value) : (ptrs s n ++ [x])[n]? = some x := by
  rw [List.getElem?_append_right (by rw [ptrs_len]; exact Nat.le_refl _), ptrs_len, Nat.sub_self]
  rfl
theorem ptrs_at (s : Sto) {n k : Nat} (h : k < n) : (ptrs s n)[k]? = some (ptr (s k)) := by
  unfold ptrs
  rw [List.getElem?_map, List.getElem?_range h]
  rfl
theorem room_int {n k : Nat} (h : n ≤ k) (h2 : k ≤ maxLen) : (n : Int) ≤ k ∧ (k : Int) ≤ 9223372036854775807 := by unfold maxLen at h2; omega
/-- What put does. -/
def Putted (base : Nat) (w w' : World) (t nb : Nat) (d : Nd) (S S' : St) (k : Nat) : Prop :=
  TM base w' t S' ∧ S.sto k = none ∧ S'.sto = upd S.sto k (some (nb, d)) ∧ S'.rt = S.rt ∧ S'.vis = S.vis ∧ S'.live = S.live + 1 ∧ S'.T.length = max S.T.length (S.live + 1) ∧
    (∀ b, S'.own b ≠ none → S.own b ≠ none ∨ w.heap.size ≤ b ∨ b = nb ∨ ∃ l, d = .lf b l) ∧ Stay (fun b => S.own b ≠ none) w w'
/-- A node that is no one's. -/
structure Lone (base : Nat) (w : World) (S : St) (nb : Nat) (d : Nd) : Prop where
  m : NdM w nb d
  n0 : S.own nb = none
  n1 : base ≤ nb
  l0 : ∀ b l, d = .lf b l → S.own b = none ∧ base ≤ b ∧ b < w.heap.size
  lt : nb < w.heap.size
theorem getD_push (T : List Bool) (j : Nat) : (T ++ [true]).getD j false = if j = T.length then true else T.getD j false := by
  rw [List.getD_eq_getElem?_getD, List.getD_eq_getElem?_getD, List.getElem?_append]
  by_cases h : j < T.length
  · rw [if_pos h, if_neg (by omega)]
  · rw [if_neg h]
    by_cases h2 : j = T.length
    · subst h2; rw [if_pos rfl, Nat.sub_self]; rfl
    · rw [if_neg h2, List.getElem?_eq_none (by simp; omega), List.getElem?_eq_none (by omega)]
theorem Mv.of_own {w w' : World} {Z : Nat → Prop} {S : St} (hst : Stay Z w w') (hz : ∀ b, b < w.heap.size → Z b → S.own b ≠ none) : Stay (fun b => S.own b ≠ none) w w' := hst.mono hz
theorem put_end_new {base t g nb c b1 k1 : Nat} {S : St} {a : Option Addr} {d : Nd} {w w1 w2 : World} {A' : Nat → Prop} (h : TMx base w t S (some g) a c) (hF : S.F = []) (hl : S.T.length < 268435456) (hd : Lone base w S nb d)
    (hst1 : Stay (fun b => S.own b = some .ar) w w1) (har1 : ArM base 84 A' w1 g 268435456 (S.T ++ [true]) []) (hA1 : ∀ b, A' b → S.own b = some .ar ∨ w.heap.size ≤ b)
    (hst2 : Stay (fun i => (Value.slice a S.T.length c).ownBlock = some i) w1 w2) (hc2 : w2.heap[t]? = some (.cells (trv (some ⟨g, 0, none⟩) a S.T.length c S.rt S.vis) 61 (0, 0)))
    (hown : w2.ownsRow base 63 1 (.slice (some ⟨b1, 0, none⟩) (S.T.length + 1) k1) (S.T.length + 1) (ptrs S.sto S.T.length ++ [.pointer none]))
    (hat : (Value.slice a S.T.length c).ownBlock = some b1 ∨ w1.heap.size ≤ b1) (hbt : ¬ b1 = t) :
    ∃ S', Putted base w ((w2.setCell ⟨t, 1, none⟩ (.slice (some ⟨b1, 0, none⟩) (S.T.length + 1) k1)).setCell ⟨b1, S.T.length, none⟩ (.pointer (some ⟨nb, 0, none⟩))) t nb d S S' S.T.length := by
  have hT' : (S.T ++ [true]).length = S.T.length + 1 := by simp
  have hk : S.sto S.T.length = none := (h.dom _).2 (by rw [List.getD_eq_getElem?_getD, List.getElem?_eq_none (Nat.le_refl _)]; rfl)
  have hs : Ar.S 268435456 S.T [] := hF ▸ h.sar
  have hz1 := hst1.size
  have hz2 := hst2.size
  have hsetT : Stay (fun i => i = t) w2 (w2.setCell ⟨t, 1, none⟩ (.slice (some ⟨b1, 0, none⟩) (S.T.length + 1) k1)) := Stay.setCell (S := fun i => i = t) (Stay.refl _ _) (p := ⟨t, 1, none⟩) (.inr rfl) _
  have hsetB : Stay (fun i => i = b1) (w2.setCell ⟨t, 1, none⟩ (.slice (some ⟨b1, 0, none⟩) (S.T.length + 1) k1)) ((w2.setCell ⟨t, 1, none⟩ (.slice (some ⟨b1, 0, none⟩) (S.T.length + 1) k1)).setCell ⟨b1, S.T.length, none⟩ (.pointer (some ⟨nb, 0, none⟩))) := Stay.setCell (S := fun i => i = b1) (Stay.refl _ _) (p := ⟨b1, S.T.length, none⟩) (.inr rfl) _
  have hzT := hsetT.size
  have hzB := hsetB.size
  have hli : ∀ b, (Value.slice a S.T.length c).ownBlock = some b → S.own b = some .li := h.rowl
  have hb1 : S.own b1 = some .li ∨ w.heap.size ≤ b1 := hat.imp (hli b1) (fun h => by omega)
  have hA2 : ∀ b, A' b → b < w1.heap.size := fun b hb => (har1.lt b hb).2
  have hAt : ∀ b, A' b → ¬ b = t := fun b hb e => by
    subst e
    rcases hA1 b hb with h1 | h1
    · rw [h.ownt] at h1; cases h1
    · have := (h.lab _ _ h.ownt).2; omega
  have hAl : ∀ b, A' b → ¬ (Value.slice a S.T.length c).ownBlock = some b := fun b hb e => by
    have e1 := hli b e
    rcases hA1 b hb with h1 | h1
    · rw [e1] at h1; cases h1
    · have := (h.lab _ _ e1).2; omega
  have hAb : ∀ b, A' b → ¬ b = b1 := fun b hb e => by
    subst e
    rcases hat with h1 | h1
    · exact hAl b hb h1
    · have := hA2 b hb; omega
  have hstw : Stay (fun b => S.own b = some .tr ∨ S.own b = some .ar ∨ S.own b = some .li ∨ w.heap.size ≤ b) w ((w2.setCell ⟨t, 1, none⟩ (.slice (some ⟨b1, 0, none⟩) (S.T.length + 1) k1)).setCell ⟨b1, S.T.length, none⟩ (.pointer (some ⟨nb, 0, none⟩))) :=
    (((hst1.mono (fun i _ e => .inr (.inl e))).trans hst2 (fun i _ e => .inr (.inr (.inl (hli i e))))).trans hsetT (fun i _ e => .inl (e ▸ h.ownt))).trans hsetB (fun i _ e => by subst e; rcases hb1 with h1 | h1; exact .inr (.inr (.inl h1)); exact .inr (.inr (.inr h1)))
  obtain ⟨own', hT, hne⟩ := TMx.put (T' := S.T ++ [true]) (F' := []) (a1 := some ⟨b1, 0, none⟩) (c1 := k1) (d := d) (nb := nb) h hk (getD_push S.T) (Ar.S.new hs hl) hstw (fun b hb => hb)
    (by rw [hT']; exact hsetB.kept (set_trv1 hc2) (fun e => hbt e.symm))
    (((har1.stay hst2 hAl).stay hsetT hAt).stay hsetB hAb) hA1
    (by
      rw [hT', ← ptrs_set (x := (nb, d)) (Nat.lt_succ_self _), ← ptrs_push hk]
      exact ownP_stored (ownsRow_stay hown hsetT (fun k hk e => by subst e; injection hk with hk; exact hbt hk)))
    (fun b hb => by
      have e : b1 = b := by injection hb
      subst e
      exact ⟨hb1, fun h => hAb b1 h rfl⟩)
    hd.m hd.n0 hd.n1 hd.l0 hd.lt
  refine ⟨_, hT, hk, rfl, rfl, rfl, ?_, ?_, hne, hstw.mono (fun i hi e => ?_)⟩
  · show (S.T ++ [true]).length - 0 = S.T.length - S.F.length + 1
    rw [hF, hT']; rfl
  · show (S.T ++ [true]).length = max S.T.length (S.T.length - S.F.length + 1)
    rw [hF, hT']; show _ = max _ (S.T.length - 0 + 1); omega
  · rcases e with e | e | e | e
    · show S.own i ≠ none; rw [e]; exact fun h => by cases h
    · show S.own i ≠ none; rw [e]; exact fun h => by cases h
    · show S.own i ≠ none; rw [e]; exact fun h => by cases h
    · omega
theorem put_end_old {base t g nb c b0 : Nat} {k : Nat} {S : St} {d : Nd} {w w1 : World} {A' : Nat → Prop} {G : List Int} (h : TMx base w t S (some g) (some ⟨b0, 0, none⟩) c) (hF : S.F = G ++ [(k : Int)]) (hd : Lone base w S nb d)
    (hst1 : Stay (fun b => S.own b = some .ar) w w1) (har1 : ArM base 84 A' w1 g 268435456 (S.T.set k true) G) (hA1 : ∀ b, A' b → S.own b = some .ar ∨ w.heap.size ≤ b) :
    ∃ S', Putted base w (w1.setCell ⟨b0, k, none⟩ (.pointer (some ⟨nb, 0, none⟩))) t nb d S S' k := by
  have hs : Ar.S 268435456 S.T (G ++ [(k : Int)]) := hF ▸ h.sar
  obtain ⟨q0, q1, q2, q3⟩ := hs.old
  have hkT : k < S.T.length := by omega
  have hlen := hs.len
  have hT' : (S.T.set k true).length = S.T.length := List.length_set
  have hk : S.sto k = none := (h.dom _).2 q2
  have hz1 := hst1.size
  have hb0 : S.own b0 = some .li := h.rowl b0 rfl
  have hsetB : Stay (fun i => i = b0) w1 (w1.setCell ⟨b0, k, none⟩ (.pointer (some ⟨nb, 0, none⟩))) := Stay.setCell (S := fun i => i = b0) (Stay.refl _ _) (p := ⟨b0, k, none⟩) (.inr rfl) _
  have hAb : ∀ b, A' b → ¬ b = b0 := fun b hb e => by
    subst e
    rcases hA1 b hb with h1 | h1
    · rw [hb0] at h1; cases h1
    · have := (h.lab _ _ hb0).2; omega
  have hbt : ¬ b0 = t := fun e => by subst e; rw [h.ownt] at hb0; cases hb0
  have hstw : Stay (fun b => S.own b = some .tr ∨ S.own b = some .ar ∨ S.own b = some .li ∨ w.heap.size ≤ b) w (w1.setCell ⟨b0, k, none⟩ (.pointer (some ⟨nb, 0, none⟩))) :=
    (hst1.mono (fun i _ e => .inr (.inl e))).trans hsetB (fun i _ e => by subst e; exact .inr (.inr (.inl hb0)))
  obtain ⟨own', hT, hne⟩ := TMx.put (T' := S.T.set k true) (F' := G) (a1 := some ⟨b0, 0, none⟩) (c1 := c) (d := d) (nb := nb) h hk
    (fun j => by rw [Ar.getD_set]; by_cases hj : j = k; (subst hj; rw [if_pos ⟨rfl, hkT⟩, if_pos rfl]); (rw [if_neg (fun e => hj e.1.symm), if_neg hj])) q3 hstw (fun b hb => hb)
    (by rw [hT']; exact hsetB.kept (hst1.kept h.cells (fun e => by rw [h.ownt] at e; cases e)) (fun e => hbt e.symm))
    (har1.stay hsetB hAb) hA1
    (by
      rw [hT', ← ptrs_set (x := (nb, d)) hkT]
      exact ownP_stored (ownsRow_stay h.row hst1 (fun k hk e => by rw [h.rowl k hk] at e; cases e)))
    (fun b hb => by
      have e : b0 = b := by injection hb
      subst e
      exact ⟨.inl hb0, fun h => hAb b0 h rfl⟩)
    hd.m hd.n0 hd.n1 hd.l0 hd.lt
  refine ⟨_, hT, hk, rfl, rfl, rfl, ?_, ?_, hne, hstw.mono (fun i hi e => ?_)⟩
  · show (S.T.set k true).length - G.length = S.T.length - S.F.length + 1
    rw [hF, hT', List.length_append]
    rw [List.length_append] at hlen
    simp at hlen ⊢
    omega
  · show (S.T.set k true).length = max S.T.length (S.T.length - S.F.length + 1)
    rw [hF, hT', List.length_append]
    rw [List.length_append] at hlen
    simp at hlen ⊢
    omega
  · rcases e with e | e | e | e
    · show S.own i ≠ none; rw [e]; exact fun h => by cases h
    · show S.own i ≠ none; rw [e]; exact fun h => by cases h
    · show S.own i ≠ none; rw [e]; exact fun h => by cases h
    · omega
theorem ArM.base {b b' : Nat} {t : TypeId} {A : Nat → Prop} {w : World} {g most : Nat} {T : List Bool} {F : List Int} (h : ArM b t A w g most T F) (hb : b' ≤ b) : ArM b' t A w g most T F := by
  obtain ⟨h1, h2, a, c, a', c', h3, h4, h5, h6, h7⟩ := h
  exact ⟨h1, fun k hk => ⟨Nat.le_trans hb (h2 k hk).1, (h2 k hk).2⟩, a, c, a', c', h3, ownsRow_base h4 hb, ownsRow_base h5 hb, h6, h7⟩
/-- The arena was made just now. -/
theorem TMx.first {base t c : Nat} {S : St} {a : Option Addr} {w w1 : World} (h : TMx base w t S none a c) (hb : Below w.heap.size w w1) (har : ArM w.heap.size 84 (fun k => k = w.heap.size) w1 w.heap.size 268435456 [] []) :
    ∃ own', TMx base (w1.setCell ⟨t, 0, none⟩ (.pointer (some ⟨w.heap.size, 0, none⟩))) t { S with own := own' } (some w.heap.size) a c ∧ Mv w (w1.setCell ⟨t, 0, none⟩ (.pointer (some ⟨w.heap.size, 0, none⟩))) S { S with own := own' } := by
  obtain ⟨hg, hT, hF⟩ : none = (none : Option Nat) ∧ S.T = [] ∧ S.F = [] := by
    rcases h.ar with h | ⟨g, e, _⟩
    · exact h
    · cases e
  have hlt := (h.lab _ _ h.ownt).2
  have hbase := (h.lab _ _ h.ownt).1
  have hz := hb.size
  have hno : ∀ x, S.own w.heap.size ≠ some x := fun x e => by have := (h.lab _ _ e).2; omega
  have hsetT : Stay (fun i => i = t) w1 (w1.setCell ⟨t, 0, none⟩ (.pointer (some ⟨w.heap.size, 0, none⟩))) := Stay.setCell (S := fun i => i = t) (Stay.refl _ _) (p := ⟨t, 0, none⟩) (.inr rfl) _
  have hst : Stay (fun i => i = t) w (w1.setCell ⟨t, 0, none⟩ (.pointer (some ⟨w.heap.size, 0, none⟩))) := (Stay.of_below hb).trans hsetT (fun i _ e => e)
  have hz' : ∀ b x, S.own b = some x → x ≠ .tr → ¬ b = t := fun b x e h1 e2 => by subst e2; rw [h.ownt] at e; injection e with e; exact h1 e.symm
  have harne : ∀ b, S.own b ≠ some .ar ∨ True := fun _ => .inr trivial
  let own' : Nat → Option Who := fun b => if b = w.heap.size then some .ar else S.own b
  have o_old : ∀ b x, S.own b = some x → own' b = some x := fun b x e => (if_neg (fun e2 => by subst e2; exact hno x e)).trans e
  have hltA : w.heap.size < w1.heap.size := (har.lt _ rfl).2
  refine ⟨own', ⟨fun b x e => ?_, o_old _ _ h.ownt, set_of (Below.keptB hb h.cells hlt) _, .inr ⟨w.heap.size, rfl, ?_⟩, ?_, fun b e => o_old _ _ (h.rowl b e), h.sar, h.dom, fun k n d e => ⟨o_old _ _ (h.nds k n d e).1, (h.nds k n d e).2.stay hst (hz' _ _ (h.nds k n d e).1 (fun h => by cases h)) (fun b l e2 => hz' _ _ (h.bks k n b l (e2 ▸ e)) (fun h => by cases h))⟩, fun k n b l e => o_old _ _ (h.bks k n b l e)⟩, ⟨hst.mono (fun i _ e => by subst e; show S.own i ≠ none; rw [h.ownt]; exact fun h => by cases h), fun b hb => ?_⟩⟩
  · have e' : own' b = some x := e
    by_cases h1 : b = w.heap.size
    · subst h1; exact ⟨by omega, Nat.lt_of_lt_of_le hltA hsetT.size⟩
    · have e2 : own' b = S.own b := if_neg h1
      rw [e2] at e'
      exact ⟨(h.lab b x e').1, Nat.lt_of_lt_of_le (h.lab b x e').2 hst.size⟩
  · show ArM base _ (fun b => own' b = some Who.ar) _ _ _ S.T S.F
    rw [hT, hF]
    have har2 := (har.base (b' := base) (by omega)).stay hsetT (fun k hk e => by omega)
    obtain ⟨h1, h2, a', c', a2, c2, h3, h4, h5, h6, h7⟩ := har2
    refine ⟨if_pos rfl, fun b hb => ?_, a', c', a2, c2, h3, h4, h5, fun b hb => ?_, fun b hb => ?_⟩
    · have e' : own' b = some .ar := hb
      by_cases h1 : b = w.heap.size
      · exact h2 b h1
      · have e2 : own' b = S.own b := if_neg h1
        rw [e2] at e'
        exact ⟨(h.lab b _ e').1, Nat.lt_of_lt_of_le (h.lab b _ e').2 hst.size⟩
    · exact if_pos (h6 b hb)
    · exact if_pos (h7 b hb)
  · exact ownsRow_stay h.row hst (fun k hk => hz' _ _ (h.rowl k hk) (fun h => by cases h))
  · by_cases h1 : b = w.heap.size
    · exact .inr (by omega)
    · have e2 : own' b = S.own b := if_neg h1
      have hb' : own' b ≠ none := hb
      rw [e2] at hb'
      exact .inl hb'
theorem Lone.mv {base nb : Nat} {w w' : World} {S S' : St} {d : Nd} (h : Lone base w S nb d) (hV : Mv w w' S S') : Lone base w' S' nb d :=
  ⟨h.m.stay hV.st (fun e => e h.n0) (fun b l e => fun e2 => e2 (h.l0 b l e).1), hV.outer h.lt h.n0, h.n1, fun b l e => ⟨hV.outer (h.l0 b l e).2.2 (h.l0 b l e).1, (h.l0 b l e).2.1, Nat.lt_of_lt_of_le (h.l0 b l e).2.2 hV.st.size⟩, Nat.lt_of_lt_of_le h.lt hV.st.size⟩
theorem Putted.mv {base t nb k : Nat} {w w1 w' : World} {S S1 S' : St} {d : Nd} (h : Putted base w1 w' t nb d S1 S' k) (hV : Mv w w1 S S1) (h1 : S1.sto = S.sto) (h2 : S1.T = S.T) (h3 : S1.F = S.F) (h4 : S1.rt = S.rt) (h5 : S1.vis = S.vis) : Putted base w w' t nb d S S' k := by
  obtain ⟨a1, a2, a3, a4, a5, a6, a7, a8, a9⟩ := h
  have e : S1.live = S.live := by unfold St.live; rw [h2, h3]
  refine ⟨a1, h1 ▸ a2, h1 ▸ a3, a4.trans h4, a5.trans h5, e ▸ a6, by rw [← h2, ← e]; exact a7, fun b hb => ?_, hV.st.trans a9 (fun i hi hs => ?_)⟩
  · rcases a8 b hb with h | h | h
    · rcases hV.ne b h with h | h
      · exact .inl h
      · exact .inr (.inl h)
    · exact .inr (.inl (Nat.le_trans hV.st.size h))
    · exact .inr (.inr h)
  · rcases hV.ne i hs with h | h
    · exact h
    · omega
end Go.Proofs.YtfbhcbcpeocmcaaDoor
