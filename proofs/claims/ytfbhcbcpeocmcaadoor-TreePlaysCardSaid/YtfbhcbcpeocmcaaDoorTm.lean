/- Trees in memory: which blocks are a tree's (each with what it is for), and what lies in them, as a store of nodes. -/
import Derived.Test.YtfbhcbcpeocmcaaDoorTr
import Derived.Test.YtfbhcbcpeocmcaaDoorAreC
import Derived.Test.YtfbhcbcpeocmcaaDoorBlkE
namespace Go.Proofs.YtfbhcbcpeocmcaaDoor
open Go Go.RowKit Go.ChangeAt Tr

/-- What a block of a tree is for. -/
inductive Who where
  | tr
  | ar
  | li
  | nd (k : Nat)
  | bk (k : Nat)
/-- A tree as plain data: its blocks, its nodes, its arena's lists, its root, how many nodes were looked at. -/
structure St where
  own : Nat → Option Who
  sto : Sto
  T : List Bool
  F : List Int
  rt : Lk
  vis : Nat
def lkv (A : Lk) : Value := .agg #[.int .i64 A.num, .int .i64 A.len, .int .i64 A.ones, .int .i64 A.ht]
def ndv (p : Option Addr) (A B : Lk) : Array Value := #[.pointer p, .int .i64 A.num, .int .i64 A.len, .int .i64 A.ones, .int .i64 A.ht, .int .i64 B.num, .int .i64 B.len, .int .i64 B.ones, .int .i64 B.ht]
def trv (p a : Option Addr) (n c : Nat) (A : Lk) (v : Nat) : Array Value := #[.pointer p, .slice a n c, .int .i64 A.num, .int .i64 A.len, .int .i64 A.ones, .int .i64 A.ht, .int .i64 v]
/-- What lies at a node's block. -/
def NdM (w : World) (n : Nat) : Nd → Prop
  | .lf b l => (∃ A B : Lk, w.heap[n]? = some (.cells (ndv (some ⟨b, 0, none⟩) A B) 74 (0, 0))) ∧ IsBlk w b l
  | .pr A B => w.heap[n]? = some (.cells (ndv none A B) 74 (0, 0))
  | .dd => ∃ p A B, w.heap[n]? = some (.cells (ndv p A B) 74 (0, 0))
def ptr (x : Option (Nat × Nd)) : Value := .pointer (x.map fun y => ⟨y.1, 0, none⟩)
def ptrs (s : Sto) (n : Nat) : List Value := (List.range n).map fun k => ptr (s k)
structure TMx (base : Nat) (w : World) (t : Nat) (S : St) (g : Option Nat) (a : Option Addr) (c : Nat) : Prop where
  lab : ∀ b x, S.own b = some x → base ≤ b ∧ b < w.heap.size
  ownt : S.own t = some .tr
  cells : w.heap[t]? = some (.cells (trv (g.map fun g => ⟨g, 0, none⟩) a S.T.length c S.rt S.vis) 61 (0, 0))
  ar : (g = none ∧ S.T = [] ∧ S.F = []) ∨ ∃ h, g = some h ∧ ArM base 84 (fun b => S.own b = some .ar) w h 268435456 S.T S.F
  row : w.ownsRow base 63 1 (.slice a S.T.length c) S.T.length (ptrs S.sto S.T.length)
  rowl : ∀ b, (Value.slice a S.T.length c).ownBlock = some b → S.own b = some .li
  sar : Ar.S 268435456 S.T S.F
  dom : ∀ k, S.sto k = none ↔ S.T.getD k false = false
  nds : ∀ k n d, S.sto k = some (n, d) → S.own n = some (.nd k) ∧ NdM w n d
  bks : ∀ k n b l, S.sto k = some (n, .lf b l) → S.own b = some (.bk k)
def TM (base : Nat) (w : World) (t : Nat) (S : St) : Prop := ∃ g a c, TMx base w t S g a c

theorem NdM.stay {w w' : World} {Z : Nat → Prop} {n : Nat} {d : Nd} (h : NdM w n d) (hb : Stay Z w w') (hn : ¬ Z n) (hk : ∀ b l, d = .lf b l → ¬ Z b) : NdM w' n d := by
  cases d with
  | lf b l => obtain ⟨⟨A, B, e⟩, hi⟩ := h; exact ⟨⟨A, B, hb.kept e hn⟩, hi.stay hb (hk b l rfl)⟩
  | pr A B => exact hb.kept h hn
  | dd => obtain ⟨p, A, B, e⟩ := h; exact ⟨p, A, B, hb.kept e hn⟩
theorem TM.stay {base : Nat} {w w' : World} {t : Nat} {S : St} {Z : Nat → Prop} (h : TM base w t S) (hb : Stay Z w w') (hz : ∀ b, S.own b ≠ none → ¬ Z b) : TM base w' t S := by
  obtain ⟨g, a, c, h⟩ := h
  have hz' : ∀ b x, S.own b = some x → ¬ Z b := fun b x e => hz b (by rw [e]; exact fun h => by cases h)
  refine ⟨g, a, c, fun b x e => ⟨(h.lab b x e).1, Nat.lt_of_lt_of_le (h.lab b x e).2 hb.size⟩, h.ownt, hb.kept h.cells (hz' _ _ h.ownt), ?_, ownsRow_stay h.row hb (fun k hk => hz' _ _ (h.rowl k hk)), h.rowl, h.sar, h.dom, fun k n d e => ⟨(h.nds k n d e).1, (h.nds k n d e).2.stay hb (hz' _ _ (h.nds k n d e).1) (fun b l e2 => hz' _ _ (h.bks k n b l (e2 ▸ e)))⟩, h.bks⟩
  rcases h.ar with h | ⟨g', e, h⟩
  · exact .inl h
  · exact .inr ⟨g', e, h.stay hb (fun b e => hz' _ _ e)⟩
theorem TM.below {base : Nat} {w w' : World} {t : Nat} {S : St} (h : TM base w t S) (hb : Below w.heap.size w w') : TM base w' t S :=
  h.stay (Stay.of_below (S := fun _ => False) hb) (fun _ _ h => h)
theorem TM.drewN {base : Nat} {w : World} {t : Nat} {S : St} (h : TM base w t S) (n : Nat) : TM base (w.drewN n) t S := h.below ((Below.refl _ _).drewN n)
theorem TM.lt {base : Nat} {w : World} {t : Nat} {S : St} (h : TM base w t S) : base ≤ t ∧ t < w.heap.size := by
  obtain ⟨g, a, c, h⟩ := h
  exact h.lab _ _ h.ownt
/-- What a call did: of what was there it turned the tree's blocks alone; the tree has what it had, and what is new. -/
structure Mv (w w' : World) (S S' : St) : Prop where
  st : Stay (fun b => S.own b ≠ none) w w'
  ne : ∀ b, S'.own b ≠ none → S.own b ≠ none ∨ w.heap.size ≤ b
theorem Mv.refl (w : World) (S : St) : Mv w w S S := ⟨Stay.refl _ _, fun _ h => .inl h⟩
theorem Mv.trans {w w' w'' : World} {S S' S'' : St} (h : Mv w w' S S') (h' : Mv w' w'' S' S'') : Mv w w'' S S'' := by
  refine ⟨h.st.trans h'.st (fun i hi hs => ?_), fun b hb => ?_⟩
  · rcases h.ne i hs with h | h
    · exact h
    · omega
  · rcases h'.ne b hb with hb | hb
    · exact h.ne b hb
    · exact .inr (Nat.le_trans h.st.size hb)
theorem Mv.below {w w' w'' : World} {S S' : St} (h : Mv w w' S S') (hb : Below w'.heap.size w' w'') : Mv w w'' S S' :=
  h.trans ⟨Stay.of_below hb, fun _ h => .inl h⟩
theorem Mv.of_below {w w' : World} {S : St} (hb : Below w.heap.size w w') : Mv w w' S S := (Mv.refl w S).below hb
theorem Mv.keep {w w' : World} {S S' : St} (h : Mv w w' S S') {b : Nat} {o : Obj} (hb : w.heap[b]? = some o) (hn : S.own b = none) : w'.heap[b]? = some o :=
  h.st.kept hb (fun h => h hn)
theorem Mv.isBlk {w w' : World} {S S' : St} (h : Mv w w' S S') {b : Nat} {l : List Bool} (hb : IsBlk w b l) (hn : S.own b = none) : IsBlk w' b l := hb.stay h.st (fun h => h hn)
theorem Mv.outer {w w' : World} {S S' : St} (h : Mv w w' S S') {b : Nat} (hb : b < w.heap.size) (hn : S.own b = none) : S'.own b = none := by
  cases e : S'.own b with
  | none => rfl
  | some x =>
    rcases h.ne b (by rw [e]; exact fun h => by cases h) with h | h
    · exact absurd hn h
    · omega

theorem upd_same_ptr {s : Sto} {k n : Nat} {d d' : Nd} (hk : s k = some (n, d)) (j : Nat) : ptr (upd s k (some (n, d')) j) = ptr (s j) := by
  unfold upd
  split
  · subst j; rw [hk]; rfl
  · rfl
theorem ptrs_same {s : Sto} {k n m : Nat} {d d' : Nd} (hk : s k = some (n, d)) : ptrs (upd s k (some (n, d'))) m = ptrs s m := by
  unfold ptrs
  exact List.map_congr_left (fun j _ => upd_same_ptr hk j)
/-- What a node holds was turned: its own block, or its bits' block, or both; these may be new. -/
theorem TM.turn {base : Nat} {w w' : World} {t : Nat} {S : St} {Z : Nat → Prop} {own' : Nat → Option Who} {k n : Nat} {d d' : Nd} (h : TM base w t S) (hk : S.sto k = some (n, d)) (hb : Stay Z w w')
    (hz : ∀ b x, Z b → S.own b = some x → x = .nd k ∨ x = .bk k) (hd : NdM w' n d') (hown : ∀ b x, S.own b = some x → x ≠ .bk k → own' b = some x) (hnew : ∀ b x, own' b = some x → S.own b = some x ∨ (x = .bk k ∧ base ≤ b ∧ b < w'.heap.size))
    (hbk : ∀ b l, d' = .lf b l → own' b = some (.bk k)) : TM base w' t { S with own := own', sto := upd S.sto k (some (n, d')) } := by
  obtain ⟨g, a, c, h⟩ := h
  have hz' : ∀ b x, S.own b = some x → x ≠ .nd k → x ≠ .bk k → ¬ Z b := fun b x e h1 h2 h3 => by rcases hz b x h3 e with h | h; exact h1 h; exact h2 h
  have har : (fun b => own' b = some Who.ar) = (fun b => S.own b = some Who.ar) := by
    funext b
    refine propext ⟨fun e => ?_, fun e => hown b _ e (fun h => by cases h)⟩
    rcases hnew b _ e with h | h
    · exact h
    · exact absurd h.1 (fun h => by cases h)
  refine ⟨g, a, c, fun b x e => ?_, hown _ _ h.ownt (fun h => by cases h), hb.kept h.cells (hz' _ _ h.ownt (fun h => by cases h) (fun h => by cases h)), ?_, ?_, fun b hb => hown _ _ (h.rowl b hb) (fun h => by cases h), h.sar, fun j => ?_, fun j m e he => ?_, fun j m b l he => ?_⟩
  · rcases hnew b x e with h1 | h1
    · exact ⟨(h.lab b x h1).1, Nat.lt_of_lt_of_le (h.lab b x h1).2 hb.size⟩
    · exact h1.2
  · rcases h.ar with h | ⟨g', e, h⟩
    · exact .inl h
    · refine .inr ⟨g', e, ?_⟩
      show ArM base _ (fun b => own' b = some Who.ar) w' g' _ _ _
      rw [har]
      exact h.stay hb (fun b e => hz' _ _ e (fun h => by cases h) (fun h => by cases h))
  · show w'.ownsRow base _ 1 _ _ (ptrs (upd S.sto k (some (n, d'))) S.T.length)
    rw [ptrs_same hk]
    exact ownsRow_stay h.row hb (fun b e => hz' _ _ (h.rowl b e) (fun h => by cases h) (fun h => by cases h))
  · show upd S.sto k (some (n, d')) j = none ↔ _
    rw [← h.dom j]
    unfold upd
    split
    · subst j; rw [hk]; simp
    · exact Iff.rfl
  · have he' : upd S.sto k (some (n, d')) j = some (m, e) := he
    by_cases hj : j = k
    · subst hj
      rw [upd_at] at he'
      injection he' with he'
      injection he' with e1 e2
      subst e1 e2
      exact ⟨hown _ _ (h.nds j n d hk).1 (fun h => by cases h), hd⟩
    · rw [upd_ne _ _ hj] at he'
      obtain ⟨h1, h2⟩ := h.nds j m e he'
      refine ⟨hown _ _ h1 (fun h => by cases h), h2.stay hb (hz' _ _ h1 (fun h => hj (by injection h)) (fun h => by cases h)) (fun b l e2 => hz' _ _ (h.bks j m b l (e2 ▸ he')) (fun h => by cases h) (fun h => hj (by injection h)))⟩
  · have he' : upd S.sto k (some (n, d')) j = some (m, .lf b l) := he
    by_cases hj : j = k
    · subst hj
      rw [upd_at] at he'
      injection he' with he'
      injection he' with e1 e2
      exact hbk b l e2
    · rw [upd_ne _ _ hj] at he'
      exact hown _ _ (h.bks j m b l he') (fun h => hj (by injection h))
/-- The same with no block new. -/
theorem TM.turn0 {base : Nat} {w w' : World} {t : Nat} {S : St} {Z : Nat → Prop} {k n : Nat} {d d' : Nd} (h : TM base w t S) (hk : S.sto k = some (n, d)) (hb : Stay Z w w')
    (hz : ∀ b x, Z b → S.own b = some x → x = .nd k ∨ x = .bk k) (hd : NdM w' n d') (hbk : ∀ b l, d' = .lf b l → S.own b = some (.bk k)) : TM base w' t { S with sto := upd S.sto k (some (n, d')) } :=
  h.turn (own' := S.own) hk hb hz hd (fun _ _ h _ => h) (fun _ _ h => .inl h) hbk
/-- Where node k's pointer lies. -/
theorem TMx.list {base : Nat} {w : World} {t : Nat} {S : St} {g : Option Nat} {a : Option Addr} {c k : Nat} (h : TMx base w t S g a c) (hk : k < S.T.length) :
    ∃ lb, a = some ⟨lb, 0, none⟩ ∧ S.T.length ≤ c ∧ c ≤ maxLen ∧ w.cell? ⟨lb, k, none⟩ = some (ptr (S.sto k)) ∧ (∀ j, w.frozen? ⟨lb, j, none⟩ = false) ∧ S.own lb = some .li := by
  have h2 := h.row.2
  rcases h2 with ⟨hv, h0⟩ | ⟨lb, cap, cur, hv, hb, hg, hn, hm, hs, ht⟩
  · omega
  · simp only [Value.slice.injEq, true_and] at hv
    obtain ⟨rfl, rfl⟩ := hv
    refine ⟨lb, rfl, hn, hm, ?_, fun j => World.ownsRow.frozenAt (w := w) h.row j, h.rowl _ rfl⟩
    rw [World.ownsRow.cellAt (w := w) h.row k (by omega)]
    unfold ptrs
    rw [List.getElem?_map, List.getElem?_range hk]
    rfl
theorem TMx.inT {base : Nat} {w : World} {t : Nat} {S : St} {g : Option Nat} {a : Option Addr} {c k : Nat} {x : Nat × Nd} (h : TMx base w t S g a c) (hk : S.sto k = some x) : k < S.T.length := by
  have h1 : S.T.getD k false ≠ false := fun e => by have := (h.dom k).2 e; rw [hk] at this; cases this
  apply Nat.lt_of_not_le
  intro h2
  exact h1 (by rw [List.getD_eq_getElem?_getD, List.getElem?_eq_none h2]; rfl)
/-- The tree's own cells. -/
structure CellsT (w : World) (t : Nat) (p a : Option Addr) (n c : Nat) (A : Lk) (v : Nat) : Prop where
  c0 : w.cell? ⟨t, 0, none⟩ = some (.pointer p)
  c1 : w.cell? ⟨t, 1, none⟩ = some (.slice a n c)
  c2 : w.cell? ⟨t, 2, none⟩ = some (.int .i64 A.num)
  c3 : w.cell? ⟨t, 3, none⟩ = some (.int .i64 A.len)
  c4 : w.cell? ⟨t, 4, none⟩ = some (.int .i64 A.ones)
  c5 : w.cell? ⟨t, 5, none⟩ = some (.int .i64 A.ht)
  c6 : w.cell? ⟨t, 6, none⟩ = some (.int .i64 v)
  fz : ∀ i, w.frozen? ⟨t, i, none⟩ = false
theorem cellsT {w : World} {t : Nat} {p a : Option Addr} {n c : Nat} {A : Lk} {v : Nat} {ty : TypeId} (h : w.heap[t]? = some (.cells (trv p a n c A v) ty (0, 0))) : CellsT w t p a n c A v :=
  ⟨(cell_of h).trans rfl, (cell_of h).trans rfl, (cell_of h).trans rfl, (cell_of h).trans rfl, (cell_of h).trans rfl, (cell_of h).trans rfl, (cell_of h).trans rfl, fun i => by simp [World.frozen?, h]⟩
structure CellsN (w : World) (n : Nat) (p : Option Addr) (A B : Lk) : Prop where
  c0 : w.cell? ⟨n, 0, none⟩ = some (.pointer p)
  c1 : w.cell? ⟨n, 1, none⟩ = some (.int .i64 A.num)
  c2 : w.cell? ⟨n, 2, none⟩ = some (.int .i64 A.len)
  c3 : w.cell? ⟨n, 3, none⟩ = some (.int .i64 A.ones)
  c4 : w.cell? ⟨n, 4, none⟩ = some (.int .i64 A.ht)
  c5 : w.cell? ⟨n, 5, none⟩ = some (.int .i64 B.num)
  c6 : w.cell? ⟨n, 6, none⟩ = some (.int .i64 B.len)
  c7 : w.cell? ⟨n, 7, none⟩ = some (.int .i64 B.ones)
  c8 : w.cell? ⟨n, 8, none⟩ = some (.int .i64 B.ht)
  fz : ∀ i, w.frozen? ⟨n, i, none⟩ = false
theorem cellsN {w : World} {n : Nat} {p : Option Addr} {A B : Lk} {ty : TypeId} (h : w.heap[n]? = some (.cells (ndv p A B) ty (0, 0))) : CellsN w n p A B :=
  ⟨(cell_of h).trans rfl, (cell_of h).trans rfl, (cell_of h).trans rfl, (cell_of h).trans rfl, (cell_of h).trans rfl, (cell_of h).trans rfl, (cell_of h).trans rfl, (cell_of h).trans rfl, (cell_of h).trans rfl, fun i => by simp [World.frozen?, h]⟩
/-- The tree's root, or how many were looked at, is laid anew. -/
theorem TM.setT {base : Nat} {w w' : World} {t : Nat} {S : St} (h : TM base w t S) (A : Lk) (v : Nat) (hb : Stay (· = t) w w')
    (hc : ∀ p a n c, w.heap[t]? = some (.cells (trv p a n c S.rt S.vis) 61 (0, 0)) → w'.heap[t]? = some (.cells (trv p a n c A v) 61 (0, 0))) : TM base w' t { S with rt := A, vis := v } := by
  obtain ⟨g, a, c, h⟩ := h
  have hz' : ∀ b x, S.own b = some x → x ≠ .tr → ¬ b = t := fun b x e h1 h2 => by subst h2; rw [h.ownt] at e; injection e with e; exact h1 e.symm
  refine ⟨g, a, c, fun b x e => ⟨(h.lab b x e).1, Nat.lt_of_lt_of_le (h.lab b x e).2 hb.size⟩, h.ownt, hc _ _ _ _ h.cells, ?_, ownsRow_stay h.row hb (fun k hk => hz' _ _ (h.rowl k hk) (fun h => by cases h)), h.rowl, h.sar, h.dom, fun k n d e => ⟨(h.nds k n d e).1, (h.nds k n d e).2.stay hb (hz' _ _ (h.nds k n d e).1 (fun h => by cases h)) (fun b l e2 => hz' _ _ (h.bks k n b l (e2 ▸ e)) (fun h => by cases h))⟩, h.bks⟩
  rcases h.ar with h | ⟨g', e, h⟩
  · exact .inl h
  · exact .inr ⟨g', e, h.stay hb (fun b e => hz' _ _ e (fun h => by cases h))⟩
end Go.Proofs.YtfbhcbcpeocmcaaDoor
