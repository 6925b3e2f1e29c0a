/- Trees of bits as plain data: links, what a node holds, balanced and full trees, turns. No function of the program stands in it. Trees in memory: which blocks are a tree's (each with what it is for), and what lies in them, as a store of nodes. What the small functions of package tree do: look, link, isLeaf, toward, count, and those that only tell: contracts of the walk. Stores into nodes, what a walk reads of a tree, the cell that a link is handed back in; lift: contracts of the walk. -/
import Derived.Test.YthbbokoeiifjdaaGreatDoorBlo
import Derived.Test.YthbbokoeiifjdaaGreatDoorAre
import Derived.IntWalk
import Derived.Deep.DeepCutAuto
namespace Go.Proofs.YthbbokoeiifjdaaGreatDoor
namespace Tr

/-- The way to a node, with what its parent knows of it. -/
structure Lk where
  num : Nat
  len : Nat
  ones : Nat
  ht : Nat
/-- What a node holds: a block and its bits, or two ways; or nothing that is known. -/
inductive Nd where
  | lf (b : Nat) (l : List Bool)
  | pr (A B : Lk)
  | dd
abbrev Sto := Nat → Option (Nat × Nd)
def upd (s : Sto) (k : Nat) (x : Option (Nat × Nd)) : Sto := fun j => if j = k then x else s j
theorem upd_at (s : Sto) (k : Nat) (x : Option (Nat × Nd)) : upd s k x k = x := if_pos rfl
theorem upd_ne (s : Sto) {k j : Nat} (x : Option (Nat × Nd)) (h : j ≠ k) : upd s k x j = s j := if_neg h
/-- The link to a parent, from its own two. -/
def mk (k : Nat) (A B : Lk) : Lk := ⟨k, A.len + B.len, A.ones + B.ones, 1 + max A.ht B.ht⟩
def lkl (k : Nat) (l : List Bool) : Lk := ⟨k, l.length, l.count true, 0⟩

inductive T where
  | leaf (k : Nat) (l : List Bool)
  | node (k : Nat) (a b : T)
namespace T
def lk : T → Lk
  | leaf k l => lkl k l
  | node k a b => mk k a.lk b.lk
def bits : T → List Bool
  | leaf _ l => l
  | node _ a b => a.bits ++ b.bits
def ht : T → Nat
  | leaf _ _ => 0
  | node _ a b => 1 + max a.ht b.ht
def ks : T → List Nat
  | leaf k _ => [k]
  | node k a b => k :: (a.ks ++ b.ks)
def lvs : T → Nat
  | leaf _ _ => 1
  | node _ a b => a.lvs + b.lvs
/-- Sides that differ by one in height at most. -/
def bal : T → Prop
  | leaf _ _ => True
  | node _ a b => a.bal ∧ b.bal ∧ a.ht ≤ b.ht + 1 ∧ b.ht ≤ a.ht + 1
/-- Each leaf has a quarter of what it may hold, and no more than it may. -/
def full : T → Prop
  | leaf _ l => 32 ≤ l.length ∧ l.length ≤ 128
  | node _ a b => a.full ∧ b.full
/-- Of a leaf alone no least is asked. -/
def ok : T → Prop
  | leaf _ l => l.length ≤ 128
  | node _ a b => a.full ∧ b.full
theorem lk_num (t : T) : t.lk.num = (match t with | leaf k _ => k | node k _ _ => k) := by cases t <;> rfl
theorem lk_len (t : T) : t.lk.len = t.bits.length := by
  induction t with
  | leaf k l => rfl
  | node k a b iha ihb => show a.lk.len + b.lk.len = (a.bits ++ b.bits).length; rw [iha, ihb, List.length_append]
theorem lk_ones (t : T) : t.lk.ones = t.bits.count true := by
  induction t with
  | leaf k l => rfl
  | node k a b iha ihb => show a.lk.ones + b.lk.ones = (a.bits ++ b.bits).count true; rw [iha, ihb, List.count_append]
theorem lk_ht (t : T) : t.lk.ht = t.ht := by
  induction t with
  | leaf k l => rfl
  | node k a b iha ihb => show 1 + max a.lk.ht b.lk.ht = 1 + max a.ht b.ht; rw [iha, ihb]
theorem num_mem (t : T) : t.lk.num ∈ t.ks := by cases t <;> exact List.mem_cons_self
theorem ks_len (t : T) : t.ks.length + 1 = 2 * t.lvs := by
  induction t with
  | leaf k l => rfl
  | node k a b iha ihb => show (k :: (a.ks ++ b.ks)).length + 1 = 2 * (a.lvs + b.lvs); rw [List.length_cons, List.length_append]; omega
theorem lvs_pos (t : T) : 1 ≤ t.lvs := by have := t.ks_len; omega
theorem full.ok {t : T} (h : t.full) : t.ok := by cases t with | leaf k l => exact h.2 | node k a b => exact h
theorem full.len {t : T} (h : t.full) : 32 * t.lvs ≤ t.bits.length ∧ t.bits.length ≤ 128 * t.lvs := by
  induction t with
  | leaf k l => have h1 := h.1; have h2 := h.2; show 32 * 1 ≤ l.length ∧ l.length ≤ 128 * 1; omega
  | node k a b iha ihb =>
    have h1 := iha h.1
    have h2 := ihb h.2
    show 32 * (a.lvs + b.lvs) ≤ (a.bits ++ b.bits).length ∧ (a.bits ++ b.bits).length ≤ 128 * (a.lvs + b.lvs)
    rw [List.length_append]
    omega
theorem ok.len {t : T} (h : t.ok) : 32 * (t.lvs - 1) ≤ t.bits.length ∧ t.bits.length ≤ 128 * t.lvs := by
  cases t with
  | leaf k l => have : l.length ≤ 128 := h; show 32 * (1 - 1) ≤ l.length ∧ l.length ≤ 128 * 1; omega
  | node k a b => have := full.len (t := .node k a b) h; omega
theorem ht_le (t : T) : t.ht + 1 ≤ t.lvs := by
  induction t with
  | leaf k l => exact Nat.le_refl _
  | node k a b iha ihb => show 1 + max a.ht b.ht + 1 ≤ a.lvs + b.lvs; have := a.lvs_pos; have := b.lvs_pos; omega
/-- How many bits may hang in a store of nodes. -/
theorem full.ones {t : T} : t.lk.ones ≤ t.lk.len := by rw [lk_ones, lk_len]; exact List.count_le_length
end T
/-- The tree lies in the store. -/
def Is (s : Sto) : T → Prop
  | .leaf k l => ∃ n b, s k = some (n, .lf b l)
  | .node k a b => (∃ n, s k = some (n, .pr a.lk b.lk)) ∧ Is s a ∧ Is s b
theorem Is.congr {s s' : Sto} {t : T} (h : Is s t) (hs : ∀ k ∈ t.ks, s' k = s k) : Is s' t := by
  induction t with
  | leaf k l => obtain ⟨n, b, e⟩ := h; exact ⟨n, b, (hs k List.mem_cons_self).trans e⟩
  | node k a b iha ihb =>
    obtain ⟨⟨n, e⟩, h1, h2⟩ := h
    exact ⟨⟨n, (hs k List.mem_cons_self).trans e⟩, iha h1 (fun j hj => hs j (List.mem_cons_of_mem _ (List.mem_append_left _ hj))), ihb h2 (fun j hj => hs j (List.mem_cons_of_mem _ (List.mem_append_right _ hj)))⟩
theorem Is.dom {s : Sto} {t : T} (h : Is s t) : ∀ k ∈ t.ks, s k ≠ none := by
  induction t with
  | leaf k l => intro j hj; obtain ⟨n, b, e⟩ := h; rw [List.mem_singleton.1 hj, e]; exact fun h => by cases h
  | node k a b iha ihb =>
    obtain ⟨⟨n, e⟩, h1, h2⟩ := h
    intro j hj
    rcases List.mem_cons.1 hj with rfl | hj
    · rw [e]; exact fun h => by cases h
    · rcases List.mem_append.1 hj with hj | hj
      · exact iha h1 j hj
      · exact ihb h2 j hj
/-- A store in which one tree went and another came: what else was there is as it was. -/
structure Chg (s s' : Sto) (t t' : T) : Prop where
  is : Is s' t'
  nd : t'.ks.Nodup
  old : ∀ k, k ∉ t.ks → s k ≠ none → s' k = s k ∧ k ∉ t'.ks
  out : ∀ k, k ∉ t'.ks → (k ∈ t.ks ∨ s k = none) → s' k = none
theorem Chg.fresh {s s' : Sto} {t t' : T} (h : Chg s s' t t') {k : Nat} (hk : k ∈ t'.ks) : k ∈ t.ks ∨ s k = none := by
  by_cases h1 : k ∈ t.ks
  · exact .inl h1
  · by_cases h2 : s k = none
    · exact .inr h2
    · exact absurd hk (h.old k h1 h2).2
theorem Chg.trans {s s' s'' : Sto} {t t' t'' : T} (h : Chg s s' t t') (h' : Chg s' s'' t' t'') : Chg s s'' t t'' := by
  refine ⟨h'.is, h'.nd, fun k h1 h2 => ?_, fun k h1 h2 => ?_⟩
  · obtain ⟨e, h3⟩ := h.old k h1 h2
    obtain ⟨e2, h4⟩ := h'.old k h3 (by rw [e]; exact h2)
    exact ⟨e2.trans e, h4⟩
  · by_cases h3 : k ∈ t'.ks
    · exact h'.out k h1 (.inl h3)
    · exact h'.out k h1 (.inr (h.out k h3 h2))
theorem Chg.refl {s : Sto} {t : T} (h : Is s t) (hn : t.ks.Nodup) : Chg s s t t :=
  ⟨h, hn, fun _ h1 _ => ⟨rfl, h1⟩, fun k h1 h2 => by rcases h2 with h2 | h2; exact absurd h2 h1; exact h2⟩
/-- All numbers are those that were, and what else was there is as it was. -/
theorem Chg.same {s s' : Sto} {t t' : T} (h : Is s' t') (hn : t.ks.Nodup) (hp : t'.ks.Perm t.ks) (ho : ∀ k, k ∉ t.ks → s' k = s k) : Chg s s' t t' := by
  refine ⟨h, hp.nodup_iff.2 hn, fun k h1 _ => ⟨ho k h1, fun h2 => h1 (hp.mem_iff.1 h2)⟩, fun k h1 h2 => ?_⟩
  have h3 : k ∉ t.ks := fun h => h1 (hp.mem_iff.2 h)
  rw [ho k h3]
  rcases h2 with h2 | h2
  · exact absurd h2 h3
  · exact h2
/-- The parent's link to a child that was changed is laid. -/
theorem Chg.left {s s' : Sto} {k n : Nat} {a b a' : T} (h : Chg s s' a a') (hs : Is s (.node k a b)) (hn : (T.node k a b).ks.Nodup) :
    Chg s (upd s' k (some (n, .pr a'.lk b.lk))) (.node k a b) (.node k a' b) ∧ s' k = s k := by
  have hn' : (k :: (a.ks ++ b.ks)).Nodup := hn
  obtain ⟨hk, hab⟩ := List.nodup_cons.1 hn'
  obtain ⟨ha, hb, hd⟩ := List.nodup_append.1 hab
  have hka : k ∉ a.ks := fun h => hk (List.mem_append_left _ h)
  have hkb : k ∉ b.ks := fun h => hk (List.mem_append_right _ h)
  have hks : s k ≠ none := hs.dom k List.mem_cons_self
  obtain ⟨ek, hka'⟩ := h.old k hka hks
  have hbs : ∀ j ∈ b.ks, s' j = s j ∧ j ∉ a'.ks := fun j hj => h.old j (fun hj' => hd j hj' j hj rfl) (hs.2.2.dom j hj)
  refine ⟨⟨⟨⟨n, upd_at _ _ _⟩, ?_, ?_⟩, ?_, fun j h1 h2 => ?_, fun j h1 h2 => ?_⟩, ek⟩
  · exact h.is.congr (fun j hj => upd_ne _ _ (fun e => hka' (e ▸ hj)))
  · exact hs.2.2.congr (fun j hj => (upd_ne s' (k := k) (j := j) _ (fun e => hkb (e ▸ hj))).trans (hbs j hj).1)
  · show (k :: (a'.ks ++ b.ks)).Nodup
    refine List.nodup_cons.2 ⟨fun h => ?_, List.nodup_append.2 ⟨h.nd, hb, fun x hx y hy e => ?_⟩⟩
    · rcases List.mem_append.1 h with h | h
      · exact hka' h
      · exact hkb h
    · subst e; exact (hbs x hy).2 hx
  · have h3 : j ∉ k :: (a.ks ++ b.ks) := h1
    have h4 : j ≠ k := fun e => h3 (e ▸ List.mem_cons_self)
    have h5 : j ∉ a.ks := fun h => h3 (List.mem_cons_of_mem _ (List.mem_append_left _ h))
    have h6 : j ∉ b.ks := fun h => h3 (List.mem_cons_of_mem _ (List.mem_append_right _ h))
    obtain ⟨e, h7⟩ := h.old j h5 h2
    refine ⟨(upd_ne _ _ h4).trans e, fun h => ?_⟩
    rcases List.mem_cons.1 h with h | h
    · exact h4 h
    · rcases List.mem_append.1 h with h | h
      · exact h7 h
      · exact h6 h
  · have h3 : j ∉ k :: (a'.ks ++ b.ks) := h1
    have h4 : j ≠ k := fun e => h3 (e ▸ List.mem_cons_self)
    have h5 : j ∉ a'.ks := fun h => h3 (List.mem_cons_of_mem _ (List.mem_append_left _ h))
    have h6 : j ∉ b.ks := fun h => h3 (List.mem_cons_of_mem _ (List.mem_append_right _ h))
    rw [upd_ne _ _ h4]
    refine h.out j h5 ?_
    rcases h2 with h2 | h2
    · rcases List.mem_cons.1 h2 with h2 | h2
      · exact absurd h2 h4
      · rcases List.mem_append.1 h2 with h2 | h2
        · exact .inl h2
        · exact absurd h2 h6
    · exact .inr h2
theorem Chg.right {s s' : Sto} {k n : Nat} {a b b' : T} (h : Chg s s' b b') (hs : Is s (.node k a b)) (hn : (T.node k a b).ks.Nodup) :
    Chg s (upd s' k (some (n, .pr a.lk b'.lk))) (.node k a b) (.node k a b') ∧ s' k = s k := by
  have hn' : (k :: (a.ks ++ b.ks)).Nodup := hn
  obtain ⟨hk, hab⟩ := List.nodup_cons.1 hn'
  obtain ⟨ha, hb, hd⟩ := List.nodup_append.1 hab
  have hka : k ∉ a.ks := fun h => hk (List.mem_append_left _ h)
  have hkb : k ∉ b.ks := fun h => hk (List.mem_append_right _ h)
  have hks : s k ≠ none := hs.dom k List.mem_cons_self
  obtain ⟨ek, hkb'⟩ := h.old k hkb hks
  have has : ∀ j ∈ a.ks, s' j = s j ∧ j ∉ b'.ks := fun j hj => h.old j (fun hj' => hd j hj j hj' rfl) (hs.2.1.dom j hj)
  refine ⟨⟨⟨⟨n, upd_at _ _ _⟩, ?_, ?_⟩, ?_, fun j h1 h2 => ?_, fun j h1 h2 => ?_⟩, ek⟩
  · exact hs.2.1.congr (fun j hj => (upd_ne s' (k := k) (j := j) _ (fun e => hka (e ▸ hj))).trans (has j hj).1)
  · exact h.is.congr (fun j hj => upd_ne _ _ (fun e => hkb' (e ▸ hj)))
  · show (k :: (a.ks ++ b'.ks)).Nodup
    refine List.nodup_cons.2 ⟨fun h => ?_, List.nodup_append.2 ⟨ha, h.nd, fun x hx y hy e => ?_⟩⟩
    · rcases List.mem_append.1 h with h | h
      · exact hka h
      · exact hkb' h
    · subst e; exact (has x hx).2 hy
  · have h3 : j ∉ k :: (a.ks ++ b.ks) := h1
    have h4 : j ≠ k := fun e => h3 (e ▸ List.mem_cons_self)
    have h5 : j ∉ a.ks := fun h => h3 (List.mem_cons_of_mem _ (List.mem_append_left _ h))
    have h6 : j ∉ b.ks := fun h => h3 (List.mem_cons_of_mem _ (List.mem_append_right _ h))
    obtain ⟨e, h7⟩ := h.old j h6 h2
    refine ⟨(upd_ne _ _ h4).trans e, fun h => ?_⟩
    rcases List.mem_cons.1 h with h | h
    · exact h4 h
    · rcases List.mem_append.1 h with h | h
      · exact h5 h
      · exact h7 h
  · have h3 : j ∉ k :: (a.ks ++ b'.ks) := h1
    have h4 : j ≠ k := fun e => h3 (e ▸ List.mem_cons_self)
    have h5 : j ∉ a.ks := fun h => h3 (List.mem_cons_of_mem _ (List.mem_append_left _ h))
    have h6 : j ∉ b'.ks := fun h => h3 (List.mem_cons_of_mem _ (List.mem_append_right _ h))
    rw [upd_ne _ _ h4]
    refine h.out j h6 ?_
    rcases h2 with h2 | h2
    · rcases List.mem_cons.1 h2 with h2 | h2
      · exact absurd h2 h4
      · rcases List.mem_append.1 h2 with h2 | h2
        · exact absurd h2 h5
        · exact .inl h2
    · exact .inr h2
end Tr
end Go.Proofs.YthbbokoeiifjdaaGreatDoor
namespace Go.Proofs.YthbbokoeiifjdaaGreatDoor
open Go Go.RowKit Go.ChangeAt Tr

/-- What a block of a tree is for. -/
inductive Who where
  | tr
  | ar
  | li
  | nd (k : Nat)
  | bk (k : Nat)
/-- A tree as plain data: its blocks, its nodes, its arena's lists, its root, how many nodes were looked at. -/
structure St where
  own : Nat → Option Who
  sto : Sto
  T : List Bool
  F : List Int
  rt : Lk
  vis : Nat
def lkv (A : Lk) : Value := .agg #[.int .i64 A.num, .int .i64 A.len, .int .i64 A.ones, .int .i64 A.ht]
def ndv (p : Option Addr) (A B : Lk) : Array Value := #[.pointer p, .int .i64 A.num, .int .i64 A.len, .int .i64 A.ones, .int .i64 A.ht, .int .i64 B.num, .int .i64 B.len, .int .i64 B.ones, .int .i64 B.ht]
def trv (p a : Option Addr) (n c : Nat) (A : Lk) (v : Nat) : Array Value := #[.pointer p, .slice a n c, .int .i64 A.num, .int .i64 A.len, .int .i64 A.ones, .int .i64 A.ht, .int .i64 v]
/-- What lies at a node's block. -/
def NdM (w : World) (n : Nat) : Nd → Prop
  | .lf b l => (∃ A B : Lk, w.heap[n]? = some (.cells (ndv (some ⟨b, 0, none⟩) A B) 114 (0, 0))) ∧ IsBlk w b l
  | .pr A B => w.heap[n]? = some (.cells (ndv none A B) 114 (0, 0))
  | .dd => ∃ p A B, w.heap[n]? = some (.cells (ndv p A B) 114 (0, 0))
def ptr (x : Option (Nat × Nd)) : Value := .pointer (x.map fun y => ⟨y.1, 0, none⟩)
def ptrs (s : Sto) (n : Nat) : List Value := (List.range n).map fun k => ptr (s k)
structure TMx (base : Nat) (w : World) (t : Nat) (S : St) (g : Option Nat) (a : Option Addr) (c : Nat) : Prop where
  lab : ∀ b x, S.own b = some x → base ≤ b ∧ b < w.heap.size
  ownt : S.own t = some .tr
  cells : w.heap[t]? = some (.cells (trv (g.map fun g => ⟨g, 0, none⟩) a S.T.length c S.rt S.vis) 108 (0, 0))
  ar : (g = none ∧ S.T = [] ∧ S.F = []) ∨ ∃ h, g = some h ∧ ArM base 146 (fun b => S.own b = some .ar) w h 268435456 S.T S.F
  row : w.ownsRow base 109 1 (.slice a S.T.length c) S.T.length (ptrs S.sto S.T.length)
  rowl : ∀ b, (Value.slice a S.T.length c).ownBlock = some b → S.own b = some .li
  sar : Ar.S 268435456 S.T S.F
  dom : ∀ k, S.sto k = none ↔ S.T.getD k false = false
  nds : ∀ k n d, S.sto k = some (n, d) → S.own n = some (.nd k) ∧ NdM w n d
  bks : ∀ k n b l, S.sto k = some (n, .lf b l) → S.own b = some (.bk k)
def TM (base : Nat) (w : World) (t : Nat) (S : St) : Prop := ∃ g a c, TMx base w t S g a c

theorem NdM.stay {w w' : World} {Z : Nat → Prop} {n : Nat} {d : Nd} (h : NdM w n d) (hb : Stay Z w w') (hn : ¬ Z n) (hk : ∀ b l, d = .lf b l → ¬ Z b) : NdM w' n d := by
  cases d with
  | lf b l => obtain ⟨⟨A, B, e⟩, hi⟩ := h; exact ⟨⟨A, B, hb.kept e hn⟩, hi.stay hb (hk b l rfl)⟩
  | pr A B => exact hb.kept h hn
  | dd => obtain ⟨p, A, B, e⟩ := h; exact ⟨p, A, B, hb.kept e hn⟩
theorem TM.stay {base : Nat} {w w' : World} {t : Nat} {S : St} {Z : Nat → Prop} (h : TM base w t S) (hb : Stay Z w w') (hz : ∀ b, S.own b ≠ none → ¬ Z b) : TM base w' t S := by
  obtain ⟨g, a, c, h⟩ := h
  have hz' : ∀ b x, S.own b = some x → ¬ Z b := fun b x e => hz b (by rw [e]; exact fun h => by cases h)
  refine ⟨g, a, c, fun b x e => ⟨(h.lab b x e).1, Nat.lt_of_lt_of_le (h.lab b x e).2 hb.size⟩, h.ownt, hb.kept h.cells (hz' _ _ h.ownt), ?_, ownsRow_stay h.row hb (fun k hk => hz' _ _ (h.rowl k hk)), h.rowl, h.sar, h.dom, fun k n d e => ⟨(h.nds k n d e).1, (h.nds k n d e).2.stay hb (hz' _ _ (h.nds k n d e).1) (fun b l e2 => hz' _ _ (h.bks k n b l (e2 ▸ e)))⟩, h.bks⟩
  rcases h.ar with h | ⟨g', e, h⟩
  · exact .inl h
  · exact .inr ⟨g', e, h.stay hb (fun b e => hz' _ _ e)⟩
theorem TM.below {base : Nat} {w w' : World} {t : Nat} {S : St} (h : TM base w t S) (hb : Below w.heap.size w w') : TM base w' t S :=
  h.stay (Stay.of_below (S := fun _ => False) hb) (fun _ _ h => h)
theorem TM.drewN {base : Nat} {w : World} {t : Nat} {S : St} (h : TM base w t S) (n : Nat) : TM base (w.drewN n) t S := h.below ((Below.refl _ _).drewN n)
theorem TM.lt {base : Nat} {w : World} {t : Nat} {S : St} (h : TM base w t S) : base ≤ t ∧ t < w.heap.size := by
  obtain ⟨g, a, c, h⟩ := h
  exact h.lab _ _ h.ownt
/-- What a call did: of what was there it turned the tree's blocks alone; the tree has what it had, and what is new. -/
structure Mv (w w' : World) (S S' : St) : Prop where
  st : Stay (fun b => S.own b ≠ none) w w'
  ne : ∀ b, S'.own b ≠ none → S.own b ≠ none ∨ w.heap.size ≤ b
theorem Mv.refl (w : World) (S : St) : Mv w w S S := ⟨Stay.refl _ _, fun _ h => .inl h⟩
theorem Mv.trans {w w' w'' : World} {S S' S'' : St} (h : Mv w w' S S') (h' : Mv w' w'' S' S'') : Mv w w'' S S'' := by
  refine ⟨h.st.trans h'.st (fun i hi hs => ?_), fun b hb => ?_⟩
  · rcases h.ne i hs with h | h
    · exact h
    · omega
  · rcases h'.ne b hb with hb | hb
    · exact h.ne b hb
    · exact .inr (Nat.le_trans h.st.size hb)
theorem Mv.below {w w' w'' : World} {S S' : St} (h : Mv w w' S S') (hb : Below w'.heap.size w' w'') : Mv w w'' S S' :=
  h.trans ⟨Stay.of_below hb, fun _ h => .inl h⟩
theorem Mv.of_below {w w' : World} {S : St} (hb : Below w.heap.size w w') : Mv w w' S S := (Mv.refl w S).below hb
theorem Mv.keep {w w' : World} {S S' : St} (h : Mv w w' S S') {b : Nat} {o : Obj} (hb : w.heap[b]? = some o) (hn : S.own b = none) : w'.heap[b]? = some o :=
  h.st.kept hb (fun h => h hn)
theorem Mv.isBlk {w w' : World} {S S' : St} (h : Mv w w' S S') {b : Nat} {l : List Bool} (hb : IsBlk w b l) (hn : S.own b = none) : IsBlk w' b l := hb.stay h.st (fun h => h hn)
theorem Mv.outer {w w' : World} {S S' : St} (h : Mv w w' S S') {b : Nat} (hb : b < w.heap.size) (hn : S.own b = none) : S'.own b = none := by
  cases e : S'.own b with
  | none => rfl
  | some x =>
    rcases h.ne b (by rw [e]; exact fun h => by cases h) with h | h
    · exact absurd hn h
    · omega

theorem upd_same_ptr {s : Sto} {k n : Nat} {d d' : Nd} (hk : s k = some (n, d)) (j : Nat) : ptr (upd s k (some (n, d')) j) = ptr (s j) := by
  unfold upd
  split
  · subst j; rw [hk]; rfl
  · rfl
theorem ptrs_same {s : Sto} {k n m : Nat} {d d' : Nd} (hk : s k = some (n, d)) : ptrs (upd s k (some (n, d'))) m = ptrs s m := by
  unfold ptrs
  exact List.map_congr_left (fun j _ => upd_same_ptr hk j)
/-- What a node holds was turned: its own block, or its bits' block, or both; these may be new. -/
theorem TM.turn {base : Nat} {w w' : World} {t : Nat} {S : St} {Z : Nat → Prop} {own' : Nat → Option Who} {k n : Nat} {d d' : Nd} (h : TM base w t S) (hk : S.sto k = some (n, d)) (hb : Stay Z w w')
    (hz : ∀ b x, Z b → S.own b = some x → x = .nd k ∨ x = .bk k) (hd : NdM w' n d') (hown : ∀ b x, S.own b = some x → x ≠ .bk k → own' b = some x) (hnew : ∀ b x, own' b = some x → S.own b = some x ∨ (x = .bk k ∧ base ≤ b ∧ b < w'.heap.size))
    (hbk : ∀ b l, d' = .lf b l → own' b = some (.bk k)) : TM base w' t { S with own := own', sto := upd S.sto k (some (n, d')) } := by
  obtain ⟨g, a, c, h⟩ := h
  have hz' : ∀ b x, S.own b = some x → x ≠ .nd k → x ≠ .bk k → ¬ Z b := fun b x e h1 h2 h3 => by rcases hz b x h3 e with h | h; exact h1 h; exact h2 h
  have har : (fun b => own' b = some Who.ar) = (fun b => S.own b = some Who.ar) := by
    funext b
    refine propext ⟨fun e => ?_, fun e => hown b _ e (fun h => by cases h)⟩
    rcases hnew b _ e with h | h
    · exact h
    · exact absurd h.1 (fun h => by cases h)
  refine ⟨g, a, c, fun b x e => ?_, hown _ _ h.ownt (fun h => by cases h), hb.kept h.cells (hz' _ _ h.ownt (fun h => by cases h) (fun h => by cases h)), ?_, ?_, fun b hb => hown _ _ (h.rowl b hb) (fun h => by cases h), h.sar, fun j => ?_, fun j m e he => ?_, fun j m b l he => ?_⟩
  · rcases hnew b x e with h1 | h1
    · exact ⟨(h.lab b x h1).1, Nat.lt_of_lt_of_le (h.lab b x h1).2 hb.size⟩
    · exact h1.2
  · rcases h.ar with h | ⟨g', e, h⟩
    · exact .inl h
    · refine .inr ⟨g', e, ?_⟩
      show ArM base _ (fun b => own' b = some Who.ar) w' g' _ _ _
      rw [har]
      exact h.stay hb (fun b e => hz' _ _ e (fun h => by cases h) (fun h => by cases h))
  · show w'.ownsRow base _ 1 _ _ (ptrs (upd S.sto k (some (n, d'))) S.T.length)
    rw [ptrs_same hk]
    exact ownsRow_stay h.row hb (fun b e => hz' _ _ (h.rowl b e) (fun h => by cases h) (fun h => by cases h))
  · show upd S.sto k (some (n, d')) j = none ↔ _
    rw [← h.dom j]
    unfold upd
    split
    · subst j; rw [hk]; simp
    · exact Iff.rfl
  · have he' : upd S.sto k (some (n, d')) j = some (m, e) := he
    by_cases hj : j = k
    · subst hj
      rw [upd_at] at he'
      injection he' with he'
      injection he' with e1 e2
      subst e1 e2
      exact ⟨hown _ _ (h.nds j n d hk).1 (fun h => by cases h), hd⟩
    · rw [upd_ne _ _ hj] at he'
      obtain ⟨h1, h2⟩ := h.nds j m e he'
      refine ⟨hown _ _ h1 (fun h => by cases h), h2.stay hb (hz' _ _ h1 (fun h => hj (by injection h)) (fun h => by cases h)) (fun b l e2 => hz' _ _ (h.bks j m b l (e2 ▸ he')) (fun h => by cases h) (fun h => hj (by injection h)))⟩
  · have he' : upd S.sto k (some (n, d')) j = some (m, .lf b l) := he
    by_cases hj : j = k
    · subst hj
      rw [upd_at] at he'
      injection he' with he'
      injection he' with e1 e2
      exact hbk b l e2
    · rw [upd_ne _ _ hj] at he'
      exact hown _ _ (h.bks j m b l he') (fun h => hj (by injection h))
/-- The same with no block new. -/
theorem TM.turn0 {base : Nat} {w w' : World} {t : Nat} {S : St} {Z : Nat → Prop} {k n : Nat} {d d' : Nd} (h : TM base w t S) (hk : S.sto k = some (n, d)) (hb : Stay Z w w')
    (hz : ∀ b x, Z b → S.own b = some x → x = .nd k ∨ x = .bk k) (hd : NdM w' n d') (hbk : ∀ b l, d' = .lf b l → S.own b = some (.bk k)) : TM base w' t { S with sto := upd S.sto k (some (n, d')) } :=
  h.turn (own' := S.own) hk hb hz hd (fun _ _ h _ => h) (fun _ _ h => .inl h) hbk
/-- Where node k's pointer lies. -/
theorem TMx.list {base : Nat} {w : World} {t : Nat} {S : St} {g : Option Nat} {a : Option Addr} {c k : Nat} (h : TMx base w t S g a c) (hk : k < S.T.length) :
    ∃ lb, a = some ⟨lb, 0, none⟩ ∧ S.T.length ≤ c ∧ c ≤ maxLen ∧ w.cell? ⟨lb, k, none⟩ = some (ptr (S.sto k)) ∧ (∀ j, w.frozen? ⟨lb, j, none⟩ = false) ∧ S.own lb = some .li := by
  have h2 := h.row.2
  rcases h2 with ⟨hv, h0⟩ | ⟨lb, cap, cur, hv, hb, hg, hn, hm, hs, ht⟩
  · omega
  · simp only [Value.slice.injEq, true_and] at hv
    obtain ⟨rfl, rfl⟩ := hv
    refine ⟨lb, rfl, hn, hm, ?_, fun j => World.ownsRow.frozenAt (w := w) h.row j, h.rowl _ rfl⟩
    rw [World.ownsRow.cellAt (w := w) h.row k (by omega)]
    unfold ptrs
    rw [List.getElem?_map, List.getElem?_range hk]
    rfl
theorem TMx.inT {base : Nat} {w : World} {t : Nat} {S : St} {g : Option Nat} {a : Option Addr} {c k : Nat} {x : Nat × Nd} (h : TMx base w t S g a c) (hk : S.sto k = some x) : k < S.T.length := by
  have h1 : S.T.getD k false ≠ false := fun e => by have := (h.dom k).2 e; rw [hk] at this; cases this
  apply Nat.lt_of_not_le
  intro h2
  exact h1 (by rw [List.getD_eq_getElem?_getD, List.getElem?_eq_none h2]; rfl)
/-- The tree's own cells. -/
structure CellsT (w : World) (t : Nat) (p a : Option Addr) (n c : Nat) (A : Lk) (v : Nat) : Prop where
  c0 : w.cell? ⟨t, 0, none⟩ = some (.pointer p)
  c1 : w.cell? ⟨t, 1, none⟩ = some (.slice a n c)
  c2 : w.cell? ⟨t, 2, none⟩ = some (.int .i64 A.num)
  c3 : w.cell? ⟨t, 3, none⟩ = some (.int .i64 A.len)
  c4 : w.cell? ⟨t, 4, none⟩ = some (.int .i64 A.ones)
  c5 : w.cell? ⟨t, 5, none⟩ = some (.int .i64 A.ht)
  c6 : w.cell? ⟨t, 6, none⟩ = some (.int .i64 v)
  fz : ∀ i, w.frozen? ⟨t, i, none⟩ = false
theorem cellsT {w : World} {t : Nat} {p a : Option Addr} {n c : Nat} {A : Lk} {v : Nat} {ty : TypeId} (h : w.heap[t]? = some (.cells (trv p a n c A v) ty (0, 0))) : CellsT w t p a n c A v :=
  ⟨(cell_of h).trans rfl, (cell_of h).trans rfl, (cell_of h).trans rfl, (cell_of h).trans rfl, (cell_of h).trans rfl, (cell_of h).trans rfl, (cell_of h).trans rfl, fun i => by simp [World.frozen?, h]⟩
structure CellsN (w : World) (n : Nat) (p : Option Addr) (A B : Lk) : Prop where
  c0 : w.cell? ⟨n, 0, none⟩ = some (.pointer p)
  c1 : w.cell? ⟨n, 1, none⟩ = some (.int .i64 A.num)
  c2 : w.cell? ⟨n, 2, none⟩ = some (.int .i64 A.len)
  c3 : w.cell? ⟨n, 3, none⟩ = some (.int .i64 A.ones)
  c4 : w.cell? ⟨n, 4, none⟩ = some (.int .i64 A.ht)
  c5 : w.cell? ⟨n, 5, none⟩ = some (.int .i64 B.num)
  c6 : w.cell? ⟨n, 6, none⟩ = some (.int .i64 B.len)
  c7 : w.cell? ⟨n, 7, none⟩ = some (.int .i64 B.ones)
  c8 : w.cell? ⟨n, 8, none⟩ = some (.int .i64 B.ht)
  fz : ∀ i, w.frozen? ⟨n, i, none⟩ = false
theorem cellsN {w : World} {n : Nat} {p : Option Addr} {A B : Lk} {ty : TypeId} (h : w.heap[n]? = some (.cells (ndv p A B) ty (0, 0))) : CellsN w n p A B :=
  ⟨(cell_of h).trans rfl, (cell_of h).trans rfl, (cell_of h).trans rfl, (cell_of h).trans rfl, (cell_of h).trans rfl, (cell_of h).trans rfl, (cell_of h).trans rfl, (cell_of h).trans rfl, (cell_of h).trans rfl, fun i => by simp [World.frozen?, h]⟩
/-- The tree's root, or how many were looked at, is laid anew. -/
theorem TM.setT {base : Nat} {w w' : World} {t : Nat} {S : St} (h : TM base w t S) (A : Lk) (v : Nat) (hb : Stay (· = t) w w')
    (hc : ∀ p a n c, w.heap[t]? = some (.cells (trv p a n c S.rt S.vis) 108 (0, 0)) → w'.heap[t]? = some (.cells (trv p a n c A v) 108 (0, 0))) : TM base w' t { S with rt := A, vis := v } := by
  obtain ⟨g, a, c, h⟩ := h
  have hz' : ∀ b x, S.own b = some x → x ≠ .tr → ¬ b = t := fun b x e h1 h2 => by subst h2; rw [h.ownt] at e; injection e with e; exact h1 e.symm
  refine ⟨g, a, c, fun b x e => ⟨(h.lab b x e).1, Nat.lt_of_lt_of_le (h.lab b x e).2 hb.size⟩, h.ownt, hc _ _ _ _ h.cells, ?_, ownsRow_stay h.row hb (fun k hk => hz' _ _ (h.rowl k hk) (fun h => by cases h)), h.rowl, h.sar, h.dom, fun k n d e => ⟨(h.nds k n d e).1, (h.nds k n d e).2.stay hb (hz' _ _ (h.nds k n d e).1 (fun h => by cases h)) (fun b l e2 => hz' _ _ (h.bks k n b l (e2 ▸ e)) (fun h => by cases h))⟩, h.bks⟩
  rcases h.ar with h | ⟨g', e, h⟩
  · exact .inl h
  · exact .inr ⟨g', e, h.stay hb (fun b e => hz' _ _ e (fun h => by cases h))⟩
end Go.Proofs.YthbbokoeiifjdaaGreatDoor
namespace Go.Proofs.YthbbokoeiifjdaaGreatDoor
open Go Go.RowKit Go.ChangeAt Tr

theorem Below.allocs {a w : World} (hb : Below a.heap.size a w) (o : Obj) : Below a.heap.size a (w.alloc o) := hb.alloc hb.size o
theorem Below.drews {a w : World} (hb : Below a.heap.size a w) : Below a.heap.size a w.drew := hb.drewN 1
theorem ret_ptr {a b : Option Addr} (h : a = b) : Ending.returned (.pointer a) = .returned (.pointer b) := by rw [h]
theorem Mv.tree {base : Nat} {w w' : World} {t : Nat} {S : St} (h : TM base w t S) (hb : Stay (· = t) w w') (A : Lk) (v : Nat) : Mv w w' S { S with rt := A, vis := v } := by
  obtain ⟨g, a, c, h⟩ := h
  exact ⟨hb.mono (fun i _ e => by subst e; show S.own i ≠ none; rw [h.ownt]; exact fun h => by cases h), fun b hb => .inl hb⟩
/-- The state with another number of nodes looked at. -/
def St.see (S : St) (v : Nat) : St := { S with vis := v }
theorem tlook {base t k n : Nat} {S : St} {d : Nd} (w : World) (h : TM base w t S) (hk : S.sto k = some (n, d)) (hv : S.vis < 4611686018427387904) :
    Calls Tryz.prog 70 #[.pointer (some ⟨t, 0, none⟩), .int .i64 k] w fun e w' => e = .returned (.pointer (some ⟨n, 0, none⟩)) ∧ TM base w' t (S.see (S.vis + 1)) ∧ Stay (· = t) w w' := by
  have H := Lib.hid h
  obtain ⟨g, a, c, hx⟩ := h
  have hin := hx.inT hk
  obtain ⟨lb, rfl, hlc, hcm, hcell, hfz, hown⟩ := hx.list hin
  have hne : ¬ lb = t := fun e => by rw [e, hx.ownt] at hown; cases hown
  rw [hk] at hcell
  have hcell' : w.cell? ⟨lb, k, none⟩ = some (.pointer (some ⟨n, 0, none⟩)) := hcell
  have C := cellsT hx.cells
  have c1 := C.c1
  have c6 := C.c6
  have f6 := C.fz 6
  have hk1 : (k : Int) < S.T.length := by omega
  unfold maxLen at hcm
  have hcm2 : (c : Int) ≤ 9223372036854775807 := by omega
  have hlc2 : (S.T.length : Int) ≤ c := by omega
  clear hcell hx hk hown hfz C hcm
  go_enter Tryz.func70, Tryz.ntmps70
  go_wp2
  go_ret
  have hst : Stay (· = t) w (w.setCell ⟨t, 6, none⟩ (.int .i64 ((S.vis + 1 : Nat) : Int))) := Stay.setCell (S := (· = t)) (Stay.refl _ _) (p := ⟨t, 6, none⟩) (.inr rfl) _
  exact ⟨rfl, H.out.setT S.rt (S.vis + 1) hst (fun p a n c e => set_of e _), hst⟩
theorem tisleaf {n : Nat} {p : Option Addr} (w : World) (h : w.cell? ⟨n, 0, none⟩ = some (.pointer p)) :
    Calls Tryz.prog 71 #[.pointer (some ⟨n, 0, none⟩)] w fun e w' => e = .returned (.bool p.isSome) ∧ w = w' := by
  cases p with
  | none =>
    go_enter Tryz.func71, Tryz.ntmps71
    go_wp2
    go_ret
    exact ⟨rfl, rfl⟩
  | some a =>
    go_enter Tryz.func71, Tryz.ntmps71
    go_wp2
    go_ret
    exact ⟨rfl, rfl⟩
theorem ttoward_0 {n k len : Nat} (w : World) (h : w.cell? ⟨n, 2, none⟩ = some (.int .i64 len)) (hk : k < len) :
    Calls Tryz.prog 72 #[.pointer (some ⟨n, 0, none⟩), .int .i64 k] w fun e w' => e = .returned (.tuple #[.int .i64 0, .int .i64 k]) ∧ w = w' := by
  have h1 : (k : Int) < len := by omega
  go_enter Tryz.func72, Tryz.ntmps72
  go_wp2
  go_ret2
  exact ⟨rfl, rfl⟩
theorem ttoward_1 {n k len m : Nat} (w : World) (h : w.cell? ⟨n, 2, none⟩ = some (.int .i64 len)) (hk : k = len + m) (hm : k < 4611686018427387904) :
    Calls Tryz.prog 72 #[.pointer (some ⟨n, 0, none⟩), .int .i64 k] w fun e w' => e = .returned (.tuple #[.int .i64 1, .int .i64 m]) ∧ ∃ x, w' = w.drewN x := by
  have h1 : ¬ (k : Int) < len := by omega
  have h2 : (k : Int) - len = m := by omega
  have h3 : (m : Int) < 4611686018427387904 := by omega
  clear hk
  go_enter Tryz.func72, Tryz.ntmps72
  go_wp2_with fail
  go_quiet (fail)
  go_wp2_with fail
  go_ret2
  exact ⟨rfl, _, rfl⟩
theorem tcount (A : Lk) (b : Bool) (w : World) (h1 : A.ones ≤ A.len) (h2 : A.len < 4611686018427387904) :
    Calls Tryz.prog 86 #[lkv A, .bool b] w fun e w' => e = .returned (.int .i64 ((if b then A.ones else A.len - A.ones : Nat) : Int)) ∧ Below w.heap.size w w' := by
  obtain ⟨num, len, ones, ht⟩ := A
  have h3 : ((len - ones : Nat) : Int) = len - ones := by simp only at h1; omega
  have H3 := Lib.hid h3
  simp only at h1 h2
  clear h3
  unfold lkv
  simp only
  cases b
  · go_enter Tryz.func86, Tryz.ntmps86
    go_wp2
    go_ret
    exact ⟨ret_int H3.out.symm, (Below.refl _ _).alloc (Nat.le_refl _) _⟩
  · go_enter Tryz.func86, Tryz.ntmps86
    go_wp2
    go_ret
    exact ⟨rfl, (Below.refl _ _).alloc (Nat.le_refl _) _⟩
set_option maxHeartbeats 1600000 in
theorem tlink_lf {base t k n b : Nat} {S : St} {l : List Bool} (w : World) (h : TM base w t S) (hk : S.sto k = some (n, .lf b l)) :
    Calls Tryz.prog 102 #[.pointer (some ⟨t, 0, none⟩), .int .i64 k] w fun e w' => e = .returned (lkv (lkl k l)) ∧ Below w.heap.size w w' := by
  obtain ⟨g, a, c, hx⟩ := h
  have hin := hx.inT hk
  obtain ⟨lb, rfl, hlc, hcm, hcell, hfz, hown⟩ := hx.list hin
  obtain ⟨hon, ⟨A, B, hn⟩, hblk⟩ := hx.nds _ _ _ hk
  rw [hk] at hcell
  have hcell' : w.cell? ⟨lb, k, none⟩ = some (.pointer (some ⟨n, 0, none⟩)) := hcell
  have c1 := (cellsT hx.cells).c1
  have n0 := (cellsN hn).c0
  have hk1 : (k : Int) < S.T.length := by omega
  have hlt := hblk.lt
  unfold maxLen at hcm
  have hcm2 : (c : Int) ≤ 9223372036854775807 := by omega
  have hlc2 : (S.T.length : Int) ≤ c := by omega
  have HB := Lib.hid hblk
  have hlb := block_lt_of_cell hcell'
  have hnb := block_lt_of_cell n0
  have htb := block_lt_of_cell c1
  clear hcell hx hk hown hfz hcm hn hblk hon
  have d1 : (w.alloc (Obj.cells #[.int .i64 0, .int .i64 0, .int .i64 0, .int .i64 0] 106)).cell? ⟨n, 0, none⟩ = some (.pointer (some ⟨b, 0, none⟩)) := (World.cell?_alloc_past _ _ _ hnb).trans n0
  have hb1 := (Below.refl w.heap.size w).alloc (Nat.le_refl _) (Obj.cells #[.int .i64 0, .int .i64 0, .int .i64 0, .int .i64 0] 106)
  have hi1 := HB.out.below hb1 hlt
  go_enter Tryz.func102, Tryz.ntmps102
  go_wp2_with (first
    | (go_at_call 71; (have cc := tisleaf _ d1); (with_reducible refine cc.mono ?_); rintro e w' ⟨rfl, rfl⟩))
  have hi2 : IsBlk (w.alloc (Obj.cells #[.int .i64 0, .int .i64 0, .int .i64 0, .int .i64 0] 106)).drew b l := hi1
  go_region_law (first
    | (go_simp; (go_at_call 100; (have cc := blen_any _ hi2); (with_reducible refine cc.mono ?_); rintro e w' ⟨rfl, rfl⟩))
    | (go_simp; (go_at_call 105; (have cc := bones_any _ hi2); (with_reducible refine cc.mono ?_); rintro e w' ⟨rfl, rfl⟩)))
  all_goals
    go_wp2_with fail
    try simp only [Exit.inBlock, Exit.then]
    refine bodyPost_ret (v := lkv (lkl k l)) (by simp [results, Tryz.results102, go_sem, lkv, lkl]) rfl ⟨rfl, ?_⟩
    exact ((Below.refl _ _).alloc (Nat.le_refl _) _).drewN 1
set_option maxHeartbeats 1600000 in
theorem tlink_pr {base t k n : Nat} {S : St} {A B : Lk} (w : World) (h : TM base w t S) (hk : S.sto k = some (n, .pr A B)) (h1 : A.len + B.len < 4611686018427387904) (h2 : A.ones + B.ones < 4611686018427387904) (h3 : A.ht < 4611686018427387904) (h4 : B.ht < 4611686018427387904) :
    Calls Tryz.prog 102 #[.pointer (some ⟨t, 0, none⟩), .int .i64 k] w fun e w' => e = .returned (lkv (mk k A B)) ∧ Below w.heap.size w w' := by
  obtain ⟨g, a, c, hx⟩ := h
  have hin := hx.inT hk
  obtain ⟨lb, rfl, hlc, hcm, hcell, hfz, hown⟩ := hx.list hin
  obtain ⟨hon, hn⟩ := hx.nds _ _ _ hk
  rw [hk] at hcell
  have hcell' : w.cell? ⟨lb, k, none⟩ = some (.pointer (some ⟨n, 0, none⟩)) := hcell
  have c1 := (cellsT hx.cells).c1
  have hn' : w.heap[n]? = some (.cells (ndv none A B) 114 (0, 0)) := hn
  obtain ⟨n0, n1, n2, n3, n4, n5, n6, n7, n8, _⟩ := cellsN hn'
  have hk1 : (k : Int) < S.T.length := by omega
  unfold maxLen at hcm
  have hcm2 : (c : Int) ≤ 9223372036854775807 := by omega
  have hlc2 : (S.T.length : Int) ≤ c := by omega
  have hlb := block_lt_of_cell hcell'
  have hnb := block_lt_of_cell n0
  have htb := block_lt_of_cell c1
  clear hcell hx hk hown hfz hcm hn hon hn'
  obtain ⟨a0, a1, a2, a3⟩ := A
  obtain ⟨b0, b1, b2, b3⟩ := B
  simp only at n1 n2 n3 n4 n5 n6 n7 n8 h1 h2 h3 h4
  have h1a : (a1 : Int) + b1 < 4611686018427387904 := by omega
  have h2a : (a2 : Int) + b2 < 4611686018427387904 := by omega
  have d1 : (w.alloc (Obj.cells #[.int .i64 0, .int .i64 0, .int .i64 0, .int .i64 0] 106)).cell? ⟨n, 0, none⟩ = some (.pointer none) := (World.cell?_alloc_past _ _ _ hnb).trans n0
  have K : ∀ w', Below w.heap.size w w' → w'.cell? ⟨n, 1, none⟩ = some (.int .i64 a0) ∧ w'.cell? ⟨n, 2, none⟩ = some (.int .i64 a1) ∧ w'.cell? ⟨n, 3, none⟩ = some (.int .i64 a2) ∧ w'.cell? ⟨n, 4, none⟩ = some (.int .i64 a3) ∧ w'.cell? ⟨n, 5, none⟩ = some (.int .i64 b0) ∧ w'.cell? ⟨n, 6, none⟩ = some (.int .i64 b1) ∧ w'.cell? ⟨n, 7, none⟩ = some (.int .i64 b2) ∧ w'.cell? ⟨n, 8, none⟩ = some (.int .i64 b3) :=
    fun w' h => ⟨(h.cell (p := ⟨n, 1, none⟩) hnb).trans n1, (h.cell (p := ⟨n, 2, none⟩) hnb).trans n2, (h.cell (p := ⟨n, 3, none⟩) hnb).trans n3, (h.cell (p := ⟨n, 4, none⟩) hnb).trans n4, (h.cell (p := ⟨n, 5, none⟩) hnb).trans n5, (h.cell (p := ⟨n, 6, none⟩) hnb).trans n6, (h.cell (p := ⟨n, 7, none⟩) hnb).trans n7, (h.cell (p := ⟨n, 8, none⟩) hnb).trans n8⟩
  clear n1 n2 n3 n4 n5 n6 n7 n8
  rcases Nat.lt_or_ge a3 b3 with hlt | hlt
  · have hm : (a3 : Int) < b3 := by omega
    have HM := Lib.hid (show max a3 b3 = b3 by omega)
    go_enter Tryz.func102, Tryz.ntmps102
    go_wp2_with (first
      | (go_at_call 71; (have cc := tisleaf _ d1); (with_reducible refine cc.mono ?_); rintro e w' ⟨rfl, rfl⟩))
    go_region_held3 (fun w' => w'.cell? ⟨n, 1, none⟩ = some (.int .i64 a0) ∧ w'.cell? ⟨n, 2, none⟩ = some (.int .i64 a1) ∧ w'.cell? ⟨n, 3, none⟩ = some (.int .i64 a2) ∧ w'.cell? ⟨n, 4, none⟩ = some (.int .i64 a3) ∧ w'.cell? ⟨n, 5, none⟩ = some (.int .i64 b0) ∧ w'.cell? ⟨n, 6, none⟩ = some (.int .i64 b1) ∧ w'.cell? ⟨n, 7, none⟩ = some (.int .i64 b2) ∧ w'.cell? ⟨n, 8, none⟩ = some (.int .i64 b3))
      (first | (refine K _ ?_; (repeat (first | exact Below.refl _ _ | refine Below.drews ?_ | refine Below.allocs ?_ _))) | go_keep) (fail)
    all_goals
      go_wp2_with fail
      try simp only [Exit.inBlock, Exit.then]
      refine bodyPost_ret (v := .agg #[.int .i64 k, .int .i64 (a1 + b1), .int .i64 (a2 + b2), .int .i64 (1 + b3)]) (by simp [results, Tryz.results102, go_sem]) rfl ⟨?_, ?_⟩
      · unfold lkv mk
        simp only
        rw [HM.out]
        congr 2
      · repeat (first | exact Below.refl _ _ | refine Below.drews ?_ | refine Below.allocs ?_ _)
  · have hm : ¬ (a3 : Int) < b3 := by omega
    have HM := Lib.hid (show max a3 b3 = a3 by omega)
    go_enter Tryz.func102, Tryz.ntmps102
    go_wp2_with (first
      | (go_at_call 71; (have cc := tisleaf _ d1); (with_reducible refine cc.mono ?_); rintro e w' ⟨rfl, rfl⟩))
    go_region_held3 (fun w' => w'.cell? ⟨n, 1, none⟩ = some (.int .i64 a0) ∧ w'.cell? ⟨n, 2, none⟩ = some (.int .i64 a1) ∧ w'.cell? ⟨n, 3, none⟩ = some (.int .i64 a2) ∧ w'.cell? ⟨n, 4, none⟩ = some (.int .i64 a3) ∧ w'.cell? ⟨n, 5, none⟩ = some (.int .i64 b0) ∧ w'.cell? ⟨n, 6, none⟩ = some (.int .i64 b1) ∧ w'.cell? ⟨n, 7, none⟩ = some (.int .i64 b2) ∧ w'.cell? ⟨n, 8, none⟩ = some (.int .i64 b3))
      (first | (refine K _ ?_; (repeat (first | exact Below.refl _ _ | refine Below.drews ?_ | refine Below.allocs ?_ _))) | go_keep) (fail)
    all_goals
      go_wp2_with fail
      try simp only [Exit.inBlock, Exit.then]
      refine bodyPost_ret (v := .agg #[.int .i64 k, .int .i64 (a1 + b1), .int .i64 (a2 + b2), .int .i64 (1 + a3)]) (by simp [results, Tryz.results102, go_sem]) rfl ⟨?_, ?_⟩
      · unfold lkv mk
        simp only
        rw [HM.out]
        congr 2
      · repeat (first | exact Below.refl _ _ | refine Below.drews ?_ | refine Below.allocs ?_ _)
end Go.Proofs.YthbbokoeiifjdaaGreatDoor
namespace Go.Proofs.YthbbokoeiifjdaaGreatDoor
open Go Go.RowKit Go.ChangeAt Tr

theorem set4_of {w : World} {g i : Nat} {c : Array Value} {t : TypeId} {f : Nat × Nat} (h : w.heap[g]? = some (.cells c t f)) (A : Lk) :
    ((((w.setCell ⟨g, i, none⟩ (.int .i64 A.num)).setCell ⟨g, i + 1, none⟩ (.int .i64 A.len)).setCell ⟨g, i + 2, none⟩ (.int .i64 A.ones)).setCell ⟨g, i + 3, none⟩ (.int .i64 A.ht)).heap[g]? =
      some (.cells ((((c.setIfInBounds i (.int .i64 A.num)).setIfInBounds (i + 1) (.int .i64 A.len)).setIfInBounds (i + 2) (.int .i64 A.ones)).setIfInBounds (i + 3) (.int .i64 A.ht)) t f) :=
  set_of (set_of (set_of (set_of h _) _) _) _
theorem Stay.set4 {w w0 : World} {S : Nat → Prop} {g : Nat} (h : Stay S w0 w) (hg : S g) (i j k l : Nat) (a b c d : Value) : Stay S w0 ((((w.setCell ⟨g, i, none⟩ a).setCell ⟨g, j, none⟩ b).setCell ⟨g, k, none⟩ c).setCell ⟨g, l, none⟩ d) :=
  (((h.setCell (p := ⟨g, i, none⟩) (.inr hg) _).setCell (p := ⟨g, j, none⟩) (.inr hg) _).setCell (p := ⟨g, k, none⟩) (.inr hg) _).setCell (p := ⟨g, l, none⟩) (.inr hg) _
/-- A store. -/
def St.lay (S : St) (k n : Nat) (d : Nd) : St := { S with sto := upd S.sto k (some (n, d)) }
theorem TM.side0 {base : Nat} {w : World} {t : Nat} {S : St} {k n : Nat} {A B : Lk} (h : TM base w t S) (hk : S.sto k = some (n, .pr A B)) (C : Lk) :
    TM base ((((w.setCell ⟨n, 1, none⟩ (.int .i64 C.num)).setCell ⟨n, 2, none⟩ (.int .i64 C.len)).setCell ⟨n, 3, none⟩ (.int .i64 C.ones)).setCell ⟨n, 4, none⟩ (.int .i64 C.ht)) t (S.lay k n (.pr C B)) := by
  have h' := h
  obtain ⟨g, a, c, hx⟩ := h'
  obtain ⟨h1, h2⟩ := hx.nds _ _ _ hk
  have hst : Stay (fun i => i = n) w ((((w.setCell ⟨n, 1, none⟩ (.int .i64 C.num)).setCell ⟨n, 2, none⟩ (.int .i64 C.len)).setCell ⟨n, 3, none⟩ (.int .i64 C.ones)).setCell ⟨n, 4, none⟩ (.int .i64 C.ht)) := Stay.set4 (S := fun i => i = n) (Stay.refl _ _) rfl 1 2 3 4 _ _ _ _
  exact h.turn0 hk hst (fun b x e e2 => by subst e; rw [h1] at e2; injection e2 with e2; exact .inl e2.symm) (set4_of (i := 1) h2 C) (fun b l e => by cases e)
theorem TM.side1 {base : Nat} {w : World} {t : Nat} {S : St} {k n : Nat} {A B : Lk} (h : TM base w t S) (hk : S.sto k = some (n, .pr A B)) (C : Lk) :
    TM base ((((w.setCell ⟨n, 5, none⟩ (.int .i64 C.num)).setCell ⟨n, 6, none⟩ (.int .i64 C.len)).setCell ⟨n, 7, none⟩ (.int .i64 C.ones)).setCell ⟨n, 8, none⟩ (.int .i64 C.ht)) t (S.lay k n (.pr A C)) := by
  have h' := h
  obtain ⟨g, a, c, hx⟩ := h'
  obtain ⟨h1, h2⟩ := hx.nds _ _ _ hk
  have hst : Stay (fun i => i = n) w ((((w.setCell ⟨n, 5, none⟩ (.int .i64 C.num)).setCell ⟨n, 6, none⟩ (.int .i64 C.len)).setCell ⟨n, 7, none⟩ (.int .i64 C.ones)).setCell ⟨n, 8, none⟩ (.int .i64 C.ht)) := Stay.set4 (S := fun i => i = n) (Stay.refl _ _) rfl 5 6 7 8 _ _ _ _
  exact h.turn0 hk hst (fun b x e e2 => by subst e; rw [h1] at e2; injection e2 with e2; exact .inl e2.symm) (set4_of (i := 5) h2 C) (fun b l e => by cases e)
theorem Mv.lay {base : Nat} {w w' : World} {t : Nat} {S : St} {k n : Nat} {d d' : Nd} (h : TM base w t S) (hk : S.sto k = some (n, d)) (hst : Stay (fun i => i = n) w w') : Mv w w' S (S.lay k n d') := by
  obtain ⟨g, a, c, hx⟩ := h
  obtain ⟨h1, h2⟩ := hx.nds _ _ _ hk
  exact ⟨hst.mono (fun i _ e => by subst e; show S.own i ≠ none; rw [h1]; exact fun h => by cases h), fun b hb => .inl hb⟩
/-- What the walk reads of a tree: the list, and node k's cells. -/
structure Seen (w : World) (t n k len c lb : Nat) (a : Option Addr) : Prop where
  c1 : w.cell? ⟨t, 1, none⟩ = some (.slice a len c)
  ha : a = some ⟨lb, 0, none⟩
  cl : w.cell? ⟨lb, k, none⟩ = some (.pointer (some ⟨n, 0, none⟩))
  k1 : (k : Int) < len
  lc : (len : Int) ≤ c
  cm : (c : Int) ≤ 9223372036854775807
  tl : t < w.heap.size
  ll : lb < w.heap.size
theorem TM.seen {base : Nat} {w : World} {t : Nat} {S : St} {k n : Nat} {d : Nd} (h : TM base w t S) (hk : S.sto k = some (n, d)) : ∃ len c lb, Seen w t n k len c lb (some ⟨lb, 0, none⟩) := by
  obtain ⟨g, a, c, hx⟩ := h
  have hin := hx.inT hk
  obtain ⟨lb, rfl, hlc, hcm, hcell, hfz, hown⟩ := hx.list hin
  rw [hk] at hcell
  have hcell' : w.cell? ⟨lb, k, none⟩ = some (.pointer (some ⟨n, 0, none⟩)) := hcell
  have c1 := (cellsT hx.cells).c1
  unfold maxLen at hcm
  exact ⟨_, _, _, c1, rfl, hcell', by omega, by omega, by omega, block_lt_of_cell c1, block_lt_of_cell hcell'⟩
theorem Seen.below {w w' : World} {t n k len c lb : Nat} {a : Option Addr} (h : Seen w t n k len c lb a) (hb : Below w.heap.size w w') : Seen w' t n k len c lb a :=
  ⟨(hb.cell (p := ⟨t, 1, none⟩) h.tl).trans h.c1, h.ha, (hb.cell (p := ⟨lb, k, none⟩) h.ll).trans h.cl, h.k1, h.lc, h.cm, Nat.lt_of_lt_of_le h.tl hb.size, Nat.lt_of_lt_of_le h.ll hb.size⟩
theorem TM.pr {base : Nat} {w : World} {t : Nat} {S : St} {k n : Nat} {A B : Lk} (h : TM base w t S) (hk : S.sto k = some (n, .pr A B)) : CellsN w n none A B := by
  obtain ⟨g, a, c, hx⟩ := h
  exact cellsN (hx.nds _ _ _ hk).2
theorem TM.ndlt {base : Nat} {w : World} {t : Nat} {S : St} {k n : Nat} {d : Nd} (h : TM base w t S) (hk : S.sto k = some (n, d)) : n < w.heap.size := by
  obtain ⟨g, a, c, hx⟩ := h
  exact (hx.lab _ _ (hx.nds _ _ _ hk).1).2
theorem TM.ndne {base : Nat} {w : World} {t : Nat} {S : St} {k n j m : Nat} {d e : Nd} (h : TM base w t S) (hk : S.sto k = some (n, d)) (hj : S.sto j = some (m, e)) (hne : k ≠ j) : n ≠ m := by
  obtain ⟨g, a, c, hx⟩ := h
  intro e2
  subst e2
  have h1 := (hx.nds _ _ _ hk).1
  rw [(hx.nds _ _ _ hj).1] at h1
  injection h1 with h1
  injection h1 with h1
  exact hne h1.symm
/-- The cell that a link is handed back in, as it lies when a function is entered. -/
abbrev ZL : Obj := Obj.cells #[.int .i64 0, .int .i64 0, .int .i64 0, .int .i64 0] 106
structure Res (w : World) (r : Nat) : Prop where
  c0 : w.cell? ⟨r, 0, none⟩ = some (.int .i64 0)
  c1 : w.cell? ⟨r, 1, none⟩ = some (.int .i64 0)
  c2 : w.cell? ⟨r, 2, none⟩ = some (.int .i64 0)
  c3 : w.cell? ⟨r, 3, none⟩ = some (.int .i64 0)
  f0 : w.frozen? ⟨r, 0, none⟩ = false
  f1 : w.frozen? ⟨r, 1, none⟩ = false
  f2 : w.frozen? ⟨r, 2, none⟩ = false
  f3 : w.frozen? ⟨r, 3, none⟩ = false
theorem TM.new {base : Nat} {w : World} {t : Nat} {S : St} (h : TM base w t S) {b : Nat} (hb : w.heap.size ≤ b) : S.own b = none := by
  obtain ⟨g, a, c, hx⟩ := h
  cases e : S.own b with
  | none => rfl
  | some x => have := (hx.lab _ _ e).2; omega
theorem Mv.res {base : Nat} {w w5 : World} {t : Nat} {S S' : St} (h : TM base w t S) (hV : Mv (w.alloc ZL) w5 S S') : Res w5 w.heap.size := by
  have hr : w5.heap[w.heap.size]? = some ZL := hV.keep alloc_of (h.new (Nat.le_refl _))
  exact ⟨(cell_of hr).trans rfl, (cell_of hr).trans rfl, (cell_of hr).trans rfl, (cell_of hr).trans rfl, free_of hr, free_of hr, free_of hr, free_of hr⟩
theorem TM.set4 {base : Nat} {w : World} {t : Nat} {S : St} (h : TM base w t S) {r : Nat} (hr : S.own r = none) (i j k l : Nat) (a b c d : Value) : TM base ((((w.setCell ⟨r, i, none⟩ a).setCell ⟨r, j, none⟩ b).setCell ⟨r, k, none⟩ c).setCell ⟨r, l, none⟩ d) t S :=
  h.stay (Stay.set4 (S := fun i => i = r) (Stay.refl _ _) rfl i j k l a b c d) (fun _ hx e => hx (e ▸ hr))
theorem Mv.alloc {base : Nat} {w w5 : World} {t : Nat} {S S' : St} (_h : TM base w t S) {o : Obj} (hV : Mv (w.alloc o) w5 S S') : Mv w w5 S S' := (Mv.of_below (Below.allocs (Below.refl _ _) _)).trans hV
theorem Mv.done {base : Nat} {w w5 : World} {t : Nat} {S S' : St} (h : TM base w t S) (h5 : TM base w5 t S') (hV : Mv (w.alloc ZL) w5 S S') (a b c d : Value) :
    TM base ((((w5.setCell ⟨w.heap.size, 0, none⟩ a).setCell ⟨w.heap.size, 1, none⟩ b).setCell ⟨w.heap.size, 2, none⟩ c).setCell ⟨w.heap.size, 3, none⟩ d) t S' ∧ Mv w ((((w5.setCell ⟨w.heap.size, 0, none⟩ a).setCell ⟨w.heap.size, 1, none⟩ b).setCell ⟨w.heap.size, 2, none⟩ c).setCell ⟨w.heap.size, 3, none⟩ d) S S' := by
  have hn : S'.own w.heap.size = none := hV.outer (by simp) (h.new (Nat.le_refl _))
  have hV' := Mv.alloc h hV
  refine ⟨h5.set4 hn 0 1 2 3 a b c d, ⟨?_, hV'.ne⟩⟩
  exact (((hV'.st.setCell (p := ⟨w.heap.size, 0, none⟩) (.inl (Nat.le_refl _)) _).setCell (p := ⟨w.heap.size, 1, none⟩) (.inl (Nat.le_refl _)) _).setCell (p := ⟨w.heap.size, 2, none⟩) (.inl (Nat.le_refl _)) _).setCell (p := ⟨w.heap.size, 3, none⟩) (.inl (Nat.le_refl _)) _
/-- A link whose numbers are not too great. -/
structure Bd (N : Nat) (A : Lk) : Prop where
  len : A.len ≤ N
  ones : A.ones ≤ N
  ht : A.ht ≤ N
theorem Bd.both {N : Nat} {A B : Lk} (k : Nat) (h : Bd N A) (h' : Bd N B) : Bd (2 * N + 1) (Tr.mk k A B) := by
  have h1 := h.len; have h2 := h.ones; have h3 := h.ht; have h4 := h'.len; have h5 := h'.ones; have h6 := h'.ht
  exact ⟨by show A.len + B.len ≤ _; omega, by show A.ones + B.ones ≤ _; omega, by show 1 + max A.ht B.ht ≤ _; omega⟩
theorem Bd.mono {N M : Nat} {A : Lk} (h : Bd N A) (hm : N ≤ M) : Bd M A := ⟨Nat.le_trans h.len hm, Nat.le_trans h.ones hm, Nat.le_trans h.ht hm⟩
end Go.Proofs.YthbbokoeiifjdaaGreatDoor
