/- Trees of bits as plain data: links, what a node holds, balanced and full trees, turns. No function of the program stands in it. -/
import Derived.Test.YtfbhcbcpeocmcaaDoorBlk
namespace Go.Proofs.YtfbhcbcpeocmcaaDoor
namespace Tr

/-- The way to a node, with what its parent knows of it. -/
structure Lk where
  num : Nat
  len : Nat
  ones : Nat
  ht : Nat
/-- What a node holds: a block and its bits, or two ways; or nothing that is known. -/
inductive Nd where
  | lf (b : Nat) (l : List Bool)
  | pr (A B : Lk)
  | dd
abbrev Sto := Nat → Option (Nat × Nd)
def upd (s : Sto) (k : Nat) (x : Option (Nat × Nd)) : Sto := fun j => if j = k then x else s j
theorem upd_at (s : Sto) (k : Nat) (x : Option (Nat × Nd)) : upd s k x k = x := if_pos rfl
theorem upd_ne (s : Sto) {k j : Nat} (x : Option (Nat × Nd)) (h : j ≠ k) : upd s k x j = s j := if_neg h
/-- The link to a parent, from its own two. -/
def mk (k : Nat) (A B : Lk) : Lk := ⟨k, A.len + B.len, A.ones + B.ones, 1 + max A.ht B.ht⟩
def lkl (k : Nat) (l : List Bool) : Lk := ⟨k, l.length, l.count true, 0⟩

inductive T where
  | leaf (k : Nat) (l : List Bool)
  | node (k : Nat) (a b : T)
namespace T
def lk : T → Lk
  | leaf k l => lkl k l
  | node k a b => mk k a.lk b.lk
def bits : T → List Bool
  | leaf _ l => l
  | node _ a b => a.bits ++ b.bits
def ht : T → Nat
  | leaf _ _ => 0
  | node _ a b => 1 + max a.ht b.ht
def ks : T → List Nat
  | leaf k _ => [k]
  | node k a b => k :: (a.ks ++ b.ks)
def lvs : T → Nat
  | leaf _ _ => 1
  | node _ a b => a.lvs + b.lvs
/-- Sides that differ by one in height at most. -/
def bal : T → Prop
  | leaf _ _ => True
  | node _ a b => a.bal ∧ b.bal ∧ a.ht ≤ b.ht + 1 ∧ b.ht ≤ a.ht + 1
/-- Each leaf has a quarter of what it may hold, and no more than it may. -/
def full : T → Prop
  | leaf _ l => 32 ≤ l.length ∧ l.length ≤ 128
  | node _ a b => a.full ∧ b.full
/-- Of a leaf alone no least is asked. -/
def ok : T → Prop
  | leaf _ l => l.length ≤ 128
  | node _ a b => a.full ∧ b.full
theorem lk_num (t : T) : t.lk.num = (match t with | leaf k _ => k | node k _ _ => k) := by cases t <;> rfl
theorem lk_len (t : T) : t.lk.len = t.bits.length := by
  induction t with
  | leaf k l => rfl
  | node k a b iha ihb => show a.lk.len + b.lk.len = (a.bits ++ b.bits).length; rw [iha, ihb, List.length_append]
theorem lk_ones (t : T) : t.lk.ones = t.bits.count true := by
  induction t with
  | leaf k l => rfl
  | node k a b iha ihb => show a.lk.ones + b.lk.ones = (a.bits ++ b.bits).count true; rw [iha, ihb, List.count_append]
theorem lk_ht (t : T) : t.lk.ht = t.ht := by
  induction t with
  | leaf k l => rfl
  | node k a b iha ihb => show 1 + max a.lk.ht b.lk.ht = 1 + max a.ht b.ht; rw [iha, ihb]
theorem num_mem (t : T) : t.lk.num ∈ t.ks := by cases t <;> exact List.mem_cons_self
theorem ks_len (t : T) : t.ks.length + 1 = 2 * t.lvs := by
  induction t with
  | leaf k l => rfl
  | node k a b iha ihb => show (k :: (a.ks ++ b.ks)).length + 1 = 2 * (a.lvs + b.lvs); rw [List.length_cons, List.length_append]; omega
theorem lvs_pos (t : T) : 1 ≤ t.lvs := by have := t.ks_len; omega
theorem full.ok {t : T} (h : t.full) : t.ok := by cases t with | leaf k l => exact h.2 | node k a b => exact h
theorem full.len {t : T} (h : t.full) : 32 * t.lvs ≤ t.bits.length ∧ t.bits.length ≤ 128 * t.lvs := by
  induction t with
  | leaf k l => have h1 := h.1; have h2 := h.2; show 32 * 1 ≤ l.length ∧ l.length ≤ 128 * 1; omega
  | node k a b iha ihb =>
    have h1 := iha h.1
    have h2 := ihb h.2
    show 32 * (a.lvs + b.lvs) ≤ (a.bits ++ b.bits).length ∧ (a.bits ++ b.bits).length ≤ 128 * (a.lvs + b.lvs)
    rw [List.length_append]
    omega
theorem ok.len {t : T} (h : t.ok) : 32 * (t.lvs - 1) ≤ t.bits.length ∧ t.bits.length ≤ 128 * t.lvs := by
  cases t with
  | leaf k l => have : l.length ≤ 128 := h; show 32 * (1 - 1) ≤ l.length ∧ l.length ≤ 128 * 1; omega
  | node k a b => have := full.len (t := .node k a b) h; omega
theorem ht_le (t : T) : t.ht + 1 ≤ t.lvs := by
  induction t with
  | leaf k l => exact Nat.le_refl _
  | node k a b iha ihb => show 1 + max a.ht b.ht + 1 ≤ a.lvs + b.lvs; have := a.lvs_pos; have := b.lvs_pos; omega
/-- How many bits may hang in a store of nodes. -/
theorem full.ones {t : T} : t.lk.ones ≤ t.lk.len := by rw [lk_ones, lk_len]; exact List.count_le_length
end T
/-- The tree lies in the store. -/
def Is (s : Sto) : T → Prop
  | .leaf k l => ∃ n b, s k = some (n, .lf b l)
  | .node k a b => (∃ n, s k = some (n, .pr a.lk b.lk)) ∧ Is s a ∧ Is s b
theorem Is.congr {s s' : Sto} {t : T} (h : Is s t) (hs : ∀ k ∈ t.ks, s' k = s k) : Is s' t := by
  induction t with
  | leaf k l => obtain ⟨n, b, e⟩ := h; exact ⟨n, b, (hs k List.mem_cons_self).trans e⟩
  | node k a b iha ihb =>
    obtain ⟨⟨n, e⟩, h1, h2⟩ := h
    exact ⟨⟨n, (hs k List.mem_cons_self).trans e⟩, iha h1 (fun j hj => hs j (List.mem_cons_of_mem _ (List.mem_append_left _ hj))), ihb h2 (fun j hj => hs j (List.mem_cons_of_mem _ (List.mem_append_right _ hj)))⟩
theorem Is.dom {s : Sto} {t : T} (h : Is s t) : ∀ k ∈ t.ks, s k ≠ none := by
  induction t with
  | leaf k l => intro j hj; obtain ⟨n, b, e⟩ := h; rw [List.mem_singleton.1 hj, e]; exact fun h => by cases h
  | node k a b iha ihb =>
    obtain ⟨⟨n, e⟩, h1, h2⟩ := h
    intro j hj
    rcases List.mem_cons.1 hj with rfl | hj
    · rw [e]; exact fun h => by cases h
    · rcases List.mem_append.1 hj with hj | hj
      · exact iha h1 j hj
      · exact ihb h2 j hj
/-- A store in which one tree went and another came: what else was there is as it was. -/
structure Chg (s s' : Sto) (t t' : T) : Prop where
  is : Is s' t'
  nd : t'.ks.Nodup
  old : ∀ k, k ∉ t.ks → s k ≠ none → s' k = s k ∧ k ∉ t'.ks
  out : ∀ k, k ∉ t'.ks → (k ∈ t.ks ∨ s k = none) → s' k = none
theorem Chg.fresh {s s' : Sto} {t t' : T} (h : Chg s s' t t') {k : Nat} (hk : k ∈ t'.ks) : k ∈ t.ks ∨ s k = none := by
  by_cases h1 : k ∈ t.ks
  · exact .inl h1
  · by_cases h2 : s k = none
    · exact .inr h2
    · exact absurd hk (h.old k h1 h2).2
theorem Chg.trans {s s' s'' : Sto} {t t' t'' : T} (h : Chg s s' t t') (h' : Chg s' s'' t' t'') : Chg s s'' t t'' := by
  refine ⟨h'.is, h'.nd, fun k h1 h2 => ?_, fun k h1 h2 => ?_⟩
  · obtain ⟨e, h3⟩ := h.old k h1 h2
    obtain ⟨e2, h4⟩ := h'.old k h3 (by rw [e]; exact h2)
    exact ⟨e2.trans e, h4⟩
  · by_cases h3 : k ∈ t'.ks
    · exact h'.out k h1 (.inl h3)
    · exact h'.out k h1 (.inr (h.out k h3 h2))
theorem Chg.refl {s : Sto} {t : T} (h : Is s t) (hn : t.ks.Nodup) : Chg s s t t :=
  ⟨h, hn, fun _ h1 _ => ⟨rfl, h1⟩, fun k h1 h2 => by rcases h2 with h2 | h2; exact absurd h2 h1; exact h2⟩
/-- All numbers are those that were, and what else was there is as it was. -/
theorem Chg.same {s s' : Sto} {t t' : T} (h : Is s' t') (hn : t.ks.Nodup) (hp : t'.ks.Perm t.ks) (ho : ∀ k, k ∉ t.ks → s' k = s k) : Chg s s' t t' := by
  refine ⟨h, hp.nodup_iff.2 hn, fun k h1 _ => ⟨ho k h1, fun h2 => h1 (hp.mem_iff.1 h2)⟩, fun k h1 h2 => ?_⟩
  have h3 : k ∉ t.ks := fun h => h1 (hp.mem_iff.2 h)
  rw [ho k h3]
  rcases h2 with h2 | h2
  · exact absurd h2 h3
  · exact h2
/-- The parent's link to a child that was changed is laid. -/
theorem Chg.left {s s' : Sto} {k n : Nat} {a b a' : T} (h : Chg s s' a a') (hs : Is s (.node k a b)) (hn : (T.node k a b).ks.Nodup) :
    Chg s (upd s' k (some (n, .pr a'.lk b.lk))) (.node k a b) (.node k a' b) ∧ s' k = s k := by
  have hn' : (k :: (a.ks ++ b.ks)).Nodup := hn
  obtain ⟨hk, hab⟩ := List.nodup_cons.1 hn'
  obtain ⟨ha, hb, hd⟩ := List.nodup_append.1 hab
  have hka : k ∉ a.ks := fun h => hk (List.mem_append_left _ h)
  have hkb : k ∉ b.ks := fun h => hk (List.mem_append_right _ h)
  have hks : s k ≠ none := hs.dom k List.mem_cons_self
  obtain ⟨ek, hka'⟩ := h.old k hka hks
  have hbs : ∀ j ∈ b.ks, s' j = s j ∧ j ∉ a'.ks := fun j hj => h.old j (fun hj' => hd j hj' j hj rfl) (hs.2.2.dom j hj)
  refine ⟨⟨⟨⟨n, upd_at _ _ _⟩, ?_, ?_⟩, ?_, fun j h1 h2 => ?_, fun j h1 h2 => ?_⟩, ek⟩
  · exact h.is.congr (fun j hj => upd_ne _ _ (fun e => hka' (e ▸ hj)))
  · exact hs.2.2.congr (fun j hj => (upd_ne s' (k := k) (j := j) _ (fun e => hkb (e ▸ hj))).trans (hbs j hj).1)
  · show (k :: (a'.ks ++ b.ks)).Nodup
    refine List.nodup_cons.2 ⟨fun h => ?_, List.nodup_append.2 ⟨h.nd, hb, fun x hx y hy e => ?_⟩⟩
    · rcases List.mem_append.1 h with h | h
      · exact hka' h
      · exact hkb h
    · subst e; exact (hbs x hy).2 hx
  · have h3 : j ∉ k :: (a.ks ++ b.ks) := h1
    have h4 : j ≠ k := fun e => h3 (e ▸ List.mem_cons_self)
    have h5 : j ∉ a.ks := fun h => h3 (List.mem_cons_of_mem _ (List.mem_append_left _ h))
    have h6 : j ∉ b.ks := fun h => h3 (List.mem_cons_of_mem _ (List.mem_append_right _ h))
    obtain ⟨e, h7⟩ := h.old j h5 h2
    refine ⟨(upd_ne _ _ h4).trans e, fun h => ?_⟩
    rcases List.mem_cons.1 h with h | h
    · exact h4 h
    · rcases List.mem_append.1 h with h | h
      · exact h7 h
      · exact h6 h
  · have h3 : j ∉ k :: (a'.ks ++ b.ks) := h1
    have h4 : j ≠ k := fun e => h3 (e ▸ List.mem_cons_self)
    have h5 : j ∉ a'.ks := fun h => h3 (List.mem_cons_of_mem _ (List.mem_append_left _ h))
    have h6 : j ∉ b.ks := fun h => h3 (List.mem_cons_of_mem _ (List.mem_append_right _ h))
    rw [upd_ne _ _ h4]
    refine h.out j h5 ?_
    rcases h2 with h2 | h2
    · rcases List.mem_cons.1 h2 with h2 | h2
      · exact absurd h2 h4
      · rcases List.mem_append.1 h2 with h2 | h2
        · exact .inl h2
        · exact absurd h2 h6
    · exact .inr h2
theorem Chg.right {s s' : Sto} {k n : Nat} {a b b' : T} (h : Chg s s' b b') (hs : Is s (.node k a b)) (hn : (T.node k a b).ks.Nodup) :
    Chg s (upd s' k (some (n, .pr a.lk b'.lk))) (.node k a b) (.node k a b') ∧ s' k = s k := by
  have hn' : (k :: (a.ks ++ b.ks)).Nodup := hn
  obtain ⟨hk, hab⟩ := List.nodup_cons.1 hn'
  obtain ⟨ha, hb, hd⟩ := List.nodup_append.1 hab
  have hka : k ∉ a.ks := fun h => hk (List.mem_append_left _ h)
  have hkb : k ∉ b.ks := fun h => hk (List.mem_append_right _ h)
  have hks : s k ≠ none := hs.dom k List.mem_cons_self
  obtain ⟨ek, hkb'⟩ := h.old k hkb hks
  have has : ∀ j ∈ a.ks, s' j = s j ∧ j ∉ b'.ks := fun j hj => h.old j (fun hj' => hd j hj j hj' rfl) (hs.2.1.dom j hj)
  refine ⟨⟨⟨⟨n, upd_at _ _ _⟩, ?_, ?_⟩, ?_, fun j h1 h2 => ?_, fun j h1 h2 => ?_⟩, ek⟩
  · exact hs.2.1.congr (fun j hj => (upd_ne s' (k := k) (j := j) _ (fun e => hka (e ▸ hj))).trans (has j hj).1)
  · exact h.is.congr (fun j hj => upd_ne _ _ (fun e => hkb' (e ▸ hj)))
  · show (k :: (a.ks ++ b'.ks)).Nodup
    refine List.nodup_cons.2 ⟨fun h => ?_, List.nodup_append.2 ⟨ha, h.nd, fun x hx y hy e => ?_⟩⟩
    · rcases List.mem_append.1 h with h | h
      · exact hka h
      · exact hkb' h
    · subst e; exact (has x hx).2 hy
  · have h3 : j ∉ k :: (a.ks ++ b.ks) := h1
    have h4 : j ≠ k := fun e => h3 (e ▸ List.mem_cons_self)
    have h5 : j ∉ a.ks := fun h => h3 (List.mem_cons_of_mem _ (List.mem_append_left _ h))
    have h6 : j ∉ b.ks := fun h => h3 (List.mem_cons_of_mem _ (List.mem_append_right _ h))
    obtain ⟨e, h7⟩ := h.old j h6 h2
    refine ⟨(upd_ne _ _ h4).trans e, fun h => ?_⟩
    rcases List.mem_cons.1 h with h | h
    · exact h4 h
    · rcases List.mem_append.1 h with h | h
      · exact h5 h
      · exact h7 h
  · have h3 : j ∉ k :: (a.ks ++ b'.ks) := h1
    have h4 : j ≠ k := fun e => h3 (e ▸ List.mem_cons_self)
    have h5 : j ∉ a.ks := fun h => h3 (List.mem_cons_of_mem _ (List.mem_append_left _ h))
    have h6 : j ∉ b'.ks := fun h => h3 (List.mem_cons_of_mem _ (List.mem_append_right _ h))
    rw [upd_ne _ _ h4]
    refine h.out j h6 ?_
    rcases h2 with h2 | h2
    · rcases List.mem_cons.1 h2 with h2 | h2
      · exact absurd h2 h4
      · rcases List.mem_append.1 h2 with h2 | h2
        · exact absurd h2 h5
        · exact .inl h2
    · exact .inr h2
end Tr
end Go.Proofs.YtfbhcbcpeocmcaaDoor
