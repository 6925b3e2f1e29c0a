/- even: contracts of the walk. even, of a tree: what stands in the node's place is balanced, and holds the same bits. A node more in a tree's store: how the memory must lie behind it. -/
import Derived.Test.YthbbokoeiifjdaaGreatDoorTra
import Derived.LoopTactic
import Derived.BigQuiet
import Derived.Deep.DeepCutAuto
import Derived.Maps.AppendAt
namespace Go.Proofs.YthbbokoeiifjdaaGreatDoor
open Go Go.RowKit Go.ChangeAt Tr

/-- Of a tree's state the arena, and the root, are as they were; at most c nodes more were looked at. -/
structure Sm (S S' : St) (c : Nat) : Prop where
  T : S'.T = S.T
  F : S'.F = S.F
  rt : S'.rt = S.rt
  vis : S'.vis ≤ S.vis + c
theorem Sm.refl (S : St) (c : Nat) : Sm S S c := ⟨rfl, rfl, rfl, by omega⟩
theorem Sm.trans {S S' S'' : St} {c d : Nat} (h : Sm S S' c) (h' : Sm S' S'' d) : Sm S S'' (c + d) := ⟨h'.T.trans h.T, h'.F.trans h.F, h'.rt.trans h.rt, by have := h.vis; have := h'.vis; omega⟩
end Go.Proofs.YthbbokoeiifjdaaGreatDoor
namespace Go.Proofs.YthbbokoeiifjdaaGreatDoor
open Go Go.RowKit Go.ChangeAt Tr

theorem Tr.nd_node {k : Nat} {a b : T} (h : (T.node k a b).ks.Nodup) : k ∉ a.ks ∧ k ∉ b.ks ∧ a.ks.Nodup ∧ b.ks.Nodup ∧ ∀ j ∈ a.ks, j ∉ b.ks := by
  have hn' : (k :: (a.ks ++ b.ks)).Nodup := h
  obtain ⟨hk, hab⟩ := List.nodup_cons.1 hn'
  obtain ⟨ha, hb, hd⟩ := List.nodup_append.1 hab
  exact ⟨fun h => hk (List.mem_append_left _ h), fun h => hk (List.mem_append_right _ h), ha, hb, fun j h1 h2 => hd j h1 j h2 rfl⟩
theorem Tr.Is.keep {s s' : Sto} {t : T} (h : Is s t) (hs : ∀ j ∈ t.ks, s' j = s j) : Is s' t := h.congr hs
/-- Not too great, of a tree. -/
theorem Tr.bd {N : Nat} {t : T} (h : t.bits.length ≤ N) (h2 : t.ht ≤ N) : Bd N t.lk :=
  ⟨by rw [T.lk_len]; exact h, Nat.le_trans T.full.ones (by rw [T.lk_len]; exact h), by rw [T.lk_ht]; exact h2⟩
theorem Tr.bd_node {N k : Nat} {a b : T} (h : Bd N (T.node k a b).lk) : Bd N a.lk ∧ Bd N b.lk := by
  have h1 : a.lk.len + b.lk.len ≤ N := h.len
  have h2 : a.lk.ones + b.lk.ones ≤ N := h.ones
  have h3 : 1 + max a.lk.ht b.lk.ht ≤ N := h.ht
  exact ⟨⟨by omega, by omega, by omega⟩, ⟨by omega, by omega, by omega⟩⟩
/-- What even makes of two sides. -/
structure Ev (a b t : T) : Prop where
  bits : t.bits = a.bits ++ b.bits
  bal : t.bal
  full : a.full → b.full → t.full
  lvs : t.lvs = a.lvs + b.lvs
  lo : max a.ht b.ht ≤ t.ht
  hi : t.ht ≤ 1 + max a.ht b.ht
  pos : 1 ≤ t.ht
  flat : a.ht ≤ b.ht + 1 → b.ht ≤ a.ht + 1 → t.ht = 1 + max a.ht b.ht
end Go.Proofs.YthbbokoeiifjdaaGreatDoor
namespace Go.Proofs.YthbbokoeiifjdaaGreatDoor
open Go Go.RowKit Go.ChangeAt Tr

theorem infoP : (Tryz.prog.info? 109).map (fun i => (i.zero, i.size, i.bytes)) = some (some (.pointer none), 1, 8) := by kernel_rfl
/-- How many nodes are taken. -/
def St.live (S : St) : Nat := S.T.length - S.F.length
theorem ptrs_len (s : Sto) (n : Nat) : (ptrs s n).length = n := by unfold ptrs; simp
theorem ptrs_set {s : Sto} {k n : Nat} {x : Nat × Nd} (hk : k < n) : (ptrs s n).set k (ptr (some x)) = ptrs (upd s k (some x)) n := by
  apply List.ext_getElem?
  intro j
  unfold ptrs
  rw [List.getElem?_set]
  by_cases hj : k = j
  · subst hj
    simp [hk, upd_at]
  · rw [if_neg hj, List.getElem?_map, List.getElem?_map]
    by_cases h2 : j < n
    · rw [List.getElem?_range h2]
      show some (ptr (s j)) = some (ptr (upd s k (some x) j))
      rw [upd_ne _ _ (fun e => hj e.symm)]
    · rw [List.getElem?_eq_none (by simp; omega)]
      rfl
theorem ptrs_none {s : Sto} {k n : Nat} (hk : k < n) : (ptrs s n).set k (.pointer none) = ptrs (upd s k none) n := by
  apply List.ext_getElem?
  intro j
  unfold ptrs
  rw [List.getElem?_set]
  by_cases hj : k = j
  · subst hj
    simp [hk, upd_at, ptr]
  · rw [if_neg hj, List.getElem?_map, List.getElem?_map]
    by_cases h2 : j < n
    · rw [List.getElem?_range h2]
      show some (ptr (s j)) = some (ptr (upd s k none j))
      rw [upd_ne _ _ (fun e => hj e.symm)]
    · rw [List.getElem?_eq_none (by simp; omega)]
      rfl
theorem ptrs_push {s : Sto} {n : Nat} (hn : s n = none) : ptrs s n ++ [.pointer none] = ptrs s (n + 1) := by
  unfold ptrs
  rw [List.range_succ, List.map_append]
  show _ = _ ++ [ptr (s n)]
  rw [hn]
  rfl
open Classical in
/-- A node was laid at number k. -/
theorem TMx.put {base : Nat} {w w' : World} {t g nb k c1 : Nat} {S : St} {a a1 : Option Addr} {c : Nat} {A' : Nat → Prop} {T' : List Bool} {F' : List Int} {Z : Nat → Prop} {d : Nd} (h : TMx base w t S (some g) a c)
    (hk : S.sto k = none) (hdom : ∀ j, T'.getD j false = if j = k then true else S.T.getD j false) (hsar : Ar.S 268435456 T' F')
    (hst : Stay Z w w') (hz : ∀ b, Z b → S.own b = some .tr ∨ S.own b = some .ar ∨ S.own b = some .li ∨ w.heap.size ≤ b)
    (hcells : w'.heap[t]? = some (.cells (trv (some ⟨g, 0, none⟩) a1 T'.length c1 S.rt S.vis) 108 (0, 0)))
    (har : ArM base 146 A' w' g 268435456 T' F') (hA : ∀ b, A' b → S.own b = some .ar ∨ w.heap.size ≤ b)
    (hrow : w'.ownsRow base 109 1 (.slice a1 T'.length c1) T'.length (ptrs (upd S.sto k (some (nb, d))) T'.length))
    (hrl : ∀ b, (Value.slice a1 T'.length c1).ownBlock = some b → (S.own b = some .li ∨ w.heap.size ≤ b) ∧ ¬ A' b)
    (hd : NdM w nb d) (hn0 : S.own nb = none) (hn1 : base ≤ nb) (hl0 : ∀ b l, d = .lf b l → S.own b = none ∧ base ≤ b ∧ b < w.heap.size) (hnb : nb < w.heap.size) :
    ∃ own', TM base w' t ⟨own', upd S.sto k (some (nb, d)), T', F', S.rt, S.vis⟩ ∧ ∀ b, own' b ≠ none → S.own b ≠ none ∨ w.heap.size ≤ b ∨ b = nb ∨ ∃ l, d = .lf b l := by
  have hne : ∀ b l, d = .lf b l → b ≠ nb := by
    rintro b l rfl rfl
    obtain ⟨⟨A, B, e⟩, _, x, y, e2, _⟩ := hd
    rw [e] at e2
    injection e2 with e2
    injection e2 with _ e2
    exact absurd e2 (by decide)
  have hAn : ∀ b, b < w.heap.size → S.own b = none → ¬ A' b := fun b h1 h2 h3 => by
    rcases hA b h3 with h4 | h4
    · rw [h2] at h4; cases h4
    · omega
  let own' : Nat → Option Who := fun b => if A' b then some .ar else if b = nb then some (.nd k) else if (∃ l, d = .lf b l) then some (.bk k) else if (Value.slice a1 T'.length c1).ownBlock = some b then some .li else S.own b
  have o_ar : ∀ b, A' b → own' b = some .ar := fun b h => if_pos h
  have o_nb : own' nb = some (.nd k) := (if_neg (hAn _ hnb hn0)).trans (if_pos rfl)
  have o_bk : ∀ b l, d = .lf b l → own' b = some (.bk k) := fun b l e => (if_neg (hAn _ (hl0 b l e).2.2 (hl0 b l e).1)).trans ((if_neg (hne b l e)).trans (if_pos ⟨l, e⟩))
  have o_li : ∀ b, (Value.slice a1 T'.length c1).ownBlock = some b → own' b = some .li := fun b e => by
    obtain ⟨h1, h2⟩ := hrl b e
    have h3 : b ≠ nb := fun e2 => by subst e2; rcases h1 with h1 | h1; (rw [hn0] at h1; cases h1); omega
    have h4 : ¬ ∃ l, d = .lf b l := fun ⟨l, e2⟩ => by rcases h1 with h1 | h1; (rw [(hl0 b l e2).1] at h1; cases h1); (have := (hl0 b l e2).2.2; omega)
    exact (if_neg h2).trans ((if_neg h3).trans ((if_neg h4).trans (if_pos e)))
  have o_old : ∀ b x, S.own b = some x → own' b = some x ∨ (x = .ar ∧ ¬ A' b) ∨ x = .li ∨ A' b := fun b x e => by
    by_cases h1 : A' b
    · exact .inr (.inr (.inr h1))
    · by_cases h2 : b = nb
      · subst h2; rw [hn0] at e; cases e
      · by_cases h3 : ∃ l, d = .lf b l
        · obtain ⟨l, e2⟩ := h3; rw [(hl0 b l e2).1] at e; cases e
        · by_cases h4 : (Value.slice a1 T'.length c1).ownBlock = some b
          · rcases (hrl b h4).1 with h5 | h5
            · rw [h5] at e; injection e with e; exact .inr (.inr (.inl e.symm))
            · have := (h.lab b x e).2; omega
          · exact .inl ((if_neg h1).trans ((if_neg h2).trans ((if_neg h3).trans ((if_neg h4).trans e))))
  have o_keep : ∀ b x, S.own b = some x → x ≠ .ar → x ≠ .li → own' b = some x := fun b x e h1 h2 => by
    rcases o_old b x e with h3 | h3 | h3 | h3
    · exact h3
    · exact absurd h3.1 h1
    · exact absurd h3 h2
    · rcases hA b h3 with h4 | h4
      · rw [h4] at e; injection e with e; exact absurd e.symm h1
      · have := (h.lab b x e).2; omega
  have hz' : ∀ b x, S.own b = some x → x ≠ .tr → x ≠ .ar → x ≠ .li → ¬ Z b := fun b x e h1 h2 h3 hb => by
    rcases hz b hb with h4 | h4 | h4 | h4
    · rw [h4] at e; injection e with e; exact h1 e.symm
    · rw [h4] at e; injection e with e; exact h2 e.symm
    · rw [h4] at e; injection e with e; exact h3 e.symm
    · have := (h.lab b x e).2; omega
  have hzn : ∀ b, b < w.heap.size → S.own b = none → ¬ Z b := fun b h1 h2 hb => by
    rcases hz b hb with h4 | h4 | h4 | h4
    · rw [h2] at h4; cases h4
    · rw [h2] at h4; cases h4
    · rw [h2] at h4; cases h4
    · omega
  have hlt := hrow.lt
  refine ⟨own', ⟨some g, a1, c1, fun b x e => ?_, o_keep _ _ h.ownt (fun h => by cases h) (fun h => by cases h), hcells, .inr ⟨g, rfl, ?_⟩, hrow, o_li, hsar, fun j => ?_, fun j m e he => ?_, fun j m b l he => ?_⟩, fun b hb => ?_⟩
  · have e' : own' b = some x := e
    by_cases h1 : A' b
    · exact har.lt b h1
    · by_cases h2 : b = nb
      · subst h2; exact ⟨hn1, Nat.lt_of_lt_of_le hnb hst.size⟩
      · by_cases h3 : ∃ l, d = .lf b l
        · obtain ⟨l, e2⟩ := h3
          exact ⟨(hl0 b l e2).2.1, Nat.lt_of_lt_of_le (hl0 b l e2).2.2 hst.size⟩
        · by_cases h4 : (Value.slice a1 T'.length c1).ownBlock = some b
          · exact hlt b h4
          · have e2 : own' b = S.own b := (if_neg h1).trans ((if_neg h2).trans ((if_neg h3).trans (if_neg h4)))
            rw [e2] at e'
            exact ⟨(h.lab b x e').1, Nat.lt_of_lt_of_le (h.lab b x e').2 hst.size⟩
  · have e : (fun b => own' b = some Who.ar) = fun b => A' b ∨ (S.own b = some .ar ∧ own' b = some .ar) := by
      funext b
      refine propext ⟨fun e => ?_, fun e => e.elim (o_ar b) (fun h => h.2)⟩
      by_cases h1 : A' b
      · exact .inl h1
      · refine .inr ⟨?_, e⟩
        by_cases h2 : b = nb
        · subst h2; rw [o_nb] at e; cases e
        · by_cases h3 : ∃ l, d = .lf b l
          · obtain ⟨l, e2⟩ := h3; rw [o_bk b l e2] at e; cases e
          · by_cases h4 : (Value.slice a1 T'.length c1).ownBlock = some b
            · rw [o_li b h4] at e; cases e
            · have e2 : own' b = S.own b := (if_neg h1).trans ((if_neg h2).trans ((if_neg h3).trans (if_neg h4)))
              rw [← e2]; exact e
    show ArM base _ (fun b => own' b = some Who.ar) w' g 268435456 T' F'
    rw [e]
    obtain ⟨h1, h2, a', c', a2, c2, h3, h4, h5, h6, h7⟩ := har
    refine ⟨.inl h1, fun b hb => ?_, a', c', a2, c2, h3, h4, h5, fun b hb => .inl (h6 b hb), fun b hb => .inl (h7 b hb)⟩
    rcases hb with hb | hb
    · exact h2 b hb
    · exact ⟨(h.lab b _ hb.1).1, Nat.lt_of_lt_of_le (h.lab b _ hb.1).2 hst.size⟩
  · show upd S.sto k (some (nb, d)) j = none ↔ T'.getD j false = false
    rw [hdom j]
    by_cases hj : j = k
    · subst hj; rw [upd_at, if_pos rfl]; simp
    · rw [upd_ne _ _ hj, if_neg hj]; exact h.dom j
  · have he' : upd S.sto k (some (nb, d)) j = some (m, e) := he
    by_cases hj : j = k
    · subst hj
      rw [upd_at] at he'
      injection he' with he'
      injection he' with e1 e2
      subst e1 e2
      exact ⟨o_nb, hd.stay hst (hzn _ hnb hn0) (fun b l e2 => hzn _ (hl0 b l e2).2.2 (hl0 b l e2).1)⟩
    · rw [upd_ne _ _ hj] at he'
      obtain ⟨h1, h2⟩ := h.nds j m e he'
      refine ⟨o_keep _ _ h1 (fun h => by cases h) (fun h => by cases h), h2.stay hst (hz' _ _ h1 (fun h => by cases h) (fun h => by cases h) (fun h => by cases h)) (fun b l e2 => hz' _ _ (h.bks j m b l (e2 ▸ he')) (fun h => by cases h) (fun h => by cases h) (fun h => by cases h))⟩
  · have he' : upd S.sto k (some (nb, d)) j = some (m, .lf b l) := he
    by_cases hj : j = k
    · subst hj
      rw [upd_at] at he'
      injection he' with he'
      injection he' with e1 e2
      exact o_bk b l e2
    · rw [upd_ne _ _ hj] at he'
      exact o_keep _ _ (h.bks j m b l he') (fun h => by cases h) (fun h => by cases h)
  · by_cases h1 : A' b
    · rcases hA b h1 with h2 | h2
      · exact .inl (by rw [h2]; exact fun h => by cases h)
      · exact .inr (.inl h2)
    · by_cases h2 : b = nb
      · exact .inr (.inr (.inl h2))
      · by_cases h3 : ∃ l, d = .lf b l
        · exact .inr (.inr (.inr h3))
        · by_cases h4 : (Value.slice a1 T'.length c1).ownBlock = some b
          · rcases (hrl b h4).1 with h5 | h5
            · exact .inl (by rw [h5]; exact fun h => by cases h)
            · exact .inr (.inl h5)
          · have e2 : own' b = S.own b := (if_neg h1).trans ((if_neg h2).trans ((if_neg h3).trans (if_neg h4)))
            rw [← e2]; exact .inl hb
end Go.Proofs.YthbbokoeiifjdaaGreatDoor
