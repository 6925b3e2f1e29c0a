/- Readers of a wave's nodes: in memory, made, and read on. A reader's next symbol; All of a wave. All of a wave. -/
import Derived.Test.YthbbokoeiifjdaaGreatDoorWad
namespace Go.Proofs.YthbbokoeiifjdaaGreatDoor
open Go Go.RowKit Go.ChangeAt Tr Wk

/-- A slice of bools, as it is read, in a block of bools. -/
def RdT (w : World) (v : Value) (l : List Bool) : Prop := RdB w v l ∧ ∀ b off n cap, v = .slice (some ⟨b, off, none⟩) n cap → ∃ cur f, w.heap[b]? = some (.cells cur 4 f)
abbrev rdc (v : Value) (x y : Option Nat) : Obj := .cells #[v, pn x, pn y] 120 (0, 0)
theorem RdB.stay' {w w' : World} {Z : Nat → Prop} {v : Value} {l : List Bool} (h : RdB w v l) (hb : Stay Z w w') (hz : ∀ b off n cap, v = .slice (some ⟨b, off, none⟩) n cap → ¬ Z b) : RdB w' v l := by
  rcases h with ⟨h1, h2⟩ | ⟨b, off, cap, rfl, hbl, hc, hm, hcell⟩
  · exact .inl ⟨h1, h2⟩
  · exact .inr ⟨b, off, cap, rfl, Nat.lt_of_lt_of_le hbl hb.size, hc, hm, fun i hi => (hb.cell (p := ⟨b, off + i, none⟩) hbl (hz b off _ cap rfl)).trans (hcell i hi)⟩
theorem RdT.stay {w w' : World} {Z : Nat → Prop} {v : Value} {l : List Bool} (h : RdT w v l) (hb : Stay Z w w') (hz : ∀ b cur f, w.heap[b]? = some (.cells cur 4 f) → ¬ Z b) : RdT w' v l :=
  ⟨h.1.stay' hb (fun b off n cap e => by obtain ⟨cur, f, hc⟩ := h.2 b off n cap e; exact hz b cur f hc), fun b off n cap e => by
    obtain ⟨cur, f, hc⟩ := h.2 b off n cap e
    exact ⟨cur, f, hb.kept hc (hz b cur f hc)⟩⟩
theorem RdT.own {base : Nat} {w : World} {v : Value} {l : List Bool} (h : OwnB base w v l) : RdT w v l := by
  refine ⟨h.rd, fun b off n cap e => ?_⟩
  rcases h.2 with ⟨hv, h0⟩ | ⟨g, cap', cur, hv, hb, hg, _⟩
  · rw [hv] at e; cases e
  · rw [hv] at e
    have : g = b := by
      injection e with e1 _ _
      injection e1 with e1
      injection e1
    subst this
    exact ⟨cur, _, hg⟩
/-- Readers by the keys of their nodes; what each has still to tell. -/
structure Rds (w : World) (R L : Lks) (q : Nat → List Bool) : Prop where
  node : ∀ k b, R k = some b → ∃ v, w.heap[b]? = some (rdc v (L (2 * k)) (L (2 * k + 1))) ∧ RdT w v (q k)
  inj : ∀ k j b, R k = some b → R j = some b → k = j
theorem Rds.stay {w w' : World} {R L : Lks} {q : Nat → List Bool} {Z : Nat → Prop} (h : Rds w R L q) (hb : Stay Z w w') (hz : ∀ b, (∃ c f, w.heap[b]? = some (.cells c 4 f)) ∨ (∃ c f, w.heap[b]? = some (.cells c 120 f)) → ¬ Z b) : Rds w' R L q :=
  ⟨fun k b hk => by
    obtain ⟨v, hc, hr⟩ := h.node k b hk
    exact ⟨v, hb.kept hc (hz b (.inr ⟨_, _, hc⟩)), hr.stay hb (fun b cur f hc => hz b (.inl ⟨cur, f, hc⟩))⟩, h.inj⟩
theorem Rds.below {w w' : World} {R L : Lks} {q : Nat → List Bool} (h : Rds w R L q) (hb : Below w.heap.size w w') : Rds w' R L q := h.stay (Stay.of_below (S := fun _ => False) hb) (fun _ _ e => e)
theorem Rds.drewN {w : World} {R L : Lks} {q : Nat → List Bool} (h : Rds w R L q) (n : Nat) : Rds (w.drewN n) R L q := h.below ((Below.refl _ _).drewN n)
theorem Rds.lt {w : World} {R L : Lks} {q : Nat → List Bool} (h : Rds w R L q) {k b : Nat} (hk : R k = some b) : b < w.heap.size := by
  obtain ⟨v, hc, _⟩ := h.node k b hk
  exact lt_of_block hc
theorem block_type {w : World} {b : Nat} {c c' : Array Value} {t t' : TypeId} {f f' : Nat × Nat} (h : w.heap[b]? = some (.cells c t f)) (h' : w.heap[b]? = some (.cells c' t' f')) : t = t' := by
  rw [h] at h'
  injection h' with h'
  injection h'
theorem Rds.link {w : World} {R L : Lks} {q : Nat → List Bool} {k b i : Nat} (h : Rds w R L q) (hk : R k = some b) (hi : i ≤ 1) (x : Option Nat) : Rds (w.setCell ⟨b, i + 1, none⟩ (pn x)) R (L.put (2 * k + i) x) q := by
  have hst : Stay (· = b) w (w.setCell ⟨b, i + 1, none⟩ (pn x)) := Stay.setCell (S := (· = b)) (Stay.refl _ _) (p := ⟨b, i + 1, none⟩) (.inr rfl) _
  obtain ⟨v0, hc0, _⟩ := h.node k b hk
  have hbz : ∀ b' cur f, w.heap[b']? = some (.cells cur 4 f) → ¬ b' = b := fun b' cur f hb' e => by subst e; exact absurd (block_type hb' hc0) (by decide)
  refine ⟨fun j c hj => ?_, h.inj⟩
  obtain ⟨v, hc, hr⟩ := h.node j c hj
  refine ⟨v, ?_, hr.stay hst hbz⟩
  by_cases e1 : c = b
  · subst e1
    obtain rfl := h.inj j k c hj hk
    rw [set_of hc]
    rcases Nat.le_one_iff_eq_zero_or_eq_one.1 hi with rfl | rfl
    · show some (rdc v x (L (2 * j + 1))) = some (rdc v (L.put (2 * j) x (2 * j)) (L.put (2 * j) x (2 * j + 1)))
      rw [Lks.put_at, Lks.put_ne _ _ (by omega)]
    · show some (rdc v (L (2 * j)) x) = some (rdc v (L.put (2 * j + 1) x (2 * j)) (L.put (2 * j + 1) x (2 * j + 1)))
      rw [Lks.put_at, Lks.put_ne _ _ (by omega)]
  · have hne : j ≠ k := fun h2 => by subst h2; rw [hj] at hk; injection hk with hk; exact e1 hk
    rw [Lks.put_ne _ _ (by omega), Lks.put_ne _ _ (by omega)]
    exact hst.kept hc e1
/-- What a reader is made of: the node k and all below it. -/
structure RBlt (m : List Int) (w w' : World) (k : Nat) (R L R' L' : Lks) : Prop where
  rds : Rds w' R' L' (Wk.wb m)
  out : ∀ j, ¬ Und k j → R' j = R j ∧ L' j = L j
  at' : L' k = L k
  lnk : ∀ j, Und k j → j ≠ k → L' j = R' j
  des : ∀ j, Und k j → (R' j = none ↔ Wk.wq m j = none) ∧ ∀ b, R' j = some b → w.heap.size ≤ b
  below : Below w.heap.size w w'
  zero : R' 0 = none
theorem RBlt.none {m : List Int} (hg : Wv.Good m) {w : World} {k : Nat} {R L : Lks} (h : Rds w R L (Wk.wb m)) (h0 : R 0 = none) (hk : 1 ≤ k) (hu : ∀ j, Und k j → R j = none ∧ L j = none) (hq : Wk.wq m k = none) : RBlt m w w k R L R L :=
  ⟨h, fun _ _ => ⟨rfl, rfl⟩, rfl, fun j hj _ => by rw [(hu j hj).1, (hu j hj).2], fun j hj => ⟨⟨fun _ => und_none hg hk hq hj, fun _ => (hu j hj).1⟩, fun b hb => by rw [(hu j hj).1] at hb; cases hb⟩, Below.refl _ _, h0⟩
structure RStg (m : List Int) (w wr : World) (k b c : Nat) (R L R' L' : Lks) : Prop where
  rds : Rds wr R' L' (Wk.wb m)
  out : ∀ j, ¬ Und k j → R' j = R j ∧ L' j = L j
  here : R' k = some b
  at' : L' k = L k
  has : Wk.wq m k ≠ none
  done : ∀ i j, i < c → i ≤ 1 → Und (2 * k + i) j → L' j = R' j ∧ (R' j = none ↔ Wk.wq m j = none) ∧ ∀ b, R' j = some b → w.heap.size ≤ b
  todo : ∀ i j, c ≤ i → i ≤ 1 → Und (2 * k + i) j → R' j = none ∧ L' j = none
  below : Below w.heap.size w wr
  new : w.heap.size ≤ b
  zero : R' 0 = none
/-- The pointers are where the readers are. -/
theorem Rds.relink {w : World} {R L : Lks} {q : Nat → List Bool} (h : Rds w R L q) (h0 : R 0 = none) (hL : ∀ j, 2 ≤ j → L j = R j) : Rds w R R q :=
  ⟨fun k b hk => by
    obtain ⟨v, hc, hr⟩ := h.node k b hk
    have : 1 ≤ k := Nat.pos_of_ne_zero fun e => by subst e; rw [h0] at hk; cases hk
    exact ⟨v, by rw [← hL _ (by omega), ← hL _ (by omega)]; exact hc, hr⟩, h.inj⟩
theorem RStg.drewN {m : List Int} {w wr : World} {k b c : Nat} {R L R' L' : Lks} (h : RStg m w wr k b c R L R' L') (n : Nat) : RStg m w (wr.drewN n) k b c R L R' L' :=
  ⟨h.rds.drewN n, h.out, h.here, h.at', h.has, h.done, h.todo, h.below.drewN n, h.new, h.zero⟩
theorem RStg.start {m : List Int} {w w1 w2 : World} {k b : Nat} {R L : Lks} {v : Value} (h : Rds w R L (Wk.wb m)) (h0 : R 0 = none) (hk : 1 ≤ k) (hu : ∀ j, Und k j → R j = none ∧ L j = none) (hb : Below w.heap.size w w1) (hb2 : Below w1.heap.size w1 w2) (hc : w2.heap[b]? = some (rdc v none none)) (hlo : w1.heap.size ≤ b) (hv : RdT w2 v (Wk.wb m k)) (hq : Wk.wq m k ≠ none) :
    RStg m w w2 k b 0 R L (R.put k (some b)) L := by
  have hne : ∀ j, ¬ Und k j → j ≠ k := fun j hj e => hj (e ▸ Und.self k)
  have hz := hb.size
  have h2 : Rds w2 R L (Wk.wb m) := h.below (hb.trans (hb2.mono hz))
  refine ⟨⟨fun j c hj => ?_, fun i j c hi hj => ?_⟩, fun j hj => ⟨Lks.put_ne _ _ (hne j hj), rfl⟩, Lks.put_at _ _ _, rfl, hq, fun i j hi => absurd hi (Nat.not_lt_zero _), fun i j _ hi hj => ?_, hb.trans (hb2.mono hz), Nat.le_trans hz hlo, by rw [Lks.put_ne _ _ (by omega)]; exact h0⟩
  · by_cases e1 : j = k
    · subst e1
      rw [Lks.put_at] at hj
      injection hj with hj
      subst hj
      have e20 : L (2 * j) = none := (hu (2 * j) (Und.child (i := 0) (by omega) (Und.self _))).2
      have e21 : L (2 * j + 1) = none := (hu (2 * j + 1) (Und.child (i := 1) (by omega) (Und.self _))).2
      rw [e20, e21]
      exact ⟨v, hc, hv⟩
    · rw [Lks.put_ne _ _ e1] at hj
      exact h2.node j c hj
  · by_cases e1 : i = k
    · subst e1
      rw [Lks.put_at] at hi
      injection hi with hi
      subst hi
      by_cases e2 : j = i
      · exact e2.symm
      · rw [Lks.put_ne _ _ e2] at hj
        have := h.lt hj; omega
    · rw [Lks.put_ne _ _ e1] at hi
      by_cases e2 : j = k
      · subst e2
        rw [Lks.put_at] at hj
        injection hj with hj
        subst hj
        have := h.lt hi; omega
      · rw [Lks.put_ne _ _ e2] at hj
        exact h.inj i j c hi hj
  · have h3 : j ≠ k := fun e => by subst e; exact Und.not_up hk hj
    rw [Lks.put_ne _ _ h3]
    exact hu j (hj.child hi)
theorem RStg.next {m : List Int} {w wr w1 : World} {k b c : Nat} {R L R' L' R2 L2 : Lks} (h : RStg m w wr k b c R L R' L') (hk : 1 ≤ k) (hc : c ≤ 1) (hb : RBlt m wr w1 (2 * k + c) R' L' R2 L2) :
    RStg m w (w1.setCell ⟨b, c + 1, none⟩ (pn (R2 (2 * k + c)))) k b (c + 1) R L R2 (L2.put (2 * k + c) (R2 (2 * k + c))) := by
  have hok := hb.out k (Und.not_up hk)
  have hbk : R2 k = some b := hok.1.trans h.here
  have hput : ∀ j, j ≠ 2 * k + c → (L2.put (2 * k + c) (R2 (2 * k + c))) j = L2 j := fun j hj => Lks.put_ne _ _ hj
  have hoth : ∀ i j, i ≤ 1 → i ≠ c → Und (2 * k + i) j → ¬ Und (2 * k + c) j := fun i j hi hne hj hj2 => by
    rcases Nat.le_one_iff_eq_zero_or_eq_one.1 hi with rfl | rfl <;> rcases Nat.le_one_iff_eq_zero_or_eq_one.1 hc with rfl | rfl
    · exact hne rfl
    · exact Und.apart hk hj hj2
    · exact Und.apart hk hj2 hj
    · exact hne rfl
  have hst : Stay (· = b) w1 (w1.setCell ⟨b, c + 1, none⟩ (pn (R2 (2 * k + c)))) := Stay.setCell (S := (· = b)) (Stay.refl _ _) (p := ⟨b, c + 1, none⟩) (.inr rfl) _
  refine ⟨hb.rds.link hbk hc _, fun j hj => ?_, hbk, ?_, h.has, fun i j hi hi1 hj => ?_, fun i j hi hi1 hj => ?_, ?_, h.new, hb.zero⟩
  · have h1 : ¬ Und (2 * k + c) j := fun e => hj (e.child hc)
    obtain ⟨q1, q2⟩ := hb.out j h1
    obtain ⟨r1, r2⟩ := h.out j hj
    exact ⟨q1.trans r1, (hput j (fun e => h1 (e ▸ Und.self _))).trans (q2.trans r2)⟩
  · rw [hput k (by omega)]; exact hok.2.trans h.at'
  · by_cases e : i = c
    · subst e
      refine ⟨?_, (hb.des j hj).1, fun b' hb' => Nat.le_trans h.below.size ((hb.des j hj).2 b' hb')⟩
      by_cases e2 : j = 2 * k + i
      · subst e2; exact Lks.put_at _ _ _
      · rw [hput j e2]; exact hb.lnk j hj e2
    · have h1 := hoth i j hi1 e hj
      obtain ⟨q1, q2⟩ := hb.out j h1
      obtain ⟨r1, r2⟩ := h.done i j (by omega) hi1 hj
      rw [hput j (fun e => h1 (e ▸ Und.self _)), q1, q2]
      exact ⟨r1, r2⟩
  · have h1 := hoth i j hi1 (by omega) hj
    obtain ⟨q1, q2⟩ := hb.out j h1
    obtain ⟨r1, r2⟩ := h.todo i j (by omega) hi1 hj
    rw [hput j (fun e => h1 (e ▸ Und.self _)), q1, q2]
    exact ⟨r1, r2⟩
  · have hz := h.below.size
    have hz1 := hb.below.size
    exact (h.below.trans (hb.below.mono hz)).trans (hst.below (by omega) (fun i _ e => by subst e; exact h.new))
theorem RStg.done2 {m : List Int} {w wr : World} {k b : Nat} {R L R' L' : Lks} (h : RStg m w wr k b 2 R L R' L') : RBlt m w wr k R L R' L' := by
  refine ⟨h.rds, h.out, h.at', fun j hj hne => ?_, fun j hj => ?_, h.below, h.zero⟩
  · rcases hj.split with e | e | e
    · exact absurd e hne
    · exact (h.done 0 j (by omega) (by omega) e).1
    · exact (h.done 1 j (by omega) (by omega) e).1
  · rcases hj.split with e | e | e
    · subst e
      rw [h.here]
      exact ⟨⟨fun e => (by cases e), fun e => absurd e h.has⟩, fun b' hb' => by injection hb' with hb'; exact hb' ▸ h.new⟩
    · exact (h.done 0 j (by omega) (by omega) e).2
    · exact (h.done 1 j (by omega) (by omega) e).2
set_option maxHeartbeats 3200000 in
set_option maxRecDepth 100000 in
theorem wreader {w0 : World} {x : Wx} {m : List Int} (h0 : Wav w0 x m) (hm : m.length ≤ 1000000) : ∀ (d k : Nat), Wk.lev k + d = 9 → 1 ≤ k → ∀ (w : World) (R L : Lks), Below w0.heap.size w0 w → Rds w R L (Wk.wb m) → R 0 = none → (∀ j, Und k j → R j = none ∧ L j = none) →
    Calls Tryz.prog 59 #[.pointer (pp (x.N k))] w fun e w' => ∃ R' L', e = .returned (.pointer (pp (R' k))) ∧ RBlt m w w' k R L R' L'
  | d, k, he, hk, w, R, L, hbw, hR, hz, hu => by
    cases hN : x.N k with
    | none =>
      have hq : Wk.wq m k = none := by
        have := h0.des k
        rw [h0.web.nods.dom k hN] at this
        exact this.symm
      have hbl := Lib.hid (RBlt.none h0.good hR hz hk hu hq)
      have hk0 := Lib.hid (hu k (Und.self k)).1
      have h1 : pp none = none := rfl
      rw [h1]
      clear hR hu hbw h0 hN hq hz
      go_enter Tryz.func59, Tryz.ntmps59
      go_wp2_with fail
      go_ret
      exact ⟨R, L, by rw [hk0.out]; rfl, hbl.out⟩
    | some b =>
      have h1 : pp (some b) = some ⟨b, 0, none⟩ := rfl
      rw [h1]
      have hw := h0.below hbw
      obtain ⟨e0, he0, nd⟩ := hw.web.nods.at hN
      obtain ⟨hr5, hm0, hne⟩ := hw.in_rng he0
      have hl8 := Wk.lev_le hr5.1 hr5.2
      obtain ⟨d', rfl⟩ : ∃ d', d = d' + 1 := ⟨d - 1, by omega⟩
      have hml := Wk.wb_len m k
      rw [← hm0] at hml
      have hcl := Wk.lev_child (i := 0) hk (by omega)
      have hcl1 := Wk.lev_child (i := 1) hk (by omega)
      have ih0 := wreader h0 hm d' (2 * k) (by have := hcl.1; simp only [Nat.add_zero] at this; omega) (by omega)
      have ih1 := wreader h0 hm d' (2 * k + 1) (by have := hcl1.1; omega) (by omega)
      have c0 := nd.c0
      have keyA := tall w nd.tre (by omega)
      have hq : Wk.wq m k ≠ none := by rw [Wk.wq_in m hr5, ← hm0, Wk.ob_some hne]; exact fun h => by cases h
      rw [hm0] at keyA
      have HH := Lib.hid h0
      have HBW := Lib.hid hbw
      have HR := Lib.hid hR
      have HZ := Lib.hid hz
      have HU := Lib.hid hu
      have HNK := Lib.hid hN
      have HQ := Lib.hid hq
      have HI0 := Lib.hid ih0
      have HI1 := Lib.hid ih1
      obtain ⟨x0, hx0⟩ : ∃ z, x.N (2 * k) = z := ⟨_, rfl⟩
      obtain ⟨x1, hx1⟩ : ∃ z, x.N (2 * k + 1) = z := ⟨_, rfl⟩
      rw [hx0] at HI0
      rw [hx1] at HI1
      have hnc := hw.web.nods.node k b hN
      rw [hx0, hx1] at hnc
      have HC : Hid (∀ w', Below w.heap.size w w' → w'.cell? ⟨b, 1, none⟩ = some (.pointer (pp x0)) ∧ w'.cell? ⟨b, 2, none⟩ = some (.pointer (pp x1))) := Lib.hid (fun w' hb' => by
        obtain ⟨e, _, hc⟩ := hnc
        have hc' := Below.keptB hb' hc (lt_of_block hc)
        exact ⟨(cell_of hc').trans rfl, (cell_of hc').trans rfl⟩)
      clear h0 hw hbw hR hz hu he0 nd hr5 hm0 hne hml hcl hcl1 ih0 ih1 hq hN hnc hx0 hx1
      go_enter Tryz.func59, Tryz.ntmps59
      go_wp2_with fail
      (with_reducible refine keyA.mono ?_); rintro e w1 ⟨v, rfl, hown, hb1⟩
      obtain ⟨av, cv, rfl, _, _⟩ := own_form hown
      have hrt := RdT.own hown
      obtain ⟨lv, hlv⟩ : ∃ z, (Wk.wb m k).length = z := ⟨_, rfl⟩
      rw [hlv] at hrt ⊢
      have hb2 : Below w1.heap.size w1 (w1.alloc (.cells #[.slice av lv cv, .pointer none, .pointer none] 120)) := Below.allocs (Below.refl _ _) _
      obtain ⟨q1, q2⟩ := HC.out _ (hb1.trans (hb2.mono hb1.size))
      have hst := RStg.start (b := w1.heap.size) HR.out HZ.out hk HU.out hb1 hb2 alloc_of (Nat.le_refl _) (hrt.stay (Stay.of_below (S := fun _ => False) hb2) (fun _ _ _ _ e => e)) HQ.out
      have HST := Lib.hid hst
      have HBA := Lib.hid (HBW.out.trans ((hb1.trans (hb2.mono hb1.size)).mono HBW.out.size))
      clear hown hrt hb1 hst keyA c0
      go_wp2_with fail
      go_loopg [19] 2 (fun g s19 wx => ∃ (c : Nat) (R' L' : Lks), g = 2 - c ∧ c ≤ 2 ∧ s19 = .int .i64 c ∧ RStg m w wx k w1.heap.size c R L R' L')
      case atStart => exact ⟨0, _, _, rfl, by omega, rfl, HST.out⟩
      case round =>
        clear HST q1 q2
        obtain ⟨c, R', L', rfl, hc2, rfl, hSt⟩ := hrel
        match c, hc2 with
        | 0, _ =>
          have key := HI0.out wr.drew R' L' (Below.drews (HBW.out.trans (hSt.below.mono HBW.out.size))) (hSt.rds.drewN 1) hSt.zero (fun j hj => hSt.todo 0 j (Nat.le_refl _) (by omega) hj)
          have HS := Lib.hid (hSt.drewN 1)
          have xi : ∀ w, (Instr.index 78 (.agg #[.pointer (pp x0), .pointer (pp x1)]) (.int .i64 0)).run Tryz.prog w = .ok (.pointer (pp x0)) w := fun _ => by kernel_rfl
          clear hSt
          go_wp2_with fail
          go_region_law (first
            | (go_simp; (go_at_call 59; (with_reducible refine key.mono ?_); rintro e w10 ⟨R2, L2, rfl, hB2⟩; (have hk2 := (hB2.out k (Und.not_up (i := 0) hk)).1.trans HS.out.here); (obtain ⟨v9, hc9, _⟩ := hB2.rds.node k _ hk2); (have q9 : w10.cell? ⟨w1.heap.size, 1, none⟩ = _ := (cell_of hc9).trans rfl); (have qf9 : w10.frozen? ⟨w1.heap.size, 1, none⟩ = false := free_of hc9); (have HB2 := Lib.hid hB2); clear hB2 hc9)))
          all_goals
            go_wp2_with fail
            go_roundg (1 - 0)
            case measure => omega
            case rel => exact ⟨0 + 1, _, _, rfl, by omega, rfl, HS.out.next hk (by omega) HB2.out⟩
        | 1, _ =>
          have key := HI1.out wr.drew R' L' (Below.drews (HBW.out.trans (hSt.below.mono HBW.out.size))) (hSt.rds.drewN 1) hSt.zero (fun j hj => hSt.todo 1 j (Nat.le_refl _) (by omega) hj)
          have HS := Lib.hid (hSt.drewN 1)
          have xi : ∀ w, (Instr.index 78 (.agg #[.pointer (pp x0), .pointer (pp x1)]) (.int .i64 1)).run Tryz.prog w = .ok (.pointer (pp x1)) w := fun _ => by kernel_rfl
          clear hSt
          go_wp2_with fail
          go_region_law (first
            | (go_simp; (go_at_call 59; (with_reducible refine key.mono ?_); rintro e w10 ⟨R2, L2, rfl, hB2⟩; (have hk2 := (hB2.out k (Und.not_up (i := 1) hk)).1.trans HS.out.here); (obtain ⟨v9, hc9, _⟩ := hB2.rds.node k _ hk2); (have q9 : w10.cell? ⟨w1.heap.size, 2, none⟩ = _ := (cell_of hc9).trans rfl); (have qf9 : w10.frozen? ⟨w1.heap.size, 2, none⟩ = false := free_of hc9); (have HB2 := Lib.hid hB2); clear hB2 hc9)))
          all_goals
            go_wp2_with fail
            go_roundg (1 - 1)
            case measure => omega
            case rel => exact ⟨1 + 1, _, _, rfl, by omega, rfl, HS.out.next hk (by omega) HB2.out⟩
        | 2, _ =>
          have HS := Lib.hid hSt
          clear hSt
          go_wp2_with fail
          go_ret
          exact ⟨R', L', by rw [HS.out.here]; rfl, HS.out.done2⟩
end Go.Proofs.YthbbokoeiifjdaaGreatDoor
namespace Go.Proofs.YthbbokoeiifjdaaGreatDoor
open Go Go.RowKit Go.ChangeAt Tr Wk

/-- What the node j has still to tell when n symbols are told, and the levels above v of the next one. -/
def rem (m : List Int) (n v j : Nat) : List Bool := (Wk.wb m j).drop (Wv.pos m (Wk.lev j) (Wk.pth j : Int) (if Wk.lev j < v then n + 1 else n))
theorem Rds.same {w : World} {R L : Lks} {q q' : Nat → List Bool} (h : Rds w R L q) (hq : ∀ k b, R k = some b → q k = q' k) : Rds w R L q' :=
  ⟨fun k b hk => by
    obtain ⟨v, hc, hr⟩ := h.node k b hk
    exact ⟨v, hc, hq k b hk ▸ hr⟩, h.inj⟩
theorem Rds.eat {w : World} {R L : Lks} {q q' : Nat → List Bool} {k b : Nat} {v' : Value} (h : Rds w R L q) (hk : R k = some b) (hv : RdT w v' (q' k)) (hq : ∀ j c, j ≠ k → R j = some c → q' j = q j) : Rds (w.setCell ⟨b, 0, none⟩ v') R L q' := by
  have hst : Stay (· = b) w (w.setCell ⟨b, 0, none⟩ v') := Stay.setCell (S := (· = b)) (Stay.refl _ _) (p := ⟨b, 0, none⟩) (.inr rfl) _
  obtain ⟨v0, hc0, _⟩ := h.node k b hk
  have hbz : ∀ b' cur f, w.heap[b']? = some (.cells cur 4 f) → ¬ b' = b := fun b' cur f hb' e => by subst e; exact absurd (block_type hb' hc0) (by decide)
  refine ⟨fun j c hj => ?_, h.inj⟩
  obtain ⟨v, hc, hr⟩ := h.node j c hj
  by_cases e1 : c = b
  · subst e1
    obtain rfl := h.inj j k c hj hk
    exact ⟨v', by rw [set_of hc]; rfl, hv.stay hst hbz⟩
  · have hne : j ≠ k := fun h2 => by subst h2; rw [hj] at hk; injection hk with hk; exact e1 hk
    exact ⟨v, hst.kept hc e1, by rw [hq j c hne hj]; exact hr.stay hst hbz⟩
theorem rem_next {m : List Int} {n : Nat} (hn : n < m.length) {v j : Nat} (hj : 1 ≤ j) (hne : j ≠ Wk.key (m.getD n 0) v) : rem m n (v + 1) j = rem m n v j := by
  unfold rem
  congr 1
  by_cases h1 : Wk.lev j < v
  · rw [if_pos h1, if_pos (by omega)]
  · rw [if_neg h1]
    by_cases h2 : Wk.lev j < v + 1
    · rw [if_pos h2, Wv.pos_succ _ _ hn, if_neg (fun e => hne ?_)]
      · rfl
      · obtain ⟨h3, _⟩ := Wk.of_lev hj
        have h4 : Wk.lev j = v := by omega
        unfold Wk.key
        rw [← h4, e]
        omega
    · rw [if_neg h2]
theorem rem_nine {m : List Int} {n j : Nat} (hj : Wk.lev j ≤ 8) : rem m n 9 j = rem m (n + 1) 0 j := by
  unfold rem
  rw [if_pos (by omega), if_neg (Nat.not_lt_zero _)]
/-- A slice of bools without the first one. -/
theorem RdT.tail {w : World} {b off L cap : Nat} {l : List Bool} {x : Bool} (h : RdT w (.slice (some ⟨b, off, none⟩) L cap) (x :: l)) : RdT w (.slice (if cap = 1 then some ⟨b, off, none⟩ else some ⟨b, off + 1, none⟩) (L - 1) (cap - 1)) l := by
  obtain ⟨h1, h2⟩ := h
  rcases h1 with ⟨h1, _⟩ | ⟨b', off', cap', h1, hbl, hc, hm, hcell⟩
  · cases h1
  · simp only [Value.slice.injEq, Option.some.injEq, Addr.mk.injEq, and_true] at h1
    obtain ⟨⟨rfl, rfl⟩, rfl, rfl⟩ := h1
    have hl : (x :: l).length = l.length + 1 := rfl
    rw [hl] at hc ⊢
    by_cases h3 : cap = 1
    · subst h3
      rw [if_pos rfl]
      exact ⟨.inr ⟨b, off, 0, rfl, hbl, by omega, by omega, fun i hi => by omega⟩, fun b2 off2 n2 c2 e => h2 b2 off2 _ 1 (by injection e with e1 _ _; rw [e1])⟩
    · rw [if_neg h3]
      refine ⟨.inr ⟨b, off + 1, cap - 1, rfl, hbl, by omega, by omega, fun i hi => ?_⟩, fun b2 off2 n2 c2 e => ?_⟩
      · have := hcell (i + 1) (by rw [hl]; omega)
        rw [show off + 1 + i = off + (i + 1) by omega, this]
        rfl
      · have e1 : b = b2 := by
          injection e with e1 _ _
          injection e1 with e1
          injection e1
        subst e1
        exact h2 b off _ cap rfl
set_option maxHeartbeats 3200000 in
set_option maxRecDepth 100000 in
theorem wnext {m : List Int} (hg : Wv.Good m) (_ : m.length ≤ 1000000) {w : World} {R : Lks} {n : Nat} (hn : n < m.length) (hR : Rds w R R (rem m n 0)) (hz : R 0 = none) (hex : ∀ k, 1 ≤ k → (R k = none ↔ Wk.wq m k = none)) :
    Calls Tryz.prog 60 #[.pointer (pp (R 1))] w fun e w' => e = .returned (.int .i64 (m.getD n 0)) ∧ Rds w' R R (rem m (n + 1) 0) ∧ Stay (fun b => ∃ k, R k = some b) w w' := by
  have hs := hg.at hn
  have hba0 := fun v : Nat => Wv.bits_at (v := v) hn
  have hps := fun (v : Nat) (p : Int) => Wv.pos_succ v p hn
  obtain ⟨s, hsv⟩ : ∃ s, m.getD n 0 = s := ⟨_, rfl⟩
  rw [hsv] at hs hba0 ⊢
  have HR := Lib.hid hR
  have HN := Lib.hid hn
  have HS := Lib.hid hsv
  have HBA := Lib.hid hba0
  have HPS := Lib.hid hps
  have HEX := Lib.hid hex
  have HZ := Lib.hid hz
  clear hR hn hsv hba0 hps hex hz
  go_enter Tryz.func60, Tryz.ntmps60
  go_wp2_with fail
  go_loopg [0, 3] 9 (fun g s0 s3 wr => ∃ (v : Nat), g = 9 - v ∧ v ≤ 9 ∧ s0 = .pointer (pp (R (Wk.key s v))) ∧ s3 = .int .i64 (Sy.path s v) ∧ Rds wr R R (rem m n v) ∧ Stay (fun b => ∃ k, R k = some b) w wr)
  case atStart => exact ⟨0, rfl, by omega, by rw [Wk.key_zero hs], by rw [show ((0 : Nat) : Int) = 0 from rfl, Sy.path_zero hs], HR.out, Stay.refl _ _⟩
  case round =>
    clear HR
    obtain ⟨v, rfl, hv9, rfl, rfl, hR, hst⟩ := hrel
    by_cases h9 : v = 9
    · subst h9
      have hk9 : R (Wk.key s 9) = none := (HEX.out (Wk.key s 9) (by unfold Wk.key; omega)).2 (Wk.wq_out m (by unfold Wk.key; omega))
      have hp9 : Sy.path s (9 : Nat) = s := Sy.path_nine hs
      have hp0 : pp none = none := rfl
      rw [hk9, hp9, hp0]
      have HR := Lib.hid hR
      have HST := Lib.hid hst
      clear hR hst hk9
      go_wp2_with fail
      go_ret
      refine ⟨rfl, HR.out.same (fun k b hk => rem_nine ?_), HST.out⟩
      have h1 : 1 ≤ k := Nat.pos_of_ne_zero fun e => by subst e; rw [HZ.out] at hk; cases hk
      by_cases h2 : k < 512
      · exact Wk.lev_le h1 h2
      · have := (HEX.out k h1).2 (Wk.wq_out m (by omega))
        rw [hk] at this; cases this
    · have hv8 : v ≤ 8 := by omega
      have hks := Wk.key_succ hs hv8
      have hkr := Wk.key_rng hs hv8
      have hkl := Wk.key_lev hs (v := v) (by omega)
      have hkp := Wk.pth_key hs (v := v) (by omega)
      have hba := HBA.out v
      rw [← Wk.wb_key m hs (by omega)] at hba
      have hpn := Wv.path_nxt hs hv8
      have hp0 := Wk.path_nn hs (v := v) (by omega)
      have hp1 := (Sy.path_rng s v).2
      have hrem : rem m n v (Wk.key s v) = Sy.bit s v :: rem m n (v + 1) (Wk.key s v) := by
        unfold rem
        rw [hkl, hkp, if_neg (by omega), if_pos (by omega), HPS.out, HS.out, if_pos rfl, List.drop_eq_getElem_cons hba.1]
        congr 1
        have h1 := hba.2
        rw [List.getD_eq_getElem?_getD, List.getElem?_eq_getElem hba.1] at h1
        exact h1
      have hnq : Wk.wq m (Wk.key s v) ≠ none := by
        rw [Wk.wq_in m hkr, Wk.ob_some (fun e => by rw [e] at hba; simp at hba)]
        exact fun h => by cases h
      cases hb : R (Wk.key s v) with
      | none => exact absurd ((HEX.out _ hkr.1).1 hb) hnq
      | some b =>
        have hpb : pp (some b) = some ⟨b, 0, none⟩ := rfl
        rw [hpb]
        obtain ⟨val, hc, hrd⟩ := hR.node _ b hb
        rw [hrem] at hrd
        have hrd0 := hrd.1
        obtain ⟨bb, off, L, cap, rfl⟩ : ∃ bb off L cap, val = .slice (some ⟨bb, off, none⟩) L cap := by
          rcases hrd0 with ⟨_, h1⟩ | ⟨bb, off, cap, h1, _⟩
          · cases h1
          · exact ⟨bb, off, _, cap, h1⟩
        have hfirst : w.heap.size = w.heap.size ∧ wr.cell? ⟨bb, off, none⟩ = some (.bool (Sy.bit s v)) ∧ 1 ≤ L ∧ L ≤ cap ∧ cap ≤ maxLen := by
          rcases hrd0 with ⟨_, h1⟩ | ⟨bb', off', cap', h1, h2, h3, h4, h5⟩
          · cases h1
          · simp only [Value.slice.injEq, Option.some.injEq, Addr.mk.injEq, and_true] at h1
            obtain ⟨⟨rfl, rfl⟩, rfl, rfl⟩ := h1
            exact ⟨rfl, h5 0 (by simp), by simp, h3, h4⟩
        obtain ⟨_, hq0, hL1, hLc, hcm⟩ := hfirst
        have htl := hrd.tail
        have q0 : wr.cell? ⟨b, 0, none⟩ = some (.slice (some ⟨bb, off, none⟩) L cap) := (cell_of hc).trans rfl
        have qf : wr.frozen? ⟨b, 0, none⟩ = false := free_of hc
        have q1 : wr.cell? ⟨b, 1, none⟩ = some (pn (R (2 * Wk.key s v))) := (cell_of hc).trans rfl
        have q2 : wr.cell? ⟨b, 2, none⟩ = some (pn (R (2 * Wk.key s v + 1))) := (cell_of hc).trans rfl
        have HE := Lib.hid (hR.eat (q' := rem m n (v + 1)) hb htl (fun j c hne hj => by
          have h1 : 1 ≤ j := Nat.pos_of_ne_zero fun e => by subst e; rw [HZ.out] at hj; cases hj
          exact rem_next HN.out h1 (by rw [HS.out]; exact hne)))
        have HST : Hid (∀ u, Stay (fun b => ∃ k, R k = some b) w (wr.setCell ⟨b, 0, none⟩ u)) := Lib.hid (fun u => hst.setCell (.inr ⟨_, hb⟩) u)
        have hLi : (0 : Int) < L := by omega
        have hLci : (L : Int) ≤ cap := by omega
        have hL1i : (1 : Int) ≤ L := by omega
        have hc1i : (1 : Int) ≤ cap := by omega
        unfold maxLen at hcm
        have hcmi : (cap : Int) ≤ 9223372036854775807 := by omega
        obtain ⟨y, hy⟩ : ∃ y, Sy.path s (v : Nat) = y := ⟨_, rfl⟩
        obtain ⟨y2, hy2⟩ : ∃ y, Sy.path s (v + 1 : Nat) = y := ⟨_, rfl⟩
        rw [hy2, hy] at hpn
        rw [hy] at hp0 hp1 ⊢
        obtain ⟨c, hcb⟩ : ∃ c, Sy.bit s v = c := ⟨_, rfl⟩
        rw [hcb] at hq0 hks hpn
        have HY := Lib.hid hy2
        have HKS := Lib.hid hks
        clear hR hst hba hrem hnq hc hrd hrd0 htl hy hy2 hks hcb hkl hkp
        rcases c with _ | _
        · by_cases hcap : cap = 1
          · subst hcap
            obtain rfl : L = 1 := by omega
            rw [if_pos rfl] at HE
            go_wp2_with fail
            (with_reducible refine (wside_f _).mono ?_); rintro e w2 ⟨rfl, rfl⟩
            go_wp2_with fail
            go_roundg (8 - v)
            case measure => omega
            case rel => exact ⟨v + 1, by omega, by omega, by rw [HKS.out]; rfl, by rw [HY.out, hpn]; unfold Wv.nxt; simp, HE.out, HST.out _⟩
          · rw [if_neg hcap] at HE
            go_wp2_with fail
            (with_reducible refine (wside_f _).mono ?_); rintro e w2 ⟨rfl, rfl⟩
            go_wp2_with fail
            go_roundg (8 - v)
            case measure => omega
            case rel => exact ⟨v + 1, by omega, by omega, by rw [HKS.out]; rfl, by rw [HY.out, hpn]; unfold Wv.nxt; simp, HE.out, HST.out _⟩
        · by_cases hcap : cap = 1
          · subst hcap
            obtain rfl : L = 1 := by omega
            rw [if_pos rfl] at HE
            go_wp2_with fail
            (with_reducible refine (wside_t _).mono ?_); rintro e w2 ⟨rfl, rfl⟩
            go_wp2_with fail
            go_roundg (8 - v)
            case measure => omega
            case rel => exact ⟨v + 1, by omega, by omega, by rw [HKS.out]; rfl, by rw [HY.out, hpn]; unfold Wv.nxt; simp, HE.out, HST.out _⟩
          · rw [if_neg hcap] at HE
            go_wp2_with fail
            (with_reducible refine (wside_t _).mono ?_); rintro e w2 ⟨rfl, rfl⟩
            go_wp2_with fail
            go_roundg (8 - v)
            case measure => omega
            case rel => exact ⟨v + 1, by omega, by omega, by rw [HKS.out]; rfl, by rw [HY.out, hpn]; unfold Wv.nxt; simp, HE.out, HST.out _⟩
end Go.Proofs.YthbbokoeiifjdaaGreatDoor
namespace Go.Proofs.YthbbokoeiifjdaaGreatDoor
open Go Go.RowKit Go.ChangeAt Tr Wk

theorem infoI2 : (Tryz.prog.info? 3).map (fun i => (i.zero, i.size, i.bytes)) = some (some (.int .i64 0), 1, 8) := infoI
theorem make_ints (n : Nat) (hn : n ≤ 1000000) : ∃ C : Array Value, C.toList = (List.replicate n (0 : Int)).map (Value.int .i64) ∧ ∀ w, (Instr.makeSlice 22 (.int .i64 (n : Int)) (.int .i64 (n : Int))).run Tryz.prog w = .ok (.slice (some ⟨w.heap.size, 0, none⟩) n n) (w.alloc (.cells C 3)) := by
  obtain ⟨i0, ii, hz0, hz1, hz2⟩ := info_parts infoI
  refine ⟨madeCells (Value.int .i64 0).cells (n * 1), ?_, fun w => ?_⟩
  · rw [show (Value.int .i64 0).cells = #[Value.int .i64 0] from rfl, Nat.mul_one, toList_madeCells_one, List.map_replicate]
  · have hr := run_make (P := Tryz.prog) w 22 3 i0 (.int .i64 0) Tryz.underlying22 ii hz0 .i64 .i64 n n (by omega) (by omega) (by rw [hz2]; omega) (by omega)
    rw [hz1, Int.toNat_natCast] at hr
    exact hr
theorem OwnI.set {base : Nat} {w : World} {b cap : Nat} {l : List Int} (h : OwnI base w (.slice (some ⟨b, 0, none⟩) l.length cap) l) (j : Nat) (x : Int) :
    OwnI base (w.setCell ⟨b, j, none⟩ (.int .i64 x)) (.slice (some ⟨b, 0, none⟩) (l.set j x).length cap) (l.set j x) := by
  have := (World.ownsRow.stored (w := w) h j (.int .i64 x)).1
  unfold OwnI
  rw [List.length_set, List.map_set]
  exact this
theorem list_step (l : List Int) {i : Nat} (hi : i < l.length) : (l.take i ++ List.replicate (l.length - i) 0).set i (l.getD i 0) = l.take (i + 1) ++ List.replicate (l.length - (i + 1)) 0 := by
  have h1 : (l.take i).length = i := by rw [List.length_take]; omega
  rw [List.set_append_right _ _ (by omega), h1, Nat.sub_self, show l.length - i = (l.length - (i + 1)) + 1 by omega, List.replicate_succ, List.set_cons_zero, List.take_succ_eq_append_getElem hi, List.append_assoc, List.getD_eq_getElem?_getD, List.getElem?_eq_getElem hi]
  rfl
/-- What All has when i symbols are told. -/
structure AllAt (w wr : World) (x : Wx) (m : List Int) (R : Lks) (AB i : Nat) : Prop where
  rds : Rds wr R R (rem m i 0)
  own : OwnI w.heap.size wr (.slice (some ⟨AB, 0, none⟩) (m.take i ++ List.replicate (m.length - i) 0).length m.length) (m.take i ++ List.replicate (m.length - i) 0)
  len : (m.take i ++ List.replicate (m.length - i) 0).length = m.length
  below : Below w.heap.size w wr
  lo : w.heap.size ≤ AB
  rlo : ∀ k b, R k = some b → w.heap.size ≤ b
theorem AllAt.told {w wr w2 : World} {x : Wx} {m : List Int} {R : Lks} {AB i : Nat} (h : AllAt w wr x m R AB i) (hi : i < m.length) (hR : Rds w2 R R (rem m (i + 1) 0)) (hst : Stay (fun b => ∃ k, R k = some b) wr w2) : OwnI w.heap.size w2 (.slice (some ⟨AB, 0, none⟩) (m.take i ++ List.replicate (m.length - i) 0).length m.length) (m.take i ++ List.replicate (m.length - i) 0) ∧ AllAt w (w2.setCell ⟨AB, i, none⟩ (.int .i64 (m.getD i 0))) x m R AB (i + 1) := by
  have hz := h.below.size
  have ho2 := ownsRow_stay h.own hst (fun q hq ⟨k, hk⟩ => by
    obtain ⟨v, hc, _⟩ := h.rds.node k q hk
    exact own_ne h.own hc (by decide) q hq rfl)
  have hst2 : Stay (· = AB) w2 (w2.setCell ⟨AB, i, none⟩ (.int .i64 (m.getD i 0))) := Stay.setCell (S := (· = AB)) (Stay.refl _ _) (p := ⟨AB, i, none⟩) (.inr rfl) _
  have hz2 := hst.size
  refine ⟨ho2, hR.stay hst2 (fun b hb e => ?_), ?_, ?_, ?_, h.lo, h.rlo⟩
  · subst e
    rcases hb with ⟨c, f, hc⟩ | ⟨c, f, hc⟩
    · exact own_ne ho2 hc (by decide) _ rfl rfl
    · exact own_ne ho2 hc (by decide) _ rfl rfl
  · have h1 := OwnI.set ho2 i (m.getD i 0)
    rw [list_step m hi] at h1
    exact h1
  · rw [List.length_append, List.length_take, List.length_replicate]; omega
  · refine h.below.trans ((hst.below hz (fun b _ ⟨k, hk⟩ => h.rlo k b hk)).trans (hst2.below (by omega) (fun b _ e => by subst e; exact h.lo)))
theorem und_one {j : Nat} (hj : 1 ≤ j) : Und 1 j := ⟨Nat.log2 j, by
  obtain ⟨h1, h2⟩ := Wk.of_lev hj
  have h3 := Wk.up2_top h2
  unfold Wk.up2 at h3
  rw [← h1] at h3
  exact h3⟩
theorem AllAt.start {w w1 w3 wx : World} {x : Wx} {m : List Int} {R L : Lks} {AB : Nat} (hB : RBlt m w1 w3 1 (fun _ => none) (fun _ => none) R L) (hw1 : w.heap.size ≤ w1.heap.size) (hbx : Below w3.heap.size w3 wx) (hbel : Below w.heap.size w wx) (hown : OwnI w.heap.size wx (.slice (some ⟨AB, 0, none⟩) m.length m.length) (List.replicate m.length 0)) :
    AllAt w wx x m R AB 0 ∧ R 0 = none ∧ ∀ k, 1 ≤ k → (R k = none ↔ Wk.wq m k = none) := by
  have h0 := hB.zero
  have hlo := (World.ownsRow.lt hown AB rfl).1
  refine ⟨⟨(((hB.rds.below hbx).relink h0 (fun j hj => hB.lnk j (und_one (by omega)) (by omega))).same (fun k b hk => ?_)), ?_, ?_, hbel, hlo, fun k b hk => ?_⟩, h0, fun k hk => (hB.des k (und_one hk)).1⟩
  · unfold rem Wv.pos
    rw [if_neg (Nat.not_lt_zero _)]
    rfl
  · have e1 : m.take 0 ++ List.replicate (m.length - 0) (0 : Int) = List.replicate m.length 0 := rfl
    rw [e1, List.length_replicate]
    exact hown
  · rw [List.length_append, List.length_take, List.length_replicate]; omega
  · have h1 : 1 ≤ k := Nat.pos_of_ne_zero fun e => by subst e; rw [h0] at hk; cases hk
    exact Nat.le_trans hw1 ((hB.des k (und_one h1)).2 b hk)
theorem OwnI.made {base : Nat} {w : World} {C : Array Value} {n : Nat} (hb : base ≤ w.heap.size) (hn : n ≤ 1000000) (hC : C.toList = (List.replicate n (0 : Int)).map (Value.int .i64)) : OwnI base (w.alloc (.cells C 3)) (.slice (some ⟨w.heap.size, 0, none⟩) n n) (List.replicate n 0) := by
  have hs : C.size = n := by rw [← Array.length_toList, hC, List.length_map, List.length_replicate]
  have := World.ownsRow_lit (base := base) (e := 3) (size := 1) w C n hb (by unfold maxLen; omega) (by omega)
  unfold OwnI
  rw [List.length_replicate, ← hC]
  exact this
theorem Wav.all_none {w : World} {x : Wx} (h : Wav w x []) : Calls Tryz.prog 40 #[.pointer (some ⟨x.t, 0, none⟩)] w fun e w' => ∃ v, e = .returned v ∧ OwnI w.heap.size w' v [] ∧ Below w.heap.size w w' := by
  have keyL : Calls Tryz.prog 41 #[.pointer (some ⟨x.t, 0, none⟩)] w fun e w' => e = .returned (.int .i64 0) ∧ w = w' := h.len
  clear h
  go_enter Tryz.func40, Tryz.ntmps40
  go_wp2_with fail
  (with_reducible refine keyL.mono ?_); rintro e w1 ⟨rfl, rfl⟩
  go_wp2_with fail
  go_ret
  exact ⟨_, rfl, World.ownsRow_nil _ _ _ _, Below.refl _ _⟩
set_option maxHeartbeats 3200000 in
set_option maxRecDepth 100000 in
theorem Wav.all_some {w : World} {x : Wx} {m : List Int} (h : Wav w x m) (hm : m.length ≤ 1000000) (hp : 0 < m.length) : Calls Tryz.prog 40 #[.pointer (some ⟨x.t, 0, none⟩)] w fun e w' => ∃ v, e = .returned v ∧ OwnI w.heap.size w' v m ∧ Below w.heap.size w w' := by
  obtain ⟨C, hC, hmk⟩ := make_ints m.length hm
  have keyL := h.len
  have hl1 : Wk.lev 1 = 0 := Wk.lev_of (v := 0) (p := 0) (by decide)
  have hrd0 : ∀ w', Rds w' (fun _ => none) (fun _ => none) (Wk.wb m) := fun w' => ⟨fun _ _ e => (by cases e), fun _ _ _ e => (by cases e)⟩
  have keyR := fun w' hb => wreader h hm 9 1 (by rw [hl1]) (by decide) w' (fun _ => none) (fun _ => none) hb (hrd0 w') rfl (fun _ _ => ⟨rfl, rfl⟩)
  have hba : Below w.heap.size w w.drew := Below.drews (Below.refl _ _)
  have hbb : Below w.heap.size w (w.alloc (.cells C 3)).drew := Below.drews (Below.allocs (Below.refl _ _) _)
  have keyA := keyR w.drew hba
  have keyB := keyR (w.alloc (.cells C 3)).drew hbb
  have hL0 : ∀ w', Below w.heap.size w w' → Calls Tryz.prog 41 #[.pointer (some ⟨x.t, 0, none⟩)] w' fun e w'' => e = .returned (.int .i64 m.length) ∧ w' = w'' := fun w' hb => (h.below hb).len
  have q0 : w.cell? ⟨x.t, 0, none⟩ = some (.pointer (pp (x.N 1))) := (cell_of h.web.top).trans rfl
  have hxl := h.web.lt
  have hnz : ¬ (m.length : Int) = 0 := by omega
  have hnb : ((m.length : Int) == 0) = false := by rw [beq_eq_false_iff_ne]; omega
  have hmi : (m.length : Int) ≤ 1000000 := by omega
  have HH := Lib.hid h
  have HC := Lib.hid hC
  have HBA := Lib.hid hba
  have HBB := Lib.hid hbb
  have HL0 := Lib.hid hL0
  have keyL1 := hL0 w.drew hba
  clear h hrd0 keyR hC hba hbb hL0
  go_enter Tryz.func40, Tryz.ntmps40
  go_wp2_with fail
  (with_reducible refine keyL.mono ?_); rintro e w1 ⟨rfl, rfl⟩
  go_wp2_with fail
  go_cut [3, 4] (fun s3 s4 wx => ∃ (AB : Nat) (R : Lks), s3 = .slice (some ⟨AB, 0, none⟩) m.length m.length ∧ s4 = .pointer (pp (R 1)) ∧ AllAt w wx x m R AB 0 ∧ R 0 = none ∧ ∀ k, 1 ≤ k → (R k = none ↔ Wk.wq m k = none))
  case first =>
   go_region_law (first
    | (go_simp; (go_at_call 41; (with_reducible refine keyL1.mono ?_); rintro e w2 ⟨rfl, rfl⟩))
    | (go_simp; (go_at_call 59; (with_reducible refine keyA.mono ?_); rintro e w3 ⟨R, L, rfl, hB⟩; (have HB := Lib.hid hB); (have HBF := Lib.hid (HBA.out.trans hB.below)); (have keyL1 := HL0.out w3 HBF.out); clear hB))
    | (go_simp; (go_at_call 59; (with_reducible refine keyB.mono ?_); rintro e w3 ⟨R, L, rfl, hB⟩; (have HB := Lib.hid hB); (have HBF := Lib.hid (HBB.out.trans (hB.below.mono HBB.out.size))); clear hB)))
   all_goals
    go_wp2_with fail
    go_meet
    case rel =>
      first
      | exact ⟨_, _, rfl, rfl, AllAt.start HB.out HBB.out.size (Below.refl _ _) HBF.out (ownsRow_below (OwnI.made (Nat.le_refl _) hm HC.out) ((Below.drews (Below.refl _ _)).trans HB.out.below))⟩
      | exact ⟨_, _, rfl, rfl, AllAt.start HB.out (Nat.le_refl _) (Below.allocs (Below.refl _ _) _) (Below.allocs HBF.out _) (OwnI.made HBF.out.size hm HC.out)⟩
  case rest =>
  obtain ⟨AB, R, rfl, rfl, hA, h0, hex⟩ := hcut
  have HA := Lib.hid hA
  have HZ := Lib.hid h0
  have HEX := Lib.hid hex
  clear hA h0 hex keyA keyB keyL1 hmk
  go_wp2_with fail
  go_loopg [19] m.length (fun g s19 wr => ∃ (i : Nat), g = m.length - i ∧ i ≤ m.length ∧ s19 = .int .i64 i ∧ AllAt w wr x m R AB i)
  case atStart => exact ⟨0, rfl, Nat.zero_le _, rfl, HA.out⟩
  case round =>
    clear HA
    obtain ⟨i, rfl, hil, rfl, hA⟩ := hrel
    by_cases hlt : i < m.length
    · have hi1 : (i : Int) < m.length := by omega
      have key := wnext HH.out.good hm hlt hA.rds HZ.out HEX.out
      obtain ⟨z, hz⟩ : ∃ z, m.getD i 0 = z := ⟨_, rfl⟩
      rw [hz] at key
      have HA := Lib.hid hA
      have HZV := Lib.hid hz
      clear hA hz
      go_wp2_with fail
      (with_reducible refine key.mono ?_); rintro e w2 ⟨rfl, hR, hst⟩
      obtain ⟨ho, hnx⟩ := HA.out.told hlt hR hst
      rw [HZV.out] at hnx
      obtain ⟨b', hbe, _, _, hcs, hfs⟩ := OwnI.open ho (by rw [HA.out.len]; omega)
      obtain rfl : b' = AB := by simpa using hbe.symm
      have q1 := hcs i (by rw [HA.out.len]; exact hlt)
      have qf := hfs i
      have HNX := Lib.hid hnx
      clear hR hst ho hnx hbe hcs hfs key HA
      go_wp2_with fail
      go_roundg (m.length - (i + 1))
      case measure => omega
      case rel => exact ⟨i + 1, rfl, by omega, by go_num, HNX.out⟩
    · obtain hie : i = m.length := by omega
      subst hie
      have hi1 : ¬ (m.length : Int) < m.length := by omega
      have ho := hA.own
      rw [List.take_length, Nat.sub_self, List.replicate_zero, List.append_nil] at ho
      have HO := Lib.hid ho
      have HB := Lib.hid hA.below
      clear hA ho
      go_wp2_with fail
      go_ret
      exact ⟨_, rfl, HO.out, HB.out⟩
theorem Wav.all {w : World} {x : Wx} {m : List Int} (h : Wav w x m) (hm : m.length ≤ 1000000) : Calls Tryz.prog 40 #[.pointer (some ⟨x.t, 0, none⟩)] w fun e w' => ∃ v, e = .returned v ∧ OwnI w.heap.size w' v m ∧ Below w.heap.size w w' := by
  by_cases hp : 0 < m.length
  · exact h.all_some hm hp
  · obtain rfl : m = [] := List.eq_nil_of_length_eq_zero (by omega)
    exact h.all_none
end Go.Proofs.YthbbokoeiifjdaaGreatDoor
