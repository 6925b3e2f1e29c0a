/- Insert into a wave: down the nodes of the symbol, made where there are none. Insert into a wave: the walk. Delete from a wave: down the nodes of the symbol, let go where nothing is left. The refused calls of a wave. -/
import Derived.Test.YthbbokoeiifjdaaGreatDoorWab
namespace Go.Proofs.YthbbokoeiifjdaaGreatDoor
open Go Go.RowKit Go.ChangeAt Tr

theorem rk_ins (c : Bool) (l : List Bool) {p : Nat} (hp : p ≤ l.length) : Blk.rk c (Blk.ins l p c) p = Blk.rk c l p := by
  unfold Blk.rk Blk.ins
  rw [List.take_append_of_le_length (by rw [List.length_take]; omega), List.take_of_length_le (by rw [List.length_take]; omega)]
theorem qbit (s l : Int) (w : World) : Calls Tryz.prog 68 #[.int .i64 s, .int .i64 l] w fun e w' => e = .returned (.bool (Sy.bit s l)) ∧ w' = w := (sbit s l w).mono fun _ _ ⟨h1, h2⟩ => ⟨h1, h2.symm⟩
/-- A wave that is being turned. -/
structure Ing (w : World) (x : Wx) (wr : World) (N L : Lks) (F : For) (v : Nat) : Prop where
  web : Web x.B wr x.t N L F v
  own : ∀ b, Nown N F b → Nown x.N x.F b ∨ w.heap.size ≤ b
  stay : Stay x.own w wr
theorem Ing.owned {w : World} {x : Wx} {wr : World} {N L : Lks} {F : For} {v : Nat} (h : Ing w x wr N L F v) {b : Nat} (hlt : b < w.heap.size) (hb : b = x.t ∨ Nown N F b) : x.own b := by
  rcases hb with hb | hb
  · exact .inl hb
  · rcases h.own b hb with hb | hb
    · exact .inr hb
    · omega
theorem Ing.drewN {w : World} {x : Wx} {wr : World} {N L : Lks} {F : For} {v : Nat} (h : Ing w x wr N L F v) (n : Nat) : Ing w x (wr.drewN n) N L F v := ⟨h.web.drewN n, h.own, h.stay.drewN n⟩
theorem Ing.turn {w : World} {x : Wx} {wr w1 : World} {N L : Lks} {F : For} {v k : Nat} {e : Ent} {S' : St} {m' : List Bool} (h : Ing w x wr N L F v) (hk : F k = some e) (ht : Tre e.base w1 e.t S' m') (hm : Mv wr w1 e.S S') : Ing w x w1 N L (F.put k ⟨e.base, e.t, S', m'⟩) v := by
  obtain ⟨h1, h2⟩ := Nown.turned (N := N) (m' := m') hk hm
  refine ⟨h.web.turn hk ht hm, fun b hb => ?_, h.stay.trans h1 (fun i hi ho => h.owned hi (.inr ho))⟩
  rcases h2 b hb with h3 | h3
  · exact h.own b h3
  · exact .inr (Nat.le_trans h.stay.size h3)
theorem Ing.look {w : World} {x : Wx} {wr w1 : World} {N L : Lks} {F : For} {v v2 : Nat} (h : Ing w x wr N L F v) (hW : Web x.B w1 x.t N L F v2) (hs : Stay (· = x.t) wr w1) : Ing w x w1 N L F v2 :=
  ⟨hW, h.own, h.stay.trans hs (fun _ _ e => .inl e)⟩
theorem Nown.see {N : Lks} {F : For} {k : Nat} {e : Ent} (hk : F k = some e) (u b : Nat) : Nown N (F.put k (e.see u)) b → Nown N F b := by
  rintro (h | ⟨j, f, hj, ho⟩)
  · exact .inl h
  · by_cases e1 : j = k
    · subst e1
      rw [For.put_at] at hj
      injection hj with hj
      subst hj
      exact .inr ⟨j, e, hk, ho⟩
    · rw [For.put_ne _ _ e1] at hj
      exact .inr ⟨j, f, hj, ho⟩
theorem Ing.rank {w : World} {x : Wx} {wr w1 : World} {N L : Lks} {F : For} {v v2 k u : Nat} {e : Ent} (h : Ing w x wr N L F v) (hk : F k = some e) (hW : Web x.B w1 x.t N L (F.put k (e.see u)) v2) (hs : Stay (fun c => c = x.t ∨ Nown N F c) wr w1) : Ing w x w1 N L (F.put k (e.see u)) v2 :=
  ⟨hW, fun b hb => h.own b (Nown.see hk u b hb), h.stay.trans hs (fun _ hi ho => h.owned hi ho)⟩
/-- A new node, and the pointer to it. -/
theorem Ing.add {w : World} {x : Wx} {wr w1 : World} {N : Lks} {F : For} {v k b base t : Nat} {S : St} {p : Addr} (h : Ing w x wr N N F v) (hk1 : 1 ≤ k) (ha : At N x.t k p) (hk : N k = none) (h0 : N (2 * k) = none) (h1 : N (2 * k + 1) = none) (hn : NewNd wr w1 b base t S []) :
    Ing w x (w1.setCell p (pn (some b))) (N.put k (some b)) (N.put k (some b)) (F.put k ⟨base, t, S, []⟩) v := by
  have hW := h.web.add hk1 hk h0 h1 hn.below hn.node hn.lo hn.tre hn.base hn.nb
  have hA : At (N.put k (some b)) x.t k p := by
    rcases ha with ha | ⟨j, i, c, e1, e2, e3, e4⟩
    · exact .inl ha
    · exact .inr ⟨j, i, c, e1, e2, by rw [Lks.put_ne _ _ (by omega)]; exact e3, e4⟩
  obtain ⟨hS, hst⟩ := hW.store hA (some b)
  have hsz := h.stay.size
  have hbw := hn.below.size
  have hown : ∀ c, Nown (N.put k (some b)) (F.put k ⟨base, t, S, []⟩) c → Nown x.N x.F c ∨ w.heap.size ≤ c := fun c hc => by
    rcases hc with ⟨j, hj⟩ | ⟨j, f, hj, ho⟩
    · by_cases e1 : j = k
      · subst e1
        rw [Lks.put_at] at hj
        injection hj with hj
        have := hn.lo
        exact .inr (by omega)
      · rw [Lks.put_ne _ _ e1] at hj
        exact h.own c (.inl ⟨j, hj⟩)
    · by_cases e1 : j = k
      · subst e1
        rw [For.put_at] at hj
        injection hj with hj
        subst hj
        have h2 := (hn.tre.1.blocks ho).1
        have h3 := hn.base
        have : base ≤ c := h2
        exact .inr (by omega)
      · rw [For.put_ne _ _ e1] at hj
        exact h.own c (.inr ⟨j, f, hj, ho⟩)
  refine ⟨hS, hown, (h.stay.trans (Stay.of_below (S := fun _ => False) hn.below) (fun _ _ e => e.elim)).trans hst (fun i hi ho => ?_)⟩
  rcases ho with ho | ho
  · exact .inl ho
  · rcases hown i ho with h2 | h2
    · exact .inr h2
    · omega
theorem Wav.ing {w : World} {x : Wx} {m : List Int} (h : Wav w x m) : Ing w x (w.setCell ⟨x.t, 1, none⟩ (.int .i64 0)) x.N x.N x.F 0 := by
  obtain ⟨_, hR⟩ := h.zero
  exact ⟨hR.web, fun _ hb => .inl hb, hR.stay⟩
/-- The bits of the nodes when the levels above v are done. -/
def mid (m m' : List Int) (v k : Nat) : Option (List Bool) := if Wk.lev k < v then Wk.wq m' k else Wk.wq m k
theorem mid_zero (m m' : List Int) (k : Nat) : mid m m' 0 k = Wk.wq m k := if_neg (Nat.not_lt_zero _)
theorem wq_ins_other {m : List Int} {n : Nat} {s : Int} {k : Nat} (h : 1 ≤ k → k ≠ Wk.key s (Wk.lev k)) : Wk.wq (Wv.ins m n s) k = Wk.wq m k := by
  by_cases h1 : 1 ≤ k ∧ k < 512
  · rw [Wk.wq_in _ h1, Wk.wq_in _ h1, Wk.wb_ins_other h1.1 (h h1.1)]
  · rw [Wk.wq_out _ h1, Wk.wq_out _ h1]
theorem mid_nine (m m' : List Int) (k : Nat) : mid m m' 9 k = Wk.wq m' k := by
  unfold mid
  by_cases h : Wk.lev k < 9
  · rw [if_pos h]
  · rw [if_neg h]
    have h1 : ¬ (1 ≤ k ∧ k < 512) := fun h2 => h (by have := Wk.lev_le h2.1 h2.2; omega)
    rw [Wk.wq_out _ h1, Wk.wq_out _ h1]
/-- One more level is done. -/
theorem mid_succ {m : List Int} {n : Nat} {s : Int} (hs : 0 ≤ s ∧ s ≤ 256) {v : Nat} (hv : v ≤ 8) {F : For} {e : Ent} (hF : ∀ k, k ≠ Wk.key s v → (F k).map Ent.m = mid m (Wv.ins m n s) v k) (he : e.m = Wk.wb (Wv.ins m n s) (Wk.key s v)) (hne : e.m ≠ []) (k : Nat) :
    ((F.put (Wk.key s v) e) k).map Ent.m = mid m (Wv.ins m n s) (v + 1) k := by
  have hr := Wk.key_rng hs hv
  have hl := Wk.key_lev hs (v := v) (by omega)
  by_cases e1 : k = Wk.key s v
  · subst e1
    rw [For.put_at]
    unfold mid
    rw [hl, if_pos (by omega), Wk.wq_in _ hr, ← he, Wk.ob_some hne]
    rfl
  · rw [For.put_ne _ _ e1, hF k e1]
    unfold mid
    by_cases h2 : Wk.lev k < v
    · rw [if_pos h2, if_pos (by omega)]
    · rw [if_neg h2]
      by_cases h3 : Wk.lev k < v + 1
      · rw [if_pos h3, wq_ins_other (fun _ h4 => e1 (by rw [h4, show Wk.lev k = v by omega]))]
      · rw [if_neg h3]
end Go.Proofs.YthbbokoeiifjdaaGreatDoor
namespace Go.Proofs.YthbbokoeiifjdaaGreatDoor
open Go Go.RowKit Go.ChangeAt Tr

/-- What a call left that turned a wave. -/
structure Mvd (w w' : World) (x x' : Wx) (m : List Int) : Prop where
  wav : Wav w' x' m
  t : x'.t = x.t
  stay : Stay x.own w w'
  own : ∀ b, x'.own b → x.own b ∨ w.heap.size ≤ b
theorem Mvd.of {w wr : World} {x : Wx} {N : Lks} {F : For} {v : Nat} {m : List Int} (h : Ing w x wr N N F v) (hd : ∀ k, (F k).map Ent.m = Wk.wq m k) (hg : Wv.Good m) : Mvd w wr x ⟨x.B, x.t, N, F, v⟩ m :=
  ⟨⟨h.web, hd, hg⟩, rfl, h.stay, fun b hb => by
    rcases hb with hb | hb
    · exact .inl (.inl hb)
    · exact (h.own b hb).imp .inr id⟩
/-- How far Insert has come: the levels above v are done. -/
structure InsAt (w : World) (x : Wx) (m : List Int) (n : Nat) (s : Int) (wr : World) (N : Lks) (F : For) (v c hb : Nat) : Prop where
  ing : Ing w x wr N N F c
  des : ∀ k, (F k).map Ent.m = mid m (Wv.ins m n s) v k
  low : ∀ k, ¬ Wk.lev k < v → F k = x.F k ∧ N k = x.N k
  vis : c ≤ v * (4 * hiF x.F + 4 + hb)
  top : hb = 0 ∨ ∃ u e, u < v ∧ F (Wk.key s u) = some e ∧ e.S.rt.ht = hb
/-- A level's node stands, and its tree is as it was. -/
structure InsNd (w : World) (x : Wx) (m : List Int) (n : Nat) (s : Int) (wr : World) (N : Lks) (F : For) (v c hb kk b : Nat) (f : Ent) (pb po : Nat) : Prop where
  ing : Ing w x wr N N F c
  des : ∀ k, k ≠ kk → (F k).map Ent.m = mid m (Wv.ins m n s) v k
  low : ∀ k, ¬ Wk.lev k < v + 1 → F k = x.F k ∧ N k = x.N k
  vis : c ≤ v * (4 * hiF x.F + 4 + hb)
  top : hb = 0 ∨ ∃ u e, u < v ∧ F (Wk.key s u) = some e ∧ e.S.rt.ht = hb
  at' : At N x.t kk ⟨pb, po, none⟩
  ht : f.S.rt.ht ≤ hiF x.F
  F : F kk = some f
  N : N kk = some b
  m : f.m = Wk.wb m kk
theorem InsAt.start {w : World} {x : Wx} {m : List Int} (h : Wav w x m) (n : Nat) (s : Int) : InsAt w x m n s (w.setCell ⟨x.t, 1, none⟩ (.int .i64 0)) x.N x.F 0 0 0 :=
  ⟨h.ing, fun k => by rw [mid_zero]; exact h.des k, fun _ _ => ⟨rfl, rfl⟩, Nat.zero_le _, .inl rfl⟩
theorem InsAt.has {w : World} {x : Wx} {m : List Int} {n : Nat} {s : Int} {wr : World} {N : Lks} {F : For} {v c hb pb po : Nat} (hw : Wav w x m) (h : InsAt w x m n s wr N F v c hb) (hs : 0 ≤ s ∧ s ≤ 256) (hv : v ≤ 8) (ha : At N x.t (Wk.key s v) ⟨pb, po, none⟩) (hne : Wk.wb m (Wk.key s v) ≠ []) :
    ∃ b f, InsNd w x m n s wr N F v c hb (Wk.key s v) b f pb po := by
  have hr := Wk.key_rng hs hv
  have hl := Wk.key_lev hs (v := v) (by omega)
  obtain ⟨e, b, he, hm, hb2⟩ := hw.stands hr hne
  obtain ⟨h1, h2⟩ := h.low (Wk.key s v) (by omega)
  have hh := hiF_at hr.1 hr.2 he
  exact ⟨b, e, h.ing, fun k _ => h.des k, fun k hk => h.low k (by omega), h.vis, h.top, ha, hh, h1.trans he, h2.trans hb2, hm⟩
theorem InsAt.not {w : World} {x : Wx} {m : List Int} {n : Nat} {s : Int} {wr : World} {N : Lks} {F : For} {v c hb : Nat} (hw : Wav w x m) (h : InsAt w x m n s wr N F v c hb) (hs : 0 ≤ s ∧ s ≤ 256) (hv : v ≤ 8) (he : Wk.wb m (Wk.key s v) = []) : N (Wk.key s v) = none := by
  have hr := Wk.key_rng hs hv
  have hl := Wk.key_lev hs (v := v) (by omega)
  rw [(h.low (Wk.key s v) (by omega)).2]
  exact (hw.stands_not (by rw [Wk.wq_in m hr, he]; rfl)).2
theorem InsAt.new {w : World} {x : Wx} {m : List Int} {n : Nat} {s : Int} {wr w1 : World} {N : Lks} {F : For} {v c hb pb po b base t : Nat} {S : St} (hw : Wav w x m) (h : InsAt w x m n s wr N F v c hb) (hs : 0 ≤ s ∧ s ≤ 256) (hv : v ≤ 8) (ha : At N x.t (Wk.key s v) ⟨pb, po, none⟩) (he : Wk.wb m (Wk.key s v) = []) (hn : NewNd wr w1 b base t S []) :
    InsNd w x m n s (w1.setCell ⟨pb, po, none⟩ (pn (some b))) (N.put (Wk.key s v) (some b)) (F.put (Wk.key s v) ⟨base, t, S, []⟩) v c hb (Wk.key s v) b ⟨base, t, S, []⟩ pb po := by
  have hr := Wk.key_rng hs hv
  have hl := Wk.key_lev hs (v := v) (by omega)
  have hq : Wk.wq m (Wk.key s v) = none := by rw [Wk.wq_in m hr, he]; rfl
  have h2 : ∀ c : Bool, N (2 * Wk.key s v + Wk.bi c) = none := fun c => by
    have hlc := (Wk.lev_child hr.1 (Wk.bi_le c)).1
    rw [(h.low _ (by omega)).2]
    exact (hw.stands_not (Wk.wq_below hw.good hr.1 hq c)).2
  refine ⟨h.ing.add hr.1 ha (h.not hw hs hv he) (h2 false) (h2 true) hn, fun k hk => ?_, fun k hk => ?_, h.vis, ?_, ?_, ?_, For.put_at _ _ _, Lks.put_at _ _ _, he.symm⟩
  · rw [For.put_ne _ _ hk]; exact h.des k
  · have hne : k ≠ Wk.key s v := fun e => by subst e; omega
    rw [For.put_ne _ _ hne, Lks.put_ne _ _ hne]
    exact h.low k (by omega)
  · rcases h.top with h3 | ⟨u, e, h3, h4, h5⟩
    · exact .inl h3
    · exact .inr ⟨u, e, h3, by rw [For.put_ne _ _ (fun e2 => by have := Wk.key_inj hs (by omega) (by omega) e2; omega)]; exact h4, h5⟩
  · rcases ha with ha | ⟨j, i, c, e1, e2, e3, e4⟩
    · exact .inl ha
    · exact .inr ⟨j, i, c, e1, e2, by rw [Lks.put_ne _ _ (by omega)]; exact e3, e4⟩
  · have := (Root.none hn.tre.2).2.2
    show S.rt.ht ≤ _
    omega
theorem InsNd.load {w : World} {x : Wx} {m : List Int} {n : Nat} {s : Int} {wr : World} {N : Lks} {F : For} {v c hb kk b pb po : Nat} {f : Ent} (h : InsNd w x m n s wr N F v c hb kk b f pb po) : wr.cell? ⟨pb, po, none⟩ = some (.pointer (some ⟨b, 0, none⟩)) := by
  rw [(h.ing.web.load h.at').1, h.N]; rfl
theorem InsNd.drewN {w : World} {x : Wx} {m : List Int} {n : Nat} {s : Int} {wr : World} {N : Lks} {F : For} {v c hb kk b pb po : Nat} {f : Ent} (h : InsNd w x m n s wr N F v c hb kk b f pb po) (d : Nat) : InsNd w x m n s (wr.drewN d) N F v c hb kk b f pb po :=
  ⟨h.ing.drewN d, h.des, h.low, h.vis, h.top, h.at', h.ht, h.F, h.N, h.m⟩
theorem InsNd.nd {w : World} {x : Wx} {m : List Int} {n : Nat} {s : Int} {wr : World} {N : Lks} {F : For} {v c hb kk b pb po : Nat} {f : Ent} (h : InsNd w x m n s wr N F v c hb kk b f pb po) : Node x.B wr b f (N (2 * kk)) (N (2 * kk + 1)) := h.ing.web.nods.nd h.N h.F
/-- The level is done. -/
theorem InsNd.next {w : World} {x : Wx} {m : List Int} {n : Nat} {s : Int} {wr w4 : World} {N : Lks} {F F4 : For} {v c hb b pb po c4 : Nat} {f e : Ent} (h : InsNd w x m n s wr N F v c hb (Wk.key s v) b f pb po) (hs : 0 ≤ s ∧ s ≤ 256) (hv : v ≤ 8) (hi : Ing w x w4 N N F4 c4) (hF : F4 = F.put (Wk.key s v) e)
    (he : e.m = Wk.wb (Wv.ins m n s) (Wk.key s v)) (hne : e.m ≠ []) (hc : c4 ≤ c + (4 * f.S.rt.ht + 3) + (e.S.rt.ht + 1)) : InsAt w x m n s w4 N F4 (v + 1) c4 (max hb e.S.rt.ht) := by
  have hl := Wk.key_lev hs (v := v) (by omega)
  subst hF
  refine ⟨hi, fun k => mid_succ hs hv (fun k hk => h.des k hk) he hne k, fun k hk => ?_, ?_, ?_⟩
  · rw [For.put_ne _ _ (fun e2 => by subst e2; omega)]
    exact h.low k hk
  · have h1 := h.vis
    have h2 := h.ht
    have h3 : v * (4 * hiF x.F + 4 + hb) ≤ v * (4 * hiF x.F + 4 + max hb e.S.rt.ht) := Nat.mul_le_mul_left _ (by omega)
    rw [Nat.succ_mul]
    omega
  · by_cases h1 : hb ≤ e.S.rt.ht
    · exact .inr ⟨v, e, by omega, For.put_at _ _ _, by omega⟩
    · rcases h.top with h3 | ⟨u, g, h3, h4, h5⟩
      · omega
      · exact .inr ⟨u, g, by omega, by rw [For.put_ne _ _ (fun e2 => by have := Wk.key_inj hs (by omega) (by omega) e2; omega)]; exact h4, by omega⟩
theorem For.put_put (F : For) (k : Nat) (e e' : Ent) : (F.put k e).put k e' = F.put k e' := funext fun j => by
  by_cases h : j = k
  · subst h; rw [For.put_at, For.put_at]
  · rw [For.put_ne _ _ h, For.put_ne _ _ h, For.put_ne _ _ h]
theorem InsAt.drewN {w : World} {x : Wx} {m : List Int} {n : Nat} {s : Int} {wr : World} {N : Lks} {F : For} {v c hb : Nat} (h : InsAt w x m n s wr N F v c hb) (d : Nat) : InsAt w x m n s (wr.drewN d) N F v c hb :=
  ⟨h.ing.drewN d, h.des, h.low, h.vis, h.top⟩
theorem InsAt.done {w : World} {x : Wx} {m : List Int} {n : Nat} {s : Int} {wr : World} {N : Lks} {F : For} {c hb : Nat} (hw : Wav w x m) (h : InsAt w x m n s wr N F 9 c hb) (hs : 0 ≤ s ∧ s ≤ 256) : ∃ x', Mvd w wr x x' (Wv.ins m n s) ∧ x'.v ≤ 9 * (4 * hiF x.F + 4 + hiF x'.F) := by
  refine ⟨⟨x.B, x.t, N, F, c⟩, Mvd.of h.ing (fun k => by rw [h.des k, mid_nine]) (hw.good.ins hs), ?_⟩
  have h1 := h.vis
  have h2 : hb ≤ hiF F := by
    rcases h.top with h3 | ⟨u, e, h3, h4, h5⟩
    · omega
    · have hr := Wk.key_rng hs (v := u) (by omega)
      have := hiF_at hr.1 hr.2 h4
      omega
  have h3 : 9 * (4 * hiF x.F + 4 + hb) ≤ 9 * (4 * hiF x.F + 4 + hiF F) := Nat.mul_le_mul_left _ (by omega)
  show c ≤ 9 * (4 * hiF x.F + 4 + hiF F)
  omega
end Go.Proofs.YthbbokoeiifjdaaGreatDoor
namespace Go.Proofs.YthbbokoeiifjdaaGreatDoor
open Go Go.RowKit Go.ChangeAt Tr

theorem rk_del (c : Bool) (l : List Bool) {p : Nat} (hp : p ≤ l.length) : Blk.rk c (Blk.del l p) p = Blk.rk c l p := by
  unfold Blk.rk Blk.del
  rw [List.take_append_of_le_length (by rw [List.length_take]; omega), List.take_of_length_le (by rw [List.length_take]; omega)]
/-- The bits when the levels above v are done; the pointers then. -/
def midd (m m' : List Int) (v k : Nat) : Option (List Bool) := if Wk.lev k < v then (Wk.wq m k).map (fun _ => Wk.wb m' k) else Wk.wq m k
def cutc (m' : List Int) (v k : Nat) : Bool := decide (Wk.lev k < v ∧ Wk.wb m' k = [])
def cutN (N : Lks) (m' : List Int) (v : Nat) : Lks := fun k => if cutc m' v k = true then none else N k
theorem cutc_no {m' : List Int} {v k : Nat} (h : Wk.wb m' k ≠ []) : ¬ cutc m' v k = true := fun e => h (of_decide_eq_true e).2
theorem cutN_zero (N : Lks) (m' : List Int) : cutN N m' 0 = N := funext fun k => by
  unfold cutN cutc
  rw [if_neg (by simp)]
theorem wb_del_more {m : List Int} {n : Nat} (hn : n < m.length) (hs : 0 ≤ m.getD n 0 ∧ m.getD n 0 ≤ 256) {k : Nat} (hk : 1 ≤ k) (hl : Wk.lev k ≤ 8) (h : Wk.wb (Wv.del m n) k ≠ []) : Wk.wb m k ≠ [] := by
  by_cases e : k = Wk.key (m.getD n 0) (Wk.lev k)
  · have hba := (Wv.bits_at (v := Wk.lev k) hn).1
    rw [← Wk.wb_key m hs (by omega), ← e] at hba
    intro e2
    rw [e2] at hba
    simp at hba
  · rw [← Wk.wb_del_other hn hk e]; exact h
/-- How far Delete has come. -/
structure DelAt (w : World) (x : Wx) (m : List Int) (n : Nat) (wr : World) (F : For) (v c hb : Nat) : Prop where
  ing : Ing w x wr x.N (cutN x.N (Wv.del m n) v) F c
  des : ∀ k, (F k).map Ent.m = midd m (Wv.del m n) v k
  low : ∀ k, ¬ Wk.lev k < v → F k = x.F k
  vis : c ≤ v * (4 * hiF x.F + 4 + hb)
  top : hb = 0 ∨ ∃ u e, u < v ∧ F (Wk.key (m.getD n 0) u) = some e ∧ e.S.rt.ht = hb
theorem DelAt.start {w : World} {x : Wx} {m : List Int} (h : Wav w x m) (n : Nat) : DelAt w x m n (w.setCell ⟨x.t, 1, none⟩ (.int .i64 0)) x.F 0 0 0 :=
  ⟨by rw [cutN_zero]; exact h.ing, fun k => by unfold midd; rw [if_neg (Nat.not_lt_zero _)]; exact h.des k, fun _ _ => rfl, Nat.zero_le _, .inl rfl⟩
theorem DelAt.drewN {w : World} {x : Wx} {m : List Int} {n : Nat} {wr : World} {F : For} {v c hb : Nat} (h : DelAt w x m n wr F v c hb) (d : Nat) : DelAt w x m n (wr.drewN d) F v c hb :=
  ⟨h.ing.drewN d, h.des, h.low, h.vis, h.top⟩
theorem cutN_at {N : Lks} {m' : List Int} {v k : Nat} (hl : Wk.lev k = v) : cutN N m' v k = N k := by
  unfold cutN cutc
  rw [if_neg (by simp [hl])]
/-- A level's node stands, and its tree is as it was. -/
theorem DelAt.node {w : World} {x : Wx} {m : List Int} {n : Nat} {wr : World} {F : For} {v c hb : Nat} (hw : Wav w x m) (h : DelAt w x m n wr F v c hb) (hn : n < m.length) (hs : 0 ≤ m.getD n 0 ∧ m.getD n 0 ≤ 256) (hv : v ≤ 8) :
    ∃ b f, x.N (Wk.key (m.getD n 0) v) = some b ∧ F (Wk.key (m.getD n 0) v) = some f ∧ f.m = Wk.wb m (Wk.key (m.getD n 0) v) ∧ f.S.rt.ht ≤ hiF x.F ∧ cutN x.N (Wv.del m n) v (Wk.key (m.getD n 0) v) = some b := by
  have hr := Wk.key_rng hs hv
  have hl := Wk.key_lev hs (v := v) (by omega)
  have hba := (Wv.bits_at (v := v) hn).1
  rw [← Wk.wb_key m hs (by omega)] at hba
  obtain ⟨e, b, he, hm, hb2⟩ := hw.stands hr (fun e => by rw [e] at hba; simp at hba)
  have hh := hiF_at hr.1 hr.2 he
  exact ⟨b, e, hb2, (h.low _ (by omega)).trans he, hm, hh, (cutN_at hl).trans hb2⟩
theorem cutN_succ {w : World} {x : Wx} {m : List Int} (hw : Wav w x m) {n : Nat} (hn : n < m.length) (hs : 0 ≤ m.getD n 0 ∧ m.getD n 0 ≤ 256) {v : Nat} (hv : v ≤ 8) :
    cutN x.N (Wv.del m n) (v + 1) = if Wk.wb (Wv.del m n) (Wk.key (m.getD n 0) v) = [] then (cutN x.N (Wv.del m n) v).put (Wk.key (m.getD n 0) v) none else cutN x.N (Wv.del m n) v := by
  have hr := Wk.key_rng hs hv
  have hl := Wk.key_lev hs (v := v) (by omega)
  have hoth : ∀ k, k ≠ Wk.key (m.getD n 0) v → cutN x.N (Wv.del m n) (v + 1) k = cutN x.N (Wv.del m n) v k := fun k hk => by
    unfold cutN cutc
    by_cases h1 : Wk.lev k < v
    · simp [h1, show Wk.lev k < v + 1 by omega]
    · by_cases h2 : Wk.lev k < v + 1
      · by_cases h3 : Wk.wb (Wv.del m n) k = []
        · have hN : x.N k = none := by
            by_cases h4 : 1 ≤ k ∧ k < 512
            · refine (hw.stands_not ?_).2
              rw [Wk.wq_in m h4, ← Wk.wb_del_other hn h4.1 (fun e => hk (by rw [e, show Wk.lev k = v by omega])), h3]; rfl
            · exact (hw.stands_not (Wk.wq_out m h4)).2
          rw [hN]; simp
        · simp [h3]
      · simp [h1, h2]
  funext k
  by_cases he : Wk.wb (Wv.del m n) (Wk.key (m.getD n 0) v) = []
  · rw [if_pos he]
    by_cases hk : k = Wk.key (m.getD n 0) v
    · subst hk
      rw [Lks.put_at]
      unfold cutN
      rw [if_pos (show cutc (Wv.del m n) (v + 1) (Wk.key (m.getD n 0) v) = true from decide_eq_true ⟨by omega, he⟩)]
    · rw [Lks.put_ne _ _ hk]; exact hoth k hk
  · rw [if_neg he]
    by_cases hk : k = Wk.key (m.getD n 0) v
    · subst hk
      unfold cutN
      rw [if_neg (cutc_no he), if_neg (cutc_no he)]
    · exact hoth k hk
/-- The level is done. -/
theorem DelAt.next {w : World} {x : Wx} {m : List Int} {n : Nat} {wr w4 : World} {F F4 : For} {v c hb b c4 : Nat} {f e : Ent} (hw : Wav w x m) (h : DelAt w x m n wr F v c hb) (hn : n < m.length) (hs : 0 ≤ m.getD n 0 ∧ m.getD n 0 ≤ 256) (hv : v ≤ 8) (hi : Ing w x w4 x.N (cutN x.N (Wv.del m n) (v + 1)) F4 c4) (hF : F4 = F.put (Wk.key (m.getD n 0) v) e)
    (he : e.m = Wk.wb (Wv.del m n) (Wk.key (m.getD n 0) v)) (hf : f.S.rt.ht ≤ hiF x.F) (hb2 : x.N (Wk.key (m.getD n 0) v) = some b) (hc : c4 ≤ c + (4 * f.S.rt.ht + 3) + (e.S.rt.ht + 1)) : DelAt w x m n w4 F4 (v + 1) c4 (max hb e.S.rt.ht) := by
  have hr := Wk.key_rng hs hv
  have hl := Wk.key_lev hs (v := v) (by omega)
  subst hF
  refine ⟨hi, fun k => ?_, fun k hk => ?_, ?_, ?_⟩
  · by_cases e1 : k = Wk.key (m.getD n 0) v
    · subst e1
      rw [For.put_at]
      unfold midd
      rw [hl, if_pos (by omega)]
      have hq : Wk.wq m (Wk.key (m.getD n 0) v) ≠ none := fun e2 => by have := (hw.stands_not e2).2; rw [hb2] at this; cases this
      cases e3 : Wk.wq m (Wk.key (m.getD n 0) v) with
      | none => exact absurd e3 hq
      | some l => show some e.m = some _; rw [he]
    · rw [For.put_ne _ _ e1, h.des k]
      unfold midd
      by_cases h2 : Wk.lev k < v
      · rw [if_pos h2, if_pos (by omega)]
      · rw [if_neg h2]
        by_cases h3 : Wk.lev k < v + 1
        · rw [if_pos h3]
          by_cases h4 : 1 ≤ k ∧ k < 512
          · rw [Wk.wb_del_other hn h4.1 (fun e2 => e1 (by rw [e2, show Wk.lev k = v by omega])), Wk.wq_in m h4]
            unfold Wk.ob
            split
            · rfl
            · rfl
          · rw [Wk.wq_out m h4]; rfl
        · rw [if_neg h3]
  · rw [For.put_ne _ _ (fun e2 => by subst e2; omega)]
    exact h.low k (by omega)
  · have h1 := h.vis
    have h3 : v * (4 * hiF x.F + 4 + hb) ≤ v * (4 * hiF x.F + 4 + max hb e.S.rt.ht) := Nat.mul_le_mul_left _ (by omega)
    rw [Nat.succ_mul]
    omega
  · by_cases h1 : hb ≤ e.S.rt.ht
    · exact .inr ⟨v, e, by omega, For.put_at _ _ _, by omega⟩
    · rcases h.top with h3 | ⟨u, g, h3, h4, h5⟩
      · omega
      · exact .inr ⟨u, g, by omega, by rw [For.put_ne _ _ (fun e2 => by have := Wk.key_inj hs (by omega) (by omega) e2; omega)]; exact h4, by omega⟩
theorem DelAt.done {w : World} {x : Wx} {m : List Int} {n : Nat} {wr : World} {F : For} {c hb : Nat} (hw : Wav w x m) (h : DelAt w x m n wr F 9 c hb) (hn : n < m.length) (hs : 0 ≤ m.getD n 0 ∧ m.getD n 0 ≤ 256) : ∃ x', Mvd w wr x x' (Wv.del m n) ∧ x'.v ≤ 9 * (4 * hiF x.F + 4 + hiF x'.F) := by
  have hW := h.ing.web.cut (cutc (Wv.del m n) 9) (fun k => rfl)
  have hd : ∀ k, ((fun k => if cutc (Wv.del m n) 9 k = true then none else F k) k : Option Ent).map Ent.m = Wk.wq (Wv.del m n) k := fun k => by
    show (if cutc (Wv.del m n) 9 k = true then none else F k : Option Ent).map Ent.m = _
    have hdk := h.des k
    unfold midd at hdk
    by_cases h1 : 1 ≤ k ∧ k < 512
    · have h2 := Wk.lev_le h1.1 h1.2
      rw [if_pos (by omega)] at hdk
      rw [Wk.wq_in _ h1]
      by_cases h3 : Wk.wb (Wv.del m n) k = []
      · rw [if_pos (by unfold cutc; simp [h3]; omega), h3]; rfl
      · rw [if_neg (by unfold cutc; simp [h3]), hdk, Wk.wq_in m h1, Wk.ob_some h3, Wk.ob_some (wb_del_more hn hs h1.1 h2 h3)]; rfl
    · have h4 : F k = none := by
        have h5 := hw.stands_not (Wk.wq_out m h1)
        cases e : F k with
        | none => rfl
        | some f =>
          rw [e, Wk.wq_out m h1] at hdk
          split at hdk <;> cases hdk
      rw [h4, Wk.wq_out _ h1]
      split <;> rfl
  refine ⟨⟨x.B, x.t, cutN x.N (Wv.del m n) 9, fun k => if cutc (Wv.del m n) 9 k = true then none else F k, c⟩, ⟨⟨hW, hd, hw.good.del n⟩, rfl, h.ing.stay, fun b hb2 => ?_⟩, ?_⟩
  · rcases hb2 with hb2 | hb2
    · exact .inl (.inl hb2)
    · exact (h.ing.own b (Nown.cut (cutc (Wv.del m n) 9) (fun k => rfl) hb2)).imp .inr id
  · have h1 := h.vis
    have h2 : hb ≤ hiF (fun k => if cutc (Wv.del m n) 9 k = true then none else F k) := by
      rcases h.top with h3 | ⟨u, e, h3, h4, h5⟩
      · omega
      · have hr := Wk.key_rng hs (v := u) (by omega)
        by_cases h6 : hb = 0
        · omega
        · have hdk := h.des (Wk.key (m.getD n 0) u)
          rw [h4] at hdk
          have hl := Wk.key_lev hs (v := u) (by omega)
          unfold midd at hdk
          rw [hl, if_pos h3] at hdk
          have hem : e.m = Wk.wb (Wv.del m n) (Wk.key (m.getD n 0) u) := by
            cases e3 : Wk.wq m (Wk.key (m.getD n 0) u) with
            | none => rw [e3] at hdk; cases hdk
            | some l => rw [e3] at hdk; injection hdk
          have hne : e.m ≠ [] := fun e4 => by
            have h7 := (h.ing.web.nods.fr.tre _ e h4).1.2
            rw [e4] at h7
            have := h7.none.2.2
            omega
          rw [hem] at hne
          have := hiF_at (F := fun k => if cutc (Wv.del m n) 9 k = true then none else F k) hr.1 hr.2 (by show (if cutc (Wv.del m n) 9 _ = true then none else F _) = some e; rw [if_neg (cutc_no hne), h4])
          omega
    have h3 : 9 * (4 * hiF x.F + 4 + hb) ≤ 9 * (4 * hiF x.F + 4 + hiF (fun k => if cutc (Wv.del m n) 9 k = true then none else F k)) := Nat.mul_le_mul_left _ (by omega)
    show c ≤ 9 * (4 * hiF x.F + 4 + hiF (fun k => if cutc (Wv.del m n) 9 k = true then none else F k))
    omega
theorem Ing.store {w : World} {x : Wx} {wr : World} {N L : Lks} {F : For} {v k : Nat} {p : Addr} (h : Ing w x wr N L F v) (ha : At N x.t k p) (y : Option Nat) : Ing w x (wr.setCell p (pn y)) N (L.put k y) F v := by
  obtain ⟨hS, hst⟩ := h.web.store ha y
  exact ⟨hS, h.own, h.stay.trans hst (fun _ hi ho => h.owned hi ho)⟩
end Go.Proofs.YthbbokoeiifjdaaGreatDoor
namespace Go.Proofs.YthbbokoeiifjdaaGreatDoor
open Go Go.RowKit Go.ChangeAt Tr

theorem Wav.get_low {w : World} {x : Wx} {m : List Int} (h : Wav w x m) (k : Int) (hk : k < 0) :
    Calls Tryz.prog 34 #[.pointer (some ⟨x.t, 0, none⟩), .int .i64 k] w fun e w' => e = .returned (.tuple #[.int .i64 (-1), .int .i64 2]) ∧ Red w w' x m x.F 0 := by
  obtain ⟨hZ, hR⟩ := h.zero
  have f1 : w.frozen? ⟨x.t, 1, none⟩ = false := free_of h.web.top
  have c1 : w.cell? ⟨x.t, 1, none⟩ = some (.int .i64 x.v) := (cell_of h.web.top).trans rfl
  have HR := Lib.hid (h.red hR)
  clear h hZ hR
  go_enter Tryz.func34, Tryz.ntmps34
  go_wp2_with fail
  go_ret2
  exact ⟨rfl, HR.out⟩
theorem Wav.get_high {w : World} {x : Wx} {m : List Int} (h : Wav w x m) (k : Int) (hk : ¬ k < 0) (hl : (m.length : Int) ≤ k) :
    Calls Tryz.prog 34 #[.pointer (some ⟨x.t, 0, none⟩), .int .i64 k] w fun e w' => e = .returned (.tuple #[.int .i64 (-1), .int .i64 2]) ∧ Red w w' x m x.F 0 := by
  obtain ⟨hZ, hR⟩ := h.zero
  have f1 : w.frozen? ⟨x.t, 1, none⟩ = false := free_of h.web.top
  have c1 : w.cell? ⟨x.t, 1, none⟩ = some (.int .i64 x.v) := (cell_of h.web.top).trans rfl
  have keyL := hZ.len
  have HR := Lib.hid (h.red hR)
  clear h hZ hR
  go_enter Tryz.func34, Tryz.ntmps34
  go_wp2_with fail
  (with_reducible refine keyL.mono ?_); rintro e w2 ⟨rfl, rfl⟩
  go_wp2_with fail
  go_ret2
  exact ⟨rfl, HR.out⟩
theorem Wav.get_out {w : World} {x : Wx} {m : List Int} (h : Wav w x m) (k : Int) (hk : k < 0 ∨ (m.length : Int) ≤ k) :
    Calls Tryz.prog 34 #[.pointer (some ⟨x.t, 0, none⟩), .int .i64 k] w fun e w' => e = .returned (.tuple #[.int .i64 (-1), .int .i64 2]) ∧ Red w w' x m x.F 0 := by
  by_cases h0 : k < 0
  · exact h.get_low k h0
  · exact h.get_high k h0 (by omega)
theorem wrank_nil (k s : Int) (w : World) : Calls Tryz.prog 46 #[.pointer none, .int .i64 k, .int .i64 s] w fun e w' => e = .returned (.int .i64 0) ∧ w = w' := by
  go_enter Tryz.func46, Tryz.ntmps46
  go_wp2_with fail
  go_ret
  exact ⟨rfl, rfl⟩
end Go.Proofs.YthbbokoeiifjdaaGreatDoor
