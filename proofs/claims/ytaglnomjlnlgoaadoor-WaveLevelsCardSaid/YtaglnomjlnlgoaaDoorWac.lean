/- Insert into a wave: down the nodes of the symbol, made where there are none. Insert into a wave: the walk. Delete from a wave: down the nodes of the symbol, let go where nothing is left. The refused calls of a wave. -/
import Derived.Test.YtaglnomjlnlgoaaDoorWab
namespace Go.Proofs.YtaglnomjlnlgoaaDoor
open Go Go.RowKit Go.ChangeAt Tr

theorem rk_ins (c : Bool) (l : List Bool) {p : Nat} (hp : p ≤ l.length) : Blk.rk c (Blk.ins l p c) p = Blk.rk c l p := by
  unfold Blk.rk Blk.ins
  rw [List.take_append_of_le_length (by rw [List.length_take]; omega), List.take_of_length_le (by rw [List.length_take]; omega)]
theorem qbit (s l : Int) (w : World) : Calls Tryd.prog 35 #[.int .i64 s, .int .i64 l] w fun e w' => e = .returned (.bool (Sy.bit s l)) ∧ w' = w := (sbit s l w).mono fun _ _ ⟨h1, h2⟩ => ⟨h1, h2.symm⟩
/-- A wave that is being turned. -/
structure Ing (w : World) (x : Wx) (wr : World) (N L : Lks) (F : For) (v : Nat) : Prop where
  web : Web x.B wr x.t N L F v
  own : ∀ b, Nown N F b → Nown x.N x.F b ∨ w.heap.size ≤ b
  stay : Stay x.own w wr
theorem Ing.owned {w : World} {x : Wx} {wr : World} {N L : Lks} {F : For} {v : Nat} (h : Ing w x wr N L F v) {b : Nat} (hlt : b < w.heap.size) (hb : b = x.t ∨ Nown N F b) : x.own b := by
  rcases hb with hb | hb
  · exact .inl hb
  · rcases h.own b hb with hb | hb
    · exact .inr hb
    · omega
theorem Ing.drewN {w : World} {x : Wx} {wr : World} {N L : Lks} {F : For} {v : Nat} (h : Ing w x wr N L F v) (n : Nat) : Ing w x (wr.drewN n) N L F v := ⟨h.web.drewN n, h.own, h.stay.drewN n⟩
theorem Ing.turn {w : World} {x : Wx} {wr w1 : World} {N L : Lks} {F : For} {v k : Nat} {e : Ent} {S' : St} {m' : List Bool} (h : Ing w x wr N L F v) (hk : F k = some e) (ht : Tre e.base w1 e.t S' m') (hm : Mv wr w1 e.S S') : Ing w x w1 N L (F.put k ⟨e.base, e.t, S', m'⟩) v := by
  obtain ⟨h1, h2⟩ := Nown.turned (N := N) (m' := m') hk hm
  refine ⟨h.web.turn hk ht hm, fun b hb => ?_, h.stay.trans h1 (fun i hi ho => h.owned hi (.inr ho))⟩
  rcases h2 b hb with h3 | h3
  · exact h.own b h3
  · exact .inr (Nat.le_trans h.stay.size h3)
theorem Ing.look {w : World} {x : Wx} {wr w1 : World} {N L : Lks} {F : For} {v v2 : Nat} (h : Ing w x wr N L F v) (hW : Web x.B w1 x.t N L F v2) (hs : Stay (· = x.t) wr w1) : Ing w x w1 N L F v2 :=
  ⟨hW, h.own, h.stay.trans hs (fun _ _ e => .inl e)⟩
theorem Nown.see {N : Lks} {F : For} {k : Nat} {e : Ent} (hk : F k = some e) (u b : Nat) : Nown N (F.put k (e.see u)) b → Nown N F b := by
  rintro (h | ⟨j, f, hj, ho⟩)
  · exact .inl h
  · by_cases e1 : j = k
    · subst e1
      rw [For.put_at] at hj
      injection hj with hj
      subst hj
      exact .inr ⟨j, e, hk, ho⟩
    · rw [For.put_ne _ _ e1] at hj
      exact .inr ⟨j, f, hj, ho⟩
theorem Ing.rank {w : World} {x : Wx} {wr w1 : World} {N L : Lks} {F : For} {v v2 k u : Nat} {e : Ent} (h : Ing w x wr N L F v) (hk : F k = some e) (hW : Web x.B w1 x.t N L (F.put k (e.see u)) v2) (hs : Stay (fun c => c = x.t ∨ Nown N F c) wr w1) : Ing w x w1 N L (F.put k (e.see u)) v2 :=
  ⟨hW, fun b hb => h.own b (Nown.see hk u b hb), h.stay.trans hs (fun _ hi ho => h.owned hi ho)⟩
/-- A new node, and the pointer to it. -/
theorem Ing.add {w : World} {x : Wx} {wr w1 : World} {N : Lks} {F : For} {v k b base t : Nat} {S : St} {p : Addr} (h : Ing w x wr N N F v) (hk1 : 1 ≤ k) (ha : At N x.t k p) (hk : N k = none) (h0 : N (2 * k) = none) (h1 : N (2 * k + 1) = none) (hn : NewNd wr w1 b base t S []) :
    Ing w x (w1.setCell p (pn (some b))) (N.put k (some b)) (N.put k (some b)) (F.put k ⟨base, t, S, []⟩) v := by
  have hW := h.web.add hk1 hk h0 h1 hn.below hn.node hn.lo hn.tre hn.base hn.nb
  have hA : At (N.put k (some b)) x.t k p := by
    rcases ha with ha | ⟨j, i, c, e1, e2, e3, e4⟩
    · exact .inl ha
    · exact .inr ⟨j, i, c, e1, e2, by rw [Lks.put_ne _ _ (by omega)]; exact e3, e4⟩
  obtain ⟨hS, hst⟩ := hW.store hA (some b)
  have hsz := h.stay.size
  have hbw := hn.below.size
  have hown : ∀ c, Nown (N.put k (some b)) (F.put k ⟨base, t, S, []⟩) c → Nown x.N x.F c ∨ w.heap.size ≤ c := fun c hc => by
    rcases hc with ⟨j, hj⟩ | ⟨j, f, hj, ho⟩
    · by_cases e1 : j = k
      · subst e1
        rw [Lks.put_at] at hj
        injection hj with hj
        have := hn.lo
        exact .inr (by omega)
      · rw [Lks.put_ne _ _ e1] at hj
        exact h.own c (.inl ⟨j, hj⟩)
    · by_cases e1 : j = k
      · subst e1
        rw [For.put_at] at hj
        injection hj with hj
        subst hj
        have h2 := (hn.tre.1.blocks ho).1
        have h3 := hn.base
        have : base ≤ c := h2
        exact .inr (by omega)
      · rw [For.put_ne _ _ e1] at hj
        exact h.own c (.inr ⟨j, f, hj, ho⟩)
  refine ⟨hS, hown, (h.stay.trans (Stay.of_below (S := fun _ => False) hn.below) (fun _ _ e => e.elim)).trans hst (fun i hi ho => ?_)⟩
  rcases ho with ho | ho
  · exact .inl ho
  · rcases hown i ho with h2 | h2
    · exact .inr h2
    · omega
theorem Wav.ing {w : World} {x : Wx} {m : List Int} (h : Wav w x m) : Ing w x (w.setCell ⟨x.t, 1, none⟩ (.int .i64 0)) x.N x.N x.F 0 := by
  obtain ⟨_, hR⟩ := h.zero
  exact ⟨hR.web, fun _ hb => .inl hb, hR.stay⟩
/-- The bits of the nodes when the levels above v are done. -/
def mid (m m' : List Int) (v k : Nat) : Option (List Bool) := if Wk.lev k < v then Wk.wq m' k else Wk.wq m k
theorem mid_zero (m m' : List Int) (k : Nat) : mid m m' 0 k = Wk.wq m k := if_neg (Nat.not_lt_zero _)
theorem wq_ins_other {m : List Int} {n : Nat} {s : Int} {k : Nat} (h : 1 ≤ k → k ≠ Wk.key s (Wk.lev k)) : Wk.wq (Wv.ins m n s) k = Wk.wq m k := by
  by_cases h1 : 1 ≤ k ∧ k < 512
  · rw [Wk.wq_in _ h1, Wk.wq_in _ h1, Wk.wb_ins_other h1.1 (h h1.1)]
  · rw [Wk.wq_out _ h1, Wk.wq_out _ h1]
theorem mid_nine (m m' : List Int) (k : Nat) : mid m m' 9 k = Wk.wq m' k := by
  unfold mid
  by_cases h : Wk.lev k < 9
  · rw [if_pos h]
  · rw [if_neg h]
    have h1 : ¬ (1 ≤ k ∧ k < 512) := fun h2 => h (by have := Wk.lev_le h2.1 h2.2; omega)
    rw [Wk.wq_out _ h1, Wk.wq_out _ h1]
/-- One more level is done. -/
theorem mid_succ {m : List Int} {n : Nat} {s : Int} (hs : 0 ≤ s ∧ s ≤ 256) {v : Nat} (hv : v ≤ 8) {F : For} {e : Ent} (hF : ∀ k, k ≠ Wk.key s v → (F k).map Ent.m = mid m (Wv.ins m n s) v k) (he : e.m = Wk.wb (Wv.ins m n s) (Wk.key s v)) (hne : e.m ≠ []) (k : Nat) :
    ((F.put (Wk.key s v) e) k).map Ent.m = mid m (Wv.ins m n s) (v + 1) k := by
  have hr := Wk.key_rng hs hv
  have hl := Wk.key_lev hs (v := v) (by omega)
  by_cases e1 : k = Wk.key s v
  · subst e1
    rw [For.put_at]
    unfold mid
    rw [hl, if_pos (by omega), Wk.wq_in _ hr, ← he, Wk.ob_some hne]
    rfl
  · rw [For.put_ne _ _ e1, hF k e1]
    unfold mid
    by_cases h2 : Wk.lev k < v
    · rw [if_pos h2, if_pos (by omega)]
    · rw [if_neg h2]
      by_cases h3 : Wk.lev k < v + 1
      · rw [if_pos h3, wq_ins_other (fun _ h4 => e1 (by rw [h4, show Wk.lev k = v by omega]))]
      · rw [if_neg h3]
end Go.Proofs.YtaglnomjlnlgoaaDoor
namespace Go.Proofs.YtaglnomjlnlgoaaDoor
open Go Go.RowKit Go.ChangeAt Tr

/-- What a call left that turned a wave. -/
structure Mvd (w w' : World) (x x' : Wx) (m : List Int) : Prop where
  wav : Wav w' x' m
  t : x'.t = x.t
  stay : Stay x.own w w'
  own : ∀ b, x'.own b → x.own b ∨ w.heap.size ≤ b
theorem Mvd.of {w wr : World} {x : Wx} {N : Lks} {F : For} {v : Nat} {m : List Int} (h : Ing w x wr N N F v) (hd : ∀ k, (F k).map Ent.m = Wk.wq m k) (hg : Wv.Good m) : Mvd w wr x ⟨x.B, x.t, N, F, v⟩ m :=
  ⟨⟨h.web, hd, hg⟩, rfl, h.stay, fun b hb => by
    rcases hb with hb | hb
    · exact .inl (.inl hb)
    · exact (h.own b hb).imp .inr id⟩
/-- How far Insert has come: the levels above v are done. -/
structure InsAt (w : World) (x : Wx) (m : List Int) (n : Nat) (s : Int) (wr : World) (N : Lks) (F : For) (v c hb : Nat) : Prop where
  ing : Ing w x wr N N F c
  des : ∀ k, (F k).map Ent.m = mid m (Wv.ins m n s) v k
  low : ∀ k, ¬ Wk.lev k < v → F k = x.F k ∧ N k = x.N k
  vis : c ≤ v * (4 * hiF x.F + 4 + hb)
  top : hb = 0 ∨ ∃ u e, u < v ∧ F (Wk.key s u) = some e ∧ e.S.rt.ht = hb
/-- A level's node stands, and its tree is as it was. -/
structure InsNd (w : World) (x : Wx) (m : List Int) (n : Nat) (s : Int) (wr : World) (N : Lks) (F : For) (v c hb kk b : Nat) (f : Ent) (pb po : Nat) : Prop where
  ing : Ing w x wr N N F c
  des : ∀ k, k ≠ kk → (F k).map Ent.m = mid m (Wv.ins m n s) v k
  low : ∀ k, ¬ Wk.lev k < v + 1 → F k = x.F k ∧ N k = x.N k
  vis : c ≤ v * (4 * hiF x.F + 4 + hb)
  top : hb = 0 ∨ ∃ u e, u < v ∧ F (Wk.key s u) = some e ∧ e.S.rt.ht = hb
  at' : At N x.t kk ⟨pb, po, none⟩
  ht : f.S.rt.ht ≤ hiF x.F
  F : F kk = some f
  N : N kk = some b
  m : f.m = Wk.wb m kk
theorem InsAt.start {w : World} {x : Wx} {m : List Int} (h : Wav w x m) (n : Nat) (s : Int) : InsAt w x m n s (w.setCell ⟨x.t, 1, none⟩ (.int .i64 0)) x.N x.F 0 0 0 :=
  ⟨h.ing, fun k => by rw [mid_zero]; exact h.des k, fun _ _ => ⟨rfl, rfl⟩, Nat.zero_le _, .inl rfl⟩
theorem InsAt.has {w : World} {x : Wx} {m : List Int} {n : Nat} {s : Int} {wr : World} {N : Lks} {F : For} {v c hb pb po : Nat} (hw : Wav w x m) (h : InsAt w x m n s wr N F v c hb) (hs : 0 ≤ s ∧ s ≤ 256) (hv : v ≤ 8) (ha : At N x.t (Wk.key s v) ⟨pb, po, none⟩) (hne : Wk.wb m (Wk.key s v) ≠ []) :
    ∃ b f, InsNd w x m n s wr N F v c hb (Wk.key s v) b f pb po := by
  have hr := Wk.key_rng hs hv
  have hl := Wk.key_lev hs (v := v) (by omega)
  obtain ⟨e, b, he, hm, hb2⟩ := hw.stands hr hne
  obtain ⟨h1, h2⟩ := h.low (Wk.key s v) (by omega)
  have hh := hiF_at hr.1 hr.2 he
  exact ⟨b, e, h.ing, fun k _ => h.des k, fun k hk => h.low k (by omega), h.vis, h.top, ha, hh, h1.trans he, h2.trans hb2, hm⟩
theorem InsAt.not {w : World} {x : Wx} {m : List Int} {n : Nat} {s : Int} {wr : World} {N : Lks} {F : For} {v c hb : Nat} (hw : Wav w x m) (h : InsAt w x m n s wr N F v c hb) (hs : 0 ≤ s ∧ s ≤ 256) (hv : v ≤ 8) (he : Wk.wb m (Wk.key s v) = []) : N (Wk.key s v) = none := by
  have hr := Wk.key_rng hs hv
  have hl := Wk.key_lev hs (v := v) (by omega)
  rw [(h.low (Wk.key s v) (by omega)).2]
  exact (hw.stands_not (by rw [Wk.wq_in m hr, he]; rfl)).2
theorem InsAt.new {w : World} {x : Wx} {m : List Int} {n : Nat} {s : Int} {wr w1 : World} {N : Lks} {F : For} {v c hb pb po b base t : Nat} {S : St} (hw : Wav w x m) (h : InsAt w x m n s wr N F v c hb) (hs : 0 ≤ s ∧ s ≤ 256) (hv : v ≤ 8) (ha : At N x.t (Wk.key s v) ⟨pb, po, none⟩) (he : Wk.wb m (Wk.key s v) = []) (hn : NewNd wr w1 b base t S []) :
    InsNd w x m n s (w1.setCell ⟨pb, po, none⟩ (pn (some b))) (N.put (Wk.key s v) (some b)) (F.put (Wk.key s v) ⟨base, t, S, []⟩) v c hb (Wk.key s v) b ⟨base, t, S, []⟩ pb po := by
  have hr := Wk.key_rng hs hv
  have hl := Wk.key_lev hs (v := v) (by omega)
  have hq : Wk.wq m (Wk.key s v) = none := by rw [Wk.wq_in m hr, he]; rfl
  have h2 : ∀ c : Bool, N (2 * Wk.key s v + Wk.bi c) = none := fun c => by
    have hlc := (Wk.lev_child hr.1 (Wk.bi_le c)).1
    rw [(h.low _ (by omega)).2]
    exact (hw.stands_not (Wk.wq_below hw.good hr.1 hq c)).2
  refine ⟨h.ing.add hr.1 ha (h.not hw hs hv he) (h2 false) (h2 true) hn, fun k hk => ?_, fun k hk => ?_, h.vis, ?_, ?_, ?_, For.put_at _ _ _, Lks.put_at _ _ _, he.symm⟩
  · rw [For.put_ne _ _ hk]; exact h.des k
  · have hne : k ≠ Wk.key s v := fun e => by subst e; omega
    rw [For.put_ne _ _ hne, Lks.put_ne _ _ hne]
    exact h.low k (by omega)
  · rcases h.top with h3 | ⟨u, e, h3, h4, h5⟩
    · exact .inl h3
    · exact .inr ⟨u, e, h3, by rw [For.put_ne _ _ (fun e2 => by have := Wk.key_inj hs (by omega) (by omega) e2; omega)]; exact h4, h5⟩
  · rcases ha with ha | ⟨j, i, c, e1, e2, e3, e4⟩
    · exact .inl ha
    · exact .inr ⟨j, i, c, e1, e2, by rw [Lks.put_ne _ _ (by omega)]; exact e3, e4⟩
  · have := (Root.none hn.tre.2).2.2
    show S.rt.ht ≤ _
    omega
theorem InsNd.load {w : World} {x : Wx} {m : List Int} {n : Nat} {s : Int} {wr : World} {N : Lks} {F : For} {v c hb kk b pb po : Nat} {f : Ent} (h : InsNd w x m n s wr N F v c hb kk b f pb po) : wr.cell? ⟨pb, po, none⟩ = some (.pointer (some ⟨b, 0, none⟩)) := by
  rw [(h.ing.web.load h.at').1, h.N]; rfl
theorem InsNd.drewN {w : World} {x : Wx} {m : List Int} {n : Nat} {s : Int} {wr : World} {N : Lks} {F : For} {v c hb kk b pb po : Nat} {f : Ent} (h : InsNd w x m n s wr N F v c hb kk b f pb po) (d : Nat) : InsNd w x m n s (wr.drewN d) N F v c hb kk b f pb po :=
  ⟨h.ing.drewN d, h.des, h.low, h.vis, h.top, h.at', h.ht, h.F, h.N, h.m⟩
theorem InsNd.nd {w : World} {x : Wx} {m : List Int} {n : Nat} {s : Int} {wr : World} {N : Lks} {F : For} {v c hb kk b pb po : Nat} {f : Ent} (h : InsNd w x m n s wr N F v c hb kk b f pb po) : Node x.B wr b f (N (2 * kk)) (N (2 * kk + 1)) := h.ing.web.nods.nd h.N h.F
/-- The level is done. -/
theorem InsNd.next {w : World} {x : Wx} {m : List Int} {n : Nat} {s : Int} {wr w4 : World} {N : Lks} {F F4 : For} {v c hb b pb po c4 : Nat} {f e : Ent} (h : InsNd w x m n s wr N F v c hb (Wk.key s v) b f pb po) (hs : 0 ≤ s ∧ s ≤ 256) (hv : v ≤ 8) (hi : Ing w x w4 N N F4 c4) (hF : F4 = F.put (Wk.key s v) e)
    (he : e.m = Wk.wb (Wv.ins m n s) (Wk.key s v)) (hne : e.m ≠ []) (hc : c4 ≤ c + (4 * f.S.rt.ht + 3) + (e.S.rt.ht + 1)) : InsAt w x m n s w4 N F4 (v + 1) c4 (max hb e.S.rt.ht) := by
  have hl := Wk.key_lev hs (v := v) (by omega)
  subst hF
  refine ⟨hi, fun k => mid_succ hs hv (fun k hk => h.des k hk) he hne k, fun k hk => ?_, ?_, ?_⟩
  · rw [For.put_ne _ _ (fun e2 => by subst e2; omega)]
    exact h.low k hk
  · have h1 := h.vis
    have h2 := h.ht
    have h3 : v * (4 * hiF x.F + 4 + hb) ≤ v * (4 * hiF x.F + 4 + max hb e.S.rt.ht) := Nat.mul_le_mul_left _ (by omega)
    rw [Nat.succ_mul]
    omega
  · by_cases h1 : hb ≤ e.S.rt.ht
    · exact .inr ⟨v, e, by omega, For.put_at _ _ _, by omega⟩
    · rcases h.top with h3 | ⟨u, g, h3, h4, h5⟩
      · omega
      · exact .inr ⟨u, g, by omega, by rw [For.put_ne _ _ (fun e2 => by have := Wk.key_inj hs (by omega) (by omega) e2; omega)]; exact h4, by omega⟩
theorem For.put_put (F : For) (k : Nat) (e e' : Ent) : (F.put k e).put k e' = F.put k e' := funext fun j => by
  by_cases h : j = k
  · subst h; rw [For.put_at, For.put_at]
  · rw [For.put_ne _ _ h, For.put_ne _ _ h, For.put_ne _ _ h]
theorem InsAt.drewN {w : World} {x : Wx} {m : List Int} {n : Nat} {s : Int} {wr : World} {N : Lks} {F : For} {v c hb : Nat} (h : InsAt w x m n s wr N F v c hb) (d : Nat) : InsAt w x m n s (wr.drewN d) N F v c hb :=
  ⟨h.ing.drewN d, h.des, h.low, h.vis, h.top⟩
theorem InsAt.done {w : World} {x : Wx} {m : List Int} {n : Nat} {s : Int} {wr : World} {N : Lks} {F : For} {c hb : Nat} (hw : Wav w x m) (h : InsAt w x m n s wr N F 9 c hb) (hs : 0 ≤ s ∧ s ≤ 256) : ∃ x', Mvd w wr x x' (Wv.ins m n s) ∧ x'.v ≤ 9 * (4 * hiF x.F + 4 + hiF x'.F) := by
  refine ⟨⟨x.B, x.t, N, F, c⟩, Mvd.of h.ing (fun k => by rw [h.des k, mid_nine]) (hw.good.ins hs), ?_⟩
  have h1 := h.vis
  have h2 : hb ≤ hiF F := by
    rcases h.top with h3 | ⟨u, e, h3, h4, h5⟩
    · omega
    · have hr := Wk.key_rng hs (v := u) (by omega)
      have := hiF_at hr.1 hr.2 h4
      omega
  have h3 : 9 * (4 * hiF x.F + 4 + hb) ≤ 9 * (4 * hiF x.F + 4 + hiF F) := Nat.mul_le_mul_left _ (by omega)
  show c ≤ 9 * (4 * hiF x.F + 4 + hiF F)
  omega
set_option maxHeartbeats 3200000 in
set_option maxRecDepth 100000 in
theorem Wav.insert {w : World} {x : Wx} {m : List Int} (h : Wav w x m) (s : Int) (n : Nat) (hn : n ≤ m.length) (hm : m.length ≤ 1000000) (hs : 0 ≤ s ∧ s ≤ 256) :
    Calls Tryd.prog 18 #[.pointer (some ⟨x.t, 0, none⟩), .int .i64 n, .int .i64 s] w fun e w' => e = .returned (.int .i64 0) ∧ ∃ x', Mvd w w' x x' (Wv.ins m n s) ∧ x'.v ≤ 9 * (4 * hiF x.F + 4 + hiF x'.F) := by
  obtain ⟨hZ, hR⟩ := h.zero
  have hI := InsAt.start h n s
  have f1 : w.frozen? ⟨x.t, 1, none⟩ = false := free_of h.web.top
  have c1 : w.cell? ⟨x.t, 1, none⟩ = some (.int .i64 x.v) := (cell_of h.web.top).trans rfl
  have key := wsym_yes (w.setCell ⟨x.t, 1, none⟩ (.int .i64 0)) hs
  have keyL := hZ.len
  have d1 : decide ((n : Int) < 0) = false := decide_eq_false (by omega)
  have d2 : decide (m.length < n) = false := decide_eq_false (by omega)
  have d3 : decide ((m.length : Int) < (n : Int)) = false := decide_eq_false (by omega)
  have hnm : ¬ (m.length : Int) < (n : Int) := by omega
  have HH := Lib.hid h
  have HI := Lib.hid hI
  have HHI := Lib.hid (Nat.le_trans h.hi_le hm)
  have HN := Lib.hid hn
  clear h hZ hR hI
  go_enter Tryd.func18, Tryd.ntmps18
  go_wp2_with fail
  (with_reducible refine key.mono ?_); rintro e w1 ⟨rfl, hw1⟩
  rw [hw1] at keyL HI
  clear hw1 key f1 c1
  go_wp2_with fail
  (with_reducible refine keyL.mono ?_); rintro e w2 ⟨rfl, rfl⟩
  clear keyL
  go_wp2_with fail
  go_loopg [1, 7, 30] 9 (fun g s1 s7 s30 wr => ∃ (v : Nat) (N' : Lks) (F' : For) (c hb pb po : Nat), g = 9 - v ∧ v ≤ 9 ∧ s1 = .int .i64 (Wv.pos m v (Sy.path s v) n : Nat) ∧ s7 = .pointer (some ⟨pb, po, none⟩) ∧ s30 = .int .i64 v ∧ InsAt w x m n s wr N' F' v c hb ∧ At N' x.t (Wk.key s v) ⟨pb, po, none⟩)
  case atStart =>
    refine ⟨0, x.N, x.F, 0, 0, x.t, 0, rfl, by omega, ?_, rfl, rfl, HI.out, .inl ⟨Wk.key_zero hs, rfl⟩⟩
    rw [show ((0 : Nat) : Int) = 0 from rfl, Sy.path_zero hs, Wv.pos_zero HH.out.good HN.out]
  case round =>
    clear HI
    obtain ⟨v, N', F', c, hb, pb, po, rfl, hv9, rfl, rfl, rfl, hI, hA⟩ := hrel
    by_cases h9 : v = 9
    · subst h9
      have HI := Lib.hid hI
      clear hI hA
      go_wp2_with fail
      go_ret
      exact ⟨rfl, HI.out.done HH.out hs⟩
    · have hv8 : v ≤ 8 := by omega
      have hvi : (v : Int) < 9 := by omega
      obtain ⟨hq, hqf, _⟩ := hI.ing.web.load hA
      have hks := Wk.key_succ hs hv8
      have hrk : Blk.rk (Sy.bit s v) (Wk.wb m (Wk.key s v)) (Wv.pos m v (Sy.path s v) n) = Wv.pos m (v + 1) (Sy.path s (v + 1 : Nat)) n := by
        rw [Wk.wb_key m hs (by omega), Wv.rk_pos HH.out.good hv8, Wv.path_nxt hs hv8]
      have hpl0 := Wv.pos_le m v (Sy.path s v) n
      rw [← Wv.bits_len, ← Wk.wb_key m hs (by omega)] at hpl0
      have hio := Wk.wb_ins_own m n hs hv8
      obtain ⟨p, hp⟩ : ∃ p, Wv.pos m v (Sy.path s v) n = p := ⟨_, rfl⟩
      obtain ⟨p2, hp2⟩ : ∃ p2, Wv.pos m (v + 1) (Sy.path s (v + 1 : Nat)) n = p2 := ⟨_, rfl⟩
      rw [hp] at hrk hpl0 hio ⊢
      rw [hp2] at hrk
      have hvb : c ≤ 200000000 := by
        have h1 := hI.vis
        have h2 : hb ≤ 1000001 := by
          rcases hI.top with h3 | ⟨u, e, h3, h4, h5⟩
          · omega
          · have h6 := (hI.ing.web.nods.fr.tre _ e h4).1.2.ht
            have h7 := hI.des (Wk.key s u)
            rw [h4] at h7
            have h8 : Wk.lev (Wk.key s u) < v := by rw [Wk.key_lev hs (by omega)]; exact h3
            unfold mid at h7
            rw [if_pos h8] at h7
            have h9 := (Wk.wq_is h7.symm).2.1
            have h10 := Wk.wb_len (Wv.ins m n s) (Wk.key s u)
            rw [Wv.ins_len HN.out] at h10
            rw [h9] at h6
            omega
        have h3 : v * (4 * hiF x.F + 4 + hb) ≤ 9 * (4 * hiF x.F + 4 + hb) := Nat.mul_le_mul_right _ hv9
        have := HHI.out
        omega
      have hml := Wk.wb_len m (Wk.key s v)
      obtain ⟨b0, hc⟩ : ∃ b0, Sy.bit s (v : Int) = b0 := ⟨_, rfl⟩
      have keyB : ∀ w', Calls Tryd.prog 35 #[.int .i64 s, .int .i64 v] w' fun e w'' => e = .returned (.bool b0) ∧ w'' = w' := fun w' => by have := qbit s v w'; rwa [hc] at this
      rw [hc] at hks hrk hio
      have HKS := Lib.hid hks
      have HP := Lib.hid hp2
      have HA := Lib.hid hA
      have HI := Lib.hid hI
      have HIO := Lib.hid hio
      have HRK := Lib.hid hrk
      have HPL := Lib.hid hpl0
      have HML := Lib.hid hml
      clear hI hA hp hp2 hks hrk hio hc hpl0 hml
      by_cases hne : Wk.wb m (Wk.key s v) = []
      · rw [HI.out.not HH.out hs hv8 hne, pn_none] at hq
        have keyN := wnode (m := []) wr (.inl ⟨rfl, rfl⟩) (by show 0 ≤ _; decide)
        have HNE := Lib.hid hne
        clear hne
        go_wp2_with fail
        (with_reducible refine keyN.mono ?_); rintro e w1 ⟨b, base, t0, S, rfl, hnn⟩
        have hX := HI.out.new HH.out hs hv8 HA.out HNE.out hnn
        rw [pn_some] at hX
        have hq1 := (Below.cell (p := ⟨pb, po, none⟩) hnn.below (block_lt_of_cell hq)).trans hq
        have hqf1 : w1.frozen? ⟨pb, po, none⟩ = false := (Below.frozen (p := ⟨pb, po, none⟩) hnn.below (block_lt_of_cell hq)).trans hqf
        have HX := Lib.hid hX
        clear hX hnn hq hqf keyN
        go_wp2_with fail
        generalize w1.setCell ⟨pb, po, none⟩ (.pointer (some ⟨b, 0, none⟩)) = w2 at *
        generalize N'.put (Wk.key s v) (some b) = N2 at *
        generalize F'.put (Wk.key s v) ⟨base, t0, S, []⟩ = F2 at *
        generalize (⟨base, t0, S, []⟩ : Ent) = f at *
        have hq := HX.out.load
        clear HA HI
        rcases b0 with _ | _
        · go_quiet (first | (go_at_call 35; exact Calls.quiet_of_same (keyB _)))
          have hX3 := HX.out.drewN nq
          clear hq HX keyB
          generalize w2.drewN nq = w3 at *
          have nd := hX3.nd
          have c0 := nd.c0
          have hfm : f.m.length ≤ m.length := by rw [hX3.m]; exact HML.out
          have hpf : p ≤ f.m.length := by rw [hX3.m]; exact HPL.out
          have keyI := kins (Blk.ins f.m p false) (p : Int) p false w3 nd.tre rfl hpf (by omega) rfl
          have HX3 := Lib.hid hX3
          clear nd hX3
          go_wp2_with fail
          (with_reducible refine keyI.mono ?_); rintro e w4 ⟨rfl, S', hIn, _⟩
          have hI4 := HX3.out.ing.turn HX3.out.F hIn.tre hIn.mv
          have hvs := hIn.vis
          have hfh := HX3.out.ht
          have htn := hIn.tre.2.ht
          have hil := Blk.ins_len (l := f.m) (b := false) hpf
          have hhi := HHI.out
          have keyL := wlook (e := ⟨f.base, f.t, S', Blk.ins f.m p false⟩) hI4.web HX3.out.N (For.put_at _ _ _) (by omega) (by show S'.vis ≤ _; omega)
          have HI4 := Lib.hid hI4
          clear hIn hI4 keyI c0
          go_wp2_with fail
          (with_reducible refine keyL.mono ?_); rintro e w5 ⟨rfl, hW, hs5⟩
          have hI5 := HI4.out.look hW hs5
          have keyR := wrank (e := ⟨f.base, f.t, S', Blk.ins f.m p false⟩) p false p2 hI5.web HX3.out.N (For.put_at _ _ _) (by show (Blk.ins f.m p false).length ≤ 100000000; omega) (by show c + S'.vis ≤ _; omega) (by
            show ((Blk.rk false (Blk.ins f.m p false) (place (Blk.ins f.m p false).length p) : Nat) : Int) = p2
            rw [show place (Blk.ins f.m p false).length (p : Int) = p by unfold place; omega, rk_ins false f.m hpf, HX3.out.m, HRK.out])
          have HI5 := Lib.hid hI5
          clear hW hs5 hI5 keyL HI4
          go_wp2_with fail
          (with_reducible refine keyR.mono ?_); rintro e w6 ⟨rfl, u2, hu2, hW, hs6⟩
          have hI6 := HI5.out.rank (For.put_at _ _ _) hW hs6
          have hu3 : u2 ≤ S'.rt.ht + 1 := hu2
          have hnx := HX3.out.next (e := ⟨f.base, f.t, S'.see u2, Blk.ins f.m p false⟩) hs hv8 hI6 (For.put_put _ _ _ _) (by show Blk.ins f.m p false = _; rw [HIO.out, HX3.out.m]) (fun e => by
            have e2 : Blk.ins f.m p false = [] := e
            rw [e2] at hil
            simp at hil) (by show c + S'.vis + u2 ≤ c + (4 * f.S.rt.ht + 3) + (S'.rt.ht + 1); omega)
          have HNX := Lib.hid hnx
          have HNN := Lib.hid HX3.out.N
          clear hW hs6 hI6 hnx keyR HI5 HX3 hu2
          go_wp2_with fail
          go_quiet (first | (go_at_call 34; exact Calls.quiet_of_same (qside_f _)))
          go_wp2_with fail
          go_roundg (8 - v)
          case measure => omega
          case rel => exact ⟨v + 1, N2, _, _, _, b, 1, by omega, by omega, by rw [HP.out], rfl, by go_num, HNX.out.drewN _, .inr ⟨_, Wk.bi false, b, HKS.out, Wk.bi_le _, HNN.out, rfl⟩⟩
        · go_quiet (first | (go_at_call 35; exact Calls.quiet_of_same (keyB _)))
          have hX3 := HX.out.drewN nq
          clear hq HX keyB
          generalize w2.drewN nq = w3 at *
          have nd := hX3.nd
          have c0 := nd.c0
          have hfm : f.m.length ≤ m.length := by rw [hX3.m]; exact HML.out
          have hpf : p ≤ f.m.length := by rw [hX3.m]; exact HPL.out
          have keyI := kins (Blk.ins f.m p true) (p : Int) p true w3 nd.tre rfl hpf (by omega) rfl
          have HX3 := Lib.hid hX3
          clear nd hX3
          go_wp2_with fail
          (with_reducible refine keyI.mono ?_); rintro e w4 ⟨rfl, S', hIn, _⟩
          have hI4 := HX3.out.ing.turn HX3.out.F hIn.tre hIn.mv
          have hvs := hIn.vis
          have hfh := HX3.out.ht
          have htn := hIn.tre.2.ht
          have hil := Blk.ins_len (l := f.m) (b := true) hpf
          have hhi := HHI.out
          have keyL := wlook (e := ⟨f.base, f.t, S', Blk.ins f.m p true⟩) hI4.web HX3.out.N (For.put_at _ _ _) (by omega) (by show S'.vis ≤ _; omega)
          have HI4 := Lib.hid hI4
          clear hIn hI4 keyI c0
          go_wp2_with fail
          (with_reducible refine keyL.mono ?_); rintro e w5 ⟨rfl, hW, hs5⟩
          have hI5 := HI4.out.look hW hs5
          have keyR := wrank (e := ⟨f.base, f.t, S', Blk.ins f.m p true⟩) p true p2 hI5.web HX3.out.N (For.put_at _ _ _) (by show (Blk.ins f.m p true).length ≤ 100000000; omega) (by show c + S'.vis ≤ _; omega) (by
            show ((Blk.rk true (Blk.ins f.m p true) (place (Blk.ins f.m p true).length p) : Nat) : Int) = p2
            rw [show place (Blk.ins f.m p true).length (p : Int) = p by unfold place; omega, rk_ins true f.m hpf, HX3.out.m, HRK.out])
          have HI5 := Lib.hid hI5
          clear hW hs5 hI5 keyL HI4
          go_wp2_with fail
          (with_reducible refine keyR.mono ?_); rintro e w6 ⟨rfl, u2, hu2, hW, hs6⟩
          have hI6 := HI5.out.rank (For.put_at _ _ _) hW hs6
          have hu3 : u2 ≤ S'.rt.ht + 1 := hu2
          have hnx := HX3.out.next (e := ⟨f.base, f.t, S'.see u2, Blk.ins f.m p true⟩) hs hv8 hI6 (For.put_put _ _ _ _) (by show Blk.ins f.m p true = _; rw [HIO.out, HX3.out.m]) (fun e => by
            have e2 : Blk.ins f.m p true = [] := e
            rw [e2] at hil
            simp at hil) (by show c + S'.vis + u2 ≤ c + (4 * f.S.rt.ht + 3) + (S'.rt.ht + 1); omega)
          have HNX := Lib.hid hnx
          have HNN := Lib.hid HX3.out.N
          clear hW hs6 hI6 hnx keyR HI5 HX3 hu2
          go_wp2_with fail
          go_quiet (first | (go_at_call 34; exact Calls.quiet_of_same (qside_t _)))
          go_wp2_with fail
          go_roundg (8 - v)
          case measure => omega
          case rel => exact ⟨v + 1, N2, _, _, _, b, 2, by omega, by omega, by rw [HP.out], rfl, by go_num, HNX.out.drewN _, .inr ⟨_, Wk.bi true, b, HKS.out, Wk.bi_le _, HNN.out, rfl⟩⟩
      · obtain ⟨b, f, hX⟩ := HI.out.has HH.out hs hv8 HA.out hne
        rw [hX.N, pn_some] at hq
        have HX := Lib.hid hX
        clear hX hne
        go_wp2_with fail
        clear hq
        generalize wr = w2 at *
        generalize N' = N2 at *
        generalize F' = F2 at *
        have hq := HX.out.load
        clear HA HI
        rcases b0 with _ | _
        · go_quiet (first | (go_at_call 35; exact Calls.quiet_of_same (keyB _)))
          have hX3 := HX.out.drewN nq
          clear hq HX keyB
          generalize w2.drewN nq = w3 at *
          have nd := hX3.nd
          have c0 := nd.c0
          have hfm : f.m.length ≤ m.length := by rw [hX3.m]; exact HML.out
          have hpf : p ≤ f.m.length := by rw [hX3.m]; exact HPL.out
          have keyI := kins (Blk.ins f.m p false) (p : Int) p false w3 nd.tre rfl hpf (by omega) rfl
          have HX3 := Lib.hid hX3
          clear nd hX3
          go_wp2_with fail
          (with_reducible refine keyI.mono ?_); rintro e w4 ⟨rfl, S', hIn, _⟩
          have hI4 := HX3.out.ing.turn HX3.out.F hIn.tre hIn.mv
          have hvs := hIn.vis
          have hfh := HX3.out.ht
          have htn := hIn.tre.2.ht
          have hil := Blk.ins_len (l := f.m) (b := false) hpf
          have hhi := HHI.out
          have keyL := wlook (e := ⟨f.base, f.t, S', Blk.ins f.m p false⟩) hI4.web HX3.out.N (For.put_at _ _ _) (by omega) (by show S'.vis ≤ _; omega)
          have HI4 := Lib.hid hI4
          clear hIn hI4 keyI c0
          go_wp2_with fail
          (with_reducible refine keyL.mono ?_); rintro e w5 ⟨rfl, hW, hs5⟩
          have hI5 := HI4.out.look hW hs5
          have keyR := wrank (e := ⟨f.base, f.t, S', Blk.ins f.m p false⟩) p false p2 hI5.web HX3.out.N (For.put_at _ _ _) (by show (Blk.ins f.m p false).length ≤ 100000000; omega) (by show c + S'.vis ≤ _; omega) (by
            show ((Blk.rk false (Blk.ins f.m p false) (place (Blk.ins f.m p false).length p) : Nat) : Int) = p2
            rw [show place (Blk.ins f.m p false).length (p : Int) = p by unfold place; omega, rk_ins false f.m hpf, HX3.out.m, HRK.out])
          have HI5 := Lib.hid hI5
          clear hW hs5 hI5 keyL HI4
          go_wp2_with fail
          (with_reducible refine keyR.mono ?_); rintro e w6 ⟨rfl, u2, hu2, hW, hs6⟩
          have hI6 := HI5.out.rank (For.put_at _ _ _) hW hs6
          have hu3 : u2 ≤ S'.rt.ht + 1 := hu2
          have hnx := HX3.out.next (e := ⟨f.base, f.t, S'.see u2, Blk.ins f.m p false⟩) hs hv8 hI6 (For.put_put _ _ _ _) (by show Blk.ins f.m p false = _; rw [HIO.out, HX3.out.m]) (fun e => by
            have e2 : Blk.ins f.m p false = [] := e
            rw [e2] at hil
            simp at hil) (by show c + S'.vis + u2 ≤ c + (4 * f.S.rt.ht + 3) + (S'.rt.ht + 1); omega)
          have HNX := Lib.hid hnx
          have HNN := Lib.hid HX3.out.N
          clear hW hs6 hI6 hnx keyR HI5 HX3 hu2
          go_wp2_with fail
          go_quiet (first | (go_at_call 34; exact Calls.quiet_of_same (qside_f _)))
          go_wp2_with fail
          go_roundg (8 - v)
          case measure => omega
          case rel => exact ⟨v + 1, N2, _, _, _, b, 1, by omega, by omega, by rw [HP.out], rfl, by go_num, HNX.out.drewN _, .inr ⟨_, Wk.bi false, b, HKS.out, Wk.bi_le _, HNN.out, rfl⟩⟩
        · go_quiet (first | (go_at_call 35; exact Calls.quiet_of_same (keyB _)))
          have hX3 := HX.out.drewN nq
          clear hq HX keyB
          generalize w2.drewN nq = w3 at *
          have nd := hX3.nd
          have c0 := nd.c0
          have hfm : f.m.length ≤ m.length := by rw [hX3.m]; exact HML.out
          have hpf : p ≤ f.m.length := by rw [hX3.m]; exact HPL.out
          have keyI := kins (Blk.ins f.m p true) (p : Int) p true w3 nd.tre rfl hpf (by omega) rfl
          have HX3 := Lib.hid hX3
          clear nd hX3
          go_wp2_with fail
          (with_reducible refine keyI.mono ?_); rintro e w4 ⟨rfl, S', hIn, _⟩
          have hI4 := HX3.out.ing.turn HX3.out.F hIn.tre hIn.mv
          have hvs := hIn.vis
          have hfh := HX3.out.ht
          have htn := hIn.tre.2.ht
          have hil := Blk.ins_len (l := f.m) (b := true) hpf
          have hhi := HHI.out
          have keyL := wlook (e := ⟨f.base, f.t, S', Blk.ins f.m p true⟩) hI4.web HX3.out.N (For.put_at _ _ _) (by omega) (by show S'.vis ≤ _; omega)
          have HI4 := Lib.hid hI4
          clear hIn hI4 keyI c0
          go_wp2_with fail
          (with_reducible refine keyL.mono ?_); rintro e w5 ⟨rfl, hW, hs5⟩
          have hI5 := HI4.out.look hW hs5
          have keyR := wrank (e := ⟨f.base, f.t, S', Blk.ins f.m p true⟩) p true p2 hI5.web HX3.out.N (For.put_at _ _ _) (by show (Blk.ins f.m p true).length ≤ 100000000; omega) (by show c + S'.vis ≤ _; omega) (by
            show ((Blk.rk true (Blk.ins f.m p true) (place (Blk.ins f.m p true).length p) : Nat) : Int) = p2
            rw [show place (Blk.ins f.m p true).length (p : Int) = p by unfold place; omega, rk_ins true f.m hpf, HX3.out.m, HRK.out])
          have HI5 := Lib.hid hI5
          clear hW hs5 hI5 keyL HI4
          go_wp2_with fail
          (with_reducible refine keyR.mono ?_); rintro e w6 ⟨rfl, u2, hu2, hW, hs6⟩
          have hI6 := HI5.out.rank (For.put_at _ _ _) hW hs6
          have hu3 : u2 ≤ S'.rt.ht + 1 := hu2
          have hnx := HX3.out.next (e := ⟨f.base, f.t, S'.see u2, Blk.ins f.m p true⟩) hs hv8 hI6 (For.put_put _ _ _ _) (by show Blk.ins f.m p true = _; rw [HIO.out, HX3.out.m]) (fun e => by
            have e2 : Blk.ins f.m p true = [] := e
            rw [e2] at hil
            simp at hil) (by show c + S'.vis + u2 ≤ c + (4 * f.S.rt.ht + 3) + (S'.rt.ht + 1); omega)
          have HNX := Lib.hid hnx
          have HNN := Lib.hid HX3.out.N
          clear hW hs6 hI6 hnx keyR HI5 HX3 hu2
          go_wp2_with fail
          go_quiet (first | (go_at_call 34; exact Calls.quiet_of_same (qside_t _)))
          go_wp2_with fail
          go_roundg (8 - v)
          case measure => omega
          case rel => exact ⟨v + 1, N2, _, _, _, b, 2, by omega, by omega, by rw [HP.out], rfl, by go_num, HNX.out.drewN _, .inr ⟨_, Wk.bi true, b, HKS.out, Wk.bi_le _, HNN.out, rfl⟩⟩
end Go.Proofs.YtaglnomjlnlgoaaDoor
namespace Go.Proofs.YtaglnomjlnlgoaaDoor
open Go Go.RowKit Go.ChangeAt Tr

theorem rk_del (c : Bool) (l : List Bool) {p : Nat} (hp : p ≤ l.length) : Blk.rk c (Blk.del l p) p = Blk.rk c l p := by
  unfold Blk.rk Blk.del
  rw [List.take_append_of_le_length (by rw [List.length_take]; omega), List.take_of_length_le (by rw [List.length_take]; omega)]
/-- The bits when the levels above v are done; the pointers then. -/
def midd (m m' : List Int) (v k : Nat) : Option (List Bool) := if Wk.lev k < v then (Wk.wq m k).map (fun _ => Wk.wb m' k) else Wk.wq m k
def cutc (m' : List Int) (v k : Nat) : Bool := decide (Wk.lev k < v ∧ Wk.wb m' k = [])
def cutN (N : Lks) (m' : List Int) (v : Nat) : Lks := fun k => if cutc m' v k = true then none else N k
theorem cutc_no {m' : List Int} {v k : Nat} (h : Wk.wb m' k ≠ []) : ¬ cutc m' v k = true := fun e => h (of_decide_eq_true e).2
theorem cutN_zero (N : Lks) (m' : List Int) : cutN N m' 0 = N := funext fun k => by
  unfold cutN cutc
  rw [if_neg (by simp)]
theorem wb_del_more {m : List Int} {n : Nat} (hn : n < m.length) (hs : 0 ≤ m.getD n 0 ∧ m.getD n 0 ≤ 256) {k : Nat} (hk : 1 ≤ k) (hl : Wk.lev k ≤ 8) (h : Wk.wb (Wv.del m n) k ≠ []) : Wk.wb m k ≠ [] := by
  by_cases e : k = Wk.key (m.getD n 0) (Wk.lev k)
  · have hba := (Wv.bits_at (v := Wk.lev k) hn).1
    rw [← Wk.wb_key m hs (by omega), ← e] at hba
    intro e2
    rw [e2] at hba
    simp at hba
  · rw [← Wk.wb_del_other hn hk e]; exact h
/-- How far Delete has come. -/
structure DelAt (w : World) (x : Wx) (m : List Int) (n : Nat) (wr : World) (F : For) (v c hb : Nat) : Prop where
  ing : Ing w x wr x.N (cutN x.N (Wv.del m n) v) F c
  des : ∀ k, (F k).map Ent.m = midd m (Wv.del m n) v k
  low : ∀ k, ¬ Wk.lev k < v → F k = x.F k
  vis : c ≤ v * (4 * hiF x.F + 4 + hb)
  top : hb = 0 ∨ ∃ u e, u < v ∧ F (Wk.key (m.getD n 0) u) = some e ∧ e.S.rt.ht = hb
theorem DelAt.start {w : World} {x : Wx} {m : List Int} (h : Wav w x m) (n : Nat) : DelAt w x m n (w.setCell ⟨x.t, 1, none⟩ (.int .i64 0)) x.F 0 0 0 :=
  ⟨by rw [cutN_zero]; exact h.ing, fun k => by unfold midd; rw [if_neg (Nat.not_lt_zero _)]; exact h.des k, fun _ _ => rfl, Nat.zero_le _, .inl rfl⟩
theorem DelAt.drewN {w : World} {x : Wx} {m : List Int} {n : Nat} {wr : World} {F : For} {v c hb : Nat} (h : DelAt w x m n wr F v c hb) (d : Nat) : DelAt w x m n (wr.drewN d) F v c hb :=
  ⟨h.ing.drewN d, h.des, h.low, h.vis, h.top⟩
theorem cutN_at {N : Lks} {m' : List Int} {v k : Nat} (hl : Wk.lev k = v) : cutN N m' v k = N k := by
  unfold cutN cutc
  rw [if_neg (by simp [hl])]
/-- A level's node stands, and its tree is as it was. -/
theorem DelAt.node {w : World} {x : Wx} {m : List Int} {n : Nat} {wr : World} {F : For} {v c hb : Nat} (hw : Wav w x m) (h : DelAt w x m n wr F v c hb) (hn : n < m.length) (hs : 0 ≤ m.getD n 0 ∧ m.getD n 0 ≤ 256) (hv : v ≤ 8) :
    ∃ b f, x.N (Wk.key (m.getD n 0) v) = some b ∧ F (Wk.key (m.getD n 0) v) = some f ∧ f.m = Wk.wb m (Wk.key (m.getD n 0) v) ∧ f.S.rt.ht ≤ hiF x.F ∧ cutN x.N (Wv.del m n) v (Wk.key (m.getD n 0) v) = some b := by
  have hr := Wk.key_rng hs hv
  have hl := Wk.key_lev hs (v := v) (by omega)
  have hba := (Wv.bits_at (v := v) hn).1
  rw [← Wk.wb_key m hs (by omega)] at hba
  obtain ⟨e, b, he, hm, hb2⟩ := hw.stands hr (fun e => by rw [e] at hba; simp at hba)
  have hh := hiF_at hr.1 hr.2 he
  exact ⟨b, e, hb2, (h.low _ (by omega)).trans he, hm, hh, (cutN_at hl).trans hb2⟩
theorem cutN_succ {w : World} {x : Wx} {m : List Int} (hw : Wav w x m) {n : Nat} (hn : n < m.length) (hs : 0 ≤ m.getD n 0 ∧ m.getD n 0 ≤ 256) {v : Nat} (hv : v ≤ 8) :
    cutN x.N (Wv.del m n) (v + 1) = if Wk.wb (Wv.del m n) (Wk.key (m.getD n 0) v) = [] then (cutN x.N (Wv.del m n) v).put (Wk.key (m.getD n 0) v) none else cutN x.N (Wv.del m n) v := by
  have hr := Wk.key_rng hs hv
  have hl := Wk.key_lev hs (v := v) (by omega)
  have hoth : ∀ k, k ≠ Wk.key (m.getD n 0) v → cutN x.N (Wv.del m n) (v + 1) k = cutN x.N (Wv.del m n) v k := fun k hk => by
    unfold cutN cutc
    by_cases h1 : Wk.lev k < v
    · simp [h1, show Wk.lev k < v + 1 by omega]
    · by_cases h2 : Wk.lev k < v + 1
      · by_cases h3 : Wk.wb (Wv.del m n) k = []
        · have hN : x.N k = none := by
            by_cases h4 : 1 ≤ k ∧ k < 512
            · refine (hw.stands_not ?_).2
              rw [Wk.wq_in m h4, ← Wk.wb_del_other hn h4.1 (fun e => hk (by rw [e, show Wk.lev k = v by omega])), h3]; rfl
            · exact (hw.stands_not (Wk.wq_out m h4)).2
          rw [hN]; simp
        · simp [h3]
      · simp [h1, h2]
  funext k
  by_cases he : Wk.wb (Wv.del m n) (Wk.key (m.getD n 0) v) = []
  · rw [if_pos he]
    by_cases hk : k = Wk.key (m.getD n 0) v
    · subst hk
      rw [Lks.put_at]
      unfold cutN
      rw [if_pos (show cutc (Wv.del m n) (v + 1) (Wk.key (m.getD n 0) v) = true from decide_eq_true ⟨by omega, he⟩)]
    · rw [Lks.put_ne _ _ hk]; exact hoth k hk
  · rw [if_neg he]
    by_cases hk : k = Wk.key (m.getD n 0) v
    · subst hk
      unfold cutN
      rw [if_neg (cutc_no he), if_neg (cutc_no he)]
    · exact hoth k hk
/-- The level is done. -/
theorem DelAt.next {w : World} {x : Wx} {m : List Int} {n : Nat} {wr w4 : World} {F F4 : For} {v c hb b c4 : Nat} {f e : Ent} (hw : Wav w x m) (h : DelAt w x m n wr F v c hb) (hn : n < m.length) (hs : 0 ≤ m.getD n 0 ∧ m.getD n 0 ≤ 256) (hv : v ≤ 8) (hi : Ing w x w4 x.N (cutN x.N (Wv.del m n) (v + 1)) F4 c4) (hF : F4 = F.put (Wk.key (m.getD n 0) v) e)
    (he : e.m = Wk.wb (Wv.del m n) (Wk.key (m.getD n 0) v)) (hf : f.S.rt.ht ≤ hiF x.F) (hb2 : x.N (Wk.key (m.getD n 0) v) = some b) (hc : c4 ≤ c + (4 * f.S.rt.ht + 3) + (e.S.rt.ht + 1)) : DelAt w x m n w4 F4 (v + 1) c4 (max hb e.S.rt.ht) := by
  have hr := Wk.key_rng hs hv
  have hl := Wk.key_lev hs (v := v) (by omega)
  subst hF
  refine ⟨hi, fun k => ?_, fun k hk => ?_, ?_, ?_⟩
  · by_cases e1 : k = Wk.key (m.getD n 0) v
    · subst e1
      rw [For.put_at]
      unfold midd
      rw [hl, if_pos (by omega)]
      have hq : Wk.wq m (Wk.key (m.getD n 0) v) ≠ none := fun e2 => by have := (hw.stands_not e2).2; rw [hb2] at this; cases this
      cases e3 : Wk.wq m (Wk.key (m.getD n 0) v) with
      | none => exact absurd e3 hq
      | some l => show some e.m = some _; rw [he]
    · rw [For.put_ne _ _ e1, h.des k]
      unfold midd
      by_cases h2 : Wk.lev k < v
      · rw [if_pos h2, if_pos (by omega)]
      · rw [if_neg h2]
        by_cases h3 : Wk.lev k < v + 1
        · rw [if_pos h3]
          by_cases h4 : 1 ≤ k ∧ k < 512
          · rw [Wk.wb_del_other hn h4.1 (fun e2 => e1 (by rw [e2, show Wk.lev k = v by omega])), Wk.wq_in m h4]
            unfold Wk.ob
            split
            · rfl
            · rfl
          · rw [Wk.wq_out m h4]; rfl
        · rw [if_neg h3]
  · rw [For.put_ne _ _ (fun e2 => by subst e2; omega)]
    exact h.low k (by omega)
  · have h1 := h.vis
    have h3 : v * (4 * hiF x.F + 4 + hb) ≤ v * (4 * hiF x.F + 4 + max hb e.S.rt.ht) := Nat.mul_le_mul_left _ (by omega)
    rw [Nat.succ_mul]
    omega
  · by_cases h1 : hb ≤ e.S.rt.ht
    · exact .inr ⟨v, e, by omega, For.put_at _ _ _, by omega⟩
    · rcases h.top with h3 | ⟨u, g, h3, h4, h5⟩
      · omega
      · exact .inr ⟨u, g, by omega, by rw [For.put_ne _ _ (fun e2 => by have := Wk.key_inj hs (by omega) (by omega) e2; omega)]; exact h4, by omega⟩
theorem DelAt.done {w : World} {x : Wx} {m : List Int} {n : Nat} {wr : World} {F : For} {c hb : Nat} (hw : Wav w x m) (h : DelAt w x m n wr F 9 c hb) (hn : n < m.length) (hs : 0 ≤ m.getD n 0 ∧ m.getD n 0 ≤ 256) : ∃ x', Mvd w wr x x' (Wv.del m n) ∧ x'.v ≤ 9 * (4 * hiF x.F + 4 + hiF x'.F) := by
  have hW := h.ing.web.cut (cutc (Wv.del m n) 9) (fun k => rfl)
  have hd : ∀ k, ((fun k => if cutc (Wv.del m n) 9 k = true then none else F k) k : Option Ent).map Ent.m = Wk.wq (Wv.del m n) k := fun k => by
    show (if cutc (Wv.del m n) 9 k = true then none else F k : Option Ent).map Ent.m = _
    have hdk := h.des k
    unfold midd at hdk
    by_cases h1 : 1 ≤ k ∧ k < 512
    · have h2 := Wk.lev_le h1.1 h1.2
      rw [if_pos (by omega)] at hdk
      rw [Wk.wq_in _ h1]
      by_cases h3 : Wk.wb (Wv.del m n) k = []
      · rw [if_pos (by unfold cutc; simp [h3]; omega), h3]; rfl
      · rw [if_neg (by unfold cutc; simp [h3]), hdk, Wk.wq_in m h1, Wk.ob_some h3, Wk.ob_some (wb_del_more hn hs h1.1 h2 h3)]; rfl
    · have h4 : F k = none := by
        have h5 := hw.stands_not (Wk.wq_out m h1)
        cases e : F k with
        | none => rfl
        | some f =>
          rw [e, Wk.wq_out m h1] at hdk
          split at hdk <;> cases hdk
      rw [h4, Wk.wq_out _ h1]
      split <;> rfl
  refine ⟨⟨x.B, x.t, cutN x.N (Wv.del m n) 9, fun k => if cutc (Wv.del m n) 9 k = true then none else F k, c⟩, ⟨⟨hW, hd, hw.good.del n⟩, rfl, h.ing.stay, fun b hb2 => ?_⟩, ?_⟩
  · rcases hb2 with hb2 | hb2
    · exact .inl (.inl hb2)
    · exact (h.ing.own b (Nown.cut (cutc (Wv.del m n) 9) (fun k => rfl) hb2)).imp .inr id
  · have h1 := h.vis
    have h2 : hb ≤ hiF (fun k => if cutc (Wv.del m n) 9 k = true then none else F k) := by
      rcases h.top with h3 | ⟨u, e, h3, h4, h5⟩
      · omega
      · have hr := Wk.key_rng hs (v := u) (by omega)
        by_cases h6 : hb = 0
        · omega
        · have hdk := h.des (Wk.key (m.getD n 0) u)
          rw [h4] at hdk
          have hl := Wk.key_lev hs (v := u) (by omega)
          unfold midd at hdk
          rw [hl, if_pos h3] at hdk
          have hem : e.m = Wk.wb (Wv.del m n) (Wk.key (m.getD n 0) u) := by
            cases e3 : Wk.wq m (Wk.key (m.getD n 0) u) with
            | none => rw [e3] at hdk; cases hdk
            | some l => rw [e3] at hdk; injection hdk
          have hne : e.m ≠ [] := fun e4 => by
            have h7 := (h.ing.web.nods.fr.tre _ e h4).1.2
            rw [e4] at h7
            have := h7.none.2.2
            omega
          rw [hem] at hne
          have := hiF_at (F := fun k => if cutc (Wv.del m n) 9 k = true then none else F k) hr.1 hr.2 (by show (if cutc (Wv.del m n) 9 _ = true then none else F _) = some e; rw [if_neg (cutc_no hne), h4])
          omega
    have h3 : 9 * (4 * hiF x.F + 4 + hb) ≤ 9 * (4 * hiF x.F + 4 + hiF (fun k => if cutc (Wv.del m n) 9 k = true then none else F k)) := Nat.mul_le_mul_left _ (by omega)
    show c ≤ 9 * (4 * hiF x.F + 4 + hiF (fun k => if cutc (Wv.del m n) 9 k = true then none else F k))
    omega
theorem Ing.store {w : World} {x : Wx} {wr : World} {N L : Lks} {F : For} {v k : Nat} {p : Addr} (h : Ing w x wr N L F v) (ha : At N x.t k p) (y : Option Nat) : Ing w x (wr.setCell p (pn y)) N (L.put k y) F v := by
  obtain ⟨hS, hst⟩ := h.web.store ha y
  exact ⟨hS, h.own, h.stay.trans hst (fun _ hi ho => h.owned hi ho)⟩
set_option maxHeartbeats 6400000 in
set_option maxRecDepth 100000 in
theorem Wav.delete {w : World} {x : Wx} {m : List Int} (h : Wav w x m) (n : Nat) (hn : n < m.length) (hm : m.length ≤ 1000000) :
    Calls Tryd.prog 19 #[.pointer (some ⟨x.t, 0, none⟩), .int .i64 n] w fun e w' => e = .returned (.tuple #[.int .i64 (m.getD n 0), .int .i64 0]) ∧ ∃ x', Mvd w w' x x' (Wv.del m n) ∧ x'.v ≤ 9 * (4 * hiF x.F + 4 + hiF x'.F) := by
  obtain ⟨hZ, hR⟩ := h.zero
  have hI := DelAt.start h n
  have hs := h.good.at hn
  have f1 : w.frozen? ⟨x.t, 1, none⟩ = false := free_of h.web.top
  have c1 : w.cell? ⟨x.t, 1, none⟩ = some (.int .i64 x.v) := (cell_of h.web.top).trans rfl
  have keyL := hZ.len
  have d1 : decide ((n : Int) < 0) = false := decide_eq_false (by omega)
  have d2 : decide (m.length ≤ n) = false := decide_eq_false (by omega)
  have d3 : decide ((m.length : Int) ≤ (n : Int)) = false := decide_eq_false (by omega)
  have hnm : (n : Int) < (m.length : Int) := by omega
  have HG := Lib.hid hs
  obtain ⟨s, hsv⟩ : ∃ s, m.getD n 0 = s := ⟨_, rfl⟩
  rw [hsv] at hs ⊢
  have HH := Lib.hid h
  have HI := Lib.hid hI
  have HHI := Lib.hid (Nat.le_trans h.hi_le hm)
  have HN := Lib.hid hn
  have HS := Lib.hid hsv
  clear h hZ hR hI hsv
  go_enter Tryd.func19, Tryd.ntmps19
  go_wp2_with fail
  (with_reducible refine keyL.mono ?_); rintro e w1 ⟨rfl, hw1⟩
  rw [hw1] at HI
  clear hw1 f1 c1 keyL
  go_wp2_with fail
  go_loopg [1, 6, 7] 9 (fun g s1 s6 s7 wr => ∃ (v : Nat) (F' : For) (c hb pb po : Nat), g = 9 - v ∧ v ≤ 9 ∧ s1 = .int .i64 (Wv.pos m v (Sy.path s v) n : Nat) ∧ s6 = .int .i64 (Sy.path s v) ∧ s7 = .pointer (some ⟨pb, po, none⟩) ∧ DelAt w x m n wr F' v c hb ∧ At x.N x.t (Wk.key s v) ⟨pb, po, none⟩)
  case atStart =>
    refine ⟨0, x.F, 0, 0, x.t, 0, rfl, by omega, ?_, ?_, rfl, HI.out, .inl ⟨Wk.key_zero hs, rfl⟩⟩
    · rw [show ((0 : Nat) : Int) = 0 from rfl, Sy.path_zero hs, Wv.pos_zero HH.out.good (by have := HN.out; omega)]
    · rw [show ((0 : Nat) : Int) = 0 from rfl, Sy.path_zero hs]
  case round =>
    clear HI
    obtain ⟨v, F', c, hb, pb, po, rfl, hv9, rfl, rfl, rfl, hI, hA⟩ := hrel
    obtain ⟨hq, hqf, _⟩ := hI.ing.web.load hA
    by_cases h9 : v = 9
    · subst h9
      have hp9 : Sy.path s (9 : Nat) = s := Sy.path_nine hs
      have hcn : cutN x.N (Wv.del m n) 9 (Wk.key s 9) = none := by
        unfold cutN
        rw [key_nine HH.out]
        split <;> rfl
      rw [hcn, pn_none] at hq
      rw [hp9]
      have HI := Lib.hid hI
      clear hI hA hcn
      go_wp2_with fail
      go_ret2
      exact ⟨rfl, HI.out.done HH.out HN.out HG.out⟩
    · have hv8 : v ≤ 8 := by omega
      have hks := Wk.key_succ hs hv8
      have hkr := Wk.key_rng hs hv8
      have hrk : Blk.rk (Sy.bit s v) (Wk.wb m (Wk.key s v)) (Wv.pos m v (Sy.path s v) n) = Wv.pos m (v + 1) (Sy.path s (v + 1 : Nat)) n := by
        rw [Wk.wb_key m hs (by omega), Wv.rk_pos HH.out.good hv8, Wv.path_nxt hs hv8]
      have hba := Wv.bits_at (v := v) HN.out
      rw [HS.out, ← Wk.wb_key m hs (by omega)] at hba
      have hdw := Wk.wb_del_own HN.out HG.out hv8
      rw [HS.out] at hdw
      have hpn := Wv.path_nxt hs hv8
      have hp0 := Wk.path_nn hs (v := v) (by omega)
      have hp1 := (Sy.path_rng s v).2
      obtain ⟨b, f, hNb, hF, hfm, hfh, hcb⟩ := hI.node HH.out HN.out HG.out hv8
      rw [HS.out] at hNb hF hfm hcb
      rw [hcb, pn_some] at hq
      have hcs := cutN_succ HH.out HN.out HG.out hv8
      rw [HS.out] at hcs
      obtain ⟨y2, hy2⟩ : ∃ y, Sy.path s (v + 1 : Nat) = y := ⟨_, rfl⟩
      rw [hy2] at hpn hrk
      obtain ⟨y, hy⟩ : ∃ y, Sy.path s (v : Nat) = y := ⟨_, rfl⟩
      rw [hy] at hba hrk hpn hp0 hp1 hdw ⊢
      obtain ⟨p, hp⟩ : ∃ p, Wv.pos m v y n = p := ⟨_, rfl⟩
      obtain ⟨p2, hp2⟩ : ∃ p2, Wv.pos m (v + 1) y2 n = p2 := ⟨_, rfl⟩
      rw [hp] at hba hrk hdw ⊢
      rw [hp2] at hrk
      obtain ⟨b0, hc⟩ : ∃ c, Sy.bit s v = c := ⟨_, rfl⟩
      rw [hc] at hba hrk hks hpn
      have hml := Wk.wb_len m (Wk.key s v)
      rw [← hfm] at hba hrk hdw hml
      have hhi := HHI.out
      have hvb : c ≤ 200000000 := by
        have h1 := hI.vis
        have h2 : hb ≤ 1000000 := by
          rcases hI.top with h3 | ⟨u, e, h3, h4, h5⟩
          · omega
          · rw [HS.out] at h4
            have h6 := (hI.ing.web.nods.fr.tre _ e h4).1.2.ht
            have h7 := hI.des (Wk.key s u)
            rw [h4] at h7
            have h8 : Wk.lev (Wk.key s u) < v := by rw [Wk.key_lev hs (by omega)]; exact h3
            unfold midd at h7
            rw [if_pos h8] at h7
            have h9 : e.m = Wk.wb (Wv.del m n) (Wk.key s u) := by
              cases e3 : Wk.wq m (Wk.key s u) with
              | none => rw [e3] at h7; cases h7
              | some l => rw [e3] at h7; injection h7
            have h10 := Wk.wb_len (Wv.del m n) (Wk.key s u)
            rw [Wv.del_len HN.out] at h10
            rw [h9] at h6
            omega
        have h3 : v * (4 * hiF x.F + 4 + hb) ≤ 9 * (4 * hiF x.F + 4 + hb) := Nat.mul_le_mul_right _ hv9
        omega
      have nd := hI.ing.web.nods.nd hNb hF
      have c0 := nd.c0
      have hil := Blk.del_len (l := f.m) hba.1
      have keyD := kdel (Blk.del f.m p) (p : Int) p b0 wr nd.tre rfl hba.1 (by omega) hba.2 rfl
      have HRK : Hid (((Blk.rk b0 (Blk.del f.m p) (place (Blk.del f.m p).length (p : Int)) : Nat) : Int) = p2) := Lib.hid (by
        rw [show place (Blk.del f.m p).length (p : Int) = p by unfold place; omega, rk_del b0 f.m (by omega), hrk])
      have HKS := Lib.hid hks
      have HP := Lib.hid hp2
      have HY := Lib.hid hy2
      have HA := Lib.hid hA
      have HI := Lib.hid hI
      have HFF := Lib.hid hF
      have HNb := Lib.hid hNb
      have HDW := Lib.hid hdw
      have HC := Lib.hid hcs
      have hpl := hba.1
      clear hI hA hp hp2 hks hrk hc nd hF hNb hfm hcb hcs hy hy2 hba hdw
      by_cases hone : (Blk.del f.m p).length = 0
      · have hone' : Wk.wb (Wv.del m n) (Wk.key s v) = [] := by rw [HDW.out]; exact List.eq_nil_of_length_eq_zero hone
        have HCC : Hid (cutN x.N (Wv.del m n) (v + 1) = (cutN x.N (Wv.del m n) v).put (Wk.key s v) none) := Lib.hid (by rw [HC.out, if_pos hone'])
        clear hone' HC
        rcases b0 with _ | _
        · go_wp2_with fail
          (with_reducible refine keyD.mono ?_); rintro e w4 ⟨rfl, S', hIn, _⟩
          have hI4 := HI.out.ing.turn HFF.out hIn.tre hIn.mv
          have hvs := hIn.vis
          have htn := hIn.tre.2.ht
          have keyL := wlook (e := ⟨f.base, f.t, S', Blk.del f.m p⟩) hI4.web HNb.out (For.put_at _ _ _) (by omega) (by show S'.vis ≤ _; omega)
          have HI4 := Lib.hid hI4
          clear hIn hI4 keyD c0
          have hq4 : Hid (w4.cell? ⟨pb, po, none⟩ = some (pn (cutN x.N (Wv.del m n) v (Wk.key s v)))) := Lib.hid (HI4.out.web.load HA.out).1
          go_wp2_with fail
          (with_reducible refine keyL.mono ?_); rintro e w5 ⟨rfl, hW, hs5⟩
          have hI5 := HI4.out.look hW hs5
          have keyR := wrank (e := ⟨f.base, f.t, S', Blk.del f.m p⟩) p false p2 hI5.web HNb.out (For.put_at _ _ _) (by show (Blk.del f.m p).length ≤ 100000000; omega) (by show c + S'.vis ≤ _; omega) HRK.out
          have HI5 := Lib.hid hI5
          clear hW hs5 hI5 keyL HI4
          go_wp2_with fail
          (with_reducible refine keyR.mono ?_); rintro e w6 ⟨rfl, u2, hu2, hW, hs6⟩
          have hI6 := HI5.out.rank (For.put_at _ _ _) hW hs6
          have hu3 : u2 ≤ S'.rt.ht + 1 := hu2
          have nd6 := hI6.web.nods.nd HNb.out (For.put_at _ _ _)
          have c6 : w6.cell? ⟨b, 0, none⟩ = some (.pointer (some ⟨f.t, 0, none⟩)) := nd6.c0
          have keyN : Calls Tryd.prog 40 #[.pointer (some ⟨f.t, 0, none⟩)] w6 fun e w' => e = .returned (.int .i64 (Blk.del f.m p).length) ∧ w6 = w' := klen _ w6 nd6.tre rfl
          have hqf6 := (hI6.web.load HA.out).2.1
          have hq6 := (hI6.web.load HA.out).1
          have HI6 := Lib.hid hI6
          clear hW hs6 hI6 keyR HI5 hu2 nd6 hqf hq
          rw [hone] at keyN
          have HI7 := Lib.hid (HI6.out.store HA.out none)
          rw [pn_none] at HI7
          clear hq4
          go_wp2_with fail
          (with_reducible refine keyN.mono ?_); rintro e w7 ⟨rfl, rfl⟩
          clear keyN c6
          go_wp2_with fail
          have hnx : DelAt w x m n _ _ (v + 1) _ _ := HI.out.next (e := ⟨f.base, f.t, S'.see u2, Blk.del f.m p⟩) (f := f) (b := b) HH.out HN.out HG.out hv8 (by rw [HCC.out]; exact HI7.out) (by rw [HS.out]; exact For.put_put _ _ _ _) (by rw [HS.out]; exact HDW.out.symm) hfh (by rw [HS.out]; exact HNb.out) (by show c + S'.vis + u2 ≤ c + (4 * f.S.rt.ht + 3) + (S'.rt.ht + 1); omega)
          have HNX2 := Lib.hid hnx
          clear hnx
          generalize w6.setCell ⟨pb, po, none⟩ (.pointer none) = w7 at *
          (with_reducible refine (wside_f _).mono ?_); rintro e w8 ⟨rfl, rfl⟩
          go_wp2_with fail
          go_quiet (first | (go_at_call 34; exact Calls.quiet_of_same (qside_f _)))
          go_wp2_with fail
          go_roundg (8 - v)
          case measure => omega
          case rel => exact ⟨v + 1, _, _, _, b, 1, by omega, by omega, by rw [HY.out, HP.out], by rw [HY.out, hpn]; unfold Wv.nxt; simp, rfl, HNX2.out.drewN _, .inr ⟨_, Wk.bi false, b, HKS.out, Wk.bi_le _, HNb.out, rfl⟩⟩
        · go_wp2_with fail
          (with_reducible refine keyD.mono ?_); rintro e w4 ⟨rfl, S', hIn, _⟩
          have hI4 := HI.out.ing.turn HFF.out hIn.tre hIn.mv
          have hvs := hIn.vis
          have htn := hIn.tre.2.ht
          have keyL := wlook (e := ⟨f.base, f.t, S', Blk.del f.m p⟩) hI4.web HNb.out (For.put_at _ _ _) (by omega) (by show S'.vis ≤ _; omega)
          have HI4 := Lib.hid hI4
          clear hIn hI4 keyD c0
          have hq4 : Hid (w4.cell? ⟨pb, po, none⟩ = some (pn (cutN x.N (Wv.del m n) v (Wk.key s v)))) := Lib.hid (HI4.out.web.load HA.out).1
          go_wp2_with fail
          (with_reducible refine keyL.mono ?_); rintro e w5 ⟨rfl, hW, hs5⟩
          have hI5 := HI4.out.look hW hs5
          have keyR := wrank (e := ⟨f.base, f.t, S', Blk.del f.m p⟩) p true p2 hI5.web HNb.out (For.put_at _ _ _) (by show (Blk.del f.m p).length ≤ 100000000; omega) (by show c + S'.vis ≤ _; omega) HRK.out
          have HI5 := Lib.hid hI5
          clear hW hs5 hI5 keyL HI4
          go_wp2_with fail
          (with_reducible refine keyR.mono ?_); rintro e w6 ⟨rfl, u2, hu2, hW, hs6⟩
          have hI6 := HI5.out.rank (For.put_at _ _ _) hW hs6
          have hu3 : u2 ≤ S'.rt.ht + 1 := hu2
          have nd6 := hI6.web.nods.nd HNb.out (For.put_at _ _ _)
          have c6 : w6.cell? ⟨b, 0, none⟩ = some (.pointer (some ⟨f.t, 0, none⟩)) := nd6.c0
          have keyN : Calls Tryd.prog 40 #[.pointer (some ⟨f.t, 0, none⟩)] w6 fun e w' => e = .returned (.int .i64 (Blk.del f.m p).length) ∧ w6 = w' := klen _ w6 nd6.tre rfl
          have hqf6 := (hI6.web.load HA.out).2.1
          have hq6 := (hI6.web.load HA.out).1
          have HI6 := Lib.hid hI6
          clear hW hs6 hI6 keyR HI5 hu2 nd6 hqf hq
          rw [hone] at keyN
          have HI7 := Lib.hid (HI6.out.store HA.out none)
          rw [pn_none] at HI7
          clear hq4
          go_wp2_with fail
          (with_reducible refine keyN.mono ?_); rintro e w7 ⟨rfl, rfl⟩
          clear keyN c6
          go_wp2_with fail
          have hnx : DelAt w x m n _ _ (v + 1) _ _ := HI.out.next (e := ⟨f.base, f.t, S'.see u2, Blk.del f.m p⟩) (f := f) (b := b) HH.out HN.out HG.out hv8 (by rw [HCC.out]; exact HI7.out) (by rw [HS.out]; exact For.put_put _ _ _ _) (by rw [HS.out]; exact HDW.out.symm) hfh (by rw [HS.out]; exact HNb.out) (by show c + S'.vis + u2 ≤ c + (4 * f.S.rt.ht + 3) + (S'.rt.ht + 1); omega)
          have HNX2 := Lib.hid hnx
          clear hnx
          generalize w6.setCell ⟨pb, po, none⟩ (.pointer none) = w7 at *
          (with_reducible refine (wside_t _).mono ?_); rintro e w8 ⟨rfl, rfl⟩
          go_wp2_with fail
          go_quiet (first | (go_at_call 34; exact Calls.quiet_of_same (qside_t _)))
          go_wp2_with fail
          go_roundg (8 - v)
          case measure => omega
          case rel => exact ⟨v + 1, _, _, _, b, 2, by omega, by omega, by rw [HY.out, HP.out], by rw [HY.out, hpn]; unfold Wv.nxt; simp, rfl, HNX2.out.drewN _, .inr ⟨_, Wk.bi true, b, HKS.out, Wk.bi_le _, HNb.out, rfl⟩⟩
      · have hone' : Wk.wb (Wv.del m n) (Wk.key s v) ≠ [] := fun e => hone (by rw [← HDW.out, e]; rfl)
        have HCC : Hid (cutN x.N (Wv.del m n) (v + 1) = cutN x.N (Wv.del m n) v) := Lib.hid (by rw [HC.out, if_neg hone'])
        have hnz : ¬ (((Blk.del f.m p).length : Nat) : Int) = 0 := by omega
        clear hone' HC
        rcases b0 with _ | _
        · go_wp2_with fail
          (with_reducible refine keyD.mono ?_); rintro e w4 ⟨rfl, S', hIn, _⟩
          have hI4 := HI.out.ing.turn HFF.out hIn.tre hIn.mv
          have hvs := hIn.vis
          have htn := hIn.tre.2.ht
          have keyL := wlook (e := ⟨f.base, f.t, S', Blk.del f.m p⟩) hI4.web HNb.out (For.put_at _ _ _) (by omega) (by show S'.vis ≤ _; omega)
          have HI4 := Lib.hid hI4
          clear hIn hI4 keyD c0
          have hq4 : Hid (w4.cell? ⟨pb, po, none⟩ = some (pn (cutN x.N (Wv.del m n) v (Wk.key s v)))) := Lib.hid (HI4.out.web.load HA.out).1
          go_wp2_with fail
          (with_reducible refine keyL.mono ?_); rintro e w5 ⟨rfl, hW, hs5⟩
          have hI5 := HI4.out.look hW hs5
          have keyR := wrank (e := ⟨f.base, f.t, S', Blk.del f.m p⟩) p false p2 hI5.web HNb.out (For.put_at _ _ _) (by show (Blk.del f.m p).length ≤ 100000000; omega) (by show c + S'.vis ≤ _; omega) HRK.out
          have HI5 := Lib.hid hI5
          clear hW hs5 hI5 keyL HI4
          go_wp2_with fail
          (with_reducible refine keyR.mono ?_); rintro e w6 ⟨rfl, u2, hu2, hW, hs6⟩
          have hI6 := HI5.out.rank (For.put_at _ _ _) hW hs6
          have hu3 : u2 ≤ S'.rt.ht + 1 := hu2
          have nd6 := hI6.web.nods.nd HNb.out (For.put_at _ _ _)
          have c6 : w6.cell? ⟨b, 0, none⟩ = some (.pointer (some ⟨f.t, 0, none⟩)) := nd6.c0
          have keyN : Calls Tryd.prog 40 #[.pointer (some ⟨f.t, 0, none⟩)] w6 fun e w' => e = .returned (.int .i64 (Blk.del f.m p).length) ∧ w6 = w' := klen _ w6 nd6.tre rfl
          have hqf6 := (hI6.web.load HA.out).2.1
          have hq6 := (hI6.web.load HA.out).1
          have HI6 := Lib.hid hI6
          clear hW hs6 hI6 keyR HI5 hu2 nd6 hqf hq
          clear hq4
          go_wp2_with fail
          (with_reducible refine keyN.mono ?_); rintro e w7 ⟨rfl, rfl⟩
          clear keyN c6
          go_wp2_with fail
          have HI7 := HI6
          have hnx : DelAt w x m n w6 _ (v + 1) _ _ := HI.out.next (e := ⟨f.base, f.t, S'.see u2, Blk.del f.m p⟩) (f := f) (b := b) HH.out HN.out HG.out hv8 (by rw [HCC.out]; exact HI7.out) (by rw [HS.out]; exact For.put_put _ _ _ _) (by rw [HS.out]; exact HDW.out.symm) hfh (by rw [HS.out]; exact HNb.out) (by show c + S'.vis + u2 ≤ c + (4 * f.S.rt.ht + 3) + (S'.rt.ht + 1); omega)
          have HNX2 := Lib.hid hnx
          clear hnx
          (with_reducible refine (wside_f _).mono ?_); rintro e w8 ⟨rfl, rfl⟩
          go_wp2_with fail
          go_quiet (first | (go_at_call 34; exact Calls.quiet_of_same (qside_f _)))
          go_wp2_with fail
          go_roundg (8 - v)
          case measure => omega
          case rel => exact ⟨v + 1, _, _, _, b, 1, by omega, by omega, by rw [HY.out, HP.out], by rw [HY.out, hpn]; unfold Wv.nxt; simp, rfl, HNX2.out.drewN _, .inr ⟨_, Wk.bi false, b, HKS.out, Wk.bi_le _, HNb.out, rfl⟩⟩
        · go_wp2_with fail
          (with_reducible refine keyD.mono ?_); rintro e w4 ⟨rfl, S', hIn, _⟩
          have hI4 := HI.out.ing.turn HFF.out hIn.tre hIn.mv
          have hvs := hIn.vis
          have htn := hIn.tre.2.ht
          have keyL := wlook (e := ⟨f.base, f.t, S', Blk.del f.m p⟩) hI4.web HNb.out (For.put_at _ _ _) (by omega) (by show S'.vis ≤ _; omega)
          have HI4 := Lib.hid hI4
          clear hIn hI4 keyD c0
          have hq4 : Hid (w4.cell? ⟨pb, po, none⟩ = some (pn (cutN x.N (Wv.del m n) v (Wk.key s v)))) := Lib.hid (HI4.out.web.load HA.out).1
          go_wp2_with fail
          (with_reducible refine keyL.mono ?_); rintro e w5 ⟨rfl, hW, hs5⟩
          have hI5 := HI4.out.look hW hs5
          have keyR := wrank (e := ⟨f.base, f.t, S', Blk.del f.m p⟩) p true p2 hI5.web HNb.out (For.put_at _ _ _) (by show (Blk.del f.m p).length ≤ 100000000; omega) (by show c + S'.vis ≤ _; omega) HRK.out
          have HI5 := Lib.hid hI5
          clear hW hs5 hI5 keyL HI4
          go_wp2_with fail
          (with_reducible refine keyR.mono ?_); rintro e w6 ⟨rfl, u2, hu2, hW, hs6⟩
          have hI6 := HI5.out.rank (For.put_at _ _ _) hW hs6
          have hu3 : u2 ≤ S'.rt.ht + 1 := hu2
          have nd6 := hI6.web.nods.nd HNb.out (For.put_at _ _ _)
          have c6 : w6.cell? ⟨b, 0, none⟩ = some (.pointer (some ⟨f.t, 0, none⟩)) := nd6.c0
          have keyN : Calls Tryd.prog 40 #[.pointer (some ⟨f.t, 0, none⟩)] w6 fun e w' => e = .returned (.int .i64 (Blk.del f.m p).length) ∧ w6 = w' := klen _ w6 nd6.tre rfl
          have hqf6 := (hI6.web.load HA.out).2.1
          have hq6 := (hI6.web.load HA.out).1
          have HI6 := Lib.hid hI6
          clear hW hs6 hI6 keyR HI5 hu2 nd6 hqf hq
          clear hq4
          go_wp2_with fail
          (with_reducible refine keyN.mono ?_); rintro e w7 ⟨rfl, rfl⟩
          clear keyN c6
          go_wp2_with fail
          have HI7 := HI6
          have hnx : DelAt w x m n w6 _ (v + 1) _ _ := HI.out.next (e := ⟨f.base, f.t, S'.see u2, Blk.del f.m p⟩) (f := f) (b := b) HH.out HN.out HG.out hv8 (by rw [HCC.out]; exact HI7.out) (by rw [HS.out]; exact For.put_put _ _ _ _) (by rw [HS.out]; exact HDW.out.symm) hfh (by rw [HS.out]; exact HNb.out) (by show c + S'.vis + u2 ≤ c + (4 * f.S.rt.ht + 3) + (S'.rt.ht + 1); omega)
          have HNX2 := Lib.hid hnx
          clear hnx
          (with_reducible refine (wside_t _).mono ?_); rintro e w8 ⟨rfl, rfl⟩
          go_wp2_with fail
          go_quiet (first | (go_at_call 34; exact Calls.quiet_of_same (qside_t _)))
          go_wp2_with fail
          go_roundg (8 - v)
          case measure => omega
          case rel => exact ⟨v + 1, _, _, _, b, 2, by omega, by omega, by rw [HY.out, HP.out], by rw [HY.out, hpn]; unfold Wv.nxt; simp, rfl, HNX2.out.drewN _, .inr ⟨_, Wk.bi true, b, HKS.out, Wk.bi_le _, HNb.out, rfl⟩⟩
end Go.Proofs.YtaglnomjlnlgoaaDoor
namespace Go.Proofs.YtaglnomjlnlgoaaDoor
open Go Go.RowKit Go.ChangeAt Tr

theorem Wav.get_low {w : World} {x : Wx} {m : List Int} (h : Wav w x m) (k : Int) (hk : k < 0) :
    Calls Tryd.prog 15 #[.pointer (some ⟨x.t, 0, none⟩), .int .i64 k] w fun e w' => e = .returned (.tuple #[.int .i64 (-1), .int .i64 2]) ∧ Red w w' x m x.F 0 := by
  obtain ⟨hZ, hR⟩ := h.zero
  have f1 : w.frozen? ⟨x.t, 1, none⟩ = false := free_of h.web.top
  have c1 : w.cell? ⟨x.t, 1, none⟩ = some (.int .i64 x.v) := (cell_of h.web.top).trans rfl
  have HR := Lib.hid (h.red hR)
  clear h hZ hR
  go_enter Tryd.func15, Tryd.ntmps15
  go_wp2_with fail
  go_ret2
  exact ⟨rfl, HR.out⟩
theorem Wav.get_high {w : World} {x : Wx} {m : List Int} (h : Wav w x m) (k : Int) (hk : ¬ k < 0) (hl : (m.length : Int) ≤ k) :
    Calls Tryd.prog 15 #[.pointer (some ⟨x.t, 0, none⟩), .int .i64 k] w fun e w' => e = .returned (.tuple #[.int .i64 (-1), .int .i64 2]) ∧ Red w w' x m x.F 0 := by
  obtain ⟨hZ, hR⟩ := h.zero
  have f1 : w.frozen? ⟨x.t, 1, none⟩ = false := free_of h.web.top
  have c1 : w.cell? ⟨x.t, 1, none⟩ = some (.int .i64 x.v) := (cell_of h.web.top).trans rfl
  have keyL := hZ.len
  have HR := Lib.hid (h.red hR)
  clear h hZ hR
  go_enter Tryd.func15, Tryd.ntmps15
  go_wp2_with fail
  (with_reducible refine keyL.mono ?_); rintro e w2 ⟨rfl, rfl⟩
  go_wp2_with fail
  go_ret2
  exact ⟨rfl, HR.out⟩
theorem Wav.get_out {w : World} {x : Wx} {m : List Int} (h : Wav w x m) (k : Int) (hk : k < 0 ∨ (m.length : Int) ≤ k) :
    Calls Tryd.prog 15 #[.pointer (some ⟨x.t, 0, none⟩), .int .i64 k] w fun e w' => e = .returned (.tuple #[.int .i64 (-1), .int .i64 2]) ∧ Red w w' x m x.F 0 := by
  by_cases h0 : k < 0
  · exact h.get_low k h0
  · exact h.get_high k h0 (by omega)
theorem Wav.delete_low {w : World} {x : Wx} {m : List Int} (h : Wav w x m) (k : Int) (hk : k < 0) :
    Calls Tryd.prog 19 #[.pointer (some ⟨x.t, 0, none⟩), .int .i64 k] w fun e w' => e = .returned (.tuple #[.int .i64 (-1), .int .i64 2]) ∧ Red w w' x m x.F 0 := by
  obtain ⟨hZ, hR⟩ := h.zero
  have f1 : w.frozen? ⟨x.t, 1, none⟩ = false := free_of h.web.top
  have c1 : w.cell? ⟨x.t, 1, none⟩ = some (.int .i64 x.v) := (cell_of h.web.top).trans rfl
  have HR := Lib.hid (h.red hR)
  clear h hZ hR
  go_enter Tryd.func19, Tryd.ntmps19
  go_wp2_with fail
  go_ret2
  exact ⟨rfl, HR.out⟩
theorem Wav.delete_high {w : World} {x : Wx} {m : List Int} (h : Wav w x m) (k : Int) (hk : ¬ k < 0) (hl : (m.length : Int) ≤ k) :
    Calls Tryd.prog 19 #[.pointer (some ⟨x.t, 0, none⟩), .int .i64 k] w fun e w' => e = .returned (.tuple #[.int .i64 (-1), .int .i64 2]) ∧ Red w w' x m x.F 0 := by
  obtain ⟨hZ, hR⟩ := h.zero
  have f1 : w.frozen? ⟨x.t, 1, none⟩ = false := free_of h.web.top
  have c1 : w.cell? ⟨x.t, 1, none⟩ = some (.int .i64 x.v) := (cell_of h.web.top).trans rfl
  have keyL := hZ.len
  have HR := Lib.hid (h.red hR)
  clear h hZ hR
  go_enter Tryd.func19, Tryd.ntmps19
  go_wp2_with fail
  (with_reducible refine keyL.mono ?_); rintro e w2 ⟨rfl, rfl⟩
  go_wp2_with fail
  go_ret2
  exact ⟨rfl, HR.out⟩
theorem Wav.delete_out {w : World} {x : Wx} {m : List Int} (h : Wav w x m) (k : Int) (hk : k < 0 ∨ (m.length : Int) ≤ k) :
    Calls Tryd.prog 19 #[.pointer (some ⟨x.t, 0, none⟩), .int .i64 k] w fun e w' => e = .returned (.tuple #[.int .i64 (-1), .int .i64 2]) ∧ Red w w' x m x.F 0 := by
  by_cases h0 : k < 0
  · exact h.delete_low k h0
  · exact h.delete_high k h0 (by omega)
theorem Wav.insert_arg {w : World} {x : Wx} {m : List Int} (h : Wav w x m) (k s : Int) (hs : ¬ (0 ≤ s ∧ s ≤ 256)) :
    Calls Tryd.prog 18 #[.pointer (some ⟨x.t, 0, none⟩), .int .i64 k, .int .i64 s] w fun e w' => e = .returned (.int .i64 1) ∧ Red w w' x m x.F 0 := by
  obtain ⟨hZ, hR⟩ := h.zero
  have f1 : w.frozen? ⟨x.t, 1, none⟩ = false := free_of h.web.top
  have c1 : w.cell? ⟨x.t, 1, none⟩ = some (.int .i64 x.v) := (cell_of h.web.top).trans rfl
  have key := wsym_no (w.setCell ⟨x.t, 1, none⟩ (.int .i64 0)) hs
  have HR := Lib.hid (h.red hR)
  clear h hZ hR
  go_enter Tryd.func18, Tryd.ntmps18
  go_wp2_with fail
  (with_reducible refine key.mono ?_); rintro e w2 ⟨rfl, rfl⟩
  go_wp2_with fail
  go_ret
  exact ⟨rfl, HR.out⟩
theorem Wav.insert_low {w : World} {x : Wx} {m : List Int} (h : Wav w x m) (k s : Int) (hs : 0 ≤ s ∧ s ≤ 256) (hk : k < 0) :
    Calls Tryd.prog 18 #[.pointer (some ⟨x.t, 0, none⟩), .int .i64 k, .int .i64 s] w fun e w' => e = .returned (.int .i64 2) ∧ Red w w' x m x.F 0 := by
  obtain ⟨hZ, hR⟩ := h.zero
  have f1 : w.frozen? ⟨x.t, 1, none⟩ = false := free_of h.web.top
  have c1 : w.cell? ⟨x.t, 1, none⟩ = some (.int .i64 x.v) := (cell_of h.web.top).trans rfl
  have key := wsym_yes (w.setCell ⟨x.t, 1, none⟩ (.int .i64 0)) hs
  have HR := Lib.hid (h.red hR)
  clear h hZ hR
  go_enter Tryd.func18, Tryd.ntmps18
  go_wp2_with fail
  (with_reducible refine key.mono ?_); rintro e w2 ⟨rfl, rfl⟩
  go_wp2_with fail
  go_ret
  exact ⟨rfl, HR.out⟩
theorem Wav.insert_high {w : World} {x : Wx} {m : List Int} (h : Wav w x m) (k s : Int) (hs : 0 ≤ s ∧ s ≤ 256) (hk : ¬ k < 0) (hl : (m.length : Int) < k) :
    Calls Tryd.prog 18 #[.pointer (some ⟨x.t, 0, none⟩), .int .i64 k, .int .i64 s] w fun e w' => e = .returned (.int .i64 2) ∧ Red w w' x m x.F 0 := by
  obtain ⟨hZ, hR⟩ := h.zero
  have f1 : w.frozen? ⟨x.t, 1, none⟩ = false := free_of h.web.top
  have c1 : w.cell? ⟨x.t, 1, none⟩ = some (.int .i64 x.v) := (cell_of h.web.top).trans rfl
  have key := wsym_yes (w.setCell ⟨x.t, 1, none⟩ (.int .i64 0)) hs
  have keyL := hZ.len
  have HR := Lib.hid (h.red hR)
  clear h hZ hR
  go_enter Tryd.func18, Tryd.ntmps18
  go_wp2_with fail
  (with_reducible refine key.mono ?_); rintro e w2 ⟨rfl, rfl⟩
  go_wp2_with fail
  (with_reducible refine keyL.mono ?_); rintro e w2 ⟨rfl, rfl⟩
  go_wp2_with fail
  go_ret
  exact ⟨rfl, HR.out⟩
theorem Wav.insert_out {w : World} {x : Wx} {m : List Int} (h : Wav w x m) (k s : Int) (hs : 0 ≤ s ∧ s ≤ 256) (hk : k < 0 ∨ (m.length : Int) < k) :
    Calls Tryd.prog 18 #[.pointer (some ⟨x.t, 0, none⟩), .int .i64 k, .int .i64 s] w fun e w' => e = .returned (.int .i64 2) ∧ Red w w' x m x.F 0 := by
  by_cases h0 : k < 0
  · exact h.insert_low k s hs h0
  · exact h.insert_high k s hs h0 (by omega)
theorem winsert_nil (k s : Int) (w : World) : Calls Tryd.prog 18 #[.pointer none, .int .i64 k, .int .i64 s] w fun e w' => e = .returned (.int .i64 6) ∧ w = w' := by
  go_enter Tryd.func18, Tryd.ntmps18
  go_wp2_with fail
  go_ret
  exact ⟨rfl, rfl⟩
theorem wrank_nil (k s : Int) (w : World) : Calls Tryd.prog 16 #[.pointer none, .int .i64 k, .int .i64 s] w fun e w' => e = .returned (.int .i64 0) ∧ w = w' := by
  go_enter Tryd.func16, Tryd.ntmps16
  go_wp2_with fail
  go_ret
  exact ⟨rfl, rfl⟩
/-- The node of a level and a path. -/
theorem below_none {w : World} (v p : Int) (q : Option Nat) (hv : ¬ (0 ≤ v ∧ v ≤ 8)) :
    Calls Tryd.prog 28 #[pn q, .int .i64 v, .int .i64 p] w fun e w' => e = .returned (.pointer none) ∧ w = w' := by
  by_cases h0 : v < 0
  · go_enter Tryd.func28, Tryd.ntmps28
    go_wp2_with fail
    go_ret
    exact ⟨rfl, rfl⟩
  · have h1 : (9 : Int) ≤ v := by omega
    go_enter Tryd.func28, Tryd.ntmps28
    go_wp2_with fail
    go_ret
    exact ⟨rfl, rfl⟩
end Go.Proofs.YtaglnomjlnlgoaaDoor
