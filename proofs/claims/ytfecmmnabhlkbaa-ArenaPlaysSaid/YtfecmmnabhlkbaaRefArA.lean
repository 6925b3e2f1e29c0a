/- The document's own arenas (scrimshawref1) in memory, and what NewArena, Live, Is and Take of them do: contracts of the walk. -/
import Derived.Test.YtfecmmnabhlkbaaAreB
import Derived.ArgAppend
namespace Go.Proofs.Ytfecmmnabhlkbaa
open Go Go.RowKit Go.ChangeAt

/-- A slice of integers of the call's own, or one that is full and is only read. -/
def GoneI (base : Nat) (w : World) (v : Value) (F : List Int) : Prop :=
  (v = .slice none 0 0 ∧ F = []) ∨ ∃ b cap cur, v = .slice (some ⟨b, 0, none⟩) F.length cap ∧ base ≤ b ∧ w.heap[b]? = some (.cells cur 3 (0, 0)) ∧ F.length ≤ cap ∧ cap ≤ maxLen ∧ cur.toList.take F.length = F.map (Value.int .i64) ∧ (cur.size = cap ∨ cap = F.length)
theorem GoneI.of_own {base : Nat} {w : World} {v : Value} {F : List Int} (h : OwnI base w v F) : GoneI base w v F := by
  rcases h.2 with ⟨hv, h0⟩ | ⟨g, cap, cur, hv, hb, hg, hn, hm, hs, ht⟩
  · exact .inl ⟨hv, List.eq_nil_of_length_eq_zero h0⟩
  · exact .inr ⟨g, cap, cur, hv, hb, hg, hn, hm, by rw [Nat.mul_one] at ht; exact ht, .inl (by omega)⟩
theorem GoneI.form {base : Nat} {w : World} {v : Value} {F : List Int} (h : GoneI base w v F) : ∃ a cap, v = .slice a F.length cap ∧ F.length ≤ cap ∧ cap ≤ maxLen := by
  rcases h with ⟨hv, rfl⟩ | ⟨g, cap, cur, hv, hb, hg, hn, hm, ht, hc⟩
  · exact ⟨none, 0, hv, by simp, by decide⟩
  · exact ⟨_, cap, hv, hn, hm⟩
theorem GoneI.lt {base : Nat} {w : World} {v : Value} {F : List Int} (h : GoneI base w v F) : ∀ k, v.ownBlock = some k → base ≤ k ∧ k < w.heap.size := by
  intro k hk
  rcases h with ⟨rfl, rfl⟩ | ⟨g, cap, cur, rfl, hb, hg, hn, hm, ht, hc⟩
  · cases hk
  · have : g = k := by simpa [Value.ownBlock] using hk
    subst this
    exact ⟨hb, lt_of_block hg⟩
theorem GoneI.stay {base : Nat} {w w' : World} {S : Nat → Prop} {v : Value} {F : List Int} (h : GoneI base w v F) (hb : Stay S w w') (hs : ∀ k, v.ownBlock = some k → ¬ S k) : GoneI base w' v F := by
  rcases h with h | ⟨g, cap, cur, rfl, hb0, hg, r⟩
  · exact .inl h
  · exact .inr ⟨g, cap, cur, rfl, hb0, hb.kept hg (hs g rfl), r⟩
theorem GoneI.ne {base : Nat} {w : World} {v : Value} {F : List Int} {t : TypeId} {g : Nat} {c : Array Value} {f : Nat × Nat} (h : GoneI base w v F) (hg : w.heap[g]? = some (.cells c t f)) (hne : t ≠ 3) : ∀ k, v.ownBlock = some k → k ≠ g := by
  intro k hk e
  subst e
  rcases h with ⟨rfl, rfl⟩ | ⟨g', cap, cur, rfl, hb0, hg', r⟩
  · cases hk
  · have : g' = k := by simpa [Value.ownBlock] using hk
    subst this
    rw [hg] at hg'
    simp at hg'
    exact hne hg'.2.1
theorem GoneI.open {base : Nat} {w : World} {a : Option Addr} {cap : Nat} {F : List Int} {n : Nat} (h : GoneI base w (.slice a n cap) F) (hne : 0 < F.length) :
    ∃ b, a = some ⟨b, 0, none⟩ ∧ b < w.heap.size ∧ (∀ i, i < F.length → w.cell? ⟨b, i, none⟩ = some (.int .i64 (F.getD i 0))) := by
  rcases h with ⟨hv, rfl⟩ | ⟨g, cap', cur, hv, hb0, hg, hn, hm, ht, hc⟩
  · simp at hne
  · simp only [Value.slice.injEq] at hv
    obtain ⟨rfl, _, rfl⟩ := hv
    refine ⟨g, rfl, lt_of_block hg, fun i hi => ?_⟩
    rw [cell_of hg]
    have h2 : (cur.toList.take F.length)[i]? = (F.map (Value.int .i64))[i]? := by rw [ht]
    rw [List.getElem?_take_of_lt hi] at h2
    rw [← Array.getElem?_toList, h2]
    simp [hi]
/-- All but the last, full. -/
theorem GoneI.init {base : Nat} {w : World} {b cap n : Nat} {F : List Int} {k : Int} (h : GoneI base w (.slice (some ⟨b, 0, none⟩) n cap) (F ++ [k])) : GoneI base w (.slice (some ⟨b, 0, none⟩) F.length F.length) F := by
  rcases h with ⟨hv, h0⟩ | ⟨g, cap', cur, hv, hb0, hg, hn, hm, ht, hc⟩
  · cases hv
  · simp only [Value.slice.injEq, Option.some.injEq, Addr.mk.injEq, and_true] at hv
    obtain ⟨rfl, _, rfl⟩ := hv
    have hlen : (F ++ [k]).length = F.length + 1 := by simp
    rw [hlen] at hn ht
    refine .inr ⟨b, F.length, cur, rfl, hb0, hg, Nat.le_refl _, by omega, ?_, .inr rfl⟩
    have h2 : (cur.toList.take (F.length + 1)).take F.length = (List.map (Value.int .i64) (F ++ [k])).take F.length := by rw [ht]
    rw [List.take_take, Nat.min_eq_left (by omega), List.map_append, List.take_append_of_le_length (by simp)] at h2
    rw [h2]
    exact List.take_of_length_le (by simp)
/-- One more, at the operation. -/
theorem wp_append_gone {P : Program} (w : World) {o : Oper} {a : Act} {K : Act → World → Prop} {Q : Exit → Act → World → Prop} (s x : Operand) (t : TypeId)
    (ho : o.op = .call { callee := .builtin .append, args := #[s, x], argTypes := #[t, t] })
    (base : Nat) (i : TypeInfo) (ht : P.underlying t = some (.slice 3)) (hi : P.info? 3 = some i) (hz : i.zero = some (.int .i64 0)) (hsize : i.size = 1) (hby : i.bytes = 8)
    (v : Value) (F : List Int) (hs : a.eval s = v) (hown : GoneI base w v F)
    (ad : Addr) (k : Int) (hx : a.eval x = .slice (some ad) 1 1) (hc : ∀ j u, [Value.int .i64 k][j]? = some u → w.cell? (ad.add j) = some u) (hm : F.length ≤ 1099511627776) (hbase : base ≤ w.heap.size) (H : Nat) (hH : w.heap.size = H)
    (h : ∀ g cap w', w'.ownsRow base 3 1 (.slice (some ⟨g, 0, none⟩) (F.length + 1) cap) (F.length + 1) ((F ++ [k]).map (Value.int .i64)) → w.grownBy w' v.ownBlock → (v.ownBlock = some g ∨ H ≤ g) → g < w'.heap.size → K (a.put o.dst (.slice (some ⟨g, 0, none⟩) (F.length + 1) cap)) w') : o.wp P a w K Q := by
  have one : ∀ u ∈ [Value.int .i64 k], u.oneCell' = true := fun u hu => by simp at hu; subst hu; rfl
  have own : OwnI base w v F → o.wp P a w K Q := fun hown' => by
    refine wp_append_lies w s x t ho base 3 i (.int .i64 0) 1 8 ht hi hz hsize hby rfl (by decide) v F.length _ hs hown' ad 1 1 [.int .i64 k] hx rfl hc one (by decide) (by unfold maxLen; omega) (by omega) hbase H hH ?_
    intro g cap w' h1 h2 h3 h4
    exact h g cap w' (by rw [List.map_append]; exact h1) h2 (h3.imp id (fun e => Nat.le_of_eq e.symm)) h4
  rcases id hown with ⟨hv, hF⟩ | ⟨b, cap, cur, hv, hb0, hg, hn, hmx, htk, hcc⟩
  · subst hv hF
    exact own (World.ownsRow_nil _ _ _ _)
  · by_cases hcs : cur.size = cap
    · exact own ⟨by simp, .inr ⟨b, cap, cur, hv, hb0, hg, hn, hmx, by omega, by rw [Nat.mul_one]; exact htk⟩⟩
    · have hcap : cap = F.length := hcc.resolve_left hcs
      subst hv hcap
      have holds : ∀ j u, (F.map (Value.int .i64))[j]? = some u → w.cell? ((⟨b, 0, none⟩ : Addr).add j) = some u := by
        intro j u hu
        have hj : j < F.length := by (have := (List.getElem?_eq_some_iff.1 hu).1); simpa using this
        rw [show (⟨b, 0, none⟩ : Addr).add j = ⟨b, j, none⟩ by (simp [Addr.add]; omega), cell_of hg, ← Array.getElem?_toList, ← hu, ← htk, List.getElem?_take_of_lt hj]
      obtain ⟨v', w', hr, h2, h3⟩ := run_append_arg_grows (P := P) w t o.type 3 i (.int .i64 0) 1 8 ht hi hz hsize hby rfl (by decide) ⟨b, 0, none⟩ F.length F.length (F.map (Value.int .i64)) (by simp) holds ad 1 1 [.int .i64 k] rfl hc (by omega) (by unfold maxLen; omega) (by omega)
      obtain ⟨g, cap', rfl, hge, hlt⟩ := h2.form (by omega)
      unfold Oper.wp execOp
      simp only [ho, resolve, invoke, builtin, Sem.run_bind, Sem.run_pure, Result.andThen_ok, List.map_toArray, List.map_cons, List.map_nil, hs, hx, hr]
      refine h g cap' w' ?_ ⟨h3.os, h3.tape, h3.output, h3.size, fun j hj _ => h3.block j hj (by simp)⟩ (.inr (hH ▸ hge)) hlt
      rw [List.map_append]
      exact ownsRow_base h2 hbase
theorem step_append_gone {P : Program} {w : World} {ops : Array Oper} {o : Oper} {a : Act} {K : Act → World → Prop} {Q : Exit → Act → World → Prop} {E : Prop} (hgd : o.guard = none) (s x : Operand) (t : TypeId)
    (ho : o.op = .call { callee := .builtin .append, args := #[s, x], argTypes := #[t, t] })
    (base : Nat) (i : TypeInfo) (ht : P.underlying t = some (.slice 3)) (hi : P.info? 3 = some i) (hz : i.zero = some (.int .i64 0)) (hsize : i.size = 1) (hby : i.bytes = 8)
    (v : Value) (F : List Int) (hs : a.eval s = v) (hown : GoneI base w v F)
    (ad : Addr) (k : Int) (hx : a.eval x = .slice (some ad) 1 1) (hc : ∀ j u, [Value.int .i64 k][j]? = some u → w.cell? (ad.add j) = some u) (hm : F.length ≤ 1099511627776) (hbase : base ≤ w.heap.size) (H : Nat) (hH : w.heap.size = H)
    (h : ∀ g cap w', w'.ownsRow base 3 1 (.slice (some ⟨g, 0, none⟩) (F.length + 1) cap) (F.length + 1) ((F ++ [k]).map (Value.int .i64)) → w.grownBy w' v.ownBlock → (v.ownBlock = some g ∨ H ≤ g) → g < w'.heap.size → K (a.put o.dst (.slice (some ⟨g, 0, none⟩) (F.length + 1) cap)) w') :
    if Region.wanted o (yielded ops a.tmps) = true then Oper.wp P o a w K Q else E := by
  have hw : Region.wanted o (yielded ops a.tmps) = true := by simp [Region.wanted, hgd]
  rw [if_pos hw]
  exact wp_append_gone w s x t ho base i ht hi hz hsize hby v F hs hown ad k hx hc hm hbase H hH h

/-- Block g of the memory is an arena of the document's answer; A holds its blocks. -/
def RrM (base : Nat) (A : Nat → Prop) (w : World) (g most : Nat) (T : List Bool) (F : List Int) : Prop :=
  A g ∧ (∀ k, A k → base ≤ k ∧ k < w.heap.size) ∧ ∃ a c a' c', w.heap[g]? = some (.cells #[.int .i64 most, .slice a T.length c, .slice a' F.length c'] 40 (0, 0)) ∧
    OwnB base w (.slice a T.length c) T ∧ GoneI base w (.slice a' F.length c') F ∧ (∀ k, (Value.slice a T.length c).ownBlock = some k → A k) ∧ (∀ k, (Value.slice a' F.length c').ownBlock = some k → A k)
theorem RrM.stay {base : Nat} {A S : Nat → Prop} {w w' : World} {g most : Nat} {T : List Bool} {F : List Int} (h : RrM base A w g most T F) (hb : Stay S w w') (hs : ∀ k, A k → ¬ S k) : RrM base A w' g most T F := by
  obtain ⟨h1, h2, a, c, a', c', h3, h4, h5, h6, h7⟩ := h
  exact ⟨h1, fun k hk => ⟨(h2 k hk).1, Nat.lt_of_lt_of_le (h2 k hk).2 hb.size⟩, a, c, a', c', hb.kept h3 (hs _ h1), ownsRow_stay h4 hb (fun k hk => hs k (h6 k hk)), h5.stay hb (fun k hk => hs k (h7 k hk)), h6, h7⟩
theorem RrM.below {base : Nat} {A : Nat → Prop} {w w' : World} {g most : Nat} {T : List Bool} {F : List Int} (h : RrM base A w g most T F) (hb : Below w.heap.size w w') : RrM base A w' g most T F :=
  h.stay (Stay.of_below (S := fun _ => False) hb) (fun _ _ h => h)
theorem RrM.drewN {base : Nat} {A : Nat → Prop} {w : World} {g most : Nat} {T : List Bool} {F : List Int} (h : RrM base A w g most T F) (n : Nat) : RrM base A (w.drewN n) g most T F := h
theorem RrM.lt {base : Nat} {A : Nat → Prop} {w : World} {g most : Nat} {T : List Bool} {F : List Int} (h : RrM base A w g most T F) : ∀ k, A k → base ≤ k ∧ k < w.heap.size := h.2.1
theorem RrM.setT {base : Nat} {A : Nat → Prop} {w : World} {g most b c c' : Nat} {a' : Option Addr} {T : List Bool} {F : List Int} (h1 : A g) (h2 : ∀ k, A k → base ≤ k ∧ k < w.heap.size)
    (h3 : w.heap[g]? = some (.cells #[.int .i64 most, .slice (some ⟨b, 0, none⟩) T.length c, .slice a' F.length c'] 40 (0, 0))) (h4 : OwnB base w (.slice (some ⟨b, 0, none⟩) T.length c) T) (h5 : GoneI base w (.slice a' F.length c') F)
    (h6 : A b) (h7 : ∀ k, (Value.slice a' F.length c').ownBlock = some k → A k) (j : Nat) (x : Bool) : RrM base A (w.setCell ⟨b, j, none⟩ (.bool x)) g most (T.set j x) F := by
  have hst : Stay (fun k => k = b) w (w.setCell ⟨b, j, none⟩ (.bool x)) := Stay.setCell (S := fun k => k = b) (Stay.refl _ _) (p := ⟨b, j, none⟩) (.inr rfl) _
  have hne : g ≠ b := fun e => own_ne h4 h3 (by decide) b rfl e.symm
  have h4' := OwnB.set h4 j x
  rw [List.length_set] at h4'
  have hne5 : ∀ k, (Value.slice a' F.length c').ownBlock = some k → ¬ k = b := by
    rcases h4.2 with ⟨hv, _⟩ | ⟨g', cap, cur, hv, _, hg', _⟩
    · cases hv
    · simp only [Value.slice.injEq, Option.some.injEq, Addr.mk.injEq, and_true] at hv
      obtain ⟨rfl, _, rfl⟩ := hv
      exact h5.ne hg' (by decide)
  refine ⟨h1, fun k hk => ⟨(h2 k hk).1, Nat.lt_of_lt_of_le (h2 k hk).2 hst.size⟩, some ⟨b, 0, none⟩, c, a', c', ?_, ?_, h5.stay hst hne5, ?_, h7⟩
  · rw [List.length_set]; exact hst.kept h3 hne
  · rw [List.length_set]; exact h4'
  · rintro k hk
    have : b = k := by simpa [Value.ownBlock] using hk
    rw [← this]; exact h6
theorem RrM.setF {base : Nat} {A : Nat → Prop} {w1 : World} {g most c : Nat} {a a1 : Option Addr} {c1 n1 : Nat} {T : List Bool} {F1 : List Int} {v : Value} (hn : F1.length = n1) (h1 : A g) (h2 : ∀ k, A k → base ≤ k ∧ k < w1.heap.size)
    (h3 : w1.heap[g]? = some (.cells #[.int .i64 most, .slice a T.length c, v] 40 (0, 0))) (h4 : OwnB base w1 (.slice a T.length c) T) (h6 : ∀ k, (Value.slice a T.length c).ownBlock = some k → A k)
    (h5 : GoneI base w1 (.slice a1 n1 c1) F1) (h7 : ∀ k, (Value.slice a1 n1 c1).ownBlock = some k → A k) : RrM base A (w1.setCell ⟨g, 2, none⟩ (.slice a1 n1 c1)) g most T F1 := by
  subst hn
  have hst : Stay (fun k => k = g) w1 (w1.setCell ⟨g, 2, none⟩ (.slice a1 F1.length c1)) := Stay.setCell (S := fun k => k = g) (Stay.refl _ _) (p := ⟨g, 2, none⟩) (.inr rfl) _
  exact ⟨h1, fun k hk => ⟨(h2 k hk).1, Nat.lt_of_lt_of_le (h2 k hk).2 hst.size⟩, a, c, a1, c1, set_of h3 _, ownsRow_stay h4 hst (own_ne h4 h3 (by decide)), h5.stay hst (h5.ne h3 (by decide)), h6, h7⟩
theorem RrM.setV {base : Nat} {A : Nat → Prop} {w1 : World} {g most c' : Nat} {a' a1 : Option Addr} {c1 n1 : Nat} {T1 : List Bool} {F : List Int} {v : Value} (hn : T1.length = n1) (h1 : A g) (h2 : ∀ k, A k → base ≤ k ∧ k < w1.heap.size)
    (h3 : w1.heap[g]? = some (.cells #[.int .i64 most, v, .slice a' F.length c'] 40 (0, 0))) (h4 : GoneI base w1 (.slice a' F.length c') F) (h6 : ∀ k, (Value.slice a' F.length c').ownBlock = some k → A k)
    (h5 : w1.ownsRow base 4 1 (.slice a1 n1 c1) n1 (T1.map Value.bool)) (h7 : ∀ k, (Value.slice a1 n1 c1).ownBlock = some k → A k) : RrM base A (w1.setCell ⟨g, 1, none⟩ (.slice a1 n1 c1)) g most T1 F := by
  subst hn
  have hst : Stay (fun k => k = g) w1 (w1.setCell ⟨g, 1, none⟩ (.slice a1 T1.length c1)) := Stay.setCell (S := fun k => k = g) (Stay.refl _ _) (p := ⟨g, 1, none⟩) (.inr rfl) _
  exact ⟨h1, fun k hk => ⟨(h2 k hk).1, Nat.lt_of_lt_of_le (h2 k hk).2 hst.size⟩, a1, c1, a', c', set_of h3 _, ownsRow_stay h5 hst (own_ne h5 h3 (by decide)), h4.stay hst (h4.ne h3 (by decide)), h7, h6⟩
end Go.Proofs.Ytfecmmnabhlkbaa
