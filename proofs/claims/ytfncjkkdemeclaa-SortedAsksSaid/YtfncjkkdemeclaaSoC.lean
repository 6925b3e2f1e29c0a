/- Suffixes in memory (package sorted): newSuffixes, Clone, sortByTwice, Rows: contracts of the walk. -/
import Derived.Test.YtfncjkkdemeclaaSoB
import Derived.Test.YtfncjkkdemeclaaSyT
namespace Go.Proofs.Ytfncjkkdemeclaa
open Go Go.RowKit Go.ChangeAt

theorem add_off (b off j : Nat) : (⟨b, off, none⟩ : Addr).add j = ⟨b, off + j, none⟩ := by simp [Addr.add]
theorem Arr.cells {w : World} {b cap N : Nat} {f : Nat → Int} (h : Arr w b cap N f) : ∀ j u, (((List.range N).map f).map (Value.int .i64))[j]? = some u → w.cell? ((⟨b, 0, none⟩ : Addr).add j) = some u := by
  intro j u hu
  have hj : j < N := by
    have := (List.getElem?_eq_some_iff.1 hu).1
    simpa using this
  rw [List.getElem?_map, List.getElem?_map, List.getElem?_range hj] at hu
  simp at hu
  rw [add_off, Nat.zero_add, h.cell hj, ← hu]

theorem slice_nil (b n cap : Nat) (w : World) : (binOp .eql 22 (.slice (some ⟨b, 0, none⟩) n cap) (.slice none 0 0)).run Try.prog w = .ok (.bool false) w := by
  kernel_rfl

set_option maxHeartbeats 800000 in
theorem sclone {b cap N : Nat} {f : Nat → Int} (w : World) (h : Arr w b cap N f) (hp : 0 < N) (hN : N ≤ 1000000000) :
    Calls Try.prog 35 #[.slice (some ⟨b, 0, none⟩) N cap] w fun e w' => ∃ b' cap', e = .returned (.slice (some ⟨b', 0, none⟩) N cap') ∧ w.heap.size ≤ b' ∧ Arr w' b' cap' N f ∧ Below w.heap.size w w' := by
  obtain ⟨i0, hi, hz0, hz1, hz2⟩ := info_parts infoI
  have hfit := h.fits
  unfold maxLen at hfit
  have hcell := (h.below ((Below.refl w.heap.size w).alloc (Nat.le_refl _) (.cells #[] 3))).cells
  have hbl := h.lt
  have HC := Lib.hid hcell
  obtain ⟨l, hl⟩ : ∃ l, (List.range N).map f = l := ⟨_, rfl⟩
  have hll : l.length = N := by rw [← hl, List.length_map, List.length_range]
  rw [hl] at HC
  have HL := Lib.hid hl
  have HLL := Lib.hid hll
  have hnil := slice_nil b N cap
  clear hcell h hl hll
  go_enter Try.func35, Try.ntmps35
  go_wp2_with (first
    | (at_builtin; (refine wpList_append_own _ rfl (.tmp 5) (.tmp 6) 22 rfl w.heap.size 3 i0 (.int .i64 0) 1 8 Try.underlying22 hi hz0 hz1 hz2 rfl (by decide) _ 0 [] rfl (World.ownsRow_made w #[] 0 (Nat.le_refl _) (by decide) rfl) ⟨b, 0, none⟩ N cap (l.map (Value.int .i64)) rfl (by rw [List.length_map, HLL.out]; omega) (fun j u hu => HC.out j u hu) (ints_one _) (by unfold maxLen; omega) (by omega) (by simp) ?_); intro v1 w1 hown1 hgrow1 hnil1))
  have hb1 : Below w.heap.size w w1 := ((Below.refl _ _).alloc (Nat.le_refl _) _).grown hgrow1 (by simp) (by intro q hq; cases hq; exact Nat.le_refl _)
  have hown2 : OwnI w.heap.size w1 v1 l := by
    unfold OwnI
    rw [HLL.out]
    simpa using hown1
  obtain ⟨b', cap', rfl, hb', hA⟩ := Arr.of_own hown2 HLL.out hp
  have hA2 : Arr w1 b' cap' N f := hA.congr fun i hi => by
    show l.getD i 0 = f i
    rw [← HL.out, List.getD_eq_getElem?_getD, List.getElem?_map, List.getElem?_range hi]
    rfl
  have HA := Lib.hid hA2
  clear hown1 hgrow1 hnil1 hown2 hA hA2
  go_wp2_with fail
  go_ret
  exact ⟨b', cap', rfl, hb', HA.out, hb1⟩

/-- The suffixes, sorted by the first h symbols. -/
structure Sfs (B : Nat) (w : World) (T : List Int) (N g h : Nat) (r ro : Nat → Nat) (rb rc hb hc : Nat) : Prop where
  len : T.length = N
  few : N ≤ 1000000000
  txt : Bw.IsTxt T
  box : Box w g N rb rc hb hc (Bw.gc (Bw.eqn T h) ro (N - 1))
  rows : Arr w rb rc N (fun i => (ro i : Int))
  heads : Arr w hb hc N (fun p => (Bw.hd T h p : Int))
  ord : Bw.Ord T h r ro
  low : B ≤ g ∧ B ≤ rb

theorem Bw.Ord.heads {T : List Int} {h : Nat} {r ro : Nat → Nat} {H : Nat → Int} (o : Bw.Ord T h r ro) (hH : ∀ i, i < T.length → H (ro i) = (Bw.gh (Bw.eqn T h) ro i : Int)) (p : Nat) (hp : p < T.length) : H p = (Bw.hd T h p : Int) := by
  have h1 := hH (r p) (o.lt p hp)
  rw [o.gh (o.lt p hp), o.at_ p hp] at h1
  exact h1

set_option maxHeartbeats 1600000 in
set_option maxRecDepth 100000 in
theorem snew {b cap N : Nat} {T : List Int} (w : World) (h : Arr w b cap N (fun i => T.getD i 0)) (hl : T.length = N) (hN : N ≤ 1000000000) (ht : Bw.IsTxt T) (hg : ∀ s ∈ T, 0 ≤ s ∧ s ≤ 256) :
    Calls Try.prog 21 #[.slice (some ⟨b, 0, none⟩) N cap] w fun e w' => ∃ g ro rb hb, e = .returned (.pointer (some ⟨g, 0, none⟩)) ∧ Sfs w.heap.size w' T N g 1 (Bw.bk T) ro rb N hb N ∧ Below w.heap.size w w' := by
  obtain ⟨i0, hi, hz0, hz1, hz2⟩ := info_parts infoI
  have hp : 0 < N := by rw [← hl]; exact ht.pos
  have hbl := h.lt
  obtain ⟨R, hR⟩ : ∃ R, w.heap.size = R := ⟨_, rfl⟩
  obtain ⟨w0, hw0⟩ : ∃ w0, w.alloc (.cells (madeCells #[Value.int .i64 0] N) 3) = w0 := ⟨_, rfl⟩
  have hb0 : Below R w w0 := by rw [← hw0, ← hR]; exact (Below.refl _ _).alloc (Nat.le_refl _) _
  have hs0 : w0.heap.size = R + 1 := by rw [← hw0, ← hR]; simp
  obtain ⟨w1, hw1⟩ : ∃ w1, w0.alloc (.cells #[.slice (some ⟨R, 0, none⟩) N N, .slice (some ⟨b, 0, none⟩) N cap, .int .i64 0] 46) = w1 := ⟨_, rfl⟩
  have hb1 : Below w0.heap.size w0 w1 := by rw [← hw1]; exact (Below.refl _ _).alloc (Nat.le_refl _) _
  have hb01 : Below R w w1 := hb0.trans (hb1.mono (by omega))
  have hbR : b < R := by omega
  have hA0 : Arr w1 b cap N (fun i => T.getD i 0) := h.below (by rw [hR]; exact hb01)
  have hR0 : Arr w0 R N N (fun _ => 0) := by rw [← hw0, ← hR]; exact Arr.made N (by unfold maxLen; omega)
  have hR1 : Arr w1 R N N (fun i => (((fun _ => 0 : Nat → Nat) i : Nat) : Int)) := hR0.below hb1
  have hB1 : Box w1 (R + 1) N R N b cap 0 := by
    rw [← hw1]
    unfold Box
    rw [← hs0]
    exact alloc_of
  have hrd : RdL w1 (some ⟨b, 0, none⟩) cap T := hA0.rd T hl (fun _ _ => rfl)
  have key := sranks w1 hrd hl hN hg
  have HB01 := Lib.hid hb01
  have HA0 := Lib.hid hA0
  have HR1 := Lib.hid hR1
  have HB1 := Lib.hid hB1
  have HT := Lib.hid ht
  have HL := Lib.hid hl
  have HR := Lib.hid hR
  have hs1 : R + 1 < w1.heap.size := hB1.lt
  have hw0s := hs0
  clear h ht hg hb0 hb1 hb01 hA0 hR0 hR1 hB1 hrd hl
  go_enter Try.func21, Try.ntmps21
  go_wp2_with (first
    | (at_make; refine wpList_make_row _ rfl _ _ 22 rfl 3 i0 (.int .i64 0) Try.underlying22 hi hz0 hz1 rfl .i64 .i64 N rfl rfl (by rw [hz2]; omega) (by omega) ?_; rw [hw0, hR]))
  (with_reducible refine key.mono ?_); rintro e w2 ⟨K, rfl, hK, hRK, hb2⟩
  clear key hw0 hw1
  have HRK := Lib.hid hRK
  have HB2 := Lib.hid hb2
  have HB1 := Lib.hid (HB1.out.below hb2)
  have HR1 := Lib.hid (HR1.out.below hb2)
  have HA0 := Lib.hid (HA0.out.below hb2)
  have HBW := Lib.hid (HB01.out.trans (hb2.mono (by omega)))
  have hKs := hRK.lt
  clear hRK hb2 HB2 HB01
  go_wp2_with fail
  go_loopw [4, 5, 15] (fun _ _ i wr => ∃ (k : Nat) (ro : Nat → Nat), k ≤ N ∧ i = .int .i64 k ∧ Box wr (R + 1) N R N b cap 0 ∧ Arr wr R N N (fun i => (ro i : Int)) ∧ (∀ p, p < k → ro (Bw.bk T p) = p) ∧ Arr wr b cap N (fun i => T.getD i 0) ∧ Arr wr K N N (fun k => (Bw.bk T k : Int)) ∧ Below R w wr) (fun _ _ i _ => N - (intOf i).toNat)
  case atStart => exact ⟨0, _, Nat.zero_le _, rfl, HB1.out, HR1.out, fun p hp => absurd hp (Nat.not_lt_zero _), HA0.out, HRK.out, HBW.out⟩
  case round =>
    clear HB1 HR1 HA0 HRK HBW
    obtain ⟨k, ro, hk, rfl, hB, hR, hf, hA, hK1, hbw⟩ := hrel
    by_cases hlt : k < N
    · have hlt' : (k : Int) < N := by omega
      have c0 := hK1.cell hlt
      have c1 := hB.c0
      have hbk := Bw.bk_lt (l := T) (r := k) (by rw [HL.out]; exact hlt)
      rw [HL.out] at hbk
      have hinj : ∀ p, p < k → Bw.bk T p ≠ Bw.bk T k := fun p hp e => by
        have := Bw.bk_inj (l := T) (by rw [HL.out]; omega) (by rw [HL.out]; exact hlt) e
        omega
      obtain ⟨q, hq⟩ : ∃ q, Bw.bk T k = q := ⟨_, rfl⟩
      rw [hq] at hbk hinj c0
      have hq' : (q : Int) < N := by omega
      have c2 := hR.cell hbk
      have c3 := hR.free q
      have hst : Stay (· = R) wr (wr.setCell ⟨R, q, none⟩ (.int .i64 (k : Int))) := (Stay.refl (· = R) _).setCell (p := ⟨R, q, none⟩) (.inr rfl) _
      have hR2 : Arr (wr.setCell ⟨R, q, none⟩ (.int .i64 (k : Int))) R N N (fun j => (((fun j => if j = q then k else ro j) j : Nat) : Int)) := (hR.set q k).congr fun j _ => by
        show (if j = q then (k : Int) else (ro j : Int)) = (((if j = q then k else ro j) : Nat) : Int)
        split <;> rfl
      have hf2 : ∀ p, p < k + 1 → (if Bw.bk T p = q then k else ro (Bw.bk T p)) = p := fun p hp => by
        by_cases e : p = k
        · rw [e, if_pos hq]
        · rw [if_neg (hinj p (by omega))]; exact hf p (by omega)
      have HX := Lib.hid (And.intro (hB.stay hst (by omega)) (And.intro hR2 (And.intro hf2 (And.intro (hA.stay hst (by omega)) (And.intro (hK1.stay hst (by omega)) (hbw.setCell (p := ⟨R, q, none⟩) (Nat.le_refl _) (.int .i64 (k : Int))))))))
      clear hB hR hf hA hK1 hbw hst hR2 hf2 hinj hq
      go_wp2_with fail
      go_roundw
      case rel => exact ⟨k + 1, _, by omega, by go_num, HX.out.1, HX.out.2.1, HX.out.2.2.1, HX.out.2.2.2.1, HX.out.2.2.2.2.1, HX.out.2.2.2.2.2⟩
      case measure => simp [intOf]; omega
    · have hlt' : ¬ (k : Int) < N := by omega
      obtain rfl : k = N := by omega
      have ho : Bw.Ord T 1 (Bw.bk T) ro := Bw.Ord.first fun p hp => hf p (by rw [← HL.out]; exact hp)
      have key := sregroup (Bw.eqn T 1) 0 wr hB hR hA hN hp (fun i hi => by have := (ho.row (by rw [HL.out]; exact hi)).1; rw [HL.out] at this; exact this)
        (fun i j hi hj e => by
          have h1 := (ho.row (i := i) (by rw [HL.out]; exact hi)).2
          have h2 := (ho.row (i := j) (by rw [HL.out]; exact hj)).2
          rw [e, h2] at h1
          exact h1.symm)
        (fun i _ => by
          show (decide (T.getD (ro i) 0 = T.getD (ro (i + 1)) 0) && decide (T.getD (ro i) 0 = T.getD (ro (i + 1)) 0)) = (decide (T.getD (ro i) 0 = T.getD (ro (i + 1)) 0) && true)
          rw [Bool.and_self, Bool.and_true])
        (fun i hi _ => by
          have h1 := (ho.row (i := i) (by rw [HL.out]; omega)).1
          have h2 := (ho.row (i := i + 1) (by rw [HL.out]; omega)).1
          rw [HL.out] at h1 h2
          exact ⟨h1, h2⟩)
      rw [show ((0 : Nat) : Int) = 0 from rfl] at key
      have HO := Lib.hid ho
      have HBW := Lib.hid hbw
      clear hB hR hf hA hK1 hbw ho
      go_wp2_with fail
      (with_reducible refine key.mono ?_); rintro e w3 ⟨rfl, hb', H', hle, hB, hR, hH, hHe, hs⟩
      have hfin : Sfs R w3 T k (R + 1) 1 (Bw.bk T) ro R k hb' k := ⟨HL.out, hN, HT.out, hB, hR, hH.congr (fun p hp => HO.out.heads (fun i hi => hHe i (by rw [← HL.out]; exact hi)) p (by rw [HL.out]; exact hp)), HO.out, by omega⟩
      have HF := Lib.hid hfin
      have HBF := Lib.hid (HBW.out.trans (hs.below (B := R) (by rw [← HR.out]; exact HBW.out.size) (fun i _ e => by omega)))
      clear key hB hR hH hHe hs hfin
      go_wp2_with fail
      go_ret
      exact ⟨R + 1, ro, R, hb', rfl, by rw [HR.out]; exact HF.out, by rw [HR.out]; exact HBF.out⟩
end Go.Proofs.Ytfncjkkdemeclaa
