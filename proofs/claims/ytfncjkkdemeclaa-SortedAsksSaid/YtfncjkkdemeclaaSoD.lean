/- Suffixes in memory (package sorted): sortByTwice, Rows: contracts of the walk. -/
import Derived.Test.YtfncjkkdemeclaaSoC
import Derived.Deep.DeepCutAuto
import Derived.Deep.CutBlock
namespace Go.Proofs.Ytfncjkkdemeclaa
open Go Go.RowKit Go.ChangeAt

set_option maxHeartbeats 1600000 in
set_option maxRecDepth 100000 in
theorem stwice {R N g h rb rc hb hc : Nat} {T : List Int} {r ro : Nat → Nat} (w : World) (hS : Sfs R w T N g h r ro rb rc hb hc) (hh : h ≤ 1000000000) (hRw : R ≤ w.heap.size) :
    Calls Try.prog 22 #[.pointer (some ⟨g, 0, none⟩), .int .i64 h] w fun e w' => e = .returned (.tuple #[]) ∧ ∃ r' ro' rb' rc' hb' hc', Sfs R w' T N g (h + h) r' ro' rb' rc' hb' hc' ∧ Below R w w' := by
  obtain ⟨i0, hi, hz0, hz1, hz2⟩ := info_parts infoI
  have c0 := hS.box.c0
  have hN := hS.few
  have hp : 0 < N := by rw [← hS.len]; exact hS.txt.pos
  have hmk : ∀ w' : World, (Instr.makeSlice 22 (.int .i64 (N : Int)) (.int .i64 (N : Int))).run Try.prog w' = .ok (.slice (some ⟨w'.heap.size, 0, none⟩) N N) (w'.alloc (.cells (madeCells #[Value.int .i64 0] N) 3)) := fun w' =>
    run_make_row' 22 3 (.int .i64 0) 8 Try.underlying22 infoI rfl .i64 .i64 N (by omega) (by omega) w'
  have H := Lib.hid hS
  have hgl := hS.box.lt
  have hrl := hS.rows.lt
  have kc1 := sclone w.drew (hS.rows.drewN 1) hp hN
  have hb0 : Below w.heap.size w (w.alloc (.cells (madeCells #[Value.int .i64 0] N) 3)).drew := ((Below.refl w.heap.size w).alloc (Nat.le_refl _) _).drew
  have kc2 := sclone (w.alloc (.cells (madeCells #[Value.int .i64 0] N) 3)).drew (hS.rows.below hb0) hp hN
  clear hS
  go_enter Try.func22, Try.ntmps22
  go_wp2_with fail
  go_cut [4, 5] (fun s4 s5 wx => ∃ nb nc tb, s4 = .slice (some ⟨nb, 0, none⟩) N nc ∧ s5 = .slice (some ⟨tb, 0, none⟩) N N ∧ Arr wx nb nc N (fun i => (ro i : Int)) ∧ Arr wx tb N N (fun _ => 0) ∧ nb ≠ tb ∧ w.heap.size ≤ nb ∧ w.heap.size ≤ tb ∧ Below w.heap.size w wx)
  case first =>
    go_region_held3 (fun w' => w'.cell? ⟨g, 0, none⟩ = some (.slice (some ⟨rb, 0, none⟩) N rc)) (first | exact c0 | exact c0' | go_keep)
      (first
        | (go_at_call 35; (with_reducible refine kc1.mono ?_); rintro e w1 ⟨nb, nc, rfl, hnb, hA1, hb1⟩;
           (have c0' : w1.cell? ⟨g, 0, none⟩ = some (.slice (some ⟨rb, 0, none⟩) N rc) := (hb1.cell (p := ⟨g, 0, none⟩) hgl).trans c0))
        | (go_at_call 35; (with_reducible refine kc2.mono ?_); rintro e w2 ⟨nb, nc, rfl, hnb, hA2, hb2⟩;
           (have c0' : w2.cell? ⟨g, 0, none⟩ = some (.slice (some ⟨rb, 0, none⟩) N rc) := (hb2.cell (p := ⟨g, 0, none⟩) (by simp; omega)).trans ((World.cell?_alloc_past _ _ _ hgl).trans c0))))
    · have hb1' : Below w.heap.size w w1 := ((Below.refl w.heap.size w).drewN 1).trans hb1
      have hbm : Below w1.heap.size w1 (w1.alloc (.cells (madeCells #[Value.int .i64 0] N) 3)) := (Below.refl _ _).alloc (Nat.le_refl _) _
      have h1 := hA1.below hbm
      have h2 := Arr.made (w := w1) N (by unfold maxLen; omega)
      have h3 : nb ≠ w1.heap.size := by have := hA1.lt; omega
      have h4 := hb1'.trans (hbm.mono hb1'.size)
      have HX := Lib.hid (And.intro h1 (And.intro h2 (And.intro h3 (And.intro hnb (And.intro hb1'.size h4)))))
      clear hb1' hbm h1 h2 h3 h4 hA1 hb1 hnb kc1 kc2
      go_wp2_with fail
      go_meet
      case rel => exact ⟨nb, nc, w1.heap.size, rfl, rfl, HX.out.1, HX.out.2.1, HX.out.2.2.1, HX.out.2.2.2.1, HX.out.2.2.2.2.1, HX.out.2.2.2.2.2⟩
    · have h2' : Arr (w.alloc (.cells (madeCells #[Value.int .i64 0] N) 3)).drew w.heap.size N N (fun _ => 0) := Arr.made (w := w) N (by unfold maxLen; omega)
      have h2 : Arr w2 w.heap.size N N (fun _ => 0) := h2'.below hb2
      have h5 : w.heap.size < nb := by
        have : (w.alloc (Obj.cells (madeCells #[Value.int .i64 0] N) 3)).drew.heap.size = w.heap.size + 1 := by simp
        omega
      have h3 : nb ≠ w.heap.size := by omega
      have h4 := hb0.trans (hb2.mono hb0.size)
      have HX := Lib.hid (And.intro hA2 (And.intro h2 (And.intro h3 (And.intro (Nat.le_of_lt h5) (And.intro (Nat.le_refl w.heap.size) h4)))))
      clear hb0 h2 h2' h3 h4 h5 hA2 hb2 hnb kc1 kc2
      go_wp2_with fail
      go_meet
      case rel => exact ⟨nb, nc, w.heap.size, rfl, rfl, HX.out.1, HX.out.2.1, HX.out.2.2.1, HX.out.2.2.2.1, HX.out.2.2.2.2.1, HX.out.2.2.2.2.2⟩
  case rest =>
    obtain ⟨nb, nc, tb, rfl, rfl, hA, hT, hne, hnl, htl, hbw⟩ := hcut
    clear kc1 kc2 hb0 hmk c0
    have c0 := (hbw.cell (p := ⟨g, 0, none⟩) hgl).trans H.out.box.c0
    have HA0 := Lib.hid hA
    have HT0 := Lib.hid (hT.congr (g := fun g => ((Bw.tkn T h r 0 g : Nat) : Int)) fun i _ => by
      show (0 : Int) = ((Bw.tkn T h r 0 i : Nat) : Int)
      rw [Bw.tkn_zero]; rfl)
    have HB0 := Lib.hid hbw
    clear hA hT hbw
    go_wp2_with fail
    clear c0
    go_loopw [7, 8, 25] (fun _ _ i wr => ∃ (k : Nat) (q : Nat → Nat), k ≤ N ∧ i = .int .i64 k ∧ Arr wr nb nc N (fun i => (q i : Int)) ∧ Bw.Tak T h r k q ∧ Arr wr tb N N (fun g => ((Bw.tkn T h r k g : Nat) : Int)) ∧ Below w.heap.size w wr) (fun _ _ i _ => N - (intOf i).toNat)
    case atStart => exact ⟨0, ro, Nat.zero_le _, rfl, HA0.out, Bw.Tak.zero H.out.txt H.out.ord, HT0.out, HB0.out⟩
    case round =>
      clear HA0 HT0 HB0
      obtain ⟨k, rq, hk, rfl, hA, ht, hT, hbw⟩ := hrel
      have hS := H.out
      have hlen := hS.len
      by_cases hlt : k < N
      · have hlt' : (k : Int) < N := by omega
        have c1 := (hbw.cell (p := ⟨rb, k, none⟩) hrl).trans (hS.rows.cell hlt)
        have hrow := hS.ord.row (i := k) (by omega)
        obtain ⟨x, hx⟩ : ∃ x, ro k = x := ⟨_, rfl⟩
        rw [hx] at c1 hrow
        have hxN : x < N := by omega
        by_cases hxh : x < h
        · have hxh' : (x : Int) < h := by omega
          have HX := Lib.hid (And.intro hA (And.intro (ht.skip hS.ord (by omega)) (And.intro (hT.congr (g := fun g => ((Bw.tkn T h r (k + 1) g : Nat) : Int)) fun i _ => by
            show ((Bw.tkn T h r k i : Nat) : Int) = ((Bw.tkn T h r (k + 1) i : Nat) : Int)
            rw [Bw.tkn_skip hS.ord (by omega)]) hbw)))
          clear hA ht hT hbw hx hrow hS
          go_wp2_with fail
          go_roundw
          case rel => exact ⟨k + 1, rq, by omega, by go_num, HX.out.1, HX.out.2.1, HX.out.2.2.1, HX.out.2.2.2⟩
          case measure => simp [intOf]; omega
        · have hxh' : ¬ (x : Int) < h := by omega
          obtain ⟨p, hpx⟩ : ∃ p, x = p + h := ⟨x - h, by omega⟩
          have hpN : p < N := by omega
          have hpT : p < T.length := by omega
          have hep : (x : Int) - h = p := by omega
          have c2 := (hbw.cell (p := ⟨g, 1, none⟩) hgl).trans hS.box.c1
          have c3 := (hbw.cell (p := ⟨hb, p, none⟩) hS.heads.lt).trans (hS.heads.cell hpN)
          have hqN := Bw.hd_lt (T := T) (h := h) hpT
          have hat := Bw.tkn_at (r := r) hS.txt (h := h) hpT
          rw [show r (p + h) = k by rw [← hpx]; exact hrow.2] at hat
          have hsN := Bw.nxt_lt (T := T) (h := h) (r := r) hpT
          have htn := Bw.tkn_next hS.ord (k := k) (p := p) (by omega) (by omega)
          have htk := ht.next hS.txt hS.ord (k := k) (p := p) (by omega) (by omega)
          obtain ⟨q, hq⟩ : ∃ q, Bw.hd T h p = q := ⟨_, rfl⟩
          obtain ⟨s, hs⟩ : ∃ s, Bw.nxt T h r p = s := ⟨_, rfl⟩
          rw [hq] at c3 hqN hat htn
          rw [hs] at hat hsN htk
          rw [hlen] at hqN hsN
          have c4 := hT.cell hqN
          obtain ⟨t, htt⟩ : ∃ t, Bw.tkn T h r k q = t := ⟨_, rfl⟩
          rw [htt] at c4 hat
          have hes : (q : Int) + t = s := by omega
          have c5 := hA.cell hsN
          have c6 := hA.free s
          have hst1 : Stay (· = nb) wr (wr.setCell ⟨nb, s, none⟩ (.int .i64 (p : Int))) := (Stay.refl (· = nb) _).setCell (p := ⟨nb, s, none⟩) (.inr rfl) _
          have hT1 := hT.stay hst1 (fun e => hne e.symm)
          have hA1 := hA.set s (p : Int)
          have c7 := hT1.cell hqN
          have c8 := hT1.free q
          rw [htt] at c7
          have hst2 : Stay (· = tb) (wr.setCell ⟨nb, s, none⟩ (.int .i64 (p : Int))) ((wr.setCell ⟨nb, s, none⟩ (.int .i64 (p : Int))).setCell ⟨tb, q, none⟩ (.int .i64 ((t : Int) + 1))) := (Stay.refl (· = tb) _).setCell (p := ⟨tb, q, none⟩) (.inr rfl) _
          have hA2 : Arr _ nb nc N (fun j => (((fun j => if j = s then p else rq j) j : Nat) : Int)) := (hA1.stay hst2 hne).congr fun j _ => by
            show (if j = s then (p : Int) else (rq j : Int)) = (((if j = s then p else rq j) : Nat) : Int)
            split <;> rfl
          have hT2 : Arr _ tb N N (fun g => ((Bw.tkn T h r (k + 1) g : Nat) : Int)) := (hT1.set q ((t : Int) + 1)).congr fun j _ => by
            show (if j = q then (t : Int) + 1 else ((Bw.tkn T h r k j : Nat) : Int)) = ((Bw.tkn T h r (k + 1) j : Nat) : Int)
            rw [htn j]
            by_cases e : j = q
            · rw [if_pos e, if_pos e, e, htt]; rfl
            · rw [if_neg e, if_neg e]; rfl
          have hb2 : Below w.heap.size w ((wr.setCell ⟨nb, s, none⟩ (.int .i64 (p : Int))).setCell ⟨tb, q, none⟩ (.int .i64 ((t : Int) + 1))) := (hbw.setCell (p := ⟨nb, s, none⟩) hnl _).setCell (p := ⟨tb, q, none⟩) htl _
          have HX := Lib.hid (And.intro hA2 (And.intro htk (And.intro hT2 hb2)))
          have htN : (t : Int) ≤ 1000000000 := by omega
          have hqN' : (q : Int) < N := by omega
          have hsN' : (s : Int) < N := by omega
          have hpN' : (p : Int) < N := by omega
          clear hA ht hT hbw hx hrow hS hpx hst1 hT1 hA1 hst2 hA2 hT2 hb2 htt hs hq htn htk hat
          go_wp2_with fail
          go_roundw
          case rel => exact ⟨k + 1, _, by omega, by go_num, HX.out.1, HX.out.2.1, HX.out.2.2.1, HX.out.2.2.2⟩
          case measure => simp [intOf]; omega
      · have hlt' : ¬ (k : Int) < N := by omega
        obtain rfl : k = N := by omega
        rw [← hlen] at ht
        have ho := ht.done hS.txt hS.ord
        have hgn : ¬ nb = g := by omega
        have hst : Stay (· = g) wr (wr.setCell ⟨g, 0, none⟩ (.slice (some ⟨nb, 0, none⟩) k nc)) := (Stay.refl (· = g) _).setCell (p := ⟨g, 0, none⟩) (.inr rfl) _
        have hB0 := hS.box.below hbw
        have hB := hB0.set0 nb nc
        have c1 := hB0.c0
        have f1 := hB0.free 0
        have hH := (hS.heads.below hbw).stay hst (hS.box.ne hS.heads)
        have hA1 := hA.stay hst hgn
        have hro : ∀ i, i < k → rq i < k ∧ Bw.nxt T h r (rq i) = i := fun i hi => by
          have := ho.row (i := i) (by omega)
          rw [hlen] at this
          exact this
        have hrne : ∀ i, i + 1 < k → rq i ≠ rq (i + 1) := fun i hi e => by
          have h1 := (hro i (by omega)).2
          rw [e, (hro (i + 1) hi).2] at h1
          omega
        have key := sregroup (Bw.eqn T (h + h)) h _ hB hA1 hH hN hp (fun i hi => (hro i hi).1)
          (fun i j hi hj e => by
            have h1 := (hro i hi).2
            rw [e, (hro j hj).2] at h1
            exact h1.symm)
          (fun i hi => by
            have a1 := (hro i (by omega)).1
            have a2 := (hro (i + 1) hi).1
            rw [← hlen] at a1 a2
            have a3 := Bw.hd_iff (h := h) a1 a2
            by_cases e : Bw.eqn T h (rq i) (rq (i + 1)) = true
            · have a4 := Bw.eqn_far hS.txt a1 a2 (hrne i hi) e
              have a5 := Bw.hd_iff (h := h) a4.1 a4.2
              rw [decide_eq_true (by rw [a3.2 e]), Bool.true_and]
              by_cases e2 : Bw.eqn T h (rq i + h) (rq (i + 1) + h) = true
              · rw [decide_eq_true (by rw [a5.2 e2]), (Bw.eqn_add h h _ _).2 ⟨e, e2⟩]
              · rw [decide_eq_false (fun e3 => e2 (a5.1 (by omega)))]
                cases e4 : Bw.eqn T (h + h) (rq i) (rq (i + 1)) with
                | false => rfl
                | true => exact absurd ((Bw.eqn_add h h _ _).1 e4).2 e2
            · rw [decide_eq_false (fun e3 => e (a3.1 (by omega))), Bool.false_and]
              cases e4 : Bw.eqn T (h + h) (rq i) (rq (i + 1)) with
              | false => rfl
              | true => exact absurd ((Bw.eqn_add h h _ _).1 e4).1 e)
          (fun i hi e => by
            have a1 := (hro i (by omega)).1
            have a2 := (hro (i + 1) hi).1
            rw [← hlen] at a1 a2
            have a3 := (Bw.hd_iff (h := h) a1 a2).1 (by omega)
            have a4 := Bw.eqn_far hS.txt a1 a2 (hrne i hi) a3
            omega)
        have HO := Lib.hid ho
        have HBW := Lib.hid (hbw.mono hRw)
        have hRg := hS.low.1
        have HBS := Lib.hid (hbw.size)
        clear hA ht hT hbw ho hB hH hA1 hro hrne hS hst hB0
        go_wp2_with fail
        (with_reducible refine key.mono ?_); rintro e w3 ⟨rfl, hb', H', hle, hB, hR, hH, hHe, hs⟩
        have hfin : Sfs R w3 T k g (h + h) (Bw.nxt T h r) rq nb nc hb' k := ⟨hlen, hN, H.out.txt, hB, hR, hH.congr (fun p hp => HO.out.heads (fun i hi => hHe i (by rw [← hlen]; exact hi)) p (by rw [hlen]; exact hp)), HO.out, by omega⟩
        have HF := Lib.hid hfin
        have hs2 : Below R (wr.setCell ⟨g, 0, none⟩ (.slice (some ⟨nb, 0, none⟩) k nc)) w3 := hs.below (B := R) (by have := HBS.out; simp [World.setCell]; omega) (fun i _ e => by omega)
        have HBF := Lib.hid ((HBW.out.setCell (p := ⟨g, 0, none⟩) hRg _).trans hs2)
        clear key hB hR hH hHe hs hfin hs2
        go_wp2_with fail
        go_end0
        exact ⟨rfl, _, _, _, _, _, _, HF.out, HBF.out⟩

theorem Sy.txt (t : List UInt8) : Bw.IsTxt (Sy.of t ++ [0]) := Bw.IsTxt.of _ fun s hs => by
  obtain ⟨b, _, rfl⟩ := List.mem_map.1 hs
  omega
theorem Sy.all_good (t : List UInt8) : ∀ s ∈ Sy.of t ++ [0], 0 ≤ s ∧ s ≤ 256 := fun s hs => by
  rcases List.mem_append.1 hs with h | h
  · obtain ⟨b, _, rfl⟩ := List.mem_map.1 h
    have := u8_rng b
    omega
  · rw [List.mem_singleton.1 h]; omega
theorem Sy.all_len (t : List UInt8) : (Sy.of t ++ [0]).length = t.length + 1 := by rw [List.length_append, Sy.of_len]; rfl
theorem Sfs.below {R N g h rb rc hb hc : Nat} {T : List Int} {r ro : Nat → Nat} {w w' : World} (s : Sfs R w T N g h r ro rb rc hb hc) (hb' : Below w.heap.size w w') : Sfs R w' T N g h r ro rb rc hb hc :=
  ⟨s.len, s.few, s.txt, s.box.below hb', s.rows.below hb', s.heads.below hb', s.ord, s.low⟩
theorem Bw.two_of (h : Nat) : ((h + h : Nat) : Int) = (h : Int) * 2 := by omega
set_option maxHeartbeats 1600000 in
set_option maxRecDepth 100000 in
/-- The rows of a text. -/
theorem srows {a : Option Addr} {n cap : Nat} {t : List UInt8} (w : World) (h : RdU w a cap t) (hn : t.length = n) (hm : n ≤ 100000000) :
    Calls Try.prog 11 #[.slice a n cap] w fun e w' => ∃ b c R, e = .returned (.slice (some ⟨b, 0, none⟩) (n + 1) c) ∧ w.heap.size ≤ b ∧ Arr w' b c (n + 1) (fun i => (R i : Int)) ∧ Bw.IsRows (Sy.of t ++ [0]) ((List.range (n + 1)).map R) ∧ Below w.heap.size w w' := by
  have hp := RdP.one (g := w.heap.size) rfl h hn
  have key := sall _ hp (by simp; omega)
  have hfl : [t].flatten = t := by simp
  rw [hfl] at key
  have hTx := Sy.txt t
  have hTg := Sy.all_good t
  have hTl := Sy.all_len t
  rw [hn] at hTl
  obtain ⟨T, hT⟩ : ∃ T, Sy.of t ++ [0] = T := ⟨_, rfl⟩
  rw [hT] at key hTx hTg hTl ⊢
  have HTX := Lib.hid hTx
  have HTG := Lib.hid hTg
  have HTL := Lib.hid hTl
  clear h hp hfl hTx hTg hTl hT
  go_enter Try.func11, Try.ntmps11
  go_wp2_with fail
  (with_reducible refine key.mono ?_); rintro e w1 ⟨v, rfl, hown, hb1⟩
  clear key
  obtain ⟨b, c, rfl, hbl, hA⟩ := Arr.of_own hown HTL.out (by omega)
  have hb1' : Below w.heap.size w w1 := ((Below.refl w.heap.size w).alloc (Nat.le_refl _) _).trans (hb1.mono (by simp))
  have key := snew w1 hA HTL.out (by omega) HTX.out HTG.out
  have HB1 := Lib.hid hb1'
  clear hown hb1 hA hb1' hbl
  go_wp2_with fail
  (with_reducible refine key.mono ?_); rintro e w2 ⟨g, ro, rb, hb, rfl, hS, hb2⟩
  clear key
  obtain ⟨N, hN⟩ : ∃ N, n + 1 = N := ⟨_, rfl⟩
  obtain ⟨R, hR⟩ : ∃ R, w1.heap.size = R := ⟨_, rfl⟩
  have hRw : w.heap.size ≤ R := by rw [← hR]; exact HB1.out.size
  rw [hN, hR] at hS
  rw [hR] at hb2
  have hN9 : N ≤ 100000001 := by omega
  have HS0 := Lib.hid hS
  have HB2 := Lib.hid (HB1.out.trans (hb2.mono hRw))
  have HR2 : Hid (R ≤ w2.heap.size) := Lib.hid (by rw [← hR]; exact hb2.size)
  have HN := Lib.hid hN
  clear hS hb2 hN hR HB1
  go_wp2_with fail
  go_loopw [4] (fun k wr => ∃ (h : Nat) (r ro : Nat → Nat) (rb rc hb hc : Nat), k = .int .i64 h ∧ 1 ≤ h ∧ h ≤ 1000000000 ∧ Sfs R wr T N g h r ro rb rc hb hc ∧ R ≤ wr.heap.size ∧ Below w.heap.size w wr) (fun k _ => N - (intOf k).toNat)
  case atStart => exact ⟨1, _, _, _, _, _, _, rfl, Nat.le_refl _, by omega, HS0.out, HR2.out, HB2.out⟩
  case round =>
    clear HS0 HB2 HR2
    obtain ⟨h, r, ro, rb, rc, hb, hc, rfl, hh1, hh2, hS, hRr, hbw⟩ := hrel
    have c0 := hS.box.c0
    have c2 := hS.box.c2
    have hgl := Bw.gc_le (Bw.eqn T h) ro (N - 1)
    have hN1 : N - 1 + 1 = N := by have := HN.out; omega
    have hfar : ¬ h < N → Bw.gc (Bw.eqn T h) ro (N - 1) = N := fun hx => by
      rw [Bw.gc_of fun i hi => Bw.far_all hS.txt hS.ord (by rw [hS.len]; omega) i (by rw [hS.len]; omega), hN1]
    have hall : Bw.gc (Bw.eqn T h) ro (N - 1) = N → Bw.IsRows T ((List.range N).map ro) := fun hx => by
      rw [← hS.len]
      refine hS.ord.rows hS.txt fun i hi => ?_
      rw [hS.len] at hi
      exact Bw.gc_all (n := N - 1) (by rw [hx, hN1]) i (by omega)
    rw [hN1] at hgl
    obtain ⟨G, hG⟩ : ∃ G, Bw.gc (Bw.eqn T h) ro (N - 1) = G := ⟨_, rfl⟩
    rw [hG] at c2 hgl hfar hall
    have HALL := Lib.hid hall
    have HBW := Lib.hid hbw
    have HS := Lib.hid hS
    by_cases hlt : G < N
    · have hlt' : (G : Int) < N := by omega
      have hhN : h < N := by
        apply Nat.lt_of_not_le
        intro hx
        have := hfar (by omega)
        omega
      clear hS hbw hall hfar hG hN1
      go_wp2_with fail
      go_quiet (fail)
      have key := stwice (wr.drewN nq) (HS.out.below ((Below.refl _ _).drewN _)) hh2 hRr
      clear c0 c2
      go_wp2_with fail
      (with_reducible refine key.mono ?_); rintro e w3 ⟨rfl, r', ro', rb', rc', hb', hc', hS', hb3⟩
      have HX := Lib.hid (And.intro hS' (And.intro (Nat.le_trans hRr hb3.size) (HBW.out.trans (((Below.refl _ wr).drewN nq).trans (hb3.mono hRw)))))
      clear key hS' hb3
      have h2h := Bw.two_of h
      go_wp2_with fail
      go_roundw
      case rel => exact ⟨h + h, _, _, _, _, _, _, by rw [h2h], by omega, by omega, HX.out.1, HX.out.2.1, HX.out.2.2⟩
      case measure => simp [intOf]; omega
    · have hlt' : ¬ (G : Int) < N := by omega
      have hfin := hall (by omega)
      rw [← HN.out] at hfin
      have HF := Lib.hid hfin
      have HA := Lib.hid hS.rows
      have hl := hS.low.2
      clear hS hbw hall hfar hG hN1 hfin
      go_wp2_with fail
      go_quiet (fail)
      go_wp2_with fail
      obtain rfl := HN.out
      go_ret
      exact ⟨rb, rc, ro, rfl, by omega, HA.out.drewN nq, HF.out, HBW.out.drewN nq⟩
end Go.Proofs.Ytfncjkkdemeclaa
