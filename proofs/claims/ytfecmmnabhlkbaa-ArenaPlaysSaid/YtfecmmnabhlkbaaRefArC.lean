/- The document's own arenas (scrimshawref1): what Free does: a contract of the walk. -/
import Derived.Test.YtfecmmnabhlkbaaRefArB
namespace Go.Proofs.Ytfecmmnabhlkbaa
open Go Go.RowKit Go.ChangeAt

/-- The next number, where all before it are good. -/
theorem Ar.good_next {T : List Bool} {l : List Int} {m : Nat} {k : Int} (h : m < l.length) (hk : l.getD m 0 = k) (hg : Ar.good T (l.take m) = true) : Ar.good T (l.take (m + 1)) = (Ar.is T k && !decide (k ∈ l.take m)) := by
  rw [Ar.good_succ T l m h, hg, Bool.true_and, hk]
  exact Ar.is_setAll _ _ T (fun j hj => (Ar.is_lt ((Ar.good_mem _ _ hg).2 j hj)).1)
theorem mem_take_succ {l : List Int} {m : Nat} {k : Int} (h : m < l.length) : k ∈ l.take (m + 1) ↔ k ∈ l.take m ∨ k = l.getD m 0 := by
  rw [Ar.take_succ l m h, List.mem_append, List.mem_singleton]
theorem RrM.tlen {base : Nat} {A : Nat → Prop} {w : World} {g most : Nat} {T : List Bool} {F : List Int} (h : RrM base A w g most T F) : ∃ a c a' c', w.cell? ⟨g, 1, none⟩ = some (.slice a T.length c) ∧ w.cell? ⟨g, 2, none⟩ = some (.slice a' F.length c') := by
  obtain ⟨h1, h2, a, c, a', c', h3, h4, h5, h6, h7⟩ := h
  obtain ⟨c0, c1, c2, f0, f1, f2⟩ := cellsA h3
  exact ⟨a, c, a', c', c1, c2⟩

set_option maxHeartbeats 1600000 in
theorem rfree {base g most : Nat} {A : Nat → Prop} {T : List Bool} {F : List Int} (b : Option Addr) (cap : Nat) (l : List Int) (w : World) (h : RrM base A w g most T F) (hs : Ar.S most T F)
    (hl : RdL w b cap l) (ha : 0 < l.length → ∀ ad, b = some ad → ad.block < w.heap.size → ¬ A ad.block) :
    Calls Try.prog 16 #[.pointer (some ⟨g, 0, none⟩), .slice b l.length cap] w fun e w' => e = .returned (.int .i64 (Ar.fr T F l).1) ∧ RTurned base A w w' g most (Ar.fr T F l).2.1 (Ar.fr T F l).2.2 := by
  obtain ⟨i0, hi, hz0, hz1, hz2⟩ := info_parts infoI
  have hmx := hs.mx
  have htm := hs.tm
  have hmax : l.length ≤ maxLen := Nat.le_trans hl.1 hl.2.1
  unfold maxLen at hmax
  have HA := Lib.hid ha
  have HL := Lib.hid hl
  have HS := Lib.hid hs
  clear ha hl hs
  have bad : ∀ (wr : World), Ar.good T l = false → Below w.heap.size w wr → RTurned base A w wr g most (Ar.fr T F l).2.1 (Ar.fr T F l).2.2 ∧ (Ar.fr T F l).1 = 7 := by
    intro wr hg hb
    unfold Ar.fr
    rw [hg]
    exact ⟨⟨A, h.below hb, Stay.of_below hb, fun k hk => .inl hk⟩, rfl⟩
  have BAD := Lib.hid bad
  have HM := Lib.hid h
  clear bad h
  go_enter Try.func16, Try.ntmps16
  go_wp2_with fail
  go_loopw [5, 6] (fun i _ wr => ∃ m : Nat, m ≤ l.length ∧ i = .int .i64 m ∧ Ar.good T (l.take m) = true ∧ Below w.heap.size w wr) (fun i _ _ => l.length - (intOf i).toNat)
  case atStart => exact ⟨0, Nat.zero_le _, rfl, rfl, Below.refl _ _⟩
  case round =>
    obtain ⟨m, hml, rfl, hgood, hb⟩ := hrel
    by_cases hlt : m < l.length
    · obtain ⟨b0, off, rfl, hbb, hc⟩ := HL.out.2.2.2 (by omega)
      have HC := Lib.hid hc
      obtain ⟨k, hk⟩ : ∃ k, l.getD m 0 = k := ⟨_, rfl⟩
      have hz' := (hb.cell (p := ⟨b0, off + m, none⟩) hbb).trans (hc m hlt)
      rw [hk] at hz'
      have HN := Lib.hid (Ar.good_next hlt hk hgood)
      have HK := Lib.hid hk
      have HG := Lib.hid hgood
      have h1' : (m : Int) < l.length := by omega
      clear hc hk hgood
      cases hik : Ar.is T k with
      | false =>
        have HIK := Lib.hid hik
        have hbad : Ar.good T l = false := Ar.good_take (m + 1) (by rw [HN.out, hik, Bool.false_and])
        obtain ⟨hres, hcode⟩ := BAD.out wr hbad hb
        have HR := Lib.hid hres
        have HCO := Lib.hid hcode
        clear hik hbad hres hcode
        go_wp2_with (go_at_call 19; refine (ris k _ (HM.out.below hb) (by omega)).mono ?_; rintro e w' ⟨rfl, rfl⟩; rw [HIK.out])
        go_ret
        exact ⟨(by rw [HCO.out]; rfl), HR.out⟩
      | true =>
        have HIK := Lib.hid hik
        clear hik
        go_wp2_with (go_at_call 19; refine (ris k _ (HM.out.below hb) (by omega)).mono ?_; rintro e w' ⟨rfl, rfl⟩; rw [HIK.out])
        obtain ⟨wo, rfl⟩ : ∃ wo : World, wo = wr := ⟨_, rfl⟩
        have HML := Lib.hid (And.intro hlt hml)
        clear hlt hml
        go_loopw [6] (fun j wr => ∃ n : Nat, n ≤ m ∧ j = .int .i64 n ∧ k ∉ l.take n ∧ Below w.heap.size w wr) (fun j _ => m - (intOf j).toNat)
        case atStart => exact ⟨0, Nat.zero_le _, rfl, by simp, hb⟩
        case round =>
          obtain ⟨n, hnm, rfl, hnot, hb2⟩ := hrel
          clear hb hz'
          by_cases hn : n < m
          · have hnl : n < l.length := by have := HML.out.1; omega
            obtain ⟨k2, hk2⟩ : ∃ k2, l.getD n 0 = k2 := ⟨_, rfl⟩
            have hzn := (hb2.cell (p := ⟨b0, off + n, none⟩) hbb).trans (HC.out n hnl)
            have hzm := (hb2.cell (p := ⟨b0, off + m, none⟩) hbb).trans (HC.out m HML.out.1)
            rw [hk2] at hzn
            rw [HK.out] at hzm
            have h2' : (n : Int) < m := by omega
            have h3' : (n : Int) < l.length := by omega
            have HMT := Lib.hid (mem_take_succ (k := k) hnl)
            have HK2 := Lib.hid hk2
            have HNOT := Lib.hid hnot
            clear hk2 hnot
            by_cases he : k2 = k
            · subst he
              have hbad : Ar.good T l = false := Ar.good_take (m + 1) (by
                rw [HN.out, HIK.out, Bool.true_and]
                have : k2 ∈ l.take m := by
                  have h4 : k2 ∈ l.take (n + 1) := HMT.out.2 (.inr HK2.out.symm)
                  have h5 : l.take (n + 1) = (l.take m).take (n + 1) := by rw [List.take_take, Nat.min_eq_left (by omega)]
                  rw [h5] at h4
                  exact List.mem_of_mem_take h4
                rw [decide_eq_true this]
                rfl)
              have BADW := Lib.hid (fun wx hb => BAD.out wx hbad hb)
              clear hbad
              go_wp2_with fail
              go_quiet (fail)
              go_wp2_with fail
              go_ret
              obtain ⟨h1, h2⟩ := BADW.out _ (hb2.drewN nq)
              exact ⟨(by rw [h2]; rfl), h1⟩
            · have he2 : ¬ k2 = k := he
              go_wp2_with fail
              go_quiet (fail)
              go_wp2_with fail
              go_roundw
              case rel => exact ⟨n + 1, by omega, by go_num, (fun hm => (HMT.out.1 hm).elim HNOT.out (fun e => he2 (by rw [e]; exact HK2.out.symm))), hb2.drewN nq⟩
              case measure => simp [intOf]; omega
          · have hnm' : n = m := by omega
            subst hnm'
            have hgood2 : Ar.good T (l.take (n + 1)) = true := by rw [HN.out, HIK.out, Bool.true_and, decide_eq_false hnot]; rfl
            have HG2 := Lib.hid hgood2
            have h2' : ¬ (n : Int) < n := by omega
            clear hgood2 hnot
            go_wp2_with fail
            go_roundw
            case rel => exact ⟨n + 1, by have := HML.out.1; omega, by go_num, HG2.out, hb2⟩
            case measure => have := HML.out.1; simp [intOf]; omega
    · have hml' : m = l.length := by omega
      have h1' : ¬ (m : Int) < l.length := by omega
      rw [hml', List.take_length] at hgood
      have HG := Lib.hid hgood
      have HF := Lib.hid (HS.out).len
      have HGL := Lib.hid (HS.out.good_len hgood)
      clear hgood
      go_wp2_with fail
      obtain ⟨wo, rfl⟩ : ∃ wo : World, wo = wr := ⟨_, rfl⟩
      go_loopw [7] (fun i wr => ∃ (n : Nat) (B : Nat → Prop), n ≤ l.length ∧ i = .int .i64 n ∧ RrM base B wr g most (Ar.setAll T false (l.take n)) (F ++ l.take n) ∧ Stay A w wr ∧ ∀ k, B k → A k ∨ w.heap.size ≤ k) (fun i _ => l.length - (intOf i).toNat)
      case atStart => exact ⟨0, A, Nat.zero_le _, rfl, by rw [List.take_zero, List.append_nil]; exact HM.out.below hb, Stay.of_below hb, fun k hk => .inl hk⟩
      case round =>
        obtain ⟨n, B, hnl, rfl, hr, hst, hB⟩ := hrel
        by_cases hn : n < l.length
        · obtain ⟨b0, off, rfl, hbb, hc⟩ := HL.out.2.2.2 (by omega)
          have HC := Lib.hid hc
          have hz' := (hst.cell (p := ⟨b0, off + n, none⟩) hbb (HA.out (by omega) ⟨b0, off, none⟩ rfl hbb)).trans (hc n hn)
          have hik := (Ar.good_mem _ _ HG.out).2 (l.getD n 0) (by rw [List.getD_eq_getElem?_getD, List.getElem?_eq_getElem hn]; simp)
          have HSS := Lib.hid (Ar.setAll_succ T false l n hn)
          have HTS := Lib.hid (Ar.take_succ l n hn)
          obtain ⟨hk0, hk1, _⟩ := Ar.is_lt hik
          obtain ⟨q, hq⟩ := Int.eq_ofNat_of_zero_le hk0
          have hz0 := hc n hn
          rw [hq] at hz' hk1 HSS HTS hz0
          have HZ := Lib.hid hz0
          have hTl : (Ar.setAll T false (l.take n)).length = T.length := Ar.setAll_length _ _ _
          have hFl : (F ++ l.take n).length ≤ 1099511627776 := by rw [List.length_append, List.length_take]; have := HF.out; have := HGL.out; omega
          have hbase : base ≤ wr.heap.size := by have := hr.lt g hr.1; omega
          obtain ⟨M, HMM⟩ : ∃ M, Hid (F ++ l.take n = M) := ⟨_, Lib.hid rfl⟩
          rw [HMM.out] at hr hFl
          obtain ⟨h1, h2, a0, c0, a', c', h3, h4, h5, h6, h7⟩ := hr
          obtain ⟨b1, rfl, hb1, hlt1, hc1, hf1⟩ := OwnB.open h4 (by omega)
          obtain ⟨q0, q1, q2, f0, f1, f2⟩ := cellsA h3
          have hA1 := h6 b1 rfl
          have hfr := hf1 q
          have hcell := hc1 q (by omega)
          have hql : (q : Int) < (Ar.setAll T false (l.take n)).length := by omega
          have hb0B : ¬ B b0 := fun hb => by rcases hB b0 hb with h | h; exact HA.out (by omega) ⟨b0, off, none⟩ rfl hbb h; omega
          have key := Lib.hid (RrM.setT h1 h2 h3 h4 h5 hA1 h7 q false)
          have hb1g : ¬ b1 = g := fun e => own_ne h4 h3 (by decide) b1 rfl e
          have HST := Lib.hid hst
          have HB := Lib.hid hB
          have h1'' : (n : Int) < l.length := by omega
          clear h1 h2 h3 h4 h5 h6 h7 hTl hc1 hf1 hc hst q0 q2 f0 f1 f2 hB hik hk0 hk1 hq hz0
          go_wp2_with fail
          go_region
          all_goals
            obtain ⟨w1, hw1⟩ : ∃ w1, w1 = (wr.setCell ⟨b1, q, none⟩ (.bool false)).drew := ⟨_, rfl⟩
            have key1 : RrM base B w1 g most ((Ar.setAll T false (l.take n)).set q false) M := by rw [hw1]; exact key.out
            have hst1 : Stay A w w1 := by rw [hw1]; exact (HST.out.setCell (p := ⟨b1, q, none⟩) ((HB.out b1 hA1).symm) _).drew
            rw [← hw1]
            clear hw1
            obtain ⟨h1, h2, a0, c0, a', c', h3, h4, h5, h6, h7⟩ := key1
            obtain ⟨q0, q1, q2, f0, f1, f2⟩ := cellsA h3
            have hz2' := (hst1.cell (p := ⟨b0, off + n, none⟩) hbb (HA.out (by omega) ⟨b0, off, none⟩ rfl hbb)).trans HZ.out
            have hbase1 : base ≤ w1.heap.size := by have := h2 g h1; omega
            have hg1 : g < w1.heap.size := (h2 g h1).2
            have H1 := Lib.hid h1
            have H2 := Lib.hid h2
            have H3 := Lib.hid h3
            have H4 := Lib.hid h4
            have H5 := Lib.hid h5
            have H6 := Lib.hid h6
            have H7 := Lib.hid h7
            have HST1 := Lib.hid hst1
            clear h1 h2 h3 h4 h5 h6 h7 hst1 key HST q0 q1 f0 f1 hz'
            go_wp2_with fail
            go_region_law (first
              | (refine step_append_gone rfl (.tmp 54) (.tmp 59) 26 rfl base i0 Try.underlying26 hi hz0 hz1 hz2 _ M rfl (H5.out.stay ((Stay.refl (fun _ => False) _).alloc _).drew (fun _ _ h => h)) ⟨w1.heap.size, 0, none⟩ q rfl (cell_one_new _ _ _) hFl (by simp; omega) _ rfl ?_; intro g2 cap2 w2 hown2 hgrow2 hat2 hlt2;
                 (have hst2 : Stay (fun i => (Value.slice a' M.length c').ownBlock = some i) w1 w2 := Stay.trans ((Stay.refl _ _).alloc _).drew (grown_stay hgrow2) (fun i hi e => e));
                 (have h32 : w2.heap[g]? = _ := hst2.kept H3.out (fun e => H5.out.ne H3.out (by decide) _ e rfl));
                 (have hat3 : (Value.slice a' M.length c').ownBlock = some g2 ∨ w1.heap.size ≤ g2 := hat2.imp id (fun h => Nat.le_trans (by simp) h));
                 (have c22 := (cellsA h32).c2); (have f22 := (cellsA h32).f2);
                 (have H32 := Lib.hid h32); clear h32 hgrow2 hat2))
            all_goals
              have hz2 := hst2.size
              have hF2 : F ++ l.take (n + 1) = M ++ [(q : Int)] := by rw [HTS.out, ← List.append_assoc, HMM.out]
              have hlt4 : OwnB base w2 (.slice a0 ((Ar.setAll T false (l.take n)).set q false).length c0) ((Ar.setAll T false (l.take n)).set q false) := ownsRow_stay H4.out hst2 (fun k hk e => by
                rcases H5.out with ⟨hv, _⟩ | ⟨b', cap', cur', hv, hb', hg', _⟩
                · rw [hv] at e; cases e
                · rw [hv] at e
                  have e' : b' = k := by simpa [Value.ownBlock] using e
                  exact own_ne H4.out hg' (by decide) k hk e'.symm)
              have hrel2 : RrM base (fun k => B k ∨ (w1.heap.size ≤ k ∧ k < w2.heap.size)) (w2.setCell ⟨g, 2, none⟩ (.slice (some ⟨g2, 0, none⟩) (M.length + 1) cap2)) g most ((Ar.setAll T false (l.take n)).set q false) (M ++ [(q : Int)]) := by
                refine RrM.setF (by simp) (.inl H1.out) (fun k hk => ?_) H32.out hlt4 (fun k hk => .inl (H6.out k hk)) (GoneI.of_own (by unfold OwnI; rw [List.length_append]; exact hown2)) (fun k hk => ?_)
                · rcases hk with hk | hk
                  · exact ⟨(H2.out k hk).1, Nat.lt_of_lt_of_le (H2.out k hk).2 hz2⟩
                  · exact ⟨Nat.le_trans hbase1 hk.1, hk.2⟩
                · have e : g2 = k := by simpa [Value.ownBlock] using hk
                  subst e
                  rcases hat3 with e | e
                  · exact .inl (H7.out _ e)
                  · exact .inr ⟨e, hlt2⟩
              have hg2 : g < w2.heap.size := Nat.lt_of_lt_of_le (H2.out g H1.out).2 hz2
              have HREL := Lib.hid hrel2
              have HF2 := Lib.hid hF2
              clear hrel2 hF2 hlt4
              go_wp2_with fail
              go_roundw
              case rel => exact ⟨n + 1, _, hn, by go_num, by rw [HSS.out, HF2.out]; exact HREL.out, (HST1.out.trans hst2 (fun i hi e => by
                have hz := HST1.out.size
                rcases HB.out i (H7.out i e) with h | h
                · exact h
                · omega)).setCell (p := ⟨g, 2, none⟩) (.inr (by rcases HB.out g H1.out with h | h; exact h; exact absurd (HM.out.lt g HM.out.1).2 (by omega))) _, fun k hk => by
                have hz := HST1.out.size
                rcases hk with hk | hk
                · exact HB.out k hk
                · exact .inr (by omega)⟩
              case measure => simp [intOf]; omega
        · have hnl' : n = l.length := by omega
          have h1'' : ¬ (n : Int) < l.length := by omega
          rw [hnl', List.take_length] at hr
          have HR := Lib.hid hr
          clear hr
          go_wp2_with fail
          go_ret
          unfold Ar.fr
          rw [if_pos HG.out]
          exact ⟨rfl, B, HR.out, hst, hB⟩
end Go.Proofs.Ytfecmmnabhlkbaa
