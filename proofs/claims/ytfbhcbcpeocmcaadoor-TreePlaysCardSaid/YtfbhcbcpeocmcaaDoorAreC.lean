/- What Free of package arena does: contracts of the walk. -/
import Derived.Test.YtfbhcbcpeocmcaaDoorAreB
namespace Go.Proofs.YtfbhcbcpeocmcaaDoor
open Go Go.RowKit Go.ChangeAt

theorem afree_nil (v : Value) (w : World) : Calls Tryd.prog 60 #[.pointer none, v] w fun e w' => e = .returned (.int .i64 6) ∧ w = w' := by
  go_enter Tryd.func60, Tryd.ntmps60
  go_wp2
  go_ret
  exact ⟨rfl, rfl⟩
/-- Behind the loop: all of them are marked, and none was wrong. -/
theorem wp_append_list {P : Program} (w : World) {ops : Array Oper} {rest : List Oper} {o : Oper} {a : Act} {Q : Exit → Act → World → Prop} (hgd : o.guard = none) (s x : Operand) (t : TypeId)
    (ho : o.op = .call { callee := .builtin .append, args := #[s, x], argTypes := #[t, t] })
    (base : Nat) (e : TypeId) (i : TypeInfo) (ht : P.underlying t = some (.slice e)) (hi : P.info? e = some i) (hz : i.zero = some (.int .i64 0)) (hsize : i.size = 1) (hby : i.bytes = 8)
    (v : Value) (F : List Int) (hs : a.eval s = v) (hown : w.ownsRow base e 1 v F.length (F.map (Value.int .i64)))
    (b : Option Addr) (c : Nat) (l : List Int) (hx : a.eval x = .slice b l.length c) (hl : RdL w b c l) (hm : F.length + l.length ≤ 1099511627776) (hbase : base ≤ w.heap.size)
    (h : ∀ v' w', w'.ownsRow base e 1 v' (F.length + l.length) ((F ++ l).map (Value.int .i64)) → w.grownBy w' v.ownBlock → (v'.ownBlock = v.ownBlock ∨ v'.ownBlock = some w.heap.size) → wpList P ops Q rest (a.put o.dst v') w') :
    wpList P ops Q (o :: rest) a w := by
  have go : ∀ ad, b = some ad → (∀ j u, (l.map (Value.int .i64))[j]? = some u → w.cell? (ad.add j) = some u) → wpList P ops Q (o :: rest) a w := by
    intro ad hb hc
    subst hb
    refine wpList_append_own_at w hgd s x t ho base e i (.int .i64 0) 1 8 ht hi hz hsize hby rfl (by decide) v F.length _ hs hown ad l.length c (l.map (Value.int .i64)) hx (by simp) hc (ints_one _) (by unfold maxLen; omega) (by omega) hbase ?_
    intro v' w' h1 h2 _ h4
    rw [← List.map_append] at h1
    exact h v' w' h1 h2 h4
  by_cases hp : 0 < l.length
  · obtain ⟨ad, hb, hc⟩ := hl.cells hp
    exact go ad hb hc
  · have h0 : l = [] := List.eq_nil_of_length_eq_zero (by omega)
    subst h0
    cases b with
    | some ad => exact go ad rfl (fun j u hu => by simp at hu)
    | none =>
      have hc := hl.2.2.1 rfl
      subst hc
      refine wpList_append_own_none hgd s x t ho base e i 1 ht hi v F.length _ hs hown hx ?_
      refine h v w ?_ ⟨rfl, rfl, rfl, Nat.le_refl _, fun _ _ _ => rfl⟩ (.inl rfl)
      rw [List.append_nil]
      exact hown
theorem amark_n {base g most n : Nat} {A : Nat → Prop} {T : List Bool} {F : List Int} (v : Bool) (a : Option Addr) (cap : Nat) (l : List Int) (w : World) (hn : l.length = n) (h : ArM base 84 A w g most T F) (hm : T.length ≤ 268435456)
    (hl : RdL w a cap l) (ha : 0 < l.length → ∀ ad, a = some ad → ad.block < w.heap.size → ¬ A ad.block) (hin : ∀ k ∈ l, 0 ≤ k ∧ k < T.length) :
    Calls Tryd.prog 79 #[.pointer (some ⟨g, 0, none⟩), .bool v, .slice a n cap] w fun e w' => e = .returned (.tuple #[]) ∧ ArM base 84 A w' g most (Ar.setAll T v l) F ∧ Stay A w w' := by
  subst hn
  exact amark v a cap l w h hm hl ha hin
theorem ArM.lt {base : Nat} {t : TypeId} {A : Nat → Prop} {w : World} {g most : Nat} {T : List Bool} {F : List Int} (h : ArM base t A w g most T F) : ∀ k, A k → base ≤ k ∧ k < w.heap.size := h.2.1
set_option maxHeartbeats 800000 in
theorem afree {base g most : Nat} {A : Nat → Prop} {T : List Bool} {F : List Int} (b : Option Addr) (cap : Nat) (l : List Int) (w : World) (h : ArM base 84 A w g most T F) (hs : Ar.S most T F)
    (hl : RdL w b cap l) (ha : 0 < l.length → ∀ ad, b = some ad → ad.block < w.heap.size → ¬ A ad.block) :
    Calls Tryd.prog 60 #[.pointer (some ⟨g, 0, none⟩), .slice b l.length cap] w fun e w' => e = .returned (.int .i64 (Ar.fr T F l).1) ∧ Turned base 84 A w w' g most (Ar.fr T F l).2.1 (Ar.fr T F l).2.2 := by
  obtain ⟨i0, hi, hz0, hz1, hz2⟩ := info_parts infoI
  have hmx := hs.mx
  have htm := hs.tm
  have hmax : l.length ≤ maxLen := Nat.le_trans hl.1 hl.2.1
  unfold maxLen at hmax
  have HA := Lib.hid ha
  have HL := Lib.hid hl
  have HS := Lib.hid hs
  clear ha hl hs
  go_enter Tryd.func60, Tryd.ntmps60
  go_wp2_with fail
  go_loopw [5, 6, 11] (fun _ _ i wr => ∃ m : Nat, m ≤ l.length ∧ i = .int .i64 m ∧ Ar.good T (l.take m) = true ∧ ArM base 84 A wr g most (Ar.setAll T false (l.take m)) F ∧ Stay A w wr) (fun _ _ i _ => l.length - (intOf i).toNat)
  case atStart => exact ⟨0, Nat.zero_le _, rfl, rfl, h, Stay.refl _ _⟩
  case round =>
    obtain ⟨m, hml, rfl, hgood, hr, hst⟩ := hrel
    have hTl : (Ar.setAll T false (l.take m)).length = T.length := Ar.setAll_length _ _ _
    by_cases hlt : m < l.length
    · obtain ⟨b0, off, rfl, hbb, hc⟩ := HL.out.2.2.2 (by omega)
      have hz' := (hst.cell (p := ⟨b0, off + m, none⟩) hbb (HA.out (by omega) ⟨b0, off, none⟩ rfl hbb)).trans (hc m hlt)
      have HGS := Lib.hid (Ar.good_succ T l m hlt)
      have HSS := Lib.hid (Ar.setAll_succ T false l m hlt)
      have HG := Lib.hid hgood
      have HST := Lib.hid hst
      have HR := Lib.hid hr
      have HTL := Lib.hid hTl
      have h1' : (m : Int) < l.length := by omega
      have hcap : (l.length : Int) ≤ cap := by have := HL.out.1; omega
      have hcap2 : (cap : Int) ≤ 9223372036854775807 := by have := HL.out.2.1; unfold maxLen at this; omega
      have hmc : (m : Int) ≤ cap := by omega
      obtain ⟨k, hk⟩ : ∃ k, l.getD m 0 = k := ⟨_, rfl⟩
      rw [hk] at hz' HGS HSS
      clear hc hgood hst hr hTl hk
      cases hik : Ar.is (Ar.setAll T false (l.take m)) k with
      | false =>
        have HIK := Lib.hid hik
        have hbad : Ar.good T l = false := Ar.good_take (m + 1) (by rw [HGS.out, hik, Bool.and_false])
        have HB := Lib.hid hbad
        clear hik hbad
        go_wp2_with (first
          | (go_at_call 78; refine (ais k _ HR.out (by rw [HTL.out]; omega)).mono ?_; rintro e w' ⟨rfl, rfl⟩; rw [HIK.out])
          | (go_at_call 79;
             refine (amark_n true _ _ (l.take m) _ (by rw [List.length_take]; omega) HR.out (by rw [HTL.out]; omega) ((HL.out.take m).stay HST.out (fun _ ad e hlt => HA.out (by omega) ad e hlt)) (fun _ ad e hlt => HA.out (by omega) ad e (by cases e; exact hbb)) (fun k hk => by have := (Ar.good_mem _ _ HG.out).2 k hk; have := Ar.is_lt this; rw [HTL.out]; exact ⟨this.1, this.2.1⟩)).mono ?_;
             rintro e w2 ⟨rfl, hr2, hst2⟩))
        go_ret
        rw [Ar.setAll_back HG.out] at hr2
        unfold Ar.fr
        rw [HB.out]
        exact ⟨rfl, A, hr2, HST.out.trans hst2 (fun _ _ h => h), fun k hk => .inl hk⟩
      | true =>
        have HIK := Lib.hid hik
        clear hik
        go_wp2_with (first
          | (go_at_call 78; refine (ais k _ HR.out (by rw [HTL.out]; omega)).mono ?_; rintro e w' ⟨rfl, rfl⟩; rw [HIK.out])
          | (go_at_call 79;
             refine (amark_n false _ _ [k] _ rfl (HR.out.stay ((Stay.refl (fun _ => False) _).alloc _) (fun _ _ h => h)) (by rw [HTL.out]; omega) (RdL.made [k] (by simp [maxLen])) (fun _ ad e _ hA => by cases e; exact absurd (HR.out.lt _ hA).2 (Nat.lt_irrefl _)) (fun j hj => by simp at hj; subst hj; have := Ar.is_lt HIK.out; exact ⟨this.1, this.2.1⟩)).mono ?_;
             rintro e w2 ⟨rfl, hr2, hst2⟩))
        go_roundw
        case rel => exact ⟨m + 1, by omega, by go_num, by rw [HGS.out, HG.out, HIK.out]; rfl, by rw [HSS.out]; exact hr2, (HST.out.alloc _).trans hst2 (fun _ _ h => h)⟩
        case measure => simp [intOf]; omega
    · have hml' : m = l.length := by omega
      have h1' : ¬ (m : Int) < l.length := by omega
      rw [hml', List.take_length] at hgood hr hTl
      have HG := Lib.hid hgood
      have hbase : base ≤ wr.heap.size := by have := hr.lt g hr.1; omega
      have hF := (HS.out).len
      have hgl := HS.out.good_len hgood
      obtain ⟨h1, h2, a, c, a', c', h3, h4, h5, h6, h7⟩ := hr
      obtain ⟨c0, c1, c2, f0, f1, f2⟩ := cellsA h3
      have H1 := Lib.hid h1
      have H2 := Lib.hid h2
      have H3 := Lib.hid h3
      have H4 := Lib.hid h4
      have H5 := Lib.hid h5
      have H6 := Lib.hid h6
      have H7 := Lib.hid h7
      have HST := Lib.hid hst
      have HRD := Lib.hid (HL.out.stay hst (fun hp ad e hlt => HA.out hp ad e hlt))
      clear h1 h2 h3 h4 h5 h6 h7 c0 c1 f0 f1 hTl hgood hst h
      go_wp2_with (first
        | (at_builtin; (refine wp_append_list _ rfl (.tmp 34) (.tmp 35) 22 rfl base 3 i0 Tryd.underlying22 hi hz0 hz1 hz2 _ F rfl H5.out b cap l rfl HRD.out (by omega) hbase ?_); intro v1 w1 hown1 hgrow1 hat1;
           (obtain ⟨a1, k1, rfl, hk1, hk2⟩ := own_form hown1);
           (have hst1 : Stay (fun i => (Value.slice a' F.length c').ownBlock = some i) wr w1 := grown_stay hgrow1);
           (have h31 : w1.heap[g]? = _ := hst1.kept H3.out (fun e => own_ne H5.out H3.out (by decide) _ e rfl));
           (have h51 : OwnB base w1 (.slice a (Ar.setAll T false l).length c) (Ar.setAll T false l) := ownsRow_stay H4.out hst1 (fun k hk e => own_ne2 H4.out H5.out (by decide) k hk e));
           (have hat2 : (Value.slice a1 (F.length + l.length) k1).ownBlock = (Value.slice a' F.length c').ownBlock ∨ (Value.slice a1 (F.length + l.length) k1).ownBlock = some wr.heap.size := hat1);
           (obtain ⟨c01, c11, c21, f01, f11, f21⟩ := cellsA h31);
           (have H31 := Lib.hid h31); clear h31 f01 f11 c01 c11 hgrow1 hat1))
      go_ret
      unfold Ar.fr
      rw [if_pos HG.out]
      have hz1 := hst1.size
      have hlt1 := hown1.lt
      have hA1 : Stay A wr w1 := hst1.mono (fun i _ e => H7.out i e)
      have hw := HST.out.size
      refine ⟨rfl, fun k => A k ∨ (wr.heap.size ≤ k ∧ k < w1.heap.size), ?_, HST.out.trans (hA1.setCell (.inr H1.out) _) (fun _ _ h => h), fun k hk => ?_⟩
      · refine ArM.setF (by simp) (by decide) (.inl H1.out) (fun k hk => ?_) H31.out h51 (fun k hk => .inl (H6.out k hk)) (by decide) hown1 (fun k hk => ?_)
        · rcases hk with hk | hk
          · exact ⟨(H2.out k hk).1, Nat.lt_of_lt_of_le (H2.out k hk).2 hz1⟩
          · exact ⟨Nat.le_trans hbase hk.1, hk.2⟩
        · rcases hat2 with e | e
          · exact .inl (H7.out k (e ▸ hk))
          · have := hlt1 k hk
            rw [e] at hk
            exact .inr ⟨by have := Option.some.inj hk; omega, this.2⟩
      · rcases hk with hk | hk
        · exact .inl hk
        · exact .inr (by omega)
end Go.Proofs.YtfbhcbcpeocmcaaDoor
