/- The document's own way back (scrimshawref6's Back): a contract of the walk. -/
import Derived.Test.YtfncjkkdemeclaaSoS
namespace Go.Proofs.Ytfncjkkdemeclaa
open Go Go.RowKit Go.ChangeAt

/-- The bytes that are read, the last one first. -/
def bB (l : List Int) : Nat → List UInt8
  | 0 => []
  | j + 1 => UInt8.ofNat (l.getD (Bw.stp l j) 0 - 1).toNat :: bB l j
theorem bB_len (l : List Int) : ∀ j, (bB l j).length = j
  | 0 => rfl
  | j + 1 => by
    show (bB l j).length + 1 = j + 1
    rw [bB_len l j]
theorem bB_drop (t : List UInt8) : ∀ j, j ≤ t.length → bB (Lx t) j = t.drop (t.length - j)
  | 0, _ => by rw [Nat.sub_zero, List.drop_length]; rfl
  | j + 1, hj => by
    have ih := bB_drop t j (by omega)
    have h1 := Lx_read (t := t) (i := t.length - 1 - j) (by omega)
    rw [show t.length - 1 - (t.length - 1 - j) = j by omega] at h1
    show UInt8.ofNat ((Lx t).getD (Bw.stp (Lx t) j) 0 - 1).toNat :: bB (Lx t) j = _
    rw [ih, h1, show t.length - (j + 1) = t.length - 1 - j by omega, List.drop_eq_getElem_cons (i := t.length - 1 - j) (by omega), show t.length - 1 - j + 1 = t.length - j by omega]
    congr 1
    rw [List.getD_eq_getElem?_getD, List.getElem?_eq_getElem (by omega : t.length - 1 - j < t.length)]
    show UInt8.ofNat ((t[t.length - 1 - j].toNat : Int) + 1 - 1).toNat = _
    rw [show ((t[t.length - 1 - j].toNat : Int) + 1 - 1).toNat = t[t.length - 1 - j].toNat by omega]
    exact UInt8.ofNat_toNat
theorem bB_text {t : List UInt8} {l : List Int} (h : Lx t = l) : bB l t.length = t := by
  rw [← h, bB_drop t t.length (Nat.le_refl _), Nat.sub_self, List.drop_zero]
theorem no_text {l : List Int} {m : Nat} (hl : l.length = m + 1) (h : Lx (bB l m) ≠ l) : ∀ t, Lx t ≠ l := fun t e => by
  have h1 := Lx_len t
  rw [e, hl] at h1
  have h2 := bB_text e
  rw [show t.length = m by omega] at h2
  rw [h2] at h
  exact h e
theorem str_empty : str [] = ⟨#[]⟩ := rfl

set_option maxHeartbeats 3200000 in
set_option maxRecDepth 100000 in
theorem r6back {a : Option Addr} {cap n : Nat} {l : List Int} (w : World) (h : RdL w a cap l) (hl : l.length = n) (hm : n ≤ 100000) :
    Calls Try.prog 15 #[.slice a n cap] w fun e w' => ((∃ t, Lx t = l ∧ e = .returned (.tuple #[.string (str t), .bool true])) ∨ ((∀ t, Lx t ≠ l) ∧ e = .returned (.tuple #[.string (str []), .bool false]))) ∧ Below w.heap.size w w' := by
  by_cases hg : ∀ s ∈ l, 0 ≤ s ∧ s ≤ 256
  · have key := r6good true w h hl (decide_eq_true hg)
    by_cases hn : n = 0
    · have hno : ∀ t, Lx t ≠ l := fun t e => by
        have h1 := Lx_len t
        rw [e, hl] at h1
        omega
      have HNO := Lib.hid hno
      subst hn
      clear h hl hg hno
      go_enter Try.func15, Try.ntmps15
      go_wp2_with fail
      (with_reducible refine key.mono ?_); rintro e w' ⟨rfl, rfl⟩
      clear key
      go_wp2_with fail
      go_ret2
      exact ⟨.inr ⟨HNO.out, rfl⟩, Below.refl _ _⟩
    · have hn0 : 0 < n := by omega
      have hne : ((n : Int) == 0) = false := by simp; omega
      obtain ⟨m, hmn⟩ : ∃ m, n = m + 1 := ⟨n - 1, by omega⟩
      have HMN := Lib.hid hmn
      have hma : m + 1 ≤ n := by omega
      have hmb : n ≤ m + 1 := by omega
      have H := Lib.hid h
      have HL := Lib.hid hl
      have HG := Lib.hid hg
      clear h hl hg hmn hn
      go_enter Try.func15, Try.ntmps15
      go_wp2_with fail
      (with_reducible refine key.mono ?_); rintro e w' ⟨rfl, rfl⟩
      clear key
      go_wp2_with fail
      clear hne
      go_loopw [4, 5, 6, 7] (fun v row i _ wr => ∃ j : Nat, j ≤ m ∧ i = .int .i64 ((j : Int) + 1) ∧ row = .int .i64 (Bw.stp l j) ∧ (∀ q, q < j → l.getD (Bw.stp l q) 0 ≠ 0) ∧ OwnU w.heap.size wr v (bB l j) ∧ Below w.heap.size w wr) (fun _ _ i _ _ => n - (intOf i).toNat)
      case atStart => exact ⟨0, Nat.zero_le _, rfl, rfl, fun q hq => absurd hq (Nat.not_lt_zero _), World.ownsRow_nil _ _ _ _, Below.refl _ _⟩
      case round =>
        obtain ⟨j, hjm, rfl, rfl, hmid, hown, hb⟩ := hrel
        have hp : 0 < l.length := by rw [HL.out]; exact hn0
        by_cases hlt : j < m
        · have hlt' : (j : Int) + 1 < n := by omega
          have hs := Bw.stp_lt hp j
          have hnx : Bw.stp l (j + 1) = Bw.low l (l.getD (Bw.stp l j) 0) + (l.take (Bw.stp l j)).count (l.getD (Bw.stp l j) 0) := rfl
          have hrd := H.out.below hb
          obtain ⟨b, off, rfl, -, c0⟩ := hrd.cell hs
          have hmem := HG.out _ (Bw.getD_mem hs)
          have hbj : bB l (j + 1) = UInt8.ofNat (l.getD (Bw.stp l j) 0 - 1).toNat :: bB l j := rfl
          have hs2 := Bw.stp_lt hp (j + 1)
          rw [HL.out] at hs hs2
          obtain ⟨x, hx⟩ : ∃ x, l.getD (Bw.stp l j) 0 = x := ⟨_, rfl⟩
          rw [hx] at c0 hnx hmem hbj
          by_cases h0 : x = 0
          · subst h0
            have hno : ∀ t, Lx t ≠ l := fun t e2 => (Lx_iff.1 ⟨t, e2⟩).2.2 j (by rw [HL.out]; omega) hx
            have HNO := Lib.hid hno
            have HB := Lib.hid hb
            obtain ⟨q, hq⟩ : ∃ q, Bw.stp l j = q := ⟨_, rfl⟩
            rw [hq] at c0 hs ⊢
            have hqn : (q : Int) < n := by omega
            have heq : ((0 : Int) == 0) = true := rfl
            clear hmid hown hb hx hq hno hnx hbj hrd hp
            go_wp2_with fail
            go_ret2
            exact ⟨.inr ⟨HNO.out, rfl⟩, HB.out⟩
          · have hne : (x == 0) = false := by simpa using h0
            have hmid2 : ∀ q, q < j + 1 → l.getD (Bw.stp l q) 0 ≠ 0 := fun q hq => by
              by_cases e2 : q = j
              · subst e2; rw [hx]; exact h0
              · exact hmid q (by omega)
            obtain ⟨u, hu⟩ : ∃ u, UInt8.ofNat (x - 1).toNat = u := ⟨_, rfl⟩
            have hux : x - 1 = (u.toNat : Int) := by
              rw [← hu, UInt8.toNat_ofNat']
              omega
            have huw : IntKind.u8.wrap (x - 1) = (u.toNat : Int) := by
              rw [IntKind.wrap_u8, hux]
              have := u8_rng u
              omega
            rw [hu] at hbj
            obtain ⟨q, hq⟩ : ∃ q, Bw.stp l j = q := ⟨_, rfl⟩
            rw [hq] at c0 hs hnx ⊢
            obtain ⟨lo, hlo⟩ : ∃ lo, Bw.low l x = lo := ⟨_, rfl⟩
            obtain ⟨ct, hct⟩ : ∃ ct, (l.take q).count x = ct := ⟨_, rfl⟩
            rw [hlo, hct] at hnx
            have hqn : (q : Int) < n := by omega
            have hlit : (wr.alloc (.cells #[.int .u8 (u.toNat : Int)] 5)).ownsRow wr.heap.size 5 1 (.slice (some ⟨wr.heap.size, 0, none⟩) 1 1) 1 (byv [u]) :=
              World.ownsRow_lit wr (base := wr.heap.size) (e := 5) (size := 1) #[Value.int .u8 (u.toNat : Int)] 1 (Nat.le_refl _) (by decide) rfl
            have hal : Below wr.heap.size wr (wr.alloc (.cells #[.int .u8 (u.toNat : Int)] 5)) := (Below.refl _ _).alloc (Nat.le_refl _) _
            have hown2 : OwnU w.heap.size (wr.alloc (.cells #[.int .u8 (u.toNat : Int)] 5)) u4 (bB l j) := ownsRow_below hown hal
            have hbl := bB_len l j
            have HBL := Lib.hid hbl
            have HBJ := Lib.hid hbj
            have HM2 := Lib.hid hmid2
            have HB := Lib.hid hb
            have HLO := Lib.hid hlo
            have HCT := Lib.hid hct
            obtain ⟨sm, hsm⟩ : ∃ sm, lo + ct = sm := ⟨_, rfl⟩
            rw [hsm] at hnx
            have hsum : (lo : Int) + ct = sm := by omega
            have hsw : IntKind.i64.wrap (sm : Int) = sm := by rw [IntKind.wrap_i64]; omega
            clear hsm
            have HNX := Lib.hid hnx
            have hxa : x ≤ 256 := hmem.2
            have hxb : 1 ≤ x := by omega
            clear hmid hown hx hq hnx hbj hrd hp hmid2 hb hlo hct hbl hu
            go_wp2_with (first
              | (at_builtin; (refine append_u rfl (.tmp 31) (.tmp 32) rfl wr.heap.size w.heap.size _ 1 (byv [u]) rfl hlit _ (bB l j) rfl hown2 (by rw [HBL.out]; omega) (by simp) ?_); intro v3 w3 hown3 hgrow3))
            have hb3 : Below wr.heap.size (wr.alloc (.cells #[.int .u8 (u.toNat : Int)] 5)) w3 := (Below.refl wr.heap.size _).grown hgrow3 (by simp) (by intro q hq; cases hq; exact Nat.le_refl _)
            have hb4 : Below wr.heap.size wr w3 := hal.trans hb3
            have hown4 : OwnU wr.heap.size w3 v3 (u :: bB l j) := by
              show OwnU wr.heap.size w3 v3 ([u] ++ bB l j)
              unfold OwnU
              rw [List.length_append, byv_app]
              exact hown3
            have hrd3 := H.out.below (HB.out.trans (hb4.mono HB.out.size))
            have key1 := r6below x lo w3 hrd3 HL.out HLO.out
            have key2 := r6rk (q : Int) x w3 hrd3 HL.out
            rw [show Lr.rk l (q : Int).toNat x = ct from HCT.out] at key2
            have HX := Lib.hid (And.intro (ownsRow_base hown4 HB.out.size) (HB.out.trans (hb4.mono HB.out.size)))
            clear hown3 hgrow3 hb3 hb4 hown4 hrd3 hlit hown2 hal
            (with_reducible refine key1.mono ?_); rintro e w' ⟨rfl, rfl⟩
            clear key1
            go_wp2_with fail
            (with_reducible refine key2.mono ?_); rintro e w' ⟨rfl, rfl⟩
            clear key2
            go_wp2_with fail
            go_roundw
            case rel => exact ⟨j + 1, by omega, by go_num, by rw [HNX.out], HM2.out, by rw [HBJ.out]; exact HX.out.1, HX.out.2⟩
            case measure => simp [intOf]; omega
        · have hlt' : ¬ (j : Int) + 1 < n := by omega
          obtain rfl : j = m := by omega
          have hbl := bB_len l j
          obtain ⟨ba, bc, rfl, hbr⟩ := OwnU.form j hown hbl
          have hcv := conv_str hbr hbl
          obtain ⟨sb, hsb⟩ : ∃ sb, str (bB l j) = sb := ⟨_, rfl⟩
          rw [hsb] at hcv
          have key := r6last j wr hsb hbl (by omega)
          have HBR := Lib.hid hbr
          have HB := Lib.hid hb
          have HSB := Lib.hid hsb
          have HBL := Lib.hid hbl
          clear hown hb hmid hp hbr hsb hbl
          go_wp2_with fail
          (with_reducible refine key.mono ?_); rintro e w2 ⟨v2, rfl, hown2, hb2⟩
          clear key hcv
          obtain ⟨a2, c2, rfl, hr2⟩ := Lr.form (j + 1) hown2 ((Lx_len _).trans (by rw [HBL.out]))
          obtain ⟨r, hr⟩ : ∃ r, decide (Lx (bB l j) = l) = r := ⟨_, rfl⟩
          have hbw := HB.out.trans (hb2.mono HB.out.size)
          have key := r6same_is r w2 hr2 (H.out.below hbw) ((Lx_len _).trans (by rw [HBL.out])) HL.out hr
          have HBR := Lib.hid (HBR.out.below hb2)
          have HR := Lib.hid hr
          have HBW := Lib.hid hbw
          clear hown2 hb2 hr2 hr hbw
          obtain rfl := HSB.out
          go_wp2_with fail
          (with_reducible refine key.mono ?_); rintro e w3 ⟨rfl, k3, rfl⟩
          clear key
          have hcv := conv_str (HBR.out.drewN k3) HBL.out
          cases r
          · have hno := no_text (m := j) (by rw [HL.out]; omega) (of_decide_eq_false HR.out)
            have HNO := Lib.hid hno
            clear hno
            go_wp2_with fail
            go_ret2
            exact ⟨.inr ⟨HNO.out, rfl⟩, HBW.out.drewN k3⟩
          · have hyes := of_decide_eq_true HR.out
            have HY := Lib.hid hyes
            clear hyes
            go_wp2_with fail
            go_ret2
            exact ⟨.inl ⟨bB l j, HY.out, rfl⟩, HBW.out.drewN k3⟩
  · have key := r6good false w h hl (decide_eq_false hg)
    have hno : ∀ t, Lx t ≠ l := fun t e => hg (Lx_iff.1 ⟨t, e⟩).1
    have HNO := Lib.hid hno
    clear h hl hg hno
    go_enter Try.func15, Try.ntmps15
    go_wp2_with fail
    (with_reducible refine key.mono ?_); rintro e w' ⟨rfl, rfl⟩
    clear key
    go_wp2_with fail
    go_ret2
    exact ⟨.inr ⟨HNO.out, rfl⟩, Below.refl _ _⟩
end Go.Proofs.Ytfncjkkdemeclaa
