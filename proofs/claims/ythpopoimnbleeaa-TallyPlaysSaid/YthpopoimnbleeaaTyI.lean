/- Stage 8's statements as walks: TallyPlays. -/
import Derived.Test.YthpopoimnbleeaaTyH
import Derived.Deep.DeepCutAuto
import Derived.Deep.CutBlock
import Derived.BigQuiet
import Derived.Deep.RegionHeld3
namespace Go.Proofs.Ythpopoimnbleeaa
open Go Go.RowKit Go.ChangeAt

theorem mod5_any (x : Nat) (hx : x < 257) : ∃ y : Nat, y < 5 ∧ ((x : Int)).tmod 5 = (y : Int) := ⟨x % 5, Nat.mod_lt _ (by decide), by rw [Int.tmod_eq_emod_of_nonneg (by omega)]; omega⟩
/-- The sum below, as far as it is gone. -/
def bmn (f : Ty.Cnt) (c X : Nat) : Nat := Ty.bel f (min c X)
/-- What stands at a place, as far as it is gone. -/
def wsf (f : Ty.Cnt) (q : Int) (c : Nat) : Int := if (Ty.bel f c : Int) ≤ q then -1 else Ty.wh f q
theorem wsf_zero (f : Ty.Cnt) (q : Int) : wsf f q 0 = -1 := by
  unfold wsf
  split
  · rfl
  · rename_i h
    exact Ty.wh_none (.inl (by have : Ty.bel f 0 = 0 := rfl; omega))
theorem of_one (l : List Int) (x : Nat) : Ty.of (l ++ [(x : Int)]) = Ty.add (Ty.of l) x (Ty.of l x + 1) := by
  funext s
  rw [Ty.of_app]
  by_cases h : x = s
  · subst h; rw [if_pos rfl, Ty.add_at]
  · rw [if_neg h, Ty.add_ne _ _ (fun e => h e.symm)]; rfl
theorem ris8_yes (s : Int) (w : World) (h0 : 0 ≤ s) (h1 : s < 257) : Calls Try.prog 15 #[.int .i64 s] w fun e w' => e = .returned (.bool true) ∧ w = w' := by
  have d0 : decide (0 ≤ s) = true := decide_eq_true h0
  have d1 : decide (s < 257) = true := decide_eq_true h1
  go_enter Try.func15, Try.ntmps15
  go_wp2
  go_ret
  exact ⟨rfl, rfl⟩
theorem ris8_no (s : Int) (w : World) (h : ¬ (0 ≤ s ∧ s < 257)) : Calls Try.prog 15 #[.int .i64 s] w fun e w' => e = .returned (.bool false) ∧ w = w' := by
  by_cases h0 : 0 ≤ s
  · have h1 : ¬ s < 257 := by omega
    clear h
    go_enter Try.func15, Try.ntmps15
    go_wp2
    go_ret
    exact ⟨rfl, rfl⟩
  · clear h
    go_enter Try.func15, Try.ntmps15
    go_wp2
    go_ret
    exact ⟨rfl, rfl⟩
/-- What Add answers, and leaves. -/
def AddIs (f : Ty.Cnt) (S K r : Int) (f' : Ty.Cnt) : Prop :=
  (r = 1 ∧ f' = f ∧ ¬ (0 ≤ S ∧ S < 257)) ∨
  (r = 2 ∧ f' = f ∧ ∃ s : Nat, S = s ∧ s < 257 ∧ ((f s : Int) + K < 0 ∨ 2147483648 < (Ty.all f : Int) + K)) ∨
  (r = 0 ∧ ∃ s v : Nat, f' = Ty.add f s v ∧ S = s ∧ s < 257 ∧ (f s : Int) + K = v ∧ (Ty.all f : Int) + K ≤ 2147483648 ∧ (Ty.all f' : Int) = (Ty.all f : Int) + K)
theorem Tst.kany {B : Nat} {W w : World} {t : Nat} {f : Ty.Cnt} (h : Tst B W w t f) (S K : Int) (hk : I64 K) :
    Calls Try.prog 9 #[.pointer (some ⟨t, 0, none⟩), .int .i64 S, .int .i64 K] w fun e w' => ∃ r f', e = .returned (.int .i64 r) ∧ AddIs f S K r f' ∧ Tst B W w' t f' ∧ Stay (· = t) w w' := by
  by_cases hs : 0 ≤ S ∧ S < 257
  · obtain ⟨s, rfl⟩ : ∃ s : Nat, S = s := ⟨S.toNat, by omega⟩
    have hs2 : s < 257 := by omega
    by_cases hr : (f s : Int) + K < 0 ∨ 2147483648 < (Ty.all f : Int) + K
    · exact (h.kadd_range s K s rfl hs2 hk hr).mono fun _ _ ⟨he, h1, h2⟩ => ⟨2, f, he, .inr (.inl ⟨rfl, rfl, s, rfl, hs2, hr⟩), h1, h2⟩
    · obtain ⟨v, hv⟩ : ∃ v : Nat, (f s : Int) + K = v := ⟨((f s : Int) + K).toNat, by omega⟩
      have ha := Ty.all_add f (s := s) v hs2
      exact (h.kadd s K s v _ rfl hs2 hk hv (by omega) rfl).mono fun _ _ ⟨he, h1, h2⟩ => ⟨0, _, he, .inr (.inr ⟨rfl, s, v, rfl, rfl, hs2, hv, by omega, by omega⟩), h1, h2⟩
  · exact (h.kadd_arg S K hs).mono fun _ _ ⟨he, h1, h2⟩ => ⟨1, f, he, .inl ⟨rfl, rfl, hs⟩, h1, h2⟩
set_option maxHeartbeats 6400000 in
set_option maxRecDepth 100000 in
theorem tallyplays_w (a : Option Addr) (n cap : Nat) (zs : List Int) (few : Bool) (a2 : Option Addr) (n2 cap2 : Nat) (q0 : Int) (W : World) (hrow : IsRow .i64 W a n cap zs) (hops : RdOp8 W a2 n2) (hq : (Lit.int .i64 q0).wf = true) :
    Calls Try.prog 4 #[.slice a n cap, .bool few, .slice a2 n2 cap2, .int .i64 q0] W fun e w' => e = .returned (.bool true) ∧ Below W.heap.size W w' := by
  obtain ⟨i0, hi, hz0, hz1, hz2⟩ := info_parts infoI
  obtain ⟨hq0, hq1⟩ := bounds_i64 hq
  have hz := RdZ.of_row hrow
  have hn := hz.1
  unfold maxLen at hn
  have HZ := Lib.hid hz.2
  have hn2 := hops.1
  unfold maxLen at hn2
  have HOPS := Lib.hid hops.2
  clear hz hrow hops hq
  go_enter Try.func4, Try.ntmps4
  go_upto_block 0 with fail
  go_cut [9] (fun v wx => ∃ (a' : Option Addr) (cap' k : Nat) (m : List Int), v = .slice a' k cap' ∧ RdL wx a' cap' m ∧ m.length = k ∧ k ≤ 100 ∧ (∀ s ∈ m, 0 ≤ s ∧ s ≤ 256) ∧ Below W.heap.size W wx)
  case first =>
    as_aux_lemma =>
      go_wp2_with fail
      go_loopw [9, 10] (fun v i wr => ∃ (k : Nat) (m : List Int), k ≤ n ∧ k ≤ 100 ∧ i = .int .i64 k ∧ m.length = k ∧ (∀ s ∈ m, 0 ≤ s ∧ s ≤ 256) ∧ OwnI W.heap.size wr v m ∧ Below W.heap.size W wr) (fun _ i _ => n - (intOf i).toNat)
      case atStart => exact ⟨0, [], Nat.zero_le _, Nat.zero_le _, rfl, rfl, (fun s hs => by cases hs), World.ownsRow_nil _ _ _ _, Below.refl _ _⟩
      case round =>
        obtain ⟨k, m, hk, hk2, rfl, hml, hg, hown, hb⟩ := hrel
        by_cases hlt : k < n ∧ k < 100
        · have h1 : (k : Int) < n := by omega
          have h2 : (k : Int) < 100 := by omega
          obtain ⟨b, off, rfl, hbb, hc⟩ := HZ.out (by omega)
          obtain ⟨z, hzc⟩ := hc k hlt.1
          have c0 := (hb.cell (p := ⟨b, off + k, none⟩) hbb).trans hzc
          obtain ⟨x, hx, en1⟩ := mod_any z 257 (by decide) (by decide)
          change RowKit.wrap64 ((IntKind.u64.wrap z).tmod 257) = _ at en1
          obtain ⟨y, hy, en2⟩ := mod5_any x hx
          have hown' := hown
          unfold OwnI at hown'
          rw [hml] at hown'
          have hbs := hb.size
          have HML := Lib.hid hml
          have HG := Lib.hid hg
          have HLT := Lib.hid hlt
          clear hc hzc hml hg hlt
          cases few
          · go_wp2_with (first
              | (at_builtin; (refine wpList_append_own _ rfl (.tmp 48) (.tmp 50) 22 rfl W.heap.size 3 i0 (.int .i64 0) 1 8 Try.underlying22 hi hz0 hz1 hz2 rfl (by decide) _ _ _ rfl (World.ownsRow.alloc hown' _) ⟨wr.heap.size, 0, none⟩ 1 1 [.int .i64 x] rfl rfl (cell_one_new _ _ _) (fun u hu => by simp at hu; subst hu; rfl) (by unfold maxLen; omega) (by omega) (by simp; omega) ?_); intro v3 w3 hown3 hgrow3 hnil3))
            have hb3 : Below W.heap.size W w3 := (hb.alloc hbs _).grown hgrow3 (by simp; omega) (fun q hq => (hown.lt q hq).1)
            go_wp2_with fail
            go_roundw
            case rel => exact ⟨k + 1, m ++ [(x : Int)], by have := HLT.out; omega, by have := HLT.out; omega, by go_num, by rw [List.length_append, HML.out]; rfl, good_app HG.out hx, Lr.push HML.out hown3, hb3⟩
            case measure => simp [intOf]; have := HLT.out; omega
          · go_wp2_with (first
              | (at_builtin; (refine wpList_append_own _ rfl (.tmp 48) (.tmp 50) 22 rfl W.heap.size 3 i0 (.int .i64 0) 1 8 Try.underlying22 hi hz0 hz1 hz2 rfl (by decide) _ _ _ rfl (World.ownsRow.alloc hown' _) ⟨wr.heap.size, 0, none⟩ 1 1 [.int .i64 y] rfl rfl (cell_one_new _ _ _) (fun u hu => by simp at hu; subst hu; rfl) (by unfold maxLen; omega) (by omega) (by simp; omega) ?_); intro v3 w3 hown3 hgrow3 hnil3))
            have hb3 : Below W.heap.size W w3 := (hb.alloc hbs _).grown hgrow3 (by simp; omega) (fun q hq => (hown.lt q hq).1)
            go_wp2_with fail
            go_roundw
            case rel => exact ⟨k + 1, m ++ [(y : Int)], by have := HLT.out; omega, by have := HLT.out; omega, by go_num, by rw [List.length_append, HML.out]; rfl, good_app HG.out (by omega), Lr.push HML.out hown3, hb3⟩
            case measure => simp [intOf]; have := HLT.out; omega
        · have hcut : ¬ (k : Int) < n ∨ ((k : Int) < n ∧ ¬ (k : Int) < 100) := by omega
          obtain ⟨a', cap', rfl, hr⟩ := Lr.form k hown hml
          have HR := Lib.hid hr
          have HML := Lib.hid hml
          have HG := Lib.hid hg
          clear hr hml hg hown hlt
          rcases hcut with h1 | ⟨h1, h2⟩
          all_goals
            go_wp2_with fail
            go_meet
            case rel => exact ⟨a', cap', k, m, rfl, HR.out, HML.out, hk2, HG.out, hb⟩
  case rest =>
  obtain ⟨a', cap', k, m, rfl, hr, hml, hk2, hg, hb⟩ := hcut
  generalize wc = w1 at *
  have keyN := knew8 w1 hr hml (by omega) hg
  have hall := all_good hg
  rw [hml] at hall
  obtain ⟨B, hB⟩ : ∃ B, w1.heap.size = B := ⟨_, rfl⟩
  have HR : Hid (∀ w, Below B w1 w → ∀ j, j < k → ∃ b off s, a' = some ⟨b, off, none⟩ ∧ w.cell? ⟨b, off + j, none⟩ = some (.int .i64 ((s : Nat) : Int)) ∧ s < 257 ∧ m.take (j + 1) = m.take j ++ [(s : Int)]) := Lib.hid (fun w hw j hj => by
    have hr2 := hr.below (w' := w) (by rw [hB]; exact hw)
    obtain ⟨b, off, h3, _, h4⟩ := hr2.2.2.2 (by omega)
    have h5 := h4 j (by omega)
    have h6 := getD_take_succ (l := m) (k := j) (by omega)
    have h7 : m.getD j 0 ∈ m := by rw [List.getD_eq_getElem?_getD, List.getElem?_eq_getElem (by omega)]; exact List.getElem_mem _
    have h8 := hg _ h7
    obtain ⟨s, hs⟩ : ∃ s : Nat, m.getD j 0 = s := ⟨(m.getD j 0).toNat, by omega⟩
    rw [hs] at h5 h6
    exact ⟨b, off, s, h3, h5, by omega, h6⟩)
  rw [hB] at keyN
  have HBW : Hid (W.heap.size ≤ B) := Lib.hid (by rw [← hB]; exact hb.size)
  have HBE := Lib.hid hb
  have HALL := Lib.hid hall
  have HML : Hid (m.take k = m) := Lib.hid (List.take_of_length_le (by omega))
  have hk6 : (k : Int) ≤ 100 := by omega
  clear hml hg hb hr hall hB hk2 HZ
  obtain ⟨zs, hzr, hzn, hzc⟩ := zeroC
  have HZC := Lib.hid (And.intro hzn hzc)
  clear hzn hzc
  go_wp2_with fail
  (with_reducible refine keyN.mono ?_); rintro e w2 ⟨rfl, hT⟩
  have H2 := Lib.hid hT
  clear keyN hT
  by_cases hlong : 60 < n2
  · have i1 : (60 : Int) < n2 := by omega
    have key := H2.out.told
    go_wp2_with fail
    (with_reducible refine key.mono ?_); rintro e w3 ⟨rfl, h9⟩
    have H3 := Lib.hid h9
    clear key h9
    go_wp2_with fail
    go_ret
    exact ⟨rfl, HBE.out.trans (H3.out.below.mono HBW.out)⟩
  · have i1 : ¬ (60 : Int) < n2 := by omega
    go_wp2_with fail
    obtain ⟨hzn, hzc⟩ := HZC.out
    have hC0 : Cel (w2.alloc (Obj.cells zs 33)) w2.heap.size (Ty.of []) := Cel.new hzn hzc
    have hT0 := H2.out.beside ((Below.refl _ w2).alloc (Nat.le_refl _) (Obj.cells zs 33))
    have hle := H2.out.le
    have hlt := H2.out.tal.lt
    generalize w2.alloc (Obj.cells zs 33) = w3 at *
    generalize w2.heap.size = A at *
    have HC0 := Lib.hid hC0
    have HT0 := Lib.hid hT0
    have hne : A ≠ B := by omega
    have HNE := Lib.hid hne
    have HLE := Lib.hid hle
    clear hC0 hT0 hne hle hlt hzn hzc hzr HZC H2
    go_loopw [15] (fun i wr => ∃ j : Nat, j ≤ k ∧ i = .int .i64 j ∧ Tst B w1 wr B (Ty.of m) ∧ Cel wr A (Ty.of (m.take j))) (fun i _ => k - (intOf i).toNat)
    case atStart => exact ⟨0, Nat.zero_le _, rfl, HT0.out, HC0.out⟩
    case round =>
      clear HT0 HC0
      obtain ⟨j, hj, rfl, hT, hC⟩ := hrel
      by_cases hlt : j < k
      · have hlt' : (j : Int) < k := by omega
        obtain ⟨b, off, s, rfl, c0, hs, htk⟩ := HR.out wr hT.below j hlt
        have hs' : (s : Int) < 257 := by omega
        have c1 := hC.cell hs
        have c2 := hC.free s
        have hle := of_mono m j s
        have hC2 := hC.set s (Ty.of (m.take j) s + 1)
        rw [← of_one, ← htk] at hC2
        have hT2 : Tst B w1 (wr.setCell ⟨A, s, none⟩ (.int .i64 ((Ty.of (m.take j) s + 1 : Nat) : Int))) B (Ty.of m) := hT.aside (Stay.setCell (S := fun i => i = A) (Stay.refl _ _) (p := ⟨A, s, none⟩) (.inr rfl) _) (fun e => HNE.out e.symm) (fun i _ (e : i = A) => e ▸ HLE.out)
        obtain ⟨y, hy⟩ : ∃ y, Ty.of (m.take j) s = y := ⟨_, rfl⟩
        rw [hy] at c1 hle hC2 hT2
        rw [show ((y + 1 : Nat) : Int) = (y : Int) + 1 by omega] at hC2 hT2
        have hle2 : (y : Int) ≤ 100 := by omega
        have HC2 := Lib.hid hC2
        have HT2 := Lib.hid hT2
        clear hT hC hC2 hT2 hy htk hle
        go_wp2_with fail
        go_roundw
        case rel => exact ⟨j + 1, by omega, by go_num, HT2.out, HC2.out⟩
        case measure => simp [intOf]; omega
      · have hlt' : ¬ (j : Int) < k := by omega
        have hjk : j = k := by omega
        subst hjk
        rw [HML.out] at hC
        have HP : Hid (Pl8 B w1 wr B A (Ty.of m)) := Lib.hid ⟨hT, hC, HNE.out, HLE.out⟩
        clear hT hC HNE HLE HR
        go_wp2_with fail
        rw [show ((j : Nat) : Int) = (Ty.all (Ty.of m) : Int) by rw [HALL.out]]
        go_loopw [16, 17] (fun nn i wr => ∃ (p : Nat) (f : Ty.Cnt), p ≤ n2 ∧ i = .int .i64 p ∧ nn = .int .i64 (Ty.all f) ∧ Pl8 B w1 wr B A f) (fun _ i _ => n2 - (intOf i).toNat)
        case atStart => exact ⟨0, _, Nat.zero_le _, rfl, rfl, HP.out⟩
        case round =>
          clear HP
          obtain ⟨p, f, hp, rfl, rfl, hP⟩ := hrel
          by_cases hlt : p < n2
          · have hp1 : (p : Int) < n2 := by omega
            have hp2 : (p : Int) ≤ 60 := by omega
            obtain ⟨ob, off, rfl, hob, hops⟩ := HOPS.out (by omega)
            obtain ⟨z, k0, c0, c1, hz64, hk64⟩ := hops p hlt
            have hbel : Below W.heap.size W wr := HBE.out.trans (hP.ts.below.mono HBW.out)
            have g0 := (hbel.cell (p := ⟨ob, off + p * 2, none⟩) hob).trans c0
            have g1 := (hbel.cell (p := ⟨ob, off + p * 2 + 1, none⟩) hob).trans c1
            have HP := Lib.hid hP
            clear hops c0 c1 hbel hP
            go_wp2_with fail
            go_quiet (fail)
            have hP5 : Pl8 B w1 (wr.drewN nq) B A f := HP.out.beside ((Below.refl _ _).drewN nq)
            generalize wr.drewN nq = w5 at *
            have HP5 := Lib.hid hP5
            clear g0 g1 HP hP5
            go_upto_if 101 with fail
            go_cut [18, 19] (fun s' k' wx => ∃ (S K : Int), s' = .int .i64 S ∧ k' = .int .i64 K ∧ I64 S ∧ I64 K ∧ w5 = wx)
            case first =>
              as_aux_lemma =>
                by_cases h9 : (p : Int) % 8 < 7
                · obtain ⟨x, hx, en1⟩ := mod_any z 257 (by decide) (by decide)
                  change RowKit.wrap64 ((IntKind.u64.wrap z).tmod 257) = _ at en1
                  obtain ⟨y, hy, en2⟩ := mod_any k0 9 (by decide) (by decide)
                  change RowKit.wrap64 ((IntKind.u64.wrap k0).tmod 9) = _ at en2
                  go_wp2_with fail
                  go_meet
                  case rel => exact ⟨_, _, rfl, rfl, ⟨by omega, by omega⟩, ⟨by omega, by omega⟩, rfl⟩
                · go_wp2_with fail
                  go_meet
                  case rel => exact ⟨z, k0, rfl, rfl, hz64, hk64, rfl⟩
            case rest =>
            obtain ⟨S, K, rfl, rfl, hS, hK, rfl⟩ := hcut
            clear hz64 hk64
            go_upto_region 26 with fail
            go_cut [20, 21] (fun a' b' wx => ∃ (r : Int) (f' : Ty.Cnt), a' = .int .i64 r ∧ b' = .int .i64 0 ∧ AddIs f S K r f' ∧ Tst B w1 wx B f' ∧ Stay (· = B) w5 wx)
            case first =>
              as_aux_lemma =>
                have key := HP5.out.ts.kany S K hK
                go_wp2_with fail
                (with_reducible refine key.mono ?_); rintro e w6 ⟨r, f', rfl, hA, hT6, hS6⟩
                have HA := Lib.hid hA
                have HT6 := Lib.hid hT6
                have HS6 := Lib.hid hS6
                clear key hA hT6 hS6
                go_wp2_with fail
                go_meet
                case rel => exact ⟨r, f', rfl, rfl, HA.out, HT6.out, HS6.out⟩
            case rest =>
            obtain ⟨r, f', rfl, rfl, hA, hT6, hS6⟩ := hcut
            have HP5' := HP5.out
            have HT6 := Lib.hid hT6
            have HS6 := Lib.hid hS6
            have hfew := HP5.out.ts.tal.few
            have hC6 : Cel wc A f := HP5.out.cl.stay hS6 HP5.out.ne
            have HC6 := Lib.hid hC6
            clear hT6 hS6 hC6 HP5'
            generalize wc = w6 at *
            go_upto_block 6 with fail
            go_cut [16, 21] (fun nn b' wx => nn = .int .i64 (Ty.all f') ∧ b' = .int .i64 r ∧ Pl8 B w1 wx B A f')
            case first =>
              as_aux_lemma =>
                rcases hA with ⟨rfl, rfl, hs⟩ | ⟨rfl, rfl, s, rfl, hs, hr⟩ | ⟨rfl, s, v, rfl, rfl, hs, hv, hr, ha⟩
                · have hP6 := HP5.out.read HT6.out HS6.out
                  have HP6 := Lib.hid hP6
                  have key := ris8_no S w6 hs
                  clear hs hP6
                  go_wp2_with fail
                  (with_reducible refine key.mono ?_); rintro e w' ⟨rfl, rfl⟩
                  clear key
                  go_wp2_with fail
                  go_meet
                  case rel => exact ⟨rfl, rfl, HP6.out⟩
                · have hP6 := HP5.out.read HT6.out HS6.out
                  have HP6 := Lib.hid hP6
                  have hs' : (s : Int) < 257 := by omega
                  have key := ris8_yes (s : Int) w6 (by omega) hs'
                  have c0 := HC6.out.cell hs
                  have hle := Nat.le_trans (Ty.of_le_all f' hs) hfew
                  obtain ⟨y, hy⟩ : ∃ y, f' s = y := ⟨_, rfl⟩
                  obtain ⟨u, hu⟩ : ∃ u, Ty.all f' = u := ⟨_, rfl⟩
                  rw [hy] at c0 hle hr
                  rw [hu] at hfew hr
                  rw [hu]
                  have HU := Lib.hid hu
                  obtain ⟨hK0, hK1⟩ := hK
                  have hor : K < -(y : Int) ∨ (¬ K < -(y : Int) ∧ 2147483648 - (u : Int) < K) := by omega
                  clear hr hP6 hy hu
                  rcases hor with i2 | ⟨i2, i3⟩
                  all_goals
                    go_wp2_with fail
                    (with_reducible refine key.mono ?_); rintro e w' ⟨rfl, rfl⟩
                    clear key
                    go_wp2_with fail
                    go_meet
                    case rel => exact ⟨by rw [HU.out], rfl, HP6.out⟩
                · have hP6 := HP5.out.set HT6.out HS6.out
                  have HP6 := Lib.hid hP6
                  have hs' : (s : Int) < 257 := by omega
                  have key := ris8_yes (s : Int) w6 (by omega) hs'
                  have c0 := HC6.out.cell hs
                  have c1 := HC6.out.free s
                  have hlu := Ty.of_le_all f hs
                  have hle := Nat.le_trans hlu hfew
                  have HA := Lib.hid ha
                  obtain ⟨y, hy⟩ : ∃ y, f s = y := ⟨_, rfl⟩
                  obtain ⟨u, hu⟩ : ∃ u, Ty.all f = u := ⟨_, rfl⟩
                  rw [hy] at c0 hle hv hlu
                  rw [hu] at hfew hr hlu
                  rw [hu]
                  have HU := Lib.hid hu
                  obtain ⟨hK0, hK1⟩ := hK
                  have i2 : ¬ K < -(y : Int) := by omega
                  have i3 : ¬ 2147483648 - (u : Int) < K := by omega
                  have i4 : 0 ≤ (y : Int) + K := by omega
                  have i5 : (y : Int) + K ≤ 2147483648 := by omega
                  clear hP6 hy hu ha HT6 HS6 HC6
                  go_wp2_with fail
                  (with_reducible refine key.mono ?_); rintro e w' ⟨rfl, rfl⟩
                  clear key
                  go_wp2_with fail
                  go_meet
                  case rel => exact ⟨by rw [HA.out, HU.out], rfl, HP6.out⟩
            case rest =>
            obtain ⟨rfl, rfl, hP6⟩ := hcut
            have hsym : (¬ (0 ≤ S ∧ S < 257)) ∨ ∃ s : Nat, S = s ∧ s < 257 := by
              by_cases h : 0 ≤ S ∧ S < 257
              · exact .inr ⟨S.toNat, by omega, by omega⟩
              · exact .inl h
            clear hA HP5 HT6 HS6 HC6 hfew
            generalize wc = w7 at *
            have hfew := hP6.ts.tal.few
            have hbl : ∀ c, c ≤ 257 → Ty.bel f' c ≤ 2147483648 := fun c hc => Nat.le_trans (Ty.bel_mono f' hc) hfew
            have HBL := Lib.hid hbl
            have HC7 := Lib.hid hP6.cl
            have HP7 := Lib.hid hP6
            have hX : min (max q0 0) 257 = ((Ty.clamp q0 : Nat) : Int) := by rw [clamp_at]; omega
            have hXl := clamp_le q0
            obtain ⟨X, hXe⟩ : ∃ X, Ty.clamp q0 = X := ⟨_, rfl⟩
            rw [hXe] at hX hXl
            have HX := Lib.hid hXe
            clear hbl hP6 hXe
            go_wp2_with fail
            obtain ⟨mx, hmx⟩ : ∃ mx, max q0 0 = mx := ⟨_, rfl⟩
            rw [hmx]
            clear hX hmx
            go_loop [23, 25] (fun b i => ∃ c : Nat, c ≤ 257 ∧ i = .int .i64 c ∧ b = .int .i64 (bmn f' c X)) (fun _ i => 257 - (intOf i).toNat)
            case atStart => exact ⟨0, Nat.zero_le _, rfl, by unfold bmn; rw [Nat.zero_min]; rfl⟩
            case round =>
              obtain ⟨c, hc, rfl, rfl⟩ := hrel
              by_cases hc7 : c < 257
              · have hc8 : (c : Int) < 257 := by omega
                by_cases hcX : c < X
                · have hcX' : (c : Int) < X := by omega
                  have c0 := HC7.out.cell hc7
                  have e1 : bmn f' c X = Ty.bel f' c := by unfold bmn; rw [Nat.min_eq_left (by omega)]
                  have e2 : bmn f' (c + 1) X = Ty.bel f' c + f' c := by unfold bmn; rw [Nat.min_eq_left (by omega)]; rfl
                  have hb := HBL.out (c + 1) (by omega)
                  have e3 : Ty.bel f' (c + 1) = Ty.bel f' c + f' c := rfl
                  rw [e3] at hb
                  rw [e1]
                  obtain ⟨y, hy⟩ : ∃ y, f' c = y := ⟨_, rfl⟩
                  obtain ⟨v, hv⟩ : ∃ v, Ty.bel f' c = v := ⟨_, rfl⟩
                  rw [hy] at c0 e2 hb
                  rw [hv] at e2 hb
                  rw [hv]
                  have E2 := Lib.hid e2
                  have hy6 : (y : Int) ≤ 2147483648 := by omega
                  have hv6 : (v : Int) ≤ 2147483648 := by omega
                  clear hy hv e1 e2 e3 hb
                  go_wp2_with fail
                  go_round
                  case rel => exact ⟨c + 1, by omega, by go_num, by rw [E2.out]; go_num⟩
                  case measure => simp [intOf]; omega
                · have hcX' : ¬ (c : Int) < X := by omega
                  have e2 : Hid (bmn f' (c + 1) X = bmn f' c X) := Lib.hid (by unfold bmn; rw [Nat.min_eq_right (by omega), Nat.min_eq_right (by omega)])
                  go_wp2_with fail
                  go_round
                  case rel => exact ⟨c + 1, by omega, by go_num, by rw [e2.out]⟩
                  case measure => simp [intOf]; omega
              · have hc8 : ¬ (c : Int) < 257 := by omega
                have hcc : c = 257 := by omega
                subst hcc
                have e1 : bmn f' 257 X = Ty.bel f' X := by unfold bmn; rw [Nat.min_eq_right hXl]
                rw [e1, show ((257 : Nat) : Int) = 257 from rfl]
                clear e1
                obtain ⟨N, hN⟩ : ∃ N, Ty.all f' = N := ⟨_, rfl⟩
                have HN := Lib.hid hN
                rw [hN] at hfew
                rw [hN]
                clear hN
                have hN6 : (N : Int) ≤ 2147483648 := by omega
                go_upto_block 9 with fail
                go_cut [24] (fun wh' wx => wh' = .int .i64 (Ty.wh f' q0) ∧ w7 = wx)
                case first =>
                  as_aux_lemma =>
                    go_wp2_with fail
                    go_loop [24, 26, 27] (fun wh l i => ∃ c : Nat, c ≤ 257 ∧ i = .int .i64 c ∧ wh = .int .i64 (wsf f' q0 c) ∧ l = .int .i64 (q0 - (Ty.bel f' c : Int))) (fun _ _ i => 257 - (intOf i).toNat)
                    case atStart => exact ⟨0, Nat.zero_le _, rfl, by rw [wsf_zero], congrArg (Value.int .i64) (by have : Ty.bel f' 0 = 0 := rfl; omega)⟩
                    case round =>
                      obtain ⟨c, hc, rfl, rfl, rfl⟩ := hrel
                      by_cases hin : 0 ≤ q0 ∧ q0 < N
                      · obtain ⟨q, rfl⟩ : ∃ q : Nat, q0 = q := ⟨q0.toNat, by omega⟩
                        have h3 : ¬ (q : Int) < 0 := by omega
                        have h4 : (q : Int) < N := hin.2
                        by_cases hc7 : c < 257 ∧ Ty.bel f' c ≤ q
                        · have hc8 : (c : Int) < 257 := by omega
                          have e0 : wsf f' q c = -1 := by unfold wsf; rw [if_pos (by omega)]
                          have c0 := HC7.out.cell hc7.1
                          have e3 : Ty.bel f' (c + 1) = Ty.bel f' c + f' c := rfl
                          have hb := HBL.out (c + 1) (by omega)
                          have e4 : Ty.bel f' (c + 1) ≤ q → wsf f' q (c + 1) = -1 := fun h => by unfold wsf; rw [if_pos (by omega)]
                          have e5 : ¬ Ty.bel f' (c + 1) ≤ q → wsf f' q (c + 1) = c := fun h => by unfold wsf; rw [if_neg (by omega)]; exact Ty.wh_of hc7.1 hc7.2 (by omega)
                          rw [e0]
                          rw [e3] at hb e4 e5
                          obtain ⟨y, hy⟩ : ∃ y, f' c = y := ⟨_, rfl⟩
                          obtain ⟨v, hv⟩ : ∃ v, Ty.bel f' c = v := ⟨_, rfl⟩
                          rw [hy] at c0 e3 e4 e5 hb
                          rw [hv] at e3 e4 e5 hb hc7
                          rw [hv]
                          have E3 := Lib.hid e3
                          obtain ⟨hc9, hvq⟩ := hc7
                          have hvq' : (v : Int) ≤ q := by omega
                          have hq6 : (q : Int) ≤ 2147483648 := by omega
                          have hy6 : (y : Int) ≤ 2147483648 := by omega
                          by_cases hyq : v + y ≤ q
                          · have i1 : ¬ (q : Int) - v < y := by omega
                            have E4 := Lib.hid (e4 hyq)
                            clear e0 e3 e4 e5 hb hy hv hyq hin
                            go_wp2_with fail
                            go_round
                            case rel => exact ⟨c + 1, by omega, by go_num, by rw [E4.out], by rw [E3.out]; go_num⟩
                            case measure => simp [intOf]; omega
                          · have i1 : (q : Int) - v < y := by omega
                            have E5 := Lib.hid (e5 hyq)
                            clear e0 e3 e4 e5 hb hy hv hyq hin
                            go_wp2_with fail
                            go_round
                            case rel => exact ⟨c + 1, by omega, by go_num, by rw [E5.out], by rw [E3.out]; go_num⟩
                            case measure => simp [intOf]; omega
                        · have hb257 : Ty.bel f' 257 = N := HN.out
                          have hnb : ¬ (Ty.bel f' c : Int) ≤ q := fun h => hc7 ⟨by
                            apply Nat.lt_of_le_of_ne hc
                            intro h9
                            rw [h9, hb257] at h
                            omega, by omega⟩
                          have e0 : wsf f' q c = Ty.wh f' q := by unfold wsf; rw [if_neg hnb]
                          obtain ⟨s, hs, _⟩ := Ty.wh_is (f := f') (k := q) (by rw [HN.out]; omega)
                          rw [e0, hs]
                          have HS := Lib.hid hs
                          have i5 : ¬ (s : Int) < 0 := by omega
                          clear hc7 hb257 hnb e0 hs hin
                          by_cases hc8 : (c : Int) < 257
                          · go_wp2_with fail
                            go_meet
                            case rel => exact ⟨by rw [HS.out], rfl⟩
                          · go_wp2_with fail
                            go_meet
                            case rel => exact ⟨by rw [HS.out], rfl⟩
                      · have e0 : wsf f' q0 c = Ty.wh f' q0 := by
                          have hb := Ty.bel_mono f' hc
                          have hb257 : Ty.bel f' 257 = N := HN.out
                          rw [Ty.wh_none (f := f') (k := q0) (by rw [HN.out]; omega)]
                          unfold wsf
                          split
                          · rfl
                          · exact Ty.wh_none (by rw [HN.out]; omega)
                        have hor : q0 < 0 ∨ (¬ q0 < 0 ∧ (N : Int) ≤ q0) := by omega
                        rw [e0]
                        clear hin e0
                        by_cases hc8 : (c : Int) < 257
                        · rcases hor with i2 | ⟨i2, i3⟩
                          all_goals
                            go_wp2_with fail
                            go_meet
                            case rel => exact ⟨rfl, rfl⟩
                        · clear hor
                          go_wp2_with fail
                          go_meet
                          case rel => exact ⟨rfl, rfl⟩
                case rest =>
                obtain ⟨rfl, rfl⟩ := hcut
                rw [← HX.out]
                clear HX hfew hXl
                obtain ⟨v, hv⟩ : ∃ v, Ty.bel f' (Ty.clamp q0) = v := ⟨_, rfl⟩
                obtain ⟨g, hg⟩ : ∃ g, Ty.wh f' q0 = g := ⟨_, rfl⟩
                rw [hv, hg]
                have HV := Lib.hid hv
                have HG := Lib.hid hg
                have hd : (r != r) = false := by simp
                have HD := Lib.hid (HP7.out.beside ((Below.refl _ w7).drew))
                clear hv hg
                go_upto_region 46 with fail
                go_cut [221] (fun b wx => b = .bool false ∧ Pl8 B w1 wx B A f')
                case first =>
                  rcases hsym with hno | ⟨s, rfl, hs⟩
                  · as_aux_lemma =>
                      refine wp_region_held_drew (S := fun _ => True) (by kernel_rfl) trivial (fun hHeld => ?_)
                      refine wpAnyH_take (i := 0) (v := ?u0) rfl (by kernel_rfl) (by kernel_rfl) (by kernel_rfl) (fun _ _ _ h => h) (Or.inl ⟨by rfl, ?hy0⟩) hHeld ?rest0
                      case hy0 => (intro w hSw; clear hSw; go_simp; (try with_reducible rfl))
                      try simp only [Act.put, List.getElem_toArray, List.getElem_cons_zero, List.setIfInBounds_toArray, List.set_cons_zero, List.set_cons_succ]
                      refine wpAnyH_take (i := 1) (v := ?u1) rfl (by kernel_rfl) (by kernel_rfl) (by kernel_rfl) (fun _ _ _ h => h) (Or.inl ⟨by rfl, ?hy1⟩) hHeld ?rest1
                      case hy1 => (intro w hSw; clear hSw; go_simp; (try with_reducible rfl))
                      try simp only [Act.put, List.getElem_toArray, List.getElem_cons_succ, List.getElem_cons_zero, List.setIfInBounds_toArray, List.set_cons_zero, List.set_cons_succ]
                      refine wpAnyH_take (i := 2) (v := ?u2) rfl (by kernel_rfl) (by kernel_rfl) (by kernel_rfl) (fun _ _ _ h => h) (Or.inl ⟨by rfl, ?hy2⟩) hHeld ?rest2
                      case hy2 => (intro w hSw; clear hSw; go_simp; (try with_reducible rfl))
                      try simp only [Act.put, List.getElem_toArray, List.getElem_cons_succ, List.getElem_cons_zero, List.setIfInBounds_toArray, List.set_cons_zero, List.set_cons_succ]
                      refine wpAnyH_take (i := 3) (v := ?u3) rfl (by kernel_rfl) (by kernel_rfl) (by kernel_rfl) (fun _ _ _ h => h) (Or.inl ⟨by rfl, ?hy3⟩) hHeld ?rest3
                      case hy3 => (intro w hSw; clear hSw; go_simp; (try with_reducible rfl))
                      try simp only [Act.put, List.getElem_toArray, List.getElem_cons_succ, List.getElem_cons_zero, List.setIfInBounds_toArray, List.set_cons_zero, List.set_cons_succ]
                      refine wpAnyH_take (i := 4) (v := ?u4) rfl (by kernel_rfl) (by kernel_rfl) (by kernel_rfl) (fun _ _ _ h => h) (Or.inl ⟨by rfl, ?hy4⟩) hHeld ?rest4
                      case hy4 => (intro w hSw; clear hSw; go_simp; (try with_reducible rfl))
                      try simp only [Act.put, List.getElem_toArray, List.getElem_cons_succ, List.getElem_cons_zero, List.setIfInBounds_toArray, List.set_cons_zero, List.set_cons_succ]
                      refine wpAnyH_take (i := 6) (v := ?u6) rfl (by kernel_rfl) (by kernel_rfl) (by kernel_rfl) (fun _ _ _ h => h) (Or.inl ⟨by rfl, ?hy6⟩) hHeld ?rest6
                      case hy6 => (intro w hSw; clear hSw; go_simp; (try with_reducible rfl))
                      try simp only [Act.put, List.getElem_toArray, List.getElem_cons_succ, List.getElem_cons_zero, List.setIfInBounds_toArray, List.set_cons_zero, List.set_cons_succ]
                      refine wpAnyH_ready (rs := [5]) (by kernel_rfl) (by simp) ?_
                      refine AllReadyH.cons rfl (fun K hK => ?_) AllReadyH.nil
                      clear hHeld
                      go_simp
                      go_at_call 10; (have key := HD.out.ts.klen N (by rw [HN.out])); (with_reducible refine key.mono ?_); rintro e w8 ⟨rfl, h9, h8⟩; (have HD2 := Lib.hid (HD.out.read h9 h8)); clear key h8 h9
                      refine hK.out _ _ trivial (fun hHeld => ?_)
                      clear hK K
                      try simp only [Act.put, List.getElem_toArray, List.getElem_cons_succ, List.getElem_cons_zero, List.setIfInBounds_toArray, List.set_cons_zero, List.set_cons_succ]
                      refine wpAnyH_take (i := 7) (v := ?u7) rfl (by kernel_rfl) (by kernel_rfl) (by kernel_rfl) (fun _ _ _ h => h) (Or.inl ⟨by rfl, ?hy7⟩) hHeld ?rest7
                      case hy7 => (intro w hSw; clear hSw; go_simp; (try with_reducible rfl))
                      try simp only [Act.put, List.getElem_toArray, List.getElem_cons_succ, List.getElem_cons_zero, List.setIfInBounds_toArray, List.set_cons_zero, List.set_cons_succ]
                      refine wpAnyH_take (i := 8) (v := ?u8) rfl (by kernel_rfl) (by kernel_rfl) (by kernel_rfl) (fun _ _ _ h => h) (Or.inl ⟨by rfl, ?hy8⟩) hHeld ?rest8
                      case hy8 => (intro w hSw; clear hSw; go_simp; (try with_reducible rfl))
                      try simp only [Act.put, List.getElem_toArray, List.getElem_cons_succ, List.getElem_cons_zero, List.setIfInBounds_toArray, List.set_cons_zero, List.set_cons_succ]
                      refine wpAnyH_take (i := 9) (v := ?u9) rfl (by kernel_rfl) (by kernel_rfl) (by kernel_rfl) (fun _ _ _ h => h) (Or.inl ⟨by rfl, ?hy9⟩) hHeld ?rest9
                      case hy9 => (intro w hSw; clear hSw; go_simp; (try with_reducible rfl))
                      try simp only [Act.put, List.getElem_toArray, List.getElem_cons_succ, List.getElem_cons_zero, List.setIfInBounds_toArray, List.set_cons_zero, List.set_cons_succ]
                      refine wpAnyH_take (i := 10) (v := ?u10) rfl (by kernel_rfl) (by kernel_rfl) (by kernel_rfl) (fun _ _ _ h => h) (Or.inl ⟨by rfl, ?hy10⟩) hHeld ?rest10
                      case hy10 => (intro w hSw; clear hSw; go_simp; (try with_reducible rfl))
                      try simp only [Act.put, List.getElem_toArray, List.getElem_cons_succ, List.getElem_cons_zero, List.setIfInBounds_toArray, List.set_cons_zero, List.set_cons_succ]
                      refine wpAnyH_take (i := 11) (v := ?u11) rfl (by kernel_rfl) (by kernel_rfl) (by kernel_rfl) (fun _ _ _ h => h) (Or.inl ⟨by rfl, ?hy11⟩) hHeld ?rest11
                      case hy11 => (intro w hSw; clear hSw; go_simp; (try with_reducible rfl))
                      try simp only [Act.put, List.getElem_toArray, List.getElem_cons_succ, List.getElem_cons_zero, List.setIfInBounds_toArray, List.set_cons_zero, List.set_cons_succ]
                      refine wpAnyH_take (i := 13) (v := ?u13) rfl (by kernel_rfl) (by kernel_rfl) (by kernel_rfl) (fun _ _ _ h => h) (Or.inl ⟨by rfl, ?hy13⟩) hHeld ?rest13
                      case hy13 => (intro w hSw; clear hSw; go_simp; (try with_reducible rfl))
                      try simp only [Act.put, List.getElem_toArray, List.getElem_cons_succ, List.getElem_cons_zero, List.setIfInBounds_toArray, List.set_cons_zero, List.set_cons_succ]
                      refine wpAnyH_ready (rs := [12]) (by kernel_rfl) (by simp) ?_
                      refine AllReadyH.cons rfl (fun K hK => ?_) AllReadyH.nil
                      clear hHeld
                      go_simp
                      go_at_call 13; (have key := HD2.out.ts.kbelow q0 v (by rw [HV.out])); (with_reducible refine key.mono ?_); rintro e w9 ⟨rfl, h9, h8⟩; (have HD3 := Lib.hid (HD2.out.read h9 h8)); clear key h8 h9
                      refine hK.out _ _ trivial (fun hHeld => ?_)
                      clear hK K
                      try simp only [Act.put, List.getElem_toArray, List.getElem_cons_succ, List.getElem_cons_zero, List.setIfInBounds_toArray, List.set_cons_zero, List.set_cons_succ]
                      refine wpAnyH_take (i := 14) (v := ?u14) rfl (by kernel_rfl) (by kernel_rfl) (by kernel_rfl) (fun _ _ _ h => h) (Or.inl ⟨by rfl, ?hy14⟩) hHeld ?rest14
                      case hy14 => (intro w hSw; clear hSw; go_simp; (try with_reducible rfl))
                      try simp only [Act.put, List.getElem_toArray, List.getElem_cons_succ, List.getElem_cons_zero, List.setIfInBounds_toArray, List.set_cons_zero, List.set_cons_succ]
                      refine wpAnyH_take (i := 15) (v := ?u15) rfl (by kernel_rfl) (by kernel_rfl) (by kernel_rfl) (fun _ _ _ h => h) (Or.inl ⟨by rfl, ?hy15⟩) hHeld ?rest15
                      case hy15 => (intro w hSw; clear hSw; go_simp; (try with_reducible rfl))
                      try simp only [Act.put, List.getElem_toArray, List.getElem_cons_succ, List.getElem_cons_zero, List.setIfInBounds_toArray, List.set_cons_zero, List.set_cons_succ]
                      refine wpAnyH_take (i := 16) (v := ?u16) rfl (by kernel_rfl) (by kernel_rfl) (by kernel_rfl) (fun _ _ _ h => h) (Or.inl ⟨by rfl, ?hy16⟩) hHeld ?rest16
                      case hy16 => (intro w hSw; clear hSw; go_simp; (try with_reducible rfl))
                      try simp only [Act.put, List.getElem_toArray, List.getElem_cons_succ, List.getElem_cons_zero, List.setIfInBounds_toArray, List.set_cons_zero, List.set_cons_succ]
                      refine wpAnyH_take (i := 17) (v := ?u17) rfl (by kernel_rfl) (by kernel_rfl) (by kernel_rfl) (fun _ _ _ h => h) (Or.inl ⟨by rfl, ?hy17⟩) hHeld ?rest17
                      case hy17 => (intro w hSw; clear hSw; go_simp; (try with_reducible rfl))
                      try simp only [Act.put, List.getElem_toArray, List.getElem_cons_succ, List.getElem_cons_zero, List.setIfInBounds_toArray, List.set_cons_zero, List.set_cons_succ]
                      refine wpAnyH_take (i := 18) (v := ?u18) rfl (by kernel_rfl) (by kernel_rfl) (by kernel_rfl) (fun _ _ _ h => h) (Or.inl ⟨by rfl, ?hy18⟩) hHeld ?rest18
                      case hy18 => (intro w hSw; clear hSw; go_simp; (try with_reducible rfl))
                      try simp only [Act.put, List.getElem_toArray, List.getElem_cons_succ, List.getElem_cons_zero, List.setIfInBounds_toArray, List.set_cons_zero, List.set_cons_succ]
                      refine wpAnyH_take (i := 20) (v := ?u20) rfl (by kernel_rfl) (by kernel_rfl) (by kernel_rfl) (fun _ _ _ h => h) (Or.inl ⟨by rfl, ?hy20⟩) hHeld ?rest20
                      case hy20 => (intro w hSw; clear hSw; go_simp; (try with_reducible rfl))
                      try simp only [Act.put, List.getElem_toArray, List.getElem_cons_succ, List.getElem_cons_zero, List.setIfInBounds_toArray, List.set_cons_zero, List.set_cons_succ]
                      refine wpAnyH_ready (rs := [19]) (by kernel_rfl) (by simp) ?_
                      refine AllReadyH.cons rfl (fun K hK => ?_) AllReadyH.nil
                      clear hHeld
                      go_simp
                      go_at_call 12; (have key := HD3.out.ts.kwhich q0 g HG.out); (with_reducible refine key.mono ?_); rintro e w10 ⟨rfl, h9, h8⟩; (have HD4 := Lib.hid (HD3.out.read h9 h8)); clear key h8 h9
                      refine hK.out _ _ trivial (fun hHeld => ?_)
                      clear hK K
                      try simp only [Act.put, List.getElem_toArray, List.getElem_cons_succ, List.getElem_cons_zero, List.setIfInBounds_toArray, List.set_cons_zero, List.set_cons_succ]
                      refine wpAnyH_take (i := 21) (v := ?u21) rfl (by kernel_rfl) (by kernel_rfl) (by kernel_rfl) (fun _ _ _ h => h) (Or.inl ⟨by rfl, ?hy21⟩) hHeld ?rest21
                      case hy21 => (intro w hSw; clear hSw; go_simp; (try with_reducible rfl))
                      try simp only [Act.put, List.getElem_toArray, List.getElem_cons_succ, List.getElem_cons_zero, List.setIfInBounds_toArray, List.set_cons_zero, List.set_cons_succ]
                      refine wpAnyH_take (i := 22) (v := ?u22) rfl (by kernel_rfl) (by kernel_rfl) (by kernel_rfl) (fun _ _ _ h => h) (Or.inl ⟨by rfl, ?hy22⟩) hHeld ?rest22
                      case hy22 => (intro w hSw; clear hSw; go_simp; (try with_reducible rfl))
                      try simp only [Act.put, List.getElem_toArray, List.getElem_cons_succ, List.getElem_cons_zero, List.setIfInBounds_toArray, List.set_cons_zero, List.set_cons_succ]
                      refine wpAnyH_take (i := 23) (v := ?u23) rfl (by kernel_rfl) (by kernel_rfl) (by kernel_rfl) (fun _ _ _ h => h) (Or.inl ⟨by rfl, ?hy23⟩) hHeld ?rest23
                      case hy23 => (intro w hSw; clear hSw; go_simp; (try with_reducible rfl))
                      try simp only [Act.put, List.getElem_toArray, List.getElem_cons_succ, List.getElem_cons_zero, List.setIfInBounds_toArray, List.set_cons_zero, List.set_cons_succ]
                      refine wpAnyH_take (i := 24) (v := ?u24) rfl (by kernel_rfl) (by kernel_rfl) (by kernel_rfl) (fun _ _ _ h => h) (Or.inl ⟨by rfl, ?hy24⟩) hHeld ?rest24
                      case hy24 => (intro w hSw; clear hSw; go_simp; (try with_reducible rfl))
                      try simp only [Act.put, List.getElem_toArray, List.getElem_cons_succ, List.getElem_cons_zero, List.setIfInBounds_toArray, List.set_cons_zero, List.set_cons_succ]
                      refine wpAnyH_ready (rs := [25]) (by kernel_rfl) (by simp) ?_
                      refine AllReadyH.cons rfl (fun K hK => ?_) AllReadyH.nil
                      clear hHeld
                      go_simp
                      go_at_call 15; (with_reducible refine (ris8_no S _ hno).mono ?_); rintro e w11 ⟨rfl, rfl⟩
                      refine hK.out _ _ trivial (fun hHeld => ?_)
                      clear hK K
                      try simp only [Act.put, List.getElem_toArray, List.getElem_cons_succ, List.getElem_cons_zero, List.setIfInBounds_toArray, List.set_cons_zero, List.set_cons_succ]
                      refine wpAnyH_take (i := 26) (v := ?u26) rfl (by kernel_rfl) (by kernel_rfl) (by kernel_rfl) (fun _ _ _ h => h) (Or.inl ⟨by rfl, ?hy26⟩) hHeld ?rest26
                      case hy26 => (intro w hSw; clear hSw; go_simp; (try with_reducible rfl))
                      try simp only [Act.put, List.getElem_toArray, List.getElem_cons_succ, List.getElem_cons_zero, List.setIfInBounds_toArray, List.set_cons_zero, List.set_cons_succ]
                      refine wpAnyH_take (i := 27) (v := undef) rfl (by kernel_rfl) (by kernel_rfl) (by kernel_rfl) (fun _ _ _ h => h) (Or.inr ⟨by rfl, rfl⟩) hHeld ?_
                      try simp only [Act.put, List.getElem_toArray, List.getElem_cons_succ, List.getElem_cons_zero, List.setIfInBounds_toArray, List.set_cons_zero, List.set_cons_succ]
                      refine wpAnyH_take (i := 28) (v := undef) rfl (by kernel_rfl) (by kernel_rfl) (by kernel_rfl) (fun _ _ _ h => h) (Or.inr ⟨by rfl, rfl⟩) hHeld ?_
                      try simp only [Act.put, List.getElem_toArray, List.getElem_cons_succ, List.getElem_cons_zero, List.setIfInBounds_toArray, List.set_cons_zero, List.set_cons_succ]
                      refine wpAnyH_take (i := 30) (v := undef) rfl (by kernel_rfl) (by kernel_rfl) (by kernel_rfl) (fun _ _ _ h => h) (Or.inr ⟨by rfl, rfl⟩) hHeld ?_
                      try simp only [Act.put, List.getElem_toArray, List.getElem_cons_succ, List.getElem_cons_zero, List.setIfInBounds_toArray, List.set_cons_zero, List.set_cons_succ]
                      refine wpAnyH_take (i := 31) (v := undef) rfl (by kernel_rfl) (by kernel_rfl) (by kernel_rfl) (fun _ _ _ h => h) (Or.inr ⟨by rfl, rfl⟩) hHeld ?_
                      try simp only [Act.put, List.getElem_toArray, List.getElem_cons_succ, List.getElem_cons_zero, List.setIfInBounds_toArray, List.set_cons_zero, List.set_cons_succ]
                      refine wpAnyH_take (i := 32) (v := undef) rfl (by kernel_rfl) (by kernel_rfl) (by kernel_rfl) (fun _ _ _ h => h) (Or.inr ⟨by rfl, rfl⟩) hHeld ?_
                      try simp only [Act.put, List.getElem_toArray, List.getElem_cons_succ, List.getElem_cons_zero, List.setIfInBounds_toArray, List.set_cons_zero, List.set_cons_succ]
                      refine wpAnyH_take (i := 29) (v := undef) rfl (by kernel_rfl) (by kernel_rfl) (by kernel_rfl) (fun _ _ _ h => h) (Or.inr ⟨by rfl, rfl⟩) hHeld ?_
                      try simp only [Act.put, List.getElem_toArray, List.getElem_cons_succ, List.getElem_cons_zero, List.setIfInBounds_toArray, List.set_cons_zero, List.set_cons_succ]
                      refine wpAnyH_take (i := 33) (v := undef) rfl (by kernel_rfl) (by kernel_rfl) (by kernel_rfl) (fun _ _ _ h => h) (Or.inr ⟨by rfl, rfl⟩) hHeld ?_
                      try simp only [Act.put, List.getElem_toArray, List.getElem_cons_succ, List.getElem_cons_zero, List.setIfInBounds_toArray, List.set_cons_zero, List.set_cons_succ]
                      refine wpAnyH_take (i := 34) (v := ?u34) rfl (by kernel_rfl) (by kernel_rfl) (by kernel_rfl) (fun _ _ _ h => h) (Or.inl ⟨by rfl, ?hy34⟩) hHeld ?rest34
                      case hy34 => (intro w hSw; clear hSw; go_simp; (try with_reducible rfl))
                      try simp only [Act.put, List.getElem_toArray, List.getElem_cons_succ, List.getElem_cons_zero, List.setIfInBounds_toArray, List.set_cons_zero, List.set_cons_succ]
                      refine wpAnyH_take (i := 35) (v := ?u35) rfl (by kernel_rfl) (by kernel_rfl) (by kernel_rfl) (fun _ _ _ h => h) (Or.inl ⟨by rfl, ?hy35⟩) hHeld ?rest35
                      case hy35 => (intro w hSw; clear hSw; go_simp; (try with_reducible rfl))
                      try simp only [Act.put, List.getElem_toArray, List.getElem_cons_succ, List.getElem_cons_zero, List.setIfInBounds_toArray, List.set_cons_zero, List.set_cons_succ]
                      refine wpAnyH_done (by kernel_rfl) ?_ _
                      all_goals
                        go_wp2_with fail
                        go_meet
                        case rel => exact ⟨rfl, HD4.out⟩
                  · as_aux_lemma =>
                      have hs' : (s : Int) < 257 := by omega
                      have c0 := HC7.out.cell hs
                      obtain ⟨y, hy⟩ : ∃ y, f' s = y := ⟨_, rfl⟩
                      rw [hy] at c0
                      have HY := Lib.hid hy
                      have d1 : w7.drew.cell? ⟨A, s, none⟩ = some (.int .i64 y) := c0
                      clear hy c0
                      go_region_held3 (fun w' => w'.cell? ⟨A, s, none⟩ = some (.int .i64 y))
                        (first | exact d1 | exact d2 | exact d3 | exact d4 | exact d5 | go_keep)
                        (first
                          | (go_at_call 10; (have key := HD.out.ts.klen N (by rw [HN.out])); (with_reducible refine key.mono ?_); rintro e w8 ⟨rfl, h9, h8⟩; (have HD2 := Lib.hid (HD.out.read h9 h8)); (have d2 := HD2.out.cl.cell hs); (rw [HY.out] at d2); clear key h8 h9)
                          | (go_at_call 13; (have key := HD2.out.ts.kbelow q0 v (by rw [HV.out])); (with_reducible refine key.mono ?_); rintro e w9 ⟨rfl, h9, h8⟩; (have HD3 := Lib.hid (HD2.out.read h9 h8)); (have d3 := HD3.out.cl.cell hs); (rw [HY.out] at d3); clear key h8 h9)
                          | (go_at_call 12; (have key := HD3.out.ts.kwhich q0 g HG.out); (with_reducible refine key.mono ?_); rintro e w10 ⟨rfl, h9, h8⟩; (have HD4 := Lib.hid (HD3.out.read h9 h8)); (have d4 := HD4.out.cl.cell hs); (rw [HY.out] at d4); clear key h8 h9)
                          | (go_at_call 15; (with_reducible refine (ris8_yes (s : Int) _ (by omega) hs').mono ?_); rintro e w11 ⟨rfl, rfl⟩)
                          | (go_at_call 14; (have key := HD4.out.ts.kof s s y rfl hs (by rw [HY.out])); (with_reducible refine key.mono ?_); rintro e w12 ⟨rfl, h9, h8⟩; (have HD5 := Lib.hid (HD4.out.read h9 h8)); (have d5 := HD5.out.cl.cell hs); (rw [HY.out] at d5); clear key h8 h9))
                      all_goals
                        go_wp2_with fail
                        go_meet
                        case rel => exact ⟨rfl, HD5.out⟩
                case rest =>
                obtain ⟨rfl, hP9⟩ := hcut
                have HP9 := Lib.hid hP9
                clear hP9 HD HP7 HC7
                go_wp2_with fail
                go_roundw
                case rel => exact ⟨p + 1, f', by omega, by go_num, by rw [HN.out], HP9.out⟩
                case measure => simp [intOf]; omega
          · have hp1 : ¬ (p : Int) < n2 := by omega
            have key := hP.ts.told
            clear hP
            go_wp2_with fail
            (with_reducible refine key.mono ?_); rintro e w5 ⟨rfl, h9⟩
            have H5 := Lib.hid h9
            clear key h9
            go_wp2_with fail
            go_ret
            exact ⟨rfl, HBE.out.trans (H5.out.below.mono HBW.out)⟩
end Go.Proofs.Ythpopoimnbleeaa
