/- Stage 8's statements as walks: TallySorts. -/
import Derived.Test.YthpopoimnbleeaaTyF
namespace Go.Proofs.Ythpopoimnbleeaa
open Go Go.RowKit Go.ChangeAt

set_option maxHeartbeats 3200000 in
set_option maxRecDepth 100000 in
theorem tallysorts_w (a : Option Addr) (n cap : Nat) (zs : List Int) (W : World) (hrow : IsRow .i64 W a n cap zs) :
    Calls Try.prog 5 #[.slice a n cap] W fun e w' => e = .returned (.bool true) ∧ Below W.heap.size W w' := by
  obtain ⟨i0, hi, hz0, hz1, hz2⟩ := info_parts infoI
  have hz := RdZ.of_row hrow
  have hn := hz.1
  unfold maxLen at hn
  have HZ := Lib.hid hz.2
  clear hz hrow
  go_enter Try.func5, Try.ntmps5
  go_wp2_with fail
  go_loopw [3, 4] (fun v i wr => ∃ (k : Nat) (m : List Int), k ≤ n ∧ k ≤ 80 ∧ i = .int .i64 k ∧ m.length = k ∧ (∀ s ∈ m, 0 ≤ s ∧ s ≤ 256) ∧ OwnI W.heap.size wr v m ∧ Below W.heap.size W wr) (fun _ i _ => n - (intOf i).toNat)
  case atStart => exact ⟨0, [], Nat.zero_le _, Nat.zero_le _, rfl, rfl, (fun s hs => by cases hs), World.ownsRow_nil _ _ _ _, Below.refl _ _⟩
  case round =>
    obtain ⟨k, m, hk, hk2, rfl, hml, hg, hown, hb⟩ := hrel
    by_cases hlt : k < n ∧ k < 80
    · have h1 : (k : Int) < n := by omega
      have h2 : (k : Int) < 80 := by omega
      obtain ⟨b, off, rfl, hbb, hc⟩ := HZ.out (by omega)
      obtain ⟨z, hzc⟩ := hc k hlt.1
      have c0 := (hb.cell (p := ⟨b, off + k, none⟩) hbb).trans hzc
      obtain ⟨x, hx, en1⟩ := mod_any z 257 (by decide) (by decide)
      change RowKit.wrap64 ((IntKind.u64.wrap z).tmod 257) = _ at en1
      have hown' := hown
      unfold OwnI at hown'
      rw [hml] at hown'
      have hbs := hb.size
      have HML := Lib.hid hml
      have HG := Lib.hid hg
      have HLT := Lib.hid hlt
      clear hc hzc hml hg hlt
      go_wp2_with (first
        | (at_builtin; (refine wpList_append_own _ rfl (.tmp 20) (.tmp 28) 22 rfl W.heap.size 3 i0 (.int .i64 0) 1 8 Try.underlying22 hi hz0 hz1 hz2 rfl (by decide) _ _ _ rfl (World.ownsRow.alloc hown' _) ⟨wr.heap.size, 0, none⟩ 1 1 [.int .i64 x] rfl rfl (cell_one_new _ _ _) (fun u hu => by simp at hu; subst hu; rfl) (by unfold maxLen; omega) (by omega) (by simp; omega) ?_); intro v3 w3 hown3 hgrow3 hnil3))
      have hb3 : Below W.heap.size W w3 := (hb.alloc hbs _).grown hgrow3 (by simp; omega) (fun q hq => (hown.lt q hq).1)
      go_wp2_with fail
      go_roundw
      case rel => exact ⟨k + 1, m ++ [(x : Int)], by have := HLT.out; omega, by have := HLT.out; omega, by go_num, by rw [List.length_append, HML.out]; rfl, good_app HG.out hx, Lr.push HML.out hown3, hb3⟩
      case measure => simp [intOf]; have := HLT.out; omega
    · have hcut : ¬ (k : Int) < n ∨ ((k : Int) < n ∧ ¬ (k : Int) < 80) := by omega
      obtain ⟨a', cap', rfl, hr⟩ := Lr.form k hown hml
      have keyN := knew8 wr hr hml (by omega) hg
      have hall := all_good hg
      rw [hml] at hall
      obtain ⟨B, hB⟩ : ∃ B, wr.heap.size = B := ⟨_, rfl⟩
      have HR : Hid (∀ w, Below B wr w → RdL w a' cap' m) := Lib.hid (fun w hw => hr.below (by rw [hB]; exact hw))
      rw [hB] at keyN
      have HBW : Hid (W.heap.size ≤ B) := Lib.hid (by rw [← hB]; exact hb.size)
      have HBE := Lib.hid hb
      have HML := Lib.hid hml
      obtain ⟨f, hf⟩ : ∃ f, Ty.of m = f := ⟨_, rfl⟩
      have HF : Hid (∀ s : Nat, Lr.rk m k s = f s) := Lib.hid (fun s => by rw [← hf, Lr.rk_all _ (by omega)]; rfl)
      rw [hf] at keyN hall
      have HALL := Lib.hid hall
      have hk6 : (k : Int) ≤ 80 := by omega
      clear hown hml hg hb hr hf hall hB hlt hk hk2
      rcases hcut with h1 | ⟨h1, h2⟩
      all_goals
        go_wp2_with fail
        (with_reducible refine keyN.mono ?_); rintro e w2 ⟨rfl, hT⟩
        have H2 := Lib.hid hT
        clear keyN hT
        go_wp2_with fail
        go_loopw [7, 8] (fun la i wq => ∃ (q l : Nat), q ≤ k ∧ i = .int .i64 q ∧ la = .int .i64 l ∧ Ty.bel f l ≤ q ∧ l < 257 ∧ Tst B wr wq B f) (fun _ i _ => k - (intOf i).toNat)
        case atStart => exact ⟨0, 0, Nat.zero_le _, rfl, rfl, Nat.le_refl _, by decide, H2.out⟩
        case round =>
          clear H2
          obtain ⟨q, l, hq, rfl, rfl, hl1, hl2, hT⟩ := hrel
          by_cases hqk : q < k
          · have hqk' : (q : Int) < k := by omega
            obtain ⟨s, hs, hs1, hs2, hs3⟩ := Ty.wh_is (f := f) (k := q) (by rw [HALL.out]; exact hqk)
            have hls : ¬ (s : Int) < l := fun h => by
              have := Ty.bel_mono f (show s + 1 ≤ l by omega)
              omega
            have e2 : Ty.bel f (s + 1) = Ty.bel f s + f s := rfl
            have hbk := Ty.bel_mono f (show s + 1 ≤ 257 by omega)
            have hall' : Ty.bel f 257 = k := HALL.out
            rw [hall'] at hbk
            have HS2 := Lib.hid hs2
            obtain ⟨b1, hb1⟩ : ∃ b1, Ty.bel f s = b1 := ⟨_, rfl⟩
            obtain ⟨b2, hb2⟩ : ∃ b2, Ty.bel f (s + 1) = b2 := ⟨_, rfl⟩
            obtain ⟨c, hc⟩ : ∃ c, f s = c := ⟨_, rfl⟩
            rw [hb1, hb2, hc] at e2
            rw [hb2] at hbk
            rw [hb1] at hs2
            rw [hb2] at hs3
            have HS := Lib.hid hs
            have HB1 := Lib.hid hb1
            have HB2 := Lib.hid hb2
            have HC := Lib.hid hc
            have HT := Lib.hid hT
            have hs2' : (b1 : Int) ≤ q := by omega
            have hs3' : (q : Int) < b2 := by omega
            have hb2k : (b2 : Int) ≤ k := by omega
            have hs1' : (s : Int) < 257 := by omega
            have hcb : (c : Int) = (b2 : Int) - b1 := by omega
            have HCB := Lib.hid hcb
            have CL : Hid (Ty.clamp ((s : Int) + 1) = s + 1) := Lib.hid (by rw [show ((s : Int) + 1) = ((s + 1 : Nat) : Int) by omega]; exact clamp_nat (by omega))
            have CL0 : Hid (Ty.clamp (s : Int) = s) := Lib.hid (clamp_nat (by omega))
            clear hs hb1 hb2 hc hs2 hs3 e2 hbk hall' hT hcb hl1
            have key := HT.out.kwhich q s HS.out
            clear HT
            go_wp2_with fail
            (with_reducible refine key.mono ?_); rintro e w3 ⟨rfl, h9, -⟩
            have H3 := Lib.hid h9
            clear key h9
            have key := H3.out.kbelow s b1 (by rw [CL0.out, HB1.out])
            clear H3
            go_wp2_with fail
            (with_reducible refine key.mono ?_); rintro e w4 ⟨rfl, h9, -⟩
            have H4 := Lib.hid h9
            clear key h9
            have key := H4.out.kbelow ((s : Int) + 1) b2 (by rw [CL.out, HB2.out])
            clear H4
            go_wp2_with fail
            (with_reducible refine key.mono ?_); rintro e w5 ⟨rfl, h9, -⟩
            have H5 := Lib.hid h9
            clear key h9
            have key := H5.out.kof s s ((b2 : Int) - b1) rfl hs1 (by rw [HC.out]; exact HCB.out)
            clear H5
            go_wp2_with fail
            (with_reducible refine key.mono ?_); rintro e w6 ⟨rfl, h9, -⟩
            have H6 := Lib.hid h9
            clear key h9
            have key := H6.out.kbelow ((s : Int) + 1) b2 (by rw [CL.out, HB2.out])
            clear H6
            go_wp2_with fail
            (with_reducible refine key.mono ?_); rintro e w7 ⟨rfl, h9, -⟩
            have H7 := Lib.hid h9
            clear key h9
            have key := H7.out.kbelow s b1 (by rw [CL0.out, HB1.out])
            clear H7
            go_wp2_with fail
            (with_reducible refine key.mono ?_); rintro e w8 ⟨rfl, h9, -⟩
            have H8 := Lib.hid h9
            clear key h9
            have key := H8.out.kof s s ((b2 : Int) - b1) rfl hs1 (by rw [HC.out]; exact HCB.out)
            clear H8
            go_wp2_with fail
            (with_reducible refine key.mono ?_); rintro e w9 ⟨rfl, h9, -⟩
            have H9 := Lib.hid h9
            clear key h9
            have key := r6rk k s w9 (HR.out w9 H9.out.below) HML.out
            rw [Int.toNat_natCast, HF.out s, HC.out, HCB.out] at key
            go_wp2_with fail
            (with_reducible refine key.mono ?_); rintro e w' ⟨rfl, rfl⟩
            clear key
            go_wp2_with fail
            go_roundw
            case rel => exact ⟨q + 1, s, by omega, by go_num, rfl, by have := HS2.out; omega, hs1, H9.out⟩
            case measure => simp [intOf]; omega
          · have hqk' : ¬ (q : Int) < k := by omega
            have HT := Lib.hid hT
            clear hT hl1
            have key := HT.out.told
            clear HT
            go_wp2_with fail
            (with_reducible refine key.mono ?_); rintro e w3 ⟨rfl, h9⟩
            have H3 := Lib.hid h9
            clear key h9
            have key := H3.out.klen k (by rw [HALL.out])
            clear H3
            go_wp2_with fail
            (with_reducible refine key.mono ?_); rintro e w4 ⟨rfl, h9, -⟩
            have H4 := Lib.hid h9
            clear key h9
            go_wp2_with fail
            go_ret
            exact ⟨rfl, HBE.out.trans (H4.out.below.mono HBW.out)⟩
end Go.Proofs.Ythpopoimnbleeaa
