/- Stage 8's statements as walks: TallyBack. -/
import Derived.Test.YthpopoimnbleeaaTyE
import Derived.Test.YthpopoimnbleeaaLsR
namespace Go.Proofs.Ythpopoimnbleeaa
open Go Go.RowKit Go.ChangeAt

theorem good_app {l : List Int} {x : Nat} (h : ∀ s ∈ l, 0 ≤ s ∧ s ≤ 256) (hx : x < 257) : ∀ s ∈ l ++ [(x : Int)], 0 ≤ s ∧ s ≤ 256 := fun s hs => by
  rcases List.mem_append.1 hs with h1 | h1
  · exact h s h1
  · rw [List.mem_singleton.1 h1]; omega
set_option maxHeartbeats 3200000 in
set_option maxRecDepth 100000 in
theorem tallyback_w (a : Option Addr) (n cap : Nat) (zs : List Int) (s0 n0 : Int) (W : World) (hrow : IsRow .i64 W a n cap zs) (_ : (Lit.int .i64 s0).wf = true) (_ : (Lit.int .i64 n0).wf = true) :
    Calls Try.prog 6 #[.slice a n cap, .int .i64 s0, .int .i64 n0] W fun e w' => e = .returned (.bool true) ∧ Below W.heap.size W w' := by
  obtain ⟨i0, hi, hz0, hz1, hz2⟩ := info_parts infoI
  have hz := RdZ.of_row hrow
  have hn := hz.1
  unfold maxLen at hn
  have HZ := Lib.hid hz.2
  clear hz hrow
  go_enter Try.func6, Try.ntmps6
  go_wp2_with fail
  go_loopw [7, 8] (fun v i wr => ∃ (k : Nat) (m : List Int), k ≤ n ∧ k ≤ 60 ∧ i = .int .i64 k ∧ m.length = k ∧ (∀ s ∈ m, 0 ≤ s ∧ s ≤ 256) ∧ OwnI W.heap.size wr v m ∧ Below W.heap.size W wr) (fun _ i _ => n - (intOf i).toNat)
  case atStart => exact ⟨0, [], Nat.zero_le _, Nat.zero_le _, rfl, rfl, (fun s hs => by cases hs), World.ownsRow_nil _ _ _ _, Below.refl _ _⟩
  case round =>
    obtain ⟨k, m, hk, hk2, rfl, hml, hg, hown, hb⟩ := hrel
    by_cases hlt : k < n ∧ k < 60
    · have h1 : (k : Int) < n := by omega
      have h2 : (k : Int) < 60 := by omega
      obtain ⟨b, off, rfl, hbb, hc⟩ := HZ.out (by omega)
      obtain ⟨z, hzc⟩ := hc k hlt.1
      have c0 := (hb.cell (p := ⟨b, off + k, none⟩) hbb).trans hzc
      obtain ⟨x, hx, en1⟩ := mod_any z 257 (by decide) (by decide)
      change RowKit.wrap64 ((IntKind.u64.wrap z).tmod 257) = _ at en1
      have hown' := hown
      unfold OwnI at hown'
      rw [hml] at hown'
      have hbs := hb.size
      have HML := Lib.hid hml
      have HG := Lib.hid hg
      have HLT := Lib.hid hlt
      clear hc hzc hml hg hlt
      go_wp2_with (first
        | (at_builtin; (refine wpList_append_own _ rfl (.tmp 27) (.tmp 35) 22 rfl W.heap.size 3 i0 (.int .i64 0) 1 8 Try.underlying22 hi hz0 hz1 hz2 rfl (by decide) _ _ _ rfl (World.ownsRow.alloc hown' _) ⟨wr.heap.size, 0, none⟩ 1 1 [.int .i64 x] rfl rfl (cell_one_new _ _ _) (fun u hu => by simp at hu; subst hu; rfl) (by unfold maxLen; omega) (by omega) (by simp; omega) ?_); intro v3 w3 hown3 hgrow3 hnil3))
      have hb3 : Below W.heap.size W w3 := (hb.alloc hbs _).grown hgrow3 (by simp; omega) (fun q hq => (hown.lt q hq).1)
      go_wp2_with fail
      go_roundw
      case rel => exact ⟨k + 1, m ++ [(x : Int)], by have := HLT.out; omega, by have := HLT.out; omega, by go_num, by rw [List.length_append, HML.out]; rfl, good_app HG.out hx, Lr.push HML.out hown3, hb3⟩
      case measure => simp [intOf]; have := HLT.out; omega
    · have hcut : ¬ (k : Int) < n ∨ ((k : Int) < n ∧ ¬ (k : Int) < 60) := by omega
      obtain ⟨a', cap', rfl, hr⟩ := Lr.form k hown hml
      have keyN := knew8 wr hr hml (by omega) hg
      have hall := all_good hg
      rw [hml] at hall
      obtain ⟨B, hB⟩ : ∃ B, wr.heap.size = B := ⟨_, rfl⟩
      rw [hB] at keyN
      have HBW : Hid (W.heap.size ≤ B) := Lib.hid (by rw [← hB]; exact hb.size)
      have HBE := Lib.hid hb
      obtain ⟨f, hf⟩ : ∃ f, Ty.of m = f := ⟨_, rfl⟩
      rw [hf] at keyN hall
      have HALL := Lib.hid hall
      obtain ⟨c, hc, en1⟩ := mod_any s0 257 (by decide) (by decide)
      change RowKit.wrap64 ((IntKind.u64.wrap s0).tmod 257) = _ at en1
      obtain ⟨y, hy, en2⟩ := mod_any n0 1000000 (by decide) (by decide)
      change RowKit.wrap64 ((IntKind.u64.wrap n0).tmod 1000000) = _ at en2
      have EN1 := Lib.hid en1
      have EN2 := Lib.hid en2
      have hle := Ty.of_le_all f hc
      rw [hall] at hle
      have e1 : Ty.bel f (c + 1) = Ty.bel f c + f c := rfl
      have hbl := Ty.bel_mono f (show c + 1 ≤ 257 by omega)
      have hall' : Ty.bel f 257 = k := hall
      rw [hall'] at hbl
      obtain ⟨wv, hwv⟩ : ∃ wv, f c = wv := ⟨_, rfl⟩
      obtain ⟨bl, hbl1⟩ : ∃ bl, Ty.bel f (c + 1) = bl := ⟨_, rfl⟩
      obtain ⟨b0, hb0⟩ : ∃ b0, Ty.bel f c = b0 := ⟨_, rfl⟩
      rw [hwv] at hle
      rw [hwv, hbl1, hb0] at e1
      rw [hbl1] at hbl
      obtain ⟨f1, hf1⟩ : ∃ f1, Ty.add f c (wv + y) = f1 := ⟨_, rfl⟩
      have a1 := Ty.all_add f (s := c) (wv + y) hc
      rw [hf1, hall, hwv] at a1
      have F1 : Hid (f1 c = wv + y) := Lib.hid (by rw [← hf1]; exact Ty.add_at f c _)
      have B1 : Hid (Ty.bel f1 (c + 1) = bl + y) := Lib.hid (by
        have := Ty.bel_add f c (wv + y) (c + 1)
        rw [hf1, if_pos (by omega), if_pos (by omega), hbl1, hwv] at this
        omega)
      have B0 : Hid (Ty.bel f1 c = bl - wv) := Lib.hid (by
        have := Ty.bel_add f c (wv + y) c
        rw [hf1, if_neg (by omega), if_neg (by omega), hb0] at this
        omega)
      have A1 : Hid (Ty.all f1 = k + y) := Lib.hid (by omega)
      obtain ⟨f2, hf2⟩ : ∃ f2, Ty.add f1 c wv = f2 := ⟨_, rfl⟩
      have F2 : Hid (f2 c = wv) := Lib.hid (by rw [← hf2]; exact Ty.add_at f1 c _)
      have A2 : Hid (Ty.all f2 = k) := Lib.hid (by
        have := Ty.all_add f1 (s := c) wv hc
        rw [hf2, A1.out, F1.out] at this
        omega)
      have HF1 := Lib.hid hf1
      have HF2 := Lib.hid hf2
      have HWV := Lib.hid hwv
      have HBL := Lib.hid hbl1
      have hk6 : (k : Int) ≤ 60 := by omega
      have hwk : (wv : Int) ≤ k := by omega
      have hblk : (bl : Int) ≤ k := by omega
      have hwbl : (wv : Int) ≤ bl := by omega
      have hy6 : (y : Int) < 1000000 := by omega
      have CL : Hid (Ty.clamp ((c : Int) + 1) = c + 1) := Lib.hid (by rw [show ((c : Int) + 1) = ((c + 1 : Nat) : Int) by omega]; exact clamp_nat (by omega))
      have CL0 : Hid (Ty.clamp (c : Int) = c) := Lib.hid (clamp_nat (by omega))
      clear hown hml hg hb hr hf hall hB en1 en2 hle e1 hbl hall' hwv hbl1 hb0 hf1 a1 hf2 hlt hk hk2
      rcases hcut with h1 | ⟨h1, h2⟩
      all_goals
        go_wp2_with fail
        (with_reducible refine keyN.mono ?_); rintro e w2 ⟨rfl, hT⟩
        have H2 := Lib.hid hT
        clear keyN hT
        go_wp2_with fail
        rw [EN1.out, EN2.out]
        have key := H2.out.kof c c wv rfl hc (by rw [HWV.out])
        clear H2
        go_wp2_with fail
        (with_reducible refine key.mono ?_); rintro e w3 ⟨rfl, h9, -⟩
        have H3 := Lib.hid h9
        clear key h9
        have key := H3.out.kbelow ((c : Int) + 1) bl (by rw [CL.out, HBL.out])
        clear H3
        go_wp2_with fail
        (with_reducible refine key.mono ?_); rintro e w4 ⟨rfl, h9, -⟩
        have H4 := Lib.hid h9
        clear key h9
        have key := H4.out.kadd c y c (wv + y) f1 rfl hc ⟨by omega, by omega⟩ (by rw [HWV.out]; omega) (by rw [HALL.out]; omega) HF1.out
        clear H4
        go_wp2_with fail
        (with_reducible refine key.mono ?_); rintro e w5 ⟨rfl, h9, -⟩
        have H5 := Lib.hid h9
        clear key h9
        have key := H5.out.kof c c ((wv : Int) + y) rfl hc (by rw [F1.out]; omega)
        clear H5
        go_wp2_with fail
        (with_reducible refine key.mono ?_); rintro e w6 ⟨rfl, h9, -⟩
        have H6 := Lib.hid h9
        clear key h9
        have key := H6.out.kbelow ((c : Int) + 1) ((bl : Int) + y) (by rw [CL.out, B1.out]; omega)
        clear H6
        go_wp2_with fail
        (with_reducible refine key.mono ?_); rintro e w7 ⟨rfl, h9, -⟩
        have H7 := Lib.hid h9
        clear key h9
        have key := H7.out.kbelow c ((bl : Int) - wv) (by rw [CL0.out, B0.out]; omega)
        clear H7
        go_wp2_with fail
        (with_reducible refine key.mono ?_); rintro e w8 ⟨rfl, h9, -⟩
        have H8 := Lib.hid h9
        clear key h9
        have key := H8.out.klen ((k : Int) + y) (by rw [A1.out]; omega)
        clear H8
        go_wp2_with fail
        (with_reducible refine key.mono ?_); rintro e w9 ⟨rfl, h9, -⟩
        have H9 := Lib.hid h9
        clear key h9
        have key := H9.out.kadd_range c (-(wv : Int) - y - 1) c rfl hc ⟨by omega, by omega⟩ (.inl (by rw [F1.out]; omega))
        clear H9
        go_wp2_with fail
        (with_reducible refine key.mono ?_); rintro e w10 ⟨rfl, h9, -⟩
        have H10 := Lib.hid h9
        clear key h9
        have key := H10.out.kadd c (-(y : Int)) c wv f2 rfl hc ⟨by omega, by omega⟩ (by rw [F1.out]; omega) (by rw [A1.out]; omega) HF2.out
        clear H10
        go_wp2_with fail
        (with_reducible refine key.mono ?_); rintro e w11 ⟨rfl, h9, -⟩
        have H11 := Lib.hid h9
        clear key h9
        have key := H11.out.told
        clear H11
        go_wp2_with fail
        (with_reducible refine key.mono ?_); rintro e w12 ⟨rfl, h9⟩
        have H12 := Lib.hid h9
        clear key h9
        have key := H12.out.kof c c wv rfl hc (by rw [F2.out])
        clear H12
        go_wp2_with fail
        (with_reducible refine key.mono ?_); rintro e w13 ⟨rfl, h9, -⟩
        have H13 := Lib.hid h9
        clear key h9
        have key := H13.out.klen k (by rw [A2.out])
        clear H13
        go_wp2_with fail
        (with_reducible refine key.mono ?_); rintro e w14 ⟨rfl, h9, -⟩
        have H14 := Lib.hid h9
        clear key h9
        go_wp2_with fail
        go_ret
        exact ⟨rfl, HBE.out.trans (H14.out.below.mono HBW.out)⟩
end Go.Proofs.Ythpopoimnbleeaa
