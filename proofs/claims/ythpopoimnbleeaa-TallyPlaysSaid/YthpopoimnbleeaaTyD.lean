/- Stage 8's statements as walks: TallyFull. -/
import Derived.Test.YthpopoimnbleeaaTyC
namespace Go.Proofs.Ythpopoimnbleeaa
open Go Go.RowKit Go.ChangeAt

theorem Tst.told {B : Nat} {W w : World} {t : Nat} {f : Ty.Cnt} (h : Tst B W w t f) : Calls Try.prog 11 #[] w fun e w' => e = .returned (.bool true) ∧ Tst B W w' t f :=
  (told8 w).mono fun _ _ ⟨he, hb⟩ => ⟨he, h.beside hb⟩
theorem wh_last {f : Ty.Cnt} {u : Nat} (hu : Ty.all f = u) (h : 0 < u) : ∃ s : Nat, Ty.wh f ((u : Int) - 1) = (s : Int) := by
  obtain ⟨s, e, _⟩ := Ty.wh_is (f := f) (k := u - 1) (by omega)
  exact ⟨s, by rw [← e]; congr 1; omega⟩
theorem all_none : Ty.all (Ty.of []) = 0 := Ty.bel_of_nil 257
set_option maxHeartbeats 3200000 in
set_option maxRecDepth 100000 in
theorem tallyfull_w (a b n : Int) (W : World) (_ : (Lit.int .i64 a).wf = true) (_ : (Lit.int .i64 b).wf = true) (_ : (Lit.int .i64 n).wf = true) :
    Calls Try.prog 7 #[.int .i64 a, .int .i64 b, .int .i64 n] W fun e w' => e = .returned (.bool true) ∧ Below W.heap.size W w' := by
  obtain ⟨x, hx, en1⟩ := mod_any a 257 (by decide) (by decide)
  change RowKit.wrap64 ((IntKind.u64.wrap a).tmod 257) = _ at en1
  obtain ⟨y, hy, en2⟩ := mod_any b 257 (by decide) (by decide)
  change RowKit.wrap64 ((IntKind.u64.wrap b).tmod 257) = _ at en2
  obtain ⟨k, hk, en3⟩ := mod_any n 5 (by decide) (by decide)
  change RowKit.wrap64 ((IntKind.u64.wrap n).tmod 5) = _ at en3
  have EN1 := Lib.hid en1
  have EN2 := Lib.hid en2
  have EN3 := Lib.hid en3
  have keyN := knew8 W (RdL.nil W) (n := 0) rfl (by decide) (fun s hs => by cases hs)
  obtain ⟨B, hB⟩ : ∃ B, W.heap.size = B := ⟨_, rfl⟩
  rw [hB] at keyN
  have HB := Lib.hid hB
  have e0 := all_none
  have e1 := Ty.all_add (Ty.of []) (s := x) 2147483646 hx
  rw [e0, Ty.of_nil] at e1
  obtain ⟨f1, hf1⟩ : ∃ f1, Ty.add (Ty.of []) x 2147483646 = f1 := ⟨_, rfl⟩
  rw [hf1] at e1
  have e1' : Ty.all f1 = 2147483646 := by omega
  have hle := Ty.of_le_all f1 hy
  have E0 := Lib.hid e0
  have E1 := Lib.hid e1'
  have HF1 := Lib.hid hf1
  have HLE := Lib.hid hle
  clear e0 e1 e1' hf1 hle en1 en2 en3 hB
  by_cases h2 : 2 < k
  · have h2' : (2 : Int) < k := by omega
    obtain ⟨s, hs⟩ := wh_last E1.out (by decide)
    have HS := Lib.hid hs
    clear hs
    go_enter Try.func7, Try.ntmps7
    go_wp2_with fail
    (with_reducible refine keyN.mono ?_); rintro e w2 ⟨rfl, hT⟩
    have H2 := Lib.hid hT
    clear keyN hT
    go_wp2_with fail
    rw [EN1.out, EN2.out, EN3.out]
    have key := H2.out.kadd x 2147483646 x 2147483646 f1 rfl hx ⟨by decide, by decide⟩ (by rw [Ty.of_nil]; rfl) (by rw [E0.out]; decide) HF1.out
    go_wp2_with fail
    (with_reducible refine key.mono ?_); rintro e w3 ⟨rfl, h9, -⟩
    have H3 := Lib.hid h9
    clear key h9 H2
    have key := H3.out.kadd_range y k y rfl hy ⟨by omega, by omega⟩ (.inr (by rw [E1.out]; omega))
    go_wp2_with fail
    (with_reducible refine key.mono ?_); rintro e w4 ⟨rfl, h9, -⟩
    have H4 := Lib.hid h9
    clear key h9 H3
    have key := H4.out.told
    go_wp2_with fail
    (with_reducible refine key.mono ?_); rintro e w5 ⟨rfl, h9⟩
    have H5 := Lib.hid h9
    clear key h9 H4
    have key := H5.out.klen 2147483646 (by rw [E1.out]; rfl)
    go_wp2_with fail
    (with_reducible refine key.mono ?_); rintro e w6 ⟨rfl, h9, -⟩
    have H6 := Lib.hid h9
    clear key h9 H5
    have key := H6.out.klen 2147483646 (by rw [E1.out]; rfl)
    go_wp2_with fail
    (with_reducible refine key.mono ?_); rintro e w7 ⟨rfl, h9, -⟩
    have H7 := Lib.hid h9
    clear key h9 H6
    have key := H7.out.kwhich 2147483645 s HS.out
    go_wp2_with fail
    (with_reducible refine key.mono ?_); rintro e w8 ⟨rfl, h9, -⟩
    have H8 := Lib.hid h9
    clear key h9 H7
    have key := H8.out.klen 2147483646 (by rw [E1.out]; rfl)
    go_wp2_with fail
    (with_reducible refine key.mono ?_); rintro e w9 ⟨rfl, h9, -⟩
    have H9 := Lib.hid h9
    clear key h9 H8
    have key := H9.out.kwhich 2147483646 (-1) (Ty.wh_none (.inr (by rw [E1.out]; decide)))
    go_wp2_with fail
    (with_reducible refine key.mono ?_); rintro e w10 ⟨rfl, h9, -⟩
    have H10 := Lib.hid h9
    clear key h9 H9
    go_wp2_with fail
    go_ret
    exact ⟨rfl, by have := H10.out.below; rw [← HB.out] at this; exact this⟩
  · have h2' : ¬ (2 : Int) < k := by omega
    obtain ⟨u, hu⟩ : ∃ u, 2147483646 + k = u := ⟨_, rfl⟩
    have e3 := Ty.all_add f1 (s := y) (f1 y + k) hy
    obtain ⟨f2, hf2⟩ : ∃ f2, Ty.add f1 y (f1 y + k) = f2 := ⟨_, rfl⟩
    rw [hf2] at e3
    have e3' : Ty.all f2 = u := by have := E1.out; have := HLE.out; omega
    obtain ⟨s, hs⟩ := wh_last e3' (by omega)
    have HS := Lib.hid hs
    have E3 := Lib.hid e3'
    have HF2 := Lib.hid hf2
    have hu1 : (u : Int) ≤ 2147483648 := by omega
    have hu0 : (2147483646 : Int) ≤ u := by omega
    have HU := Lib.hid hu
    clear hs e3 e3' hf2 hu
    go_enter Try.func7, Try.ntmps7
    go_wp2_with fail
    (with_reducible refine keyN.mono ?_); rintro e w2 ⟨rfl, hT⟩
    have H2 := Lib.hid hT
    clear keyN hT
    go_wp2_with fail
    rw [EN1.out, EN2.out, EN3.out]
    have key := H2.out.kadd x 2147483646 x 2147483646 f1 rfl hx ⟨by decide, by decide⟩ (by rw [Ty.of_nil]; rfl) (by rw [E0.out]; decide) HF1.out
    go_wp2_with fail
    (with_reducible refine key.mono ?_); rintro e w3 ⟨rfl, h9, -⟩
    have H3 := Lib.hid h9
    clear key h9 H2
    have key := H3.out.kadd y k y (f1 y + k) f2 rfl hy ⟨by omega, by omega⟩ (by omega) (by rw [E1.out]; omega) HF2.out
    go_wp2_with fail
    (with_reducible refine key.mono ?_); rintro e w4 ⟨rfl, h9, -⟩
    have H4 := Lib.hid h9
    clear key h9 H3
    have key := H4.out.told
    go_wp2_with fail
    (with_reducible refine key.mono ?_); rintro e w5 ⟨rfl, h9⟩
    have H5 := Lib.hid h9
    clear key h9 H4
    have key := H5.out.klen u (by rw [E3.out])
    go_wp2_with fail
    (with_reducible refine key.mono ?_); rintro e w6 ⟨rfl, h9, -⟩
    have H6 := Lib.hid h9
    clear key h9 H5
    have key := H6.out.klen u (by rw [E3.out])
    go_wp2_with fail
    (with_reducible refine key.mono ?_); rintro e w7 ⟨rfl, h9, -⟩
    have H7 := Lib.hid h9
    clear key h9 H6
    have key := H7.out.kwhich ((u : Int) - 1) s HS.out
    go_wp2_with fail
    (with_reducible refine key.mono ?_); rintro e w8 ⟨rfl, h9, -⟩
    have H8 := Lib.hid h9
    clear key h9 H7
    have key := H8.out.klen u (by rw [E3.out])
    go_wp2_with fail
    (with_reducible refine key.mono ?_); rintro e w9 ⟨rfl, h9, -⟩
    have H9 := Lib.hid h9
    clear key h9 H8
    have key := H9.out.kwhich u (-1) (Ty.wh_none (.inr (by rw [E3.out]; exact Int.le_refl _)))
    go_wp2_with fail
    (with_reducible refine key.mono ?_); rintro e w10 ⟨rfl, h9, -⟩
    have H10 := Lib.hid h9
    clear key h9 H9
    go_wp2_with fail
    go_ret
    exact ⟨rfl, by have := H10.out.below; rw [← HB.out] at this; exact this⟩
end Go.Proofs.Ythpopoimnbleeaa
