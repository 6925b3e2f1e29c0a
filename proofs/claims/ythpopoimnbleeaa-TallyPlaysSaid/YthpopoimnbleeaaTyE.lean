/- Stage 8's statements as walks: TallyWhich. -/
import Derived.Test.YthpopoimnbleeaaTyD
namespace Go.Proofs.Ythpopoimnbleeaa
open Go Go.RowKit Go.ChangeAt

theorem div_any (z : Int) (d m : Nat) (h0 : 0 < m) (h1 : m ≤ 1000000) : ∃ n : Nat, n < m ∧ RowKit.wrap64 ((IntKind.u64.wrap ((IntKind.u64.wrap z).tdiv d)).tmod m) = (n : Int) := by
  rw [IntKind.wrap_u64 z]
  have h2 : 0 ≤ z % 18446744073709551616 := Int.emod_nonneg _ (by decide)
  generalize z % 18446744073709551616 = u at *
  rw [IntKind.wrap_u64]
  generalize u.tdiv d = q
  have h2 : 0 ≤ q % 18446744073709551616 := Int.emod_nonneg _ (by decide)
  rw [Int.tmod_eq_emod_of_nonneg h2]
  generalize q % 18446744073709551616 = x at h2 ⊢
  have h3 : 0 ≤ x % (m : Int) := Int.emod_nonneg _ (by omega)
  have h4 : x % (m : Int) < m := Int.emod_lt_of_pos _ (by omega)
  refine ⟨(x % m).toNat, by omega, ?_⟩
  unfold RowKit.wrap64
  omega
theorem i64_wrap (x : Int) : IntKind.i64.wrap x = RowKit.wrap64 x := (IntKind.wrap_i64 x).trans (by unfold RowKit.wrap64; rfl)
theorem mod_var (z : Int) (u : Nat) (h0 : 0 < u) (h1 : u ≤ 1000000) : ∃ p : Nat, p < u ∧ RowKit.wrap64 ((IntKind.u64.wrap z).tmod (u : Int)) = (p : Int) := mod_any z u h0 h1
theorem Tst.drew {B : Nat} {W w : World} {t : Nat} {f : Ty.Cnt} (h : Tst B W w t f) : Tst B W w.drew t f := h.beside ((Below.refl _ _).drew)
set_option maxHeartbeats 3200000 in
set_option maxRecDepth 100000 in
theorem tallywhich_w (a : Option Addr) (n cap : Nat) (zs : List Int) (k0 : Int) (W : World) (hrow : IsRow .i64 W a n cap zs) (_ : (Lit.int .i64 k0).wf = true) :
    Calls Try.prog 3 #[.slice a n cap, .int .i64 k0] W fun e w' => e = .returned (.bool true) ∧ Below W.heap.size W w' := by
  have hz := RdZ.of_row hrow
  have hn := hz.1
  unfold maxLen at hn
  have HZ := Lib.hid hz.2
  clear hz hrow
  have keyN := knew8 W (RdL.nil W) (n := 0) rfl (by decide) (fun s hs => by cases hs)
  obtain ⟨B, hB⟩ : ∃ B, W.heap.size = B := ⟨_, rfl⟩
  rw [hB] at keyN
  have HB := Lib.hid hB
  have E0 := Lib.hid all_none
  clear hB
  go_enter Try.func3, Try.ntmps3
  go_wp2_with fail
  (with_reducible refine keyN.mono ?_); rintro e w2 ⟨rfl, hT⟩
  have H2 := Lib.hid hT
  clear keyN hT
  go_wp2_with fail
  go_loopw [7] (fun i wr => ∃ (k : Nat) (f : Ty.Cnt), k ≤ n ∧ k ≤ 12 ∧ i = .int .i64 k ∧ Ty.all f ≤ 49 * k ∧ Tst B W wr B f) (fun i _ => n - (intOf i).toNat)
  case atStart => exact ⟨0, _, Nat.zero_le _, Nat.zero_le _, rfl, by rw [E0.out]; exact Nat.zero_le _, H2.out⟩
  case round =>
    clear H2
    obtain ⟨k, f, hk, hk2, rfl, ha, hT⟩ := hrel
    by_cases hlt : k < n ∧ k < 12
    · have h1 : (k : Int) < n := by omega
      have h2 : (k : Int) < 12 := by omega
      obtain ⟨b, off, rfl, hbb, hc⟩ := HZ.out (by omega)
      obtain ⟨z, hzc⟩ := hc k hlt.1
      have c0 : wr.cell? ⟨b, off + k, none⟩ = _ := (hT.below.cell (p := ⟨b, off + k, none⟩) (by rw [← HB.out]; exact hbb)).trans hzc
      obtain ⟨x, hx, en1⟩ := mod_any z 257 (by decide) (by decide)
      change RowKit.wrap64 ((IntKind.u64.wrap z).tmod 257) = _ at en1
      obtain ⟨y, hy, en2⟩ := div_any z 257 50 (by decide) (by decide)
      change RowKit.wrap64 ((IntKind.u64.wrap ((IntKind.u64.wrap z).tdiv 257)).tmod 50) = _ at en2
      have en1' : IntKind.i64.wrap ((IntKind.u64.wrap z).tmod 257) = (x : Int) := by rw [← en1]; exact i64_wrap _
      have en2' : IntKind.i64.wrap ((IntKind.u64.wrap ((IntKind.u64.wrap z).tdiv 257)).tmod 50) = (y : Int) := by rw [← en2]; exact i64_wrap _
      obtain ⟨f', hf'⟩ : ∃ f', Ty.add f x (f x + y) = f' := ⟨_, rfl⟩
      have key := hT.drew.kadd x y x (f x + y) f' rfl hx ⟨by omega, by omega⟩ (by omega) (by omega) hf'
      have ha' : Ty.all f' ≤ 49 * (k + 1) := by
        have e1 := Ty.all_add f (s := x) (f x + y) hx
        rw [hf'] at e1
        omega
      have HA' := Lib.hid ha'
      have HLT := Lib.hid hlt
      clear hc hzc hT hf' ha' ha hlt
      go_wp2_with fail
      go_region_law (first
        | (go_simp; (go_at_call 9; (with_reducible refine key.mono ?_); rintro e w3 ⟨rfl, h9, -⟩)))
      all_goals
        have H3 := Lib.hid h9
        clear key h9
        go_wp2_with fail
        go_roundw
        case rel => exact ⟨k + 1, f', by have := HLT.out; omega, by have := HLT.out; omega, by go_num, HA'.out, H3.out⟩
        case measure => simp [intOf]; have := HLT.out; omega
    · have hcut : ¬ (k : Int) < n ∨ ((k : Int) < n ∧ ¬ (k : Int) < 12) := by omega
      obtain ⟨u, hu⟩ : ∃ u, Ty.all f = u := ⟨_, rfl⟩
      rw [hu] at ha
      have HU := Lib.hid hu
      have hu6 : u ≤ 1000000 := by omega
      have hu5 : (u : Int) ≤ 1000000 := by omega
      have HT := Lib.hid hT
      clear hu hT hlt hk ha hk2
      by_cases hu0 : u = 0
      · have hu1 : (u : Int) = 0 := by omega
        rw [hu1] at hu5
        rcases hcut with h1 | ⟨h1, h2⟩
        all_goals
          have key := HT.out.klen 0 (by rw [HU.out, hu0]; rfl)
          have HU2 : Ty.all f = 0 := HU.out.trans hu0
          have HU2 := Lib.hid HU2
          clear hu0 hu1 HU
          go_wp2_with fail
          (with_reducible refine key.mono ?_); rintro e w3 ⟨rfl, h9, -⟩
          have H3 := Lib.hid h9
          clear key h9
          have key := H3.out.told
          clear H3
          go_wp2_with fail
          (with_reducible refine key.mono ?_); rintro e w4 ⟨rfl, h9⟩
          have H4 := Lib.hid h9
          clear key h9
          have key := H4.out.kwhich 0 (-1) (Ty.wh_none (.inr (by rw [HU2.out]; exact Int.le_refl _)))
          clear H4
          go_wp2_with fail
          (with_reducible refine key.mono ?_); rintro e w5 ⟨rfl, h9, -⟩
          have H5 := Lib.hid h9
          clear key h9
          go_wp2_with fail
          go_ret
          exact ⟨rfl, by have := H5.out.below; rw [← HB.out] at this; exact this⟩
      · have hu1 : ¬ (u : Int) = 0 := by omega
        have hu2 : 0 ≤ (u : Int) := by omega
        obtain ⟨p, hp, en1⟩ := mod_var k0 u (by omega) hu6
        obtain ⟨s, hs, hs1, hs2, hs3⟩ := Ty.wh_is (f := f) (k := p) (by rw [HU.out]; exact hp)
        have e2 : Ty.bel f (s + 1) = Ty.bel f s + f s := rfl
        obtain ⟨b1, hb1⟩ : ∃ b1, Ty.bel f s = b1 := ⟨_, rfl⟩
        obtain ⟨b2, hb2⟩ : ∃ b2, Ty.bel f (s + 1) = b2 := ⟨_, rfl⟩
        obtain ⟨c, hc⟩ : ∃ c, f s = c := ⟨_, rfl⟩
        rw [hb1, hb2, hc] at e2
        rw [hb1] at hs2
        rw [hb2] at hs3
        have hc0 : (0 : Int) < c := by omega
        have EN1 := Lib.hid en1
        have HS := Lib.hid hs
        have HB1 := Lib.hid hb1
        have HB2 := Lib.hid hb2
        have HC := Lib.hid hc
        have hs2' : (b1 : Int) ≤ p := by omega
        have hs3' : (p : Int) < b2 := by omega
        have hs1' : (s : Int) < 257 := by omega
        clear en1 hs hb1 hb2 hc hs2 hs3 e2 hu0 hp
        have CL : Ty.clamp ((s : Int) + 1) = s + 1 := by rw [show ((s : Int) + 1) = ((s + 1 : Nat) : Int) by omega]; exact clamp_nat (by omega)
        have CL := Lib.hid CL
        rcases hcut with h1 | ⟨h1, h2⟩
        all_goals
          have key := HT.out.klen u (by rw [HU.out])
          go_wp2_with fail
          (with_reducible refine key.mono ?_); rintro e w3 ⟨rfl, h9, -⟩
          have H3 := Lib.hid h9
          clear key h9
          go_wp2_with fail
          rw [EN1.out]
          have key := H3.out.kwhich p s HS.out
          clear H3
          (with_reducible refine key.mono ?_); rintro e w4 ⟨rfl, h9, -⟩
          have H4 := Lib.hid h9
          clear key h9
          have key := H4.out.told
          clear H4
          go_wp2_with fail
          (with_reducible refine key.mono ?_); rintro e w5 ⟨rfl, h9⟩
          have H5 := Lib.hid h9
          clear key h9
          have key := H5.out.kbelow s b1 (by rw [clamp_nat (by omega), HB1.out])
          clear H5
          go_wp2_with fail
          (with_reducible refine key.mono ?_); rintro e w6 ⟨rfl, h9, -⟩
          have H6 := Lib.hid h9
          clear key h9
          have key := H6.out.kbelow ((s : Int) + 1) b2 (by rw [CL.out, HB2.out])
          clear H6
          go_wp2_with fail
          (with_reducible refine key.mono ?_); rintro e w7 ⟨rfl, h9, -⟩
          have H7 := Lib.hid h9
          clear key h9
          have key := H7.out.kof s s c rfl hs1 (by rw [HC.out])
          clear H7
          go_wp2_with fail
          (with_reducible refine key.mono ?_); rintro e w8 ⟨rfl, h9, -⟩
          have H8 := Lib.hid h9
          clear key h9
          have key := H8.out.kbelow 257 u (by rw [← HU.out]; rfl)
          clear H8
          go_wp2_with fail
          (with_reducible refine key.mono ?_); rintro e w9 ⟨rfl, h9, -⟩
          have H9 := Lib.hid h9
          clear key h9
          go_wp2_with fail
          go_ret
          exact ⟨rfl, by have := H9.out.below; rw [← HB.out] at this; exact this⟩
end Go.Proofs.Ythpopoimnbleeaa
