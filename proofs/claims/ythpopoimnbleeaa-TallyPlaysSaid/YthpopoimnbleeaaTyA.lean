/- Tallies in memory, and what package tally's functions do: contracts of the walk. -/
import Derived.Test.YthpopoimnbleeaaTy
import Derived.Test.YthpopoimnbleeaaInt
import Derived.Shelf.SlSorted.Search
namespace Go.Proofs.Ythpopoimnbleeaa
open Go Go.RowKit Go.ChangeAt

/-- Block t of the memory holds the 258 numbers b. -/
def Tab (w : World) (t : Nat) (b : Nat → Int) : Prop :=
  ∃ c, w.heap[t]? = some (.cells c 44 (0, 0)) ∧ c.size = 258 ∧ ∀ i, i ≤ 257 → c[i]? = some (.int .i64 (b i))
theorem Tab.cell {w : World} {t : Nat} {b : Nat → Int} (h : Tab w t b) {i : Nat} (hi : i ≤ 257) : w.cell? ⟨t, i, none⟩ = some (.int .i64 (b i)) := by
  obtain ⟨c, h1, _, h3⟩ := h
  exact (cell_of h1).trans (h3 i hi)
theorem Tab.free {w : World} {t : Nat} {b : Nat → Int} (h : Tab w t b) (i : Nat) : w.frozen? ⟨t, i, none⟩ = false := by
  obtain ⟨c, h1, _, _⟩ := h
  exact free_of h1
theorem Tab.lt {w : World} {t : Nat} {b : Nat → Int} (h : Tab w t b) : t < w.heap.size := by
  obtain ⟨c, h1, _, _⟩ := h
  exact (Array.getElem?_eq_some_iff.1 h1).1
theorem Tab.stay {w w' : World} {t : Nat} {b : Nat → Int} {S : Nat → Prop} (h : Tab w t b) (hs : Stay S w w') (hn : ¬ S t) : Tab w' t b := by
  obtain ⟨c, h1, h2, h3⟩ := h
  exact ⟨c, hs.kept h1 hn, h2, h3⟩
theorem Tab.below {w w' : World} {t : Nat} {b : Nat → Int} (h : Tab w t b) (hs : Below w.heap.size w w') : Tab w' t b := h.stay (Stay.of_below (S := fun _ => False) hs) (fun e => e)
theorem Tab.set {w : World} {t : Nat} {b : Nat → Int} (h : Tab w t b) (i : Nat) (v : Int) : Tab (w.setCell ⟨t, i, none⟩ (.int .i64 v)) t (fun j => if j = i then v else b j) := by
  obtain ⟨c, h1, h2, h3⟩ := h
  refine ⟨_, set_of h1 _, by rw [Array.size_setIfInBounds]; exact h2, fun j hj => ?_⟩
  show _ = some (Value.int .i64 (if j = i then v else b j))
  by_cases e : j = i
  · subst e
    rw [if_pos rfl, Array.getElem?_setIfInBounds_self_of_lt (by omega)]
  · rw [if_neg e, Array.getElem?_setIfInBounds_ne (Ne.symm e)]
    exact h3 j hj
theorem Tab.congr {w : World} {t : Nat} {b b' : Nat → Int} (h : Tab w t b) (e : ∀ i, i ≤ 257 → b i = b' i) : Tab w t b' := by
  obtain ⟨c, h1, h2, h3⟩ := h
  exact ⟨c, h1, h2, fun i hi => by rw [h3 i hi, e i hi]⟩
/-- Of a symbol. -/
theorem tis_yes (s : Int) (w : World) (h0 : 0 ≤ s) (h1 : s < 257) : Calls Try.prog 17 #[.int .i64 s] w fun e w' => e = .returned (.bool true) ∧ w = w' := by
  have d0 : decide (0 ≤ s) = true := decide_eq_true h0
  have d1 : decide (s < 257) = true := decide_eq_true h1
  go_enter Try.func17, Try.ntmps17
  go_wp2
  go_ret
  exact ⟨rfl, rfl⟩
theorem tis_no (s : Int) (w : World) (h : ¬ (0 ≤ s ∧ s < 257)) : Calls Try.prog 17 #[.int .i64 s] w fun e w' => e = .returned (.bool false) ∧ w = w' := by
  by_cases h0 : 0 ≤ s
  · have h1 : ¬ s < 257 := by omega
    clear h
    go_enter Try.func17, Try.ntmps17
    go_wp2
    go_ret
    exact ⟨rfl, rfl⟩
  · clear h
    go_enter Try.func17, Try.ntmps17
    go_wp2
    go_ret
    exact ⟨rfl, rfl⟩
theorem clamp_at (q : Int) : Ty.clamp q = (min (max q 0) 257).toNat := by
  unfold Ty.clamp
  split
  · omega
  · split <;> omega
theorem clamp_le (q : Int) : Ty.clamp q ≤ 257 := by rw [clamp_at]; omega
theorem clamp_nat {n : Nat} (h : n ≤ 257) : Ty.clamp (n : Int) = n := by rw [clamp_at]; omega
set_option maxRecDepth 100000 in
theorem tbelow_raw {b : Nat → Int} {t : Nat} (q : Int) (w : World) (h : Tab w t b) : Calls Try.prog 13 #[.pointer (some ⟨t, 0, none⟩), .int .i64 q] w fun e w' => e = .returned (.int .i64 (b (Ty.clamp q))) ∧ w = w' := by
  have c0 : w.cell? ⟨t, (min (max q 0) 257).toNat, none⟩ = some (.int .i64 (b (Ty.clamp q))) := by
    rw [← clamp_at]; exact h.cell (clamp_le q)
  clear h
  obtain ⟨v, hv⟩ : ∃ v, b (Ty.clamp q) = v := ⟨_, rfl⟩
  rw [hv] at c0 ⊢
  clear hv
  go_enter Try.func13, Try.ntmps13
  go_wp2
  go_ret
  exact ⟨rfl, rfl⟩
theorem tbelow_nil (q : Int) (w : World) : Calls Try.prog 13 #[.pointer none, .int .i64 q] w fun e w' => e = .returned (.int .i64 0) ∧ w = w' := by
  go_enter Try.func13, Try.ntmps13
  go_wp2
  go_ret
  exact ⟨rfl, rfl⟩
theorem tlen_raw {b : Nat → Int} {t : Nat} (w : World) (h : Tab w t b) : Calls Try.prog 10 #[.pointer (some ⟨t, 0, none⟩)] w fun e w' => e = .returned (.int .i64 (b 257)) ∧ w = w' := by
  have key := tbelow_raw 257 w h
  rw [show Ty.clamp 257 = 257 from rfl] at key
  go_enter Try.func10, Try.ntmps10
  go_wp2_with fail
  (with_reducible refine key.mono ?_); rintro e w' ⟨rfl, rfl⟩
  go_wp2_with fail
  go_ret
  exact ⟨rfl, rfl⟩
theorem tlen_nil (w : World) : Calls Try.prog 10 #[.pointer none] w fun e w' => e = .returned (.int .i64 0) ∧ w = w' := by
  have key := tbelow_nil 257 w
  go_enter Try.func10, Try.ntmps10
  go_wp2_with fail
  (with_reducible refine key.mono ?_); rintro e w' ⟨rfl, rfl⟩
  go_wp2_with fail
  go_ret
  exact ⟨rfl, rfl⟩
set_option maxRecDepth 100000 in
theorem tof_raw {b : Nat → Int} {t : Nat} {d : Int} (k : Int) (n : Nat) (w : World) (h : Tab w t b) (hk : k = n) (hn : n < 257) (hv : b (n + 1) - b n = d) (h0 : 0 ≤ b n ∧ b n ≤ b (n + 1) ∧ b (n + 1) ≤ 2147483648) : Calls Try.prog 14 #[.pointer (some ⟨t, 0, none⟩), .int .i64 k] w fun e w' => e = .returned (.int .i64 d) ∧ ∃ m, w' = w.drewN m := by
  subst hk
  have k1 := tis_yes (n : Int) w (by omega) (by omega)
  have c0 := h.cell (i := n) (by omega)
  have c1 := h.cell (i := n + 1) (by omega)
  obtain ⟨x, hx⟩ : ∃ x, b n = x := ⟨_, rfl⟩
  obtain ⟨y, hy⟩ : ∃ y, b (n + 1) = y := ⟨_, rfl⟩
  rw [hx] at c0 hv h0
  rw [hy] at c1 hv h0
  obtain ⟨h1, h2, h3⟩ := h0
  have HV := Lib.hid hv
  clear h hx hy hv
  go_enter Try.func14, Try.ntmps14
  go_wp2_with fail
  (with_reducible refine k1.mono ?_); rintro e w' ⟨rfl, rfl⟩
  clear k1
  go_wp2_with fail
  go_quiet (fail)
  go_wp2
  go_ret
  exact ⟨by rw [HV.out]; rfl, _, rfl⟩
theorem tof_nil (k : Int) (w : World) : Calls Try.prog 14 #[.pointer none, .int .i64 k] w fun e w' => e = .returned (.int .i64 0) ∧ w = w' := by
  go_enter Try.func14, Try.ntmps14
  go_wp2
  go_ret
  exact ⟨rfl, rfl⟩
theorem tof_no {t : Nat} (k : Int) (w : World) (h : ¬ (0 ≤ k ∧ k < 257)) : Calls Try.prog 14 #[.pointer (some ⟨t, 0, none⟩), .int .i64 k] w fun e w' => e = .returned (.int .i64 0) ∧ w = w' := by
  have k1 := tis_no k w h
  clear h
  go_enter Try.func14, Try.ntmps14
  go_wp2_with fail
  (with_reducible refine k1.mono ?_); rintro e w' ⟨rfl, rfl⟩
  clear k1
  go_wp2_with fail
  go_ret
  exact ⟨rfl, rfl⟩

/-- Block t of the memory is a tally of the counts f. -/
structure Tal (w : World) (t : Nat) (f : Ty.Cnt) : Prop where
  tab : Tab w t (fun i => (Ty.bel f i : Int))
  few : Ty.all f ≤ 2147483648
theorem Tal.stay {w w' : World} {t : Nat} {f : Ty.Cnt} {S : Nat → Prop} (h : Tal w t f) (hs : Stay S w w') (hn : ¬ S t) : Tal w' t f := ⟨h.tab.stay hs hn, h.few⟩
theorem Tal.below {w w' : World} {t : Nat} {f : Ty.Cnt} (h : Tal w t f) (hs : Below w.heap.size w w') : Tal w' t f := ⟨h.tab.below hs, h.few⟩
theorem Tal.lt {w : World} {t : Nat} {f : Ty.Cnt} (h : Tal w t f) : t < w.heap.size := h.tab.lt
theorem Tal.bel_le {w : World} {t : Nat} {f : Ty.Cnt} (h : Tal w t f) {n : Nat} (hn : n ≤ 257) : Ty.bel f n ≤ 2147483648 := Nat.le_trans (Ty.bel_mono f hn) h.few
theorem tbelow {f : Ty.Cnt} {t : Nat} (q : Int) (w : World) (h : Tal w t f) : Calls Try.prog 13 #[.pointer (some ⟨t, 0, none⟩), .int .i64 q] w fun e w' => e = .returned (.int .i64 (Ty.bel f (Ty.clamp q))) ∧ w = w' := tbelow_raw q w h.tab
theorem tlen {f : Ty.Cnt} {t : Nat} (w : World) (h : Tal w t f) : Calls Try.prog 10 #[.pointer (some ⟨t, 0, none⟩)] w fun e w' => e = .returned (.int .i64 (Ty.all f)) ∧ w = w' := tlen_raw w h.tab
theorem tof {f : Ty.Cnt} {t : Nat} (k : Int) (n : Nat) (w : World) (h : Tal w t f) (hk : k = n) (hn : n < 257) : Calls Try.prog 14 #[.pointer (some ⟨t, 0, none⟩), .int .i64 k] w fun e w' => e = .returned (.int .i64 (f n)) ∧ ∃ m, w' = w.drewN m := by
  have e : Ty.bel f (n + 1) = Ty.bel f n + f n := rfl
  have h1 := h.bel_le (n := n + 1) (by omega)
  exact tof_raw k n w h.tab hk hn (by show (Ty.bel f (n + 1) : Int) - (Ty.bel f n : Int) = _; omega) ⟨by show (0 : Int) ≤ (Ty.bel f n : Int); omega, by show (Ty.bel f n : Int) ≤ (Ty.bel f (n + 1) : Int); omega, by show (Ty.bel f (n + 1) : Int) ≤ _; omega⟩

abbrev I64 (k : Int) : Prop := -9223372036854775808 ≤ k ∧ k ≤ 9223372036854775807
theorem tadd_nil (s k : Int) (w : World) : Calls Try.prog 9 #[.pointer none, .int .i64 s, .int .i64 k] w fun e w' => e = .returned (.int .i64 6) ∧ w = w' := by
  go_enter Try.func9, Try.ntmps9
  go_wp2
  go_ret
  exact ⟨rfl, rfl⟩
theorem tadd_arg {t : Nat} (s k : Int) (w : World) (h : ¬ (0 ≤ s ∧ s < 257)) : Calls Try.prog 9 #[.pointer (some ⟨t, 0, none⟩), .int .i64 s, .int .i64 k] w fun e w' => e = .returned (.int .i64 1) ∧ w = w' := by
  have k1 := tis_no s w h
  clear h
  go_enter Try.func9, Try.ntmps9
  go_wp2_with fail
  (with_reducible refine k1.mono ?_); rintro e w' ⟨rfl, rfl⟩
  clear k1
  go_wp2_with fail
  go_ret
  exact ⟨rfl, rfl⟩
theorem tadd_range {f : Ty.Cnt} {t : Nat} (s k : Int) (n : Nat) (w : World) (h : Tal w t f) (hs : s = n) (hn : n < 257) (hk : I64 k) (hr : (f n : Int) + k < 0 ∨ 2147483648 < (Ty.all f : Int) + k) : Calls Try.prog 9 #[.pointer (some ⟨t, 0, none⟩), .int .i64 s, .int .i64 k] w fun e w' => e = .returned (.int .i64 2) ∧ ∃ m, w' = w.drewN m := by
  have k1 := tis_yes s w (by omega) (by omega)
  have k2 := tof s n w h hs hn
  have hf := Nat.le_trans (Ty.of_le_all f hn) h.few
  have ha := h.few
  have hd : ∀ m, Tal (w.drewN m) t f := fun m => h.below ((Below.refl _ _).drewN m)
  have HD := Lib.hid hd
  obtain ⟨hk0, hk1⟩ := hk
  obtain ⟨v, hv⟩ : ∃ v, f n = v := ⟨_, rfl⟩
  obtain ⟨u, hu⟩ : ∃ u, Ty.all f = u := ⟨_, rfl⟩
  rw [hv] at k2 hf hr
  rw [hu] at ha hr
  have HU := Lib.hid hu
  clear h hv hu hd hs
  by_cases h1 : k < -(v : Int)
  · clear hr
    go_enter Try.func9, Try.ntmps9
    go_wp2_with fail
    (with_reducible refine k1.mono ?_); rintro e w' ⟨rfl, rfl⟩
    clear k1
    go_wp2_with fail
    (with_reducible refine k2.mono ?_); rintro e w' ⟨rfl, m, rfl⟩
    clear k2
    go_wp2_with fail
    go_ret
    exact ⟨rfl, m, rfl⟩
  · have h2 : 2147483648 - (u : Int) < k := by omega
    clear hr
    go_enter Try.func9, Try.ntmps9
    go_wp2_with fail
    (with_reducible refine k1.mono ?_); rintro e w' ⟨rfl, rfl⟩
    clear k1
    go_wp2_with fail
    (with_reducible refine k2.mono ?_); rintro e w' ⟨rfl, m, rfl⟩
    clear k2
    have k3 := tlen _ (HD.out m)
    rw [HU.out] at k3
    go_wp2_with fail
    (with_reducible refine k3.mono ?_); rintro e w' ⟨rfl, rfl⟩
    clear k3
    go_wp2_with fail
    go_ret
    exact ⟨rfl, m, rfl⟩
/-- What the cells are while a number is added. -/
def adg (f : Ty.Cnt) (n : Nat) (k : Int) (g : Nat) : Nat → Int := fun j => if n < j ∧ j < g then (Ty.bel f j : Int) + k else (Ty.bel f j : Int)
set_option maxRecDepth 100000 in
set_option maxHeartbeats 1600000 in
theorem tadd {f : Ty.Cnt} {t : Nat} (s k : Int) (n v : Nat) (w : World) (h : Tal w t f) (hs : s = n) (hn : n < 257) (hk : I64 k) (hv : (f n : Int) + k = v) (hr : (Ty.all f : Int) + k ≤ 2147483648) : Calls Try.prog 9 #[.pointer (some ⟨t, 0, none⟩), .int .i64 s, .int .i64 k] w fun e w' => e = .returned (.int .i64 0) ∧ Tal w' t (Ty.add f n v) ∧ Stay (· = t) w w' := by
  have hs0 : 0 ≤ s := by omega
  have hs1 : s < 257 := by omega
  have k1 := tis_yes s w hs0 hs1
  have k2 := tof s n w h hs hn
  have hfa := Ty.of_le_all f hn
  have hf := Nat.le_trans hfa h.few
  have ha := h.few
  have hd : ∀ m, Tal (w.drewN m) t f := fun m => h.below ((Below.refl _ _).drewN m)
  have HD := Lib.hid hd
  have hcell : ∀ g, n < g → g ≤ 257 → ∃ y : Nat, Ty.bel f g = y ∧ 0 ≤ (y : Int) + k ∧ (y : Int) + k ≤ 2147483648 := fun g h1 h2 => by
    have e1 := Ty.bel_at f h1
    have e2 := Ty.bel_mono f h2
    have e3 : Ty.all f = Ty.bel f 257 := rfl
    exact ⟨_, rfl, by omega, by omega⟩
  have HC := Lib.hid hcell
  have hfin : ∀ wr, Tab wr t (adg f n k 258) → Tal wr t (Ty.add f n v) := fun wr h9 => by
    refine ⟨h9.congr (fun i hi => ?_), ?_⟩
    · have e1 := Ty.bel_add f n v i
      unfold adg
      show (if n < i ∧ i < 258 then (Ty.bel f i : Int) + k else (Ty.bel f i : Int)) = (Ty.bel (Ty.add f n v) i : Int)
      by_cases h8 : n < i
      · rw [if_pos h8, if_pos h8] at e1
        rw [if_pos ⟨h8, by omega⟩]
        omega
      · rw [if_neg h8, if_neg h8] at e1
        rw [if_neg (by omega)]
        omega
    · have := Ty.all_add f v hn
      omega
  have HF := Lib.hid hfin
  obtain ⟨hk0, hk1⟩ := hk
  have h1 : ¬ k < -(f n : Int) := by omega
  have h2 : ¬ 2147483648 - (Ty.all f : Int) < k := by omega
  obtain ⟨x, hx⟩ : ∃ x, f n = x := ⟨_, rfl⟩
  obtain ⟨u, hu⟩ : ∃ u, Ty.all f = u := ⟨_, rfl⟩
  rw [hx] at k2 hf h1
  rw [hu] at ha h2
  have HU := Lib.hid hu
  have HS := Lib.hid hs
  clear h hx hu hd hcell hfin hfa hr hv
  subst hs
  go_enter Try.func9, Try.ntmps9
  go_wp2_with fail
  (with_reducible refine k1.mono ?_); rintro e w' ⟨rfl, rfl⟩
  clear k1
  go_wp2_with fail
  (with_reducible refine k2.mono ?_); rintro e w' ⟨rfl, m, rfl⟩
  clear k2
  have k3 := tlen _ (HD.out m)
  rw [HU.out] at k3
  go_wp2_with fail
  (with_reducible refine k3.mono ?_); rintro e w' ⟨rfl, rfl⟩
  clear k3
  go_wp2_with fail
  go_loopw [7] (fun i wr => ∃ g : Nat, n < g ∧ g ≤ 258 ∧ i = .int .i64 g ∧ Tab wr t (adg f n k g) ∧ Stay (· = t) w wr) (fun i _ => 258 - (intOf i).toNat)
  case atStart => exact ⟨n + 1, by omega, by omega, by go_num, (HD.out m).tab.congr (fun i _ => by unfold adg; rw [if_neg (by omega)]), (Stay.refl _ _).drewN m⟩
  case round =>
    obtain ⟨g, hg0, hg1, rfl, hT, hS⟩ := hrel
    by_cases hlt : g ≤ 257
    · have hlt' : (g : Int) ≤ 257 := by omega
      obtain ⟨y, hy, hy0, hy1⟩ := HC.out g hg0 hlt
      have c0 := hT.cell hlt
      have c1 := hT.free g
      have e0 : adg f n k g g = (y : Int) := by unfold adg; rw [if_neg (by omega), hy]
      rw [e0] at c0
      have hT2 : Tab (wr.setCell ⟨t, g, none⟩ (.int .i64 ((y : Int) + k))) t (adg f n k (g + 1)) := (hT.set g _).congr (fun i hi => by
        show (if i = g then (y : Int) + k else adg f n k g i) = _
        unfold adg
        by_cases h8 : i = g
        · subst h8; rw [if_pos rfl, if_pos ⟨hg0, by omega⟩, hy]
        · rw [if_neg h8]
          by_cases h7 : n < i ∧ i < g
          · rw [if_pos h7, if_pos ⟨h7.1, by omega⟩]
          · rw [if_neg h7, if_neg (by omega)])
      have hS2 : Stay (· = t) w (wr.setCell ⟨t, g, none⟩ (.int .i64 ((y : Int) + k))) := hS.setCell (.inr rfl) _
      have HT2 := Lib.hid hT2
      have HS2 := Lib.hid hS2
      clear hT hS hT2 hS2 hy e0
      go_wp2_with fail
      go_region
      all_goals go_wp2
      all_goals go_roundw
      case rel => exact ⟨g + 1, by omega, by omega, by go_num, HT2.out.below ((Below.refl _ _).drew), HS2.out.drew⟩
      case measure => simp [intOf]; omega
    · have hlt' : ¬ (g : Int) ≤ 257 := by omega
      have hg : g = 258 := by omega
      subst hg
      have HT := Lib.hid (HF.out wr hT)
      have HS := Lib.hid hS
      clear hT hS
      go_wp2_with fail
      go_ret
      exact ⟨rfl, HT.out, HS.out⟩

theorem infoT : (Try.prog.info? 44).map (fun i => i.zero) = some (some (.agg (Array.replicate 258 (.int .i64 0)))) := by kernel_rfl
theorem zeroT : ∃ zs : Array Value, (∀ w, (zeroValue 44).run Try.prog w = .ok (.agg zs) w) ∧ zs.size = 258 ∧ ∀ j, j ≤ 257 → zs[j]? = some (.int .i64 0) := by
  refine ⟨Array.replicate 258 (.int .i64 0), fun w => ?_, Array.size_replicate, fun j hj => by rw [Array.getElem?_replicate, if_pos (by omega)]⟩
  obtain ⟨i, hi, hz⟩ := Option.map_eq_some_iff.1 infoT
  simp [zeroValue, typeInfo, hi, hz]
theorem all_good {l : List Int} (h : ∀ s ∈ l, 0 ≤ s ∧ s ≤ 256) : Ty.all (Ty.of l) = l.length := by
  have e : (l.map Int.toNat).map (fun x : Nat => (x : Int)) = l := by
    rw [List.map_map]
    conv => rhs; rw [← List.map_id l]
    refine List.map_congr_left fun x hx => ?_
    have := h x hx
    show ((x.toNat : Nat) : Int) = x
    omega
  have h2 := Ty.all_of l.length (l.map Int.toNat) (List.length_map _) (fun x hx => by
    obtain ⟨y, hy, rfl⟩ := List.mem_map.1 hx
    have := h y hy
    omega)
  rw [e] at h2
  exact h2
/-- What the cells are while symbols are counted, while the counts are summed. -/
def shc (f : Ty.Cnt) : Nat → Int := fun j => if j = 0 then 0 else (f (j - 1) : Int)
def pfc (f : Ty.Cnt) (k : Nat) : Nat → Int := fun j => if j ≤ k then (Ty.bel f j : Int) else (f (j - 1) : Int)
theorem getD_take_succ {l : List Int} {k : Nat} (hk : k < l.length) : l.take (k + 1) = l.take k ++ [l.getD k 0] := by
  rw [List.take_succ_eq_append_getElem hk, List.getD_eq_getElem?_getD, List.getElem?_eq_getElem hk]
  rfl
theorem of_mono (l : List Int) (m s : Nat) : Ty.of (l.take m) s ≤ m := by
  have h1 : List.count (s : Int) (l.take m) ≤ (l.take m).length := List.count_le_length
  have h2 : (l.take m).length ≤ m := by rw [List.length_take]; omega
  exact Nat.le_trans h1 h2
set_option maxRecDepth 100000 in
set_option maxHeartbeats 1600000 in
theorem tnew_any {a : Option Addr} {cap n : Nat} {l : List Int} (w : World) (h : RdL w a cap l) (hl : l.length = n) (hn : n ≤ 1000000) :
    Calls Try.prog 8 #[.slice a n cap] w fun e w' =>
      (((∀ s ∈ l, 0 ≤ s ∧ s ≤ 256) ∧ e = .returned (.tuple #[.pointer (some ⟨w.heap.size, 0, none⟩), .int .i64 0]) ∧ Tal w' w.heap.size (Ty.of l)) ∨
        (¬ (∀ s ∈ l, 0 ≤ s ∧ s ≤ 256) ∧ e = .returned (.tuple #[.pointer none, .int .i64 1]))) ∧ Below w.heap.size w w' := by
  obtain ⟨zs, hz, hzn, hzc⟩ := zeroT
  have hB0 : Below w.heap.size w (w.alloc (Obj.cells zs 44)) := (Below.refl _ _).alloc (Nat.le_refl _) _
  have hT0 : Tab (w.alloc (Obj.cells zs 44)) w.heap.size (shc (Ty.of [])) := ⟨zs, alloc_of, hzn, fun i hi => by
    rw [hzc i hi]
    unfold shc
    by_cases e : i = 0
    · rw [if_pos e]
    · rw [if_neg e]; rfl⟩
  have hcell : 0 < n → ∃ b off, a = some ⟨b, off, none⟩ ∧ b < w.heap.size ∧ ∀ i, i < n → w.cell? ⟨b, off + i, none⟩ = some (.int .i64 (l.getD i 0)) := fun hp => by
    obtain ⟨b, off, h1, h2, h3⟩ := h.2.2.2 (by omega)
    exact ⟨b, off, h1, h2, fun i hi => h3 i (by omega)⟩
  have HC := Lib.hid hcell
  have HL := Lib.hid hl
  have HT0 := Lib.hid hT0
  have HB0 := Lib.hid hB0
  clear h hcell hl hT0 hB0 hzn hzc
  go_enter Try.func8, Try.ntmps8
  go_wp2_with fail
  clear hz
  obtain ⟨T, hT⟩ : ∃ T, w.heap.size = T := ⟨_, rfl⟩
  rw [hT] at HT0 HB0 ⊢
  have HTT := Lib.hid hT
  clear hT
  go_loopw [6, 12] (fun _ i wr => ∃ m : Nat, m ≤ n ∧ i = .int .i64 m ∧ (∀ s ∈ l.take m, 0 ≤ s ∧ s ≤ 256) ∧ Tab wr T (shc (Ty.of (l.take m))) ∧ Below T w wr) (fun _ i _ => n - (intOf i).toNat)
  case atStart => exact ⟨0, Nat.zero_le _, rfl, (fun s hs => by cases hs), HT0.out, HB0.out⟩
  case round =>
    clear HT0 HB0
    obtain ⟨m, hm, rfl, hg, hT, hB⟩ := hrel
    by_cases hlt : m < n
    · have hlt' : (m : Int) < n := by omega
      have hml : m < l.length := by rw [HL.out]; exact hlt
      obtain ⟨b, off, rfl, hbb, hc⟩ := HC.out (by omega)
      have hbT : b < T := by rw [← HTT.out]; exact hbb
      have c0 := (hB.cell (p := ⟨b, off + m, none⟩) hbT).trans (hc m hlt)
      have htk := getD_take_succ hml
      obtain ⟨x, hx⟩ : ∃ x, l.getD m 0 = x := ⟨_, rfl⟩
      rw [hx] at c0 htk
      have hmem : x ∈ l := by rw [← hx, List.getD_eq_getElem?_getD, List.getElem?_eq_getElem hml]; exact List.getElem_mem hml
      by_cases hs : 0 ≤ x ∧ x < 257
      · obtain ⟨s, rfl⟩ : ∃ s : Nat, x = s := ⟨x.toNat, by omega⟩
        have k1 := tis_yes (s : Int) wr hs.1 hs.2
        have hs257 : s + 1 ≤ 257 := by omega
        have c1 := hT.cell hs257
        have c2 := hT.free (s + 1)
        have hle := of_mono l m s
        have e0 : shc (Ty.of (l.take m)) (s + 1) = (Ty.of (l.take m) s : Int) := rfl
        rw [e0] at c1
        obtain ⟨y, hy⟩ : ∃ y, Ty.of (l.take m) s = y := ⟨_, rfl⟩
        rw [hy] at c1 hle
        have hT2 : Tab (wr.setCell ⟨T, s + 1, none⟩ (.int .i64 ((y : Int) + 1))) T (shc (Ty.of (l.take (m + 1)))) := (hT.set (s + 1) _).congr (fun i hi => by
          show (if i = s + 1 then (y : Int) + 1 else shc (Ty.of (l.take m)) i) = _
          unfold shc
          by_cases h8 : i = s + 1
          · subst h8
            rw [if_pos rfl, if_neg (by omega), htk, Nat.add_sub_cancel, Ty.of_app, if_pos rfl, hy]
            omega
          · rw [if_neg h8]
            by_cases h7 : i = 0
            · rw [if_pos h7, if_pos h7]
            · rw [if_neg h7, if_neg h7, htk, Ty.of_app, if_neg (by omega)]
              omega)
        have hB2 : Below T w (wr.setCell ⟨T, s + 1, none⟩ (.int .i64 ((y : Int) + 1))) := hB.setCell (Nat.le_refl _) _
        have hg2 : ∀ z ∈ l.take (m + 1), 0 ≤ z ∧ z ≤ 256 := fun z hz => by
          rw [htk] at hz
          rcases List.mem_append.1 hz with hz | hz
          · exact hg z hz
          · rw [List.mem_singleton.1 hz]; omega
        have HT2 := Lib.hid hT2
        have HB2 := Lib.hid hB2
        have HG2 := Lib.hid hg2
        obtain ⟨hs0, hs1⟩ := hs
        clear hT hB hT2 hB2 hg hg2 hc hx htk hmem e0 hy hml
        go_wp2_with fail
        (with_reducible refine k1.mono ?_); rintro e w' ⟨rfl, rfl⟩
        clear k1
        go_wp2_with fail
        go_region
        all_goals go_wp2
        all_goals go_roundw
        case rel => exact ⟨m + 1, by omega, by go_num, HG2.out, HT2.out.below ((Below.refl _ _).drew), HB2.out.drew⟩
        case measure => simp [intOf]; omega
      · have k1 := tis_no x wr hs
        have hbad : ¬ (∀ s ∈ l, 0 ≤ s ∧ s ≤ 256) := fun h9 => by have := h9 x hmem; omega
        have HBAD := Lib.hid hbad
        have HB := Lib.hid hB
        clear hT hB hg hc hx htk hmem hml hbad hs
        go_wp2_with fail
        (with_reducible refine k1.mono ?_); rintro e w' ⟨rfl, rfl⟩
        clear k1
        go_wp2_with fail
        go_ret2
        rw [HTT.out]
        exact ⟨.inr ⟨HBAD.out, rfl⟩, HB.out⟩
    · have hlt' : ¬ (m : Int) < n := by omega
      have hfin : l.take m = l := List.take_of_length_le (by rw [HL.out]; omega)
      rw [hfin] at hg hT
      have hall := all_good hg
      rw [HL.out] at hall
      have hbl : ∀ k, k ≤ 257 → Ty.bel (Ty.of l) k ≤ n := fun k hk => by rw [← hall]; exact Ty.bel_mono _ hk
      have HBL := Lib.hid hbl
      have HG := Lib.hid hg
      have HALL := Lib.hid hall
      have hT1 : Tab wr T (pfc (Ty.of l) 0) := hT.congr (fun i _ => by
        unfold shc pfc
        by_cases h7 : i = 0
        · subst h7; rfl
        · rw [if_neg h7, if_neg (by omega)])
      have HT1 := Lib.hid hT1
      have HB1 := Lib.hid hB
      clear hT hB hg hall hbl hT1 hfin
      go_wp2_with fail
      go_loopw [7, 31] (fun _ i wr => ∃ k : Nat, k ≤ 257 ∧ i = .int .i64 k ∧ Tab wr T (pfc (Ty.of l) k) ∧ Below T w wr) (fun _ i _ => 257 - (intOf i).toNat)
      case atStart => exact ⟨0, Nat.zero_le _, rfl, HT1.out, HB1.out⟩
      case round =>
        clear HT1 HB1
        obtain ⟨k, hk, rfl, hT, hB⟩ := hrel
        by_cases hlt2 : k < 257
        · have hlt3 : (k : Int) < 257 := by omega
          have c1 := hT.cell (i := k + 1) (by omega)
          have c2 := hT.cell (i := k) (by omega)
          have c3 := hT.free (k + 1)
          have e1 : pfc (Ty.of l) k (k + 1) = (Ty.of l k : Int) := by unfold pfc; rw [if_neg (by omega)]; rfl
          have e2 : pfc (Ty.of l) k k = (Ty.bel (Ty.of l) k : Int) := by unfold pfc; rw [if_pos (Nat.le_refl _)]
          have e3 : Ty.bel (Ty.of l) (k + 1) = Ty.bel (Ty.of l) k + Ty.of l k := rfl
          have hle := HBL.out (k + 1) (by omega)
          rw [e1] at c1
          rw [e2] at c2
          obtain ⟨y, hy⟩ : ∃ y, Ty.of l k = y := ⟨_, rfl⟩
          obtain ⟨u, hu⟩ : ∃ u, Ty.bel (Ty.of l) k = u := ⟨_, rfl⟩
          rw [hy] at c1 e3
          rw [hu] at c2 e3
          rw [e3] at hle
          have hle2 : y ≤ 1000000 := by omega
          have hle3 : u ≤ 1000000 := by omega
          have hT2 : Tab (wr.setCell ⟨T, k + 1, none⟩ (.int .i64 ((y : Int) + (u : Int)))) T (pfc (Ty.of l) (k + 1)) := (hT.set (k + 1) _).congr (fun i hi => by
            show (if i = k + 1 then (y : Int) + (u : Int) else pfc (Ty.of l) k i) = _
            unfold pfc
            by_cases h8 : i = k + 1
            · subst h8
              rw [if_pos rfl, if_pos (Nat.le_refl _), e3]
              omega
            · rw [if_neg h8]
              by_cases h7 : i ≤ k
              · rw [if_pos h7, if_pos (by omega)]
              · rw [if_neg h7, if_neg (by omega)])
          have hB2 : Below T w (wr.setCell ⟨T, k + 1, none⟩ (.int .i64 ((y : Int) + (u : Int)))) := hB.setCell (Nat.le_refl _) _
          have HT2 := Lib.hid hT2
          have HB2 := Lib.hid hB2
          clear hT hB hT2 hB2 hy hu e1 e2 e3 hle
          go_wp2_with fail
          go_region
          all_goals go_wp2
          all_goals go_roundw
          case rel => exact ⟨k + 1, by omega, by go_num, HT2.out.below ((Below.refl _ _).drew), HB2.out.drew⟩
          case measure => simp [intOf]; omega
        · have hlt3 : ¬ (k : Int) < 257 := by omega
          have hk7 : k = 257 := by omega
          subst hk7
          have hfin : Tal wr T (Ty.of l) := ⟨hT.congr (fun i hi => by unfold pfc; rw [if_pos hi]), by rw [HALL.out]; omega⟩
          have HF := Lib.hid hfin
          have HB := Lib.hid hB
          clear hT hB hfin
          go_wp2_with fail
          go_ret2
          rw [HTT.out]
          exact ⟨.inl ⟨HG.out, rfl, HF.out⟩, HB.out⟩
end Go.Proofs.Ythpopoimnbleeaa
