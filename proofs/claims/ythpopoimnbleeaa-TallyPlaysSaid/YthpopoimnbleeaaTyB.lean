/- Which of a tally: a search over the sums (sort.Search by the library's contract): contracts of the walk. -/
import Derived.Test.YthpopoimnbleeaaTyA
namespace Go.Proofs.Ythpopoimnbleeaa
open Go Go.RowKit Go.ChangeAt Go.Sort

def tyRen : Go.Shelf.Ren := ⟨fun n => if n = 16 then 18 else n, fun n => if n = 3 then 3 else if n = 4 then 4 else if n = 35 then 36 else if n = 38 then 27 else n, fun n => n⟩
theorem tyLays : SlLaysO.n16 Try.prog tyRen where
  mixed := by kernel_rfl
  f16 := Try.func18.trans (by kernel_rfl)
  t3 := Try.underlying3
  a3 := Try.isAgg3
  z3 := Try.sizeOf3
  v3 := Try.zeroValue3
  t4 := Try.underlying4
  a4 := Try.isAgg4
  z4 := Try.sizeOf4
  v4 := Try.zeroValue4
  t35 := Try.underlying36
  a35 := Try.isAgg36
  z35 := Try.sizeOf36
  v35 := Try.zeroValue36
  t38 := Try.underlying27
  a38 := Try.isAgg27
  z38 := Try.sizeOf27
  v38 := Try.zeroValue27
theorem countP_upto {p : Nat → Bool} {s n : Nat} (hs : s ≤ n) (h0 : ∀ i, i < s → p i = true) (h1 : ∀ i, s ≤ i → i < n → p i = false) : (List.range n).countP p = s := by
  obtain ⟨d, rfl⟩ : ∃ d, n = s + d := ⟨n - s, by omega⟩
  rw [List.range_add, List.countP_append]
  have e1 : (List.range s).countP p = s := by
    have := (List.countP_eq_length (p := p) (l := List.range s)).2 (fun i hi => h0 i (List.mem_range.1 hi))
    rw [this, List.length_range]
  have e2 : ((List.range d).map (s + ·)).countP p = 0 := List.countP_eq_zero.2 (fun i hi => by
    obtain ⟨j, hj, rfl⟩ := List.mem_map.1 hi
    have := List.mem_range.1 hj
    rw [h1 (s + j) (by omega) (by omega)]
    decide)
  rw [e1, e2, Nat.add_zero]
/-- The closure: are there more than k up to i? -/
theorem tmore {f : Ty.Cnt} {t B C : Nat} (k : Int) (i : Nat) (w : World) (h : Tal w t f) (hi : i < 257) (hb : w.cell? ⟨B, 0, none⟩ = some (.pointer (some ⟨t, 0, none⟩))) (hc : w.cell? ⟨C, 0, none⟩ = some (.int .i64 k)) :
    Calls Try.prog 19 (#[.int .i64 i] ++ #[.pointer (some ⟨B, 0, none⟩), .pointer (some ⟨C, 0, none⟩)]) w fun e w' => e = .returned (.bool (decide (k < (Ty.bel f (i + 1) : Int)))) ∧ ∃ m, w' = w.drewN m := by
  have c0 := h.tab.cell (i := i + 1) (by omega)
  have hi2 : (i : Int) < 257 := by omega
  clear h
  obtain ⟨v, hv⟩ : ∃ v, Ty.bel f (i + 1) = v := ⟨_, rfl⟩
  simp only [hv] at c0
  rw [hv]
  clear hv
  go_enter Try.func19, Try.ntmps19
  go_wp2_with fail
  go_quiet (fail)
  go_wp2
  go_ret
  exact ⟨rfl, _, rfl⟩
set_option maxRecDepth 100000 in
theorem twhich_out {p : Option Addr} {u : Int} (k : Int) (w : World) (hl : ∀ w', Below w.heap.size w w' → Calls Try.prog 10 #[.pointer p] w' fun e w2 => e = .returned (.int .i64 u) ∧ w' = w2) (hk : k < 0 ∨ u ≤ k) :
    Calls Try.prog 12 #[.pointer p, .int .i64 k] w fun e w' => e = .returned (.int .i64 (-1)) ∧ Below w.heap.size w w' := by
  obtain ⟨W0, hW0⟩ : ∃ W0, (w.alloc (.cells #[.pointer p] 23)).alloc (.cells #[.int .i64 k] 3) = W0 := ⟨_, rfl⟩
  have hB : Below w.heap.size w W0 := by rw [← hW0]; exact ((Below.refl _ _).alloc (Nat.le_refl _) _).alloc (by simp) _
  have cb : W0.cell? ⟨w.heap.size, 0, none⟩ = some (.pointer p) := by rw [← hW0]; exact cell_alloc_sl _ (cell_new_sl w _ _)
  have cc : W0.cell? ⟨w.heap.size + 1, 0, none⟩ = some (.int .i64 k) := by rw [← hW0]; have := cell_new_sl (w.alloc (.cells #[.pointer p] 23)) (.int .i64 k) 3; rwa [World.size_alloc] at this
  have key : ∀ m, Calls Try.prog 10 #[.pointer p] (W0.drewN m) _ := fun m => hl _ (hB.drewN m)
  have KEY := Lib.hid key
  have HB := Lib.hid hB
  have HW := Lib.hid hW0
  clear hl key hB hW0
  by_cases hk0 : k < 0
  · have hd : decide (k < 0) = true := decide_eq_true hk0
    clear hk
    go_enter Try.func12, Try.ntmps12
    go_wp2_with fail
    rw [HW.out]
    go_quiet (fail)
    go_wp2
    go_ret
    exact ⟨rfl, HB.out.drewN _⟩
  · have hd : decide (k < 0) = false := decide_eq_false hk0
    have hk1 : u ≤ k := by omega
    clear hk
    go_enter Try.func12, Try.ntmps12
    go_wp2_with fail
    rw [HW.out]
    go_quiet ((go_at_call 10; exact Calls.quiet_of_same ((KEY.out _).mono fun _ _ ⟨he, hw⟩ => ⟨he, hw.symm⟩)))
    go_wp2
    go_ret
    exact ⟨rfl, HB.out.drewN _⟩
theorem twhich_nil (k : Int) (w : World) : Calls Try.prog 12 #[.pointer none, .int .i64 k] w fun e w' => e = .returned (.int .i64 (-1)) ∧ Below w.heap.size w w' :=
  twhich_out k w (fun w' _ => tlen_nil w') (by omega)
set_option maxRecDepth 100000 in
set_option maxHeartbeats 1600000 in
theorem twhich_in {f : Ty.Cnt} {t : Nat} (k s : Nat) (w : World) (h : Tal w t f) (hk : k < Ty.all f) (hs : s < 257) (h0 : Ty.bel f s ≤ k) (h1 : k < Ty.bel f (s + 1)) : Calls Try.prog 12 #[.pointer (some ⟨t, 0, none⟩), .int .i64 k] w fun e w' => e = .returned (.int .i64 s) ∧ Below w.heap.size w w' := by
  obtain ⟨W0, hW0⟩ : ∃ W0, (w.alloc (.cells #[.pointer (some ⟨t, 0, none⟩)] 23)).alloc (.cells #[.int .i64 k] 3) = W0 := ⟨_, rfl⟩
  have hB : Below w.heap.size w W0 := by rw [← hW0]; exact ((Below.refl _ _).alloc (Nat.le_refl _) _).alloc (by simp) _
  have hsz : W0.heap.size = w.heap.size + 1 + 1 := by rw [← hW0]; simp
  have cb : W0.cell? ⟨w.heap.size, 0, none⟩ = some (.pointer (some ⟨t, 0, none⟩)) := by rw [← hW0]; exact cell_alloc_sl _ (cell_new_sl w _ _)
  have cc : W0.cell? ⟨w.heap.size + 1, 0, none⟩ = some (.int .i64 k) := by rw [← hW0]; have := cell_new_sl (w.alloc (.cells #[.pointer (some ⟨t, 0, none⟩)] 23)) (.int .i64 k) 3; rwa [World.size_alloc] at this
  have hT := h.below hB
  have key : ∀ m, Calls Try.prog 10 #[.pointer (some ⟨t, 0, none⟩)] (W0.drewN m) _ := fun m => tlen _ (hT.below ((Below.refl _ _).drewN m))
  have eg : ∀ args w, (callFunc 19 args).run Try.prog w = .ok (.enter 19 args) w := enters_of Try.func19 (by kernel_rfl) rfl
  have hS : ∀ d, Calls Try.prog 18 #[.int .i64 257, .func (.func 19) #[] #[.pointer (some ⟨w.heap.size, 0, none⟩), .pointer (some ⟨w.heap.size + 1, 0, none⟩)]] (W0.drewN d) fun e w' => e = .returned (.int .i64 s) ∧ Below W0.heap.size (W0.drewN d) w' := fun d => by
    have hbg : ∀ m os, Below w.heap.size w (grow ((W0.drewN d).drewN m) os) := fun m os => (hB.drewN d).trans (below_grown_sl w.heap.size (W0.drewN d) m os (by show w.heap.size ≤ W0.heap.size; omega))
    have cb' : (W0.drewN d).cell? ⟨w.heap.size, 0, none⟩ = _ := cb
    have cc' : (W0.drewN d).cell? ⟨w.heap.size + 1, 0, none⟩ = _ := cc
    have hz1 : w.heap.size < (W0.drewN d).heap.size := by show _ < W0.heap.size; omega
    have hz2 : w.heap.size + 1 < (W0.drewN d).heap.size := by show _ < W0.heap.size; omega
    have h9 := Any.sort_Search tyLays 19 #[.pointer (some ⟨w.heap.size, 0, none⟩), .pointer (some ⟨w.heap.size + 1, 0, none⟩)] 257 (fun i => decide ((k : Int) < (Ty.bel f (i + 1) : Int))) (W0.drewN d) eg (by decide)
      (fun m os i hi => (tmore (B := w.heap.size) (C := w.heap.size + 1) (k : Int) i (grow ((W0.drewN d).drewN m) os) (h.below (hbg m os)) hi (cell_grown hz1 cb' m os) (cell_grown hz2 cc' m os)).mono fun _ _ ⟨he, q, hq⟩ => ⟨he, q, #[], by rw [hq, grow_empty]⟩)
      (fun a b hab hb h2 => by
        have h3 := of_decide_eq_true h2
        have h4 := Ty.bel_mono f (show a + 1 ≤ b + 1 by omega)
        exact decide_eq_true (by omega))
    rw [countP_upto (s := s) (by omega) (fun i hi => by
      have h4 := Ty.bel_mono f (show i + 1 ≤ s by omega)
      show (!decide ((k : Int) < (Ty.bel f (i + 1) : Int))) = true
      rw [decide_eq_false (by omega)]; rfl) (fun i hi _ => by
      have h4 := Ty.bel_mono f (show s + 1 ≤ i + 1 by omega)
      show (!decide ((k : Int) < (Ty.bel f (i + 1) : Int))) = false
      rw [decide_eq_true (by omega)]; rfl)] at h9
    exact h9.mono fun _ _ ⟨he, q, os, hq⟩ => ⟨he, by rw [hq]; exact below_grown_sl _ _ _ _ (Nat.le_refl _)⟩
  have hd : decide ((k : Int) < 0) = false := decide_eq_false (by omega)
  have hd1 : ¬ (Ty.all f : Int) ≤ k := by omega
  have KEY := Lib.hid key
  have HB := Lib.hid hB
  have HW := Lib.hid hW0
  have HS := Lib.hid hS
  clear key hB hW0 hS h hT hsz h0 h1 hs
  obtain ⟨u, hu⟩ : ∃ u, Ty.all f = u := ⟨_, rfl⟩
  rw [hu] at KEY hd1
  rw [hu] at hk
  clear hu
  go_enter Try.func12, Try.ntmps12
  go_wp2_with fail
  rw [HW.out]
  go_quiet ((go_at_call 10; exact Calls.quiet_of_same ((KEY.out _).mono fun _ _ ⟨he, hw⟩ => ⟨he, hw.symm⟩)))
  go_wp2_with fail
  (with_reducible refine (HS.out _).mono ?_); rintro e w' ⟨rfl, hb⟩
  go_wp2_with fail
  go_ret
  exact ⟨rfl, (HB.out.drewN _).trans (hb.mono HB.out.size)⟩
theorem twhich {f : Ty.Cnt} {t : Nat} (k : Int) (w : World) (h : Tal w t f) : Calls Try.prog 12 #[.pointer (some ⟨t, 0, none⟩), .int .i64 k] w fun e w' => e = .returned (.int .i64 (Ty.wh f k)) ∧ Below w.heap.size w w' := by
  by_cases hk : k < 0 ∨ (Ty.all f : Int) ≤ k
  · rw [Ty.wh_none hk]
    exact twhich_out k w (fun w' hb => tlen w' (h.below hb)) hk
  · obtain ⟨n, rfl⟩ : ∃ n : Nat, k = n := ⟨k.toNat, by omega⟩
    have hn : n < Ty.all f := by omega
    obtain ⟨s, e, h1, h2, h3⟩ := Ty.wh_is hn
    rw [e]
    exact twhich_in n s w h hn h1 h2 h3
end Go.Proofs.Ythpopoimnbleeaa
