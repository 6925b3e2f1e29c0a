/- The contract of the code's May, of several shapes; 'told' of layer 4's statements. -/
import Derived.Test.YtfmginakkenbnaaFibB
namespace Go.Proofs.Ytfmginakkenbnaa
open Go Go.RowKit

abbrev Sh := Int × Int × Int × Int
/-- A slice of shapes, as it is read. -/
def RdS (w : World) (a : Option Addr) (l : List Sh) : Prop :=
  l.length ≤ maxLen ∧ (0 < l.length → ∃ b off, a = some ⟨b, off, none⟩ ∧ b < w.heap.size ∧ ∀ i, i < l.length →
    ∃ L H V N : Int, l.getD i (0, 0, 0, 0) = (L, H, V, N) ∧ L ≤ 9223372036854775807 ∧ H ≤ 9223372036854775807 ∧ V ≤ 9223372036854775807 ∧
      w.cell? ⟨b, off + i * 4, none⟩ = some (.int .i64 L) ∧ w.cell? ⟨b, off + i * 4 + 1, none⟩ = some (.int .i64 H) ∧
      w.cell? ⟨b, off + i * 4 + 2, none⟩ = some (.int .i64 V) ∧ w.cell? ⟨b, off + i * 4 + 3, none⟩ = some (.int .i64 N))
theorem RdS.nil (w : World) (a : Option Addr) : RdS w a [] := ⟨by decide, fun h => absurd h (by decide)⟩
theorem RdS.below {w w' : World} {a : Option Addr} {l : List Sh} (h : RdS w a l) (hb : Below w.heap.size w w') : RdS w' a l := by
  refine ⟨h.1, fun hp => ?_⟩
  obtain ⟨b, off, ha, hlt, hc⟩ := h.2 hp
  refine ⟨b, off, ha, Nat.lt_of_lt_of_le hlt hb.size, fun i hi => ?_⟩
  obtain ⟨L, H, V, N, h1, h2, h3, h4, c0, c1, c2, c3⟩ := hc i hi
  exact ⟨L, H, V, N, h1, h2, h3, h4, (hb.cell (p := ⟨b, _, none⟩) hlt).trans c0, (hb.cell (p := ⟨b, _, none⟩) hlt).trans c1, (hb.cell (p := ⟨b, _, none⟩) hlt).trans c2, (hb.cell (p := ⟨b, _, none⟩) hlt).trans c3⟩
theorem all_take_succ {l : List Sh} {k : Nat} (h : k < l.length) {s : Sh} (hs : l.getD k (0, 0, 0, 0) = s) : (l.take (k + 1)).all mayS = ((l.take k).all mayS && mayS s) := by
  have e : l[k] = s := by rw [← hs, List.getD_eq_getElem?_getD, List.getElem?_eq_getElem h]; rfl
  rw [List.take_succ_eq_append_getElem h, List.all_append, e]
  simp
theorem all_false {l : List Sh} {k : Nat} (h : k < l.length) {s : Sh} (hs : l.getD k (0, 0, 0, 0) = s) (hm : mayS s = false) : l.all mayS = false := by
  have e : l[k] = s := by rw [← hs, List.getD_eq_getElem?_getD, List.getElem?_eq_getElem h]; rfl
  rw [List.all_eq_false]
  exact ⟨l[k], List.getElem_mem h, by rw [e, hm]; decide⟩

set_option maxHeartbeats 800000 in
theorem may_any (a : Option Addr) (n cap : Nat) (l : List Sh) (W : World) (hn : l.length = n) (hl : RdS W a l) :
    Calls Try.prog 12 #[.slice a n cap] W fun e w' => e = .returned (.bool (l.all mayS)) ∧ Below W.heap.size W w' := by
  subst hn
  have hlen := hl.1
  unfold maxLen at hlen
  have HL := Lib.hid hl.2
  clear hl
  go_enter Try.func12, Try.ntmps12
  go_wp2_with fail
  go_loopw [4, 7, 8, 9, 10, 11, 12, 13, 14] (fun _ i _ _ _ _ _ _ _ wr => ∃ k : Nat, k ≤ l.length ∧ i = .int .i64 k ∧ (l.take k).all mayS = true ∧ Below W.heap.size W wr) (fun _ i _ _ _ _ _ _ _ _ => l.length - (intOf i).toNat)
  case atStart => exact ⟨0, Nat.zero_le _, rfl, rfl, Below.refl _ _⟩
  case round =>
    obtain ⟨k, hk, rfl, hall, hb⟩ := hrel
    have HALL := Lib.hid hall
    clear hall
    by_cases hlt : k < l.length
    · obtain ⟨b, off, rfl, hbb, hc⟩ := HL.out (by omega)
      obtain ⟨L, H, V, N, hs, h1, h2, h3, c0, c1, c2, c3⟩ := hc k hlt
      have HS := Lib.hid hs
      have d0 := (hb.cell (p := ⟨b, off + k * 4, none⟩) hbb).trans c0
      have d1 := (hb.cell (p := ⟨b, off + k * 4 + 1, none⟩) hbb).trans c1
      have d2 := (hb.cell (p := ⟨b, off + k * 4 + 2, none⟩) hbb).trans c2
      have d3 := (hb.cell (p := ⟨b, off + k * 4 + 3, none⟩) hbb).trans c3
      clear hs hc c0 c1 c2 c3 HL
      obtain ⟨m, hm⟩ : ∃ m, Fb.may L H V N = m := ⟨_, rfl⟩
      have HM := Lib.hid hm
      clear hm
      cases m
      all_goals
        go_wp2_with (go_at_call 16; refine (may_one _ _ _ _ _ h1 h2).mono ?_; rintro e w1 ⟨rfl, hb1⟩; rw [HM.out])
      · go_ret
        exact ⟨ret_bool (all_false hlt HS.out HM.out).symm, (hb.alloc hb.size _).trans (hb1.mono (by have := hb.size; simp; omega))⟩
      · go_roundw
        case rel => exact ⟨k + 1, hlt, by go_num, by rw [all_take_succ hlt HS.out, HALL.out]; exact HM.out, (hb.alloc hb.size _).trans (hb1.mono (by have := hb.size; simp; omega))⟩
        case measure => simp [intOf]; omega
    · obtain rfl : k = l.length := by omega
      go_wp2_with fail
      go_ret
      exact ⟨ret_bool (by have := HALL.out; rw [List.take_length] at this; exact this.symm), hb⟩

/-- Slices laid down just now, of one shape and of two. -/
theorem rds_one (w : World) (L H V N : Int) (h1 : L ≤ 9223372036854775807) (h2 : H ≤ 9223372036854775807) (h3 : V ≤ 9223372036854775807) (t : TypeId) :
    RdS (w.alloc (.cells #[.int .i64 L, .int .i64 H, .int .i64 V, .int .i64 N] t)) (some ⟨w.heap.size, 0, none⟩) [(L, H, V, N)] := by
  refine ⟨by show 1 ≤ maxLen; decide, fun _ => ⟨w.heap.size, 0, rfl, by simp, fun i hi => ?_⟩⟩
  obtain rfl : i = 0 := by simp at hi; omega
  exact ⟨L, H, V, N, rfl, h1, h2, h3, new_cell rfl rfl, new_cell rfl rfl, new_cell rfl rfl, new_cell rfl rfl⟩
theorem rds_two (w : World) (L H V N L' H' V' N' : Int) (h1 : L ≤ 9223372036854775807) (h2 : H ≤ 9223372036854775807) (h3 : V ≤ 9223372036854775807) (h1' : L' ≤ 9223372036854775807) (h2' : H' ≤ 9223372036854775807) (h3' : V' ≤ 9223372036854775807) (t : TypeId) :
    RdS (w.alloc (.cells #[.int .i64 L, .int .i64 H, .int .i64 V, .int .i64 N, .int .i64 L', .int .i64 H', .int .i64 V', .int .i64 N'] t)) (some ⟨w.heap.size, 0, none⟩) [(L, H, V, N), (L', H', V', N')] := by
  refine ⟨by show 2 ≤ maxLen; decide, fun _ => ⟨w.heap.size, 0, rfl, by simp, fun i hi => ?_⟩⟩
  match i, hi with
  | 0, _ => exact ⟨L, H, V, N, rfl, h1, h2, h3, new_cell rfl rfl, new_cell rfl rfl, new_cell rfl rfl, new_cell rfl rfl⟩
  | 1, _ => exact ⟨L', H', V', N', rfl, h1', h2', h3', new_cell rfl rfl, new_cell rfl rfl, new_cell rfl rfl, new_cell rfl rfl⟩
theorem may_new1 (w : World) (L H V N : Int) (t : TypeId) (h1 : L ≤ 9223372036854775807) (h2 : H ≤ 9223372036854775807) (h3 : V ≤ 9223372036854775807) {x : Bool} (hx : Fb.may L H V N = x) :
    Calls Try.prog 12 #[.slice (some ⟨w.heap.size, 0, none⟩) 1 1] (w.alloc (.cells #[.int .i64 L, .int .i64 H, .int .i64 V, .int .i64 N] t)) fun e w' => e = .returned (.bool x) ∧ Below w.heap.size w w' := by
  subst hx
  refine (may_any _ 1 1 [(L, H, V, N)] _ rfl (rds_one w L H V N h1 h2 h3 t)).mono ?_
  rintro e w' ⟨rfl, hb⟩
  exact ⟨ret_bool (by simp [mayS]), ((Below.refl _ _).alloc (Nat.le_refl _) _).trans (hb.mono (by simp))⟩
theorem may_new2 (w : World) (L H V N L' H' V' N' : Int) (t : TypeId) (h1 : L ≤ 9223372036854775807) (h2 : H ≤ 9223372036854775807) (h3 : V ≤ 9223372036854775807) (h1' : L' ≤ 9223372036854775807) (h2' : H' ≤ 9223372036854775807) (h3' : V' ≤ 9223372036854775807) {x : Bool} (hx : (Fb.may L H V N && Fb.may L' H' V' N') = x) :
    Calls Try.prog 12 #[.slice (some ⟨w.heap.size, 0, none⟩) 2 2] (w.alloc (.cells #[.int .i64 L, .int .i64 H, .int .i64 V, .int .i64 N, .int .i64 L', .int .i64 H', .int .i64 V', .int .i64 N'] t)) fun e w' => e = .returned (.bool x) ∧ Below w.heap.size w w' := by
  subst hx
  refine (may_any _ 2 2 [(L, H, V, N), (L', H', V', N')] _ rfl (rds_two w L H V N L' H' V' N' h1 h2 h3 h1' h2' h3' t)).mono ?_
  rintro e w' ⟨rfl, hb⟩
  exact ⟨ret_bool (by simp [mayS]), ((Below.refl _ _).alloc (Nat.le_refl _) _).trans (hb.mono (by simp))⟩
theorem may_none (w : World) : Calls Try.prog 12 #[.slice none 0 0] w fun e w' => e = .returned (.bool true) ∧ Below w.heap.size w w' :=
  may_any none 0 0 [] w rfl (RdS.nil w none)
theorem least_is (h r : Int) (w : World) (hh : h ≤ 9223372036854775807) (hr : Fb.least h = r) :
    Calls Try.prog 10 #[.int .i64 h] w fun e w' => e = .returned (.int .i64 r) ∧ w = w' := by subst hr; exact least_any h w hh
theorem most_is (h r : Int) (w : World) (hr : Fb.most h = r) :
    Calls Try.prog 9 #[.int .i64 h] w fun e w' => e = .returned (.int .i64 r) ∧ w = w' := by subst hr; exact most_any h w
theorem rleast_is (h r : Int) (w : World) (hh : h ≤ 9223372036854775807) (hr : Fb.least h = r) :
    Calls Try.prog 13 #[.int .i64 h] w fun e w' => e = .returned (.int .i64 r) ∧ w = w' := by subst hr; exact rleast_any h w hh
theorem rmost_is (h r : Int) (w : World) (hr : Fb.most h = r) :
    Calls Try.prog 14 #[.int .i64 h] w fun e w' => e = .returned (.int .i64 r) ∧ w = w' := by subst hr; exact rmost_any h w
theorem may_is (a : Option Addr) (n cap : Nat) (l : List Sh) (W : World) (hn : l.length = n) (hl : RdS W a l) {x : Bool} (hx : l.all mayS = x) :
    Calls Try.prog 12 #[.slice a n cap] W fun e w' => e = .returned (.bool x) ∧ Below W.heap.size W w' := by subst hx; exact may_any a n cap l W hn hl
theorem least_1000 : Fb.least 1000 = 2147483648 := by
  have h := Fb.raw_mono (show 45 ≤ 1000 by decide)
  rw [Fb.raw_45] at h
  exact Fb.least_hi (k := 1000) (n := 1000) (Nat.le_refl _) rfl (by omega)

set_option maxHeartbeats 800000 in
theorem told_any (w : World) : Calls Try.prog 8 #[] w fun e w' => e = .returned (.bool true) ∧ Below w.heap.size w w' := by
  go_enter Try.func8, Try.ntmps8
  go_wp2_with fail
  refine (least_is 0 1 _ (by decide) (by decide +kernel)).mono ?_; rintro e w' ⟨rfl, rfl⟩
  go_wp2_with fail
  refine (least_is 1 2 _ (by decide) (by decide +kernel)).mono ?_; rintro e w' ⟨rfl, rfl⟩
  go_wp2_with fail
  refine (least_is 3 5 _ (by decide) (by decide +kernel)).mono ?_; rintro e w' ⟨rfl, rfl⟩
  go_wp2_with fail
  refine (least_is (-1) 0 _ (by decide) (by decide +kernel)).mono ?_; rintro e w' ⟨rfl, rfl⟩
  go_wp2_with fail
  refine (least_is 1000 2147483648 _ (by decide) least_1000).mono ?_; rintro e w' ⟨rfl, rfl⟩
  go_wp2_with fail
  refine (most_is 0 (-1) _ (by decide +kernel)).mono ?_; rintro e w' ⟨rfl, rfl⟩
  go_wp2_with fail
  refine (most_is 1 0 _ (by decide +kernel)).mono ?_; rintro e w' ⟨rfl, rfl⟩
  go_wp2_with fail
  refine (most_is 4 2 _ (by decide +kernel)).mono ?_; rintro e w' ⟨rfl, rfl⟩
  go_wp2_with fail
  refine (most_is 5 3 _ (by decide +kernel)).mono ?_; rintro e w' ⟨rfl, rfl⟩
  go_wp2_with fail
  refine (may_none _).mono ?_; rintro e w1 ⟨rfl, h1⟩
  go_wp2_with fail
  refine (may_new1 _ 0 0 0 0 _ (by decide) (by decide) (by decide) (x := true) (by decide +kernel)).mono ?_; rintro e w2 ⟨rfl, h2⟩
  go_wp2_with fail
  refine (may_new1 _ 3 0 1 1 _ (by decide) (by decide) (by decide) (x := true) (by decide +kernel)).mono ?_; rintro e w3 ⟨rfl, h3⟩
  go_wp2_with fail
  refine (may_new1 _ 3 1 1 1 _ (by decide) (by decide) (by decide) (x := false) (by decide +kernel)).mono ?_; rintro e w4 ⟨rfl, h4⟩
  go_wp2_with fail
  go_ret
  have s1 := h1.size
  have s2 := h2.size
  have s3 := h3.size
  exact ⟨rfl, ((h1.trans (h2.mono (by omega))).trans (h3.mono (by omega))).trans (h4.mono (by omega))⟩
end Go.Proofs.Ytfmginakkenbnaa
