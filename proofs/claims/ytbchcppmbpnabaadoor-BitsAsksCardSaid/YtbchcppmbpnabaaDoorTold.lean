/- The few fixed answers that every statement of layer 1 asks for. -/
import Derived.Test.YtbchcppmbpnabaaDoorBitsA
import Derived.Outline
import Derived.WalkSpells
namespace Go.Proofs.YtbchcppmbpnabaaDoor
open Go.RowKit

theorem _root_.Go.RowKit.Below.drewN {B : Nat} {a w : World} (h : Below B a w) (n : Nat) : Below B a (w.drewN n) := h.trans ⟨rfl, rfl, rfl, Nat.le_refl _, fun _ _ => rfl⟩
theorem new_cell {w : World} {c : Array Value} {t : TypeId} {n i : Nat} {v : Value} (hn : n = w.heap.size) (h : c[i]? = some v) : (w.alloc (.cells c t)).cell? ⟨n, i, none⟩ = some v :=
  (World.cell?_alloc_at _ _ _ _ hn).trans h
theorem TabAt.below {w w' : World} {B : Nat} (h : TabAt w) (hb : Below B w w') (hB : 0 < B) : TabAt w' := fun j hj => (hb.cell (p := ⟨0, j, none⟩) hB).trans (h j hj)

theorem put_5 (w : World) : Calls Tryd.prog 12 #[.int .u64 5, .int .i64 1, .bool true] w fun e w' => e = .returned (.tuple #[.int .u64 11, .bool false]) ∧ ∃ n, w' = w.drewN n :=
  (put_yes 5 1 true w (by decide) (by decide) (by decide)).mono fun _ _ ⟨he, hw⟩ => ⟨he.trans (by have h1 : Wd.put 5 (Int.toNat 1) true = 11 := (by decide); have h2 : Nat.testBit 5 63 = false := (by decide); rw [h1, h2]; rfl), hw⟩
theorem put_64 (w : World) : Calls Tryd.prog 12 #[.int .u64 9223372036854775808, .int .i64 64, .bool true] w fun e w' => e = .returned (.tuple #[.int .u64 9223372036854775808, .bool false]) ∧ w = w' :=
  put_no 9223372036854775808 64 true w (by decide)
theorem cut_7 (w : World) : Calls Tryd.prog 14 #[.int .u64 7, .int .i64 0, .bool true] w fun e w' => e = .returned (.tuple #[.int .u64 9223372036854775811, .bool true]) ∧ w = w' :=
  (cut_yes 7 0 true w (by decide) (by decide) (by decide)).mono fun _ _ ⟨he, hw⟩ => ⟨he.trans (by have h1 : Wd.cut 7 (Int.toNat 0) true = 9223372036854775811 := (by decide); have h2 : Nat.testBit 7 (Int.toNat 0) = true := (by decide); rw [h1, h2]; rfl), hw⟩
theorem rank_5 (k r : Int) (w : World) (h : (Wd.cnt (Nat.testBit 5) (min k.toNat 64) : Int) = r) : Calls Tryd.prog 17 #[.int .u64 5, .int .i64 k] w fun e w' => e = .returned (.int .i64 r) ∧ w = w' := by
  subst h
  exact rank_any 5 k w (by decide)
theorem select_5 (k r : Int) (w : World) (hT : TabAt w) (h : Wd.selI 5 k = r) : Calls Tryd.prog 10 #[.int .u64 5, .int .i64 k] w fun e w' => e = .returned (.int .i64 r) ∧ w = w' := by
  subst h
  exact select_any 5 k w (by decide) hT

theorem count_one (x b : Nat) (w : World) (hx : x < 18446744073709551616) (h0 : w.cell? ⟨b, 0, none⟩ = some (.int .u64 x)) :
    Calls Tryd.prog 9 #[.slice (some ⟨b, 0, none⟩) 1 1] w fun e w' => e = .returned (.int .i64 (Wd.pop x)) ∧ w = w' :=
  (count_any [x] b 0 1 w (by simpa using hx) (by simp) (fun i hi => by match i, hi with | 0, _ => exact h0)).mono fun _ _ ⟨he, hw⟩ => ⟨he.trans (ret_int (by simp [pops])), hw⟩
theorem count_two (x y b : Nat) (w : World) (hx : x < 18446744073709551616) (hy : y < 18446744073709551616) (h0 : w.cell? ⟨b, 0, none⟩ = some (.int .u64 x)) (h1 : w.cell? ⟨b, 1, none⟩ = some (.int .u64 y)) :
    Calls Tryd.prog 9 #[.slice (some ⟨b, 0, none⟩) 2 2] w fun e w' => e = .returned (.int .i64 ((Wd.pop x + Wd.pop y : Nat) : Int)) ∧ w = w' :=
  (count_any [x, y] b 0 2 w (by simp; exact ⟨hx, hy⟩) (by simp) (fun i hi => by match i, hi with | 0, _ => exact h0 | 1, _ => exact h1)).mono fun _ _ ⟨he, hw⟩ => ⟨he.trans (ret_int (by simp [pops])), hw⟩
theorem count_71 (b : Nat) (w : World) (h0 : w.cell? ⟨b, 0, none⟩ = some (.int .u64 7)) (h1 : w.cell? ⟨b, 1, none⟩ = some (.int .u64 1)) :
    Calls Tryd.prog 9 #[.slice (some ⟨b, 0, none⟩) 2 2] w fun e w' => e = .returned (.int .i64 4) ∧ w = w' :=
  (count_two 7 1 b w (by decide) (by decide) h0 h1).mono fun _ _ ⟨he, hw⟩ => ⟨he.trans (ret_int (by decide)), hw⟩

set_option maxHeartbeats 400000 in
theorem told_any (w : World) (hT : TabAt w) (hw0 : 0 < w.heap.size) :
    Calls Tryd.prog 11 #[] w fun e w' => e = .returned (.bool true) ∧ Below w.heap.size w w' := by
  go_enter Tryd.func11, Tryd.ntmps11
  go_wp2_with fail
  refine (put_5 _).mono ?_
  rintro e w' ⟨rfl, n, rfl⟩
  go_wp2_with fail
  refine (cut_7 _).mono ?_
  rintro e w' ⟨rfl, rfl⟩
  go_wp2_with fail
  refine (put_64 _).mono ?_
  rintro e w' ⟨rfl, rfl⟩
  go_wp2_with fail
  refine (count_71 _ _ (new_cell rfl rfl) (new_cell rfl rfl)).mono ?_
  rintro e w' ⟨rfl, rfl⟩
  go_wp2_with fail
  refine (count_nil _ _ _).mono ?_
  rintro e w' ⟨rfl, rfl⟩
  go_wp2_with fail
  refine (rank_5 2 1 _ (by decide)).mono ?_
  rintro e w' ⟨rfl, rfl⟩
  go_wp2_with fail
  refine (rank_5 99 2 _ (by decide)).mono ?_
  rintro e w' ⟨rfl, rfl⟩
  go_wp2_with fail
  refine (rank_5 (-1) 0 _ (by decide)).mono ?_
  rintro e w' ⟨rfl, rfl⟩
  go_wp2_with fail
  refine (select_5 1 2 _ (hT.below (((Below.refl _ _).drewN _).alloc (by simp) _) hw0) (by decide)).mono ?_
  rintro e w' ⟨rfl, rfl⟩
  go_wp2_with fail
  refine (select_5 2 (-1) _ (hT.below (((Below.refl _ _).drewN _).alloc (by simp) _) hw0) (by decide)).mono ?_
  rintro e w' ⟨rfl, rfl⟩
  go_wp2_with fail
  go_ret
  exact ⟨rfl, ((Below.refl _ _).drewN _).alloc (by simp) _⟩
end Go.Proofs.YtbchcppmbpnabaaDoor
