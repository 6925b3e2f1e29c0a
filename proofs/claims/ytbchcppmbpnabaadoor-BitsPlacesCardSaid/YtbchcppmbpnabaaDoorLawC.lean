/- Layer 1's statements with loops, as walks: BitsPlaces, BitsOrder. -/
import Derived.Test.YtbchcppmbpnabaaDoorTold
import Derived.Outline
namespace Go.Proofs.YtbchcppmbpnabaaDoor
open Go.RowKit

set_option maxHeartbeats 400000 in
theorem places_walk (x : Nat) (w : World) (hx : x < 18446744073709551616) (hT : TabAt w) (hw0 : 0 < w.heap.size) :
    Calls Tryd.prog 6 #[.int .u64 x] w fun e w' => e = .returned (.bool true) ∧ Below w.heap.size w w' := by
  have hp := Wd.pop_le x
  go_enter Tryd.func6, Tryd.ntmps6
  go_wp2_with fail
  refine (count_one _ _ _ hx (new_cell rfl rfl)).mono ?_
  rintro e w' ⟨rfl, rfl⟩
  go_wp2_with fail
  obtain ⟨W, hW⟩ : ∃ W, W = w.alloc (Obj.cells #[Value.int IntKind.u64 x] 22) := ⟨_, rfl⟩
  have hb0 : Below w.heap.size w W := by rw [hW]; exact (Below.refl _ _).alloc (Nat.le_refl _) _
  rw [← hW]
  clear hW
  have hTW : TabAt W := hT.below hb0 hw0
  go_loop [4, 5] (fun a i => ∃ j : Nat, j ≤ Wd.pop x ∧ i = .int .i64 j ∧ a = .int .i64 (Wd.selP x j)) (fun _ i => Wd.pop x - (intOf i).toNat)
  case atStart => exact ⟨0, Nat.zero_le _, rfl, rfl⟩
  case round =>
    obtain ⟨j, hj, rfl, rfl⟩ := hrel
    by_cases hlt : j < Wd.pop x
    · obtain ⟨k1, k2, k3⟩ := Wd.sel_spec j x hx hlt
      have k4 := Wd.selP_lt hx hlt
      have k5 := Wd.cnt_succ x.testBit (Wd.sel j x)
      rw [k2, k3] at k5
      have k6 := Wd.selI_of hlt
      have k7 : Wd.selP x (j + 1) = (Wd.sel j x : Int) := rfl
      have k8 := Wd.bit_at x (Wd.sel j x) hx
      rw [k2] at k8
      have K8 : (bits .and .u64 ((x : Int) / 2 ^ (Wd.sel j x)) 1 != 1) = false := by simpa using k8
      clear k2 k8
      have K3 := Lib.hid k3
      have K5 := Lib.hid k5
      have K6 := Lib.hid k6
      have K7 := Lib.hid k7
      clear k3 k5 k6 k7
      have hj64 : j < 64 := by omega
      go_wp2_with fail
      refine (select_any _ _ _ hx hTW).mono ?_
      rintro e w' ⟨rfl, rfl⟩
      rw [K6.out]
      generalize Wd.sel j x = k at *
      generalize Wd.selP x j = a at *
      go_wp2_with fail
      refine (rank_any _ _ _ hx).mono ?_
      rintro e w' ⟨rfl, rfl⟩
      rw [show min (Int.toNat (k : Int)) 64 = k from by omega, K3.out]
      go_wp2_with fail
      refine (rank_any _ _ _ hx).mono ?_
      rintro e w' ⟨rfl, rfl⟩
      rw [show min (Int.toNat ((k : Int) + 1)) 64 = k + 1 from by omega, K5.out]
      go_wp2_with fail
      go_round
      case rel => exact ⟨j + 1, by omega, by go_num, by rw [K7.out]⟩
      case measure => simp [intOf]; omega
    · have hjp : j = Wd.pop x := by omega
      have hn := Wd.pop_neg hx
      have hneg := Wd.neg_lt x
      have hxn := Wd.xor_neg x hx
      have s1 : Wd.selI x (Wd.pop x) = -1 := by unfold Wd.selI; rw [if_neg (by omega)]
      have s2 : Wd.selI x (-1) = -1 := by unfold Wd.selI; rw [if_neg (by omega)]
      have s3 : Wd.cnt x.testBit 64 = Wd.pop x := rfl
      have s4 : ((Wd.pop x : Int) + (Wd.pop (Wd.neg x) : Int) == 64) = true := by simp; omega
      clear hn hjp
      have S1 := Lib.hid s1
      have S2 := Lib.hid s2
      have S3 := Lib.hid s3
      clear s1 s2 s3
      generalize Wd.selP x j = a at *
      go_wp2_with fail
      refine (told_any _ hTW (by have := hb0.size; omega)).mono ?_
      rintro e w1 ⟨rfl, hb1⟩
      have hb2 := hb0.trans (hb1.mono hb0.size)
      have hTW1 : TabAt w1 := hT.below hb2 hw0
      go_wp2_with fail
      refine (select_any _ _ _ hx hTW1).mono ?_
      rintro e w' ⟨rfl, rfl⟩
      rw [S1.out]
      go_wp2_with fail
      refine (select_any _ _ _ hx hTW1).mono ?_
      rintro e w' ⟨rfl, rfl⟩
      rw [S2.out]
      go_wp2_with fail
      refine (rank_any _ _ _ hx).mono ?_
      rintro e w' ⟨rfl, rfl⟩
      rw [show min (Int.toNat (64 : Int)) 64 = 64 from rfl, S3.out]
      go_wp2_with fail
      refine (count_two _ _ _ _ hx hneg (new_cell rfl rfl) (new_cell rfl rfl)).mono ?_
      rintro e w' ⟨rfl, rfl⟩
      go_wp2_with fail
      go_ret
      exact ⟨rfl, hb2.alloc hb2.size _⟩

/-- The cells of an array of bools. -/
def Arr (B n : Nat) (f : Nat → Bool) (w : World) : Prop := ∀ i, i < n → w.cell? ⟨B, i, none⟩ = some (.bool (f i)) ∧ w.frozen? ⟨B, i, none⟩ = false
theorem Arr.set {B n : Nat} {f g : Nat → Bool} {w : World} (h : Arr B n f w) {k : Nat} (hk : k < n) (b : Bool) (hg : ∀ i, g i = if i = k then b else f i) : Arr B n g (w.setCell ⟨B, k, none⟩ (.bool b)) := by
  intro i hi
  refine ⟨?_, by rw [World.frozen?_setCell]; exact (h i hi).2⟩
  rw [hg i]
  by_cases e : i = k
  · subst e
    rw [if_pos rfl]; exact World.cell?_setCell_same _ _ _ (h i hi).1
  · rw [if_neg e, World.cell?_setCell_other _ _ _ _ (fun h2 => e (congrArg Addr.off h2).symm)]
    exact (h i hi).1

set_option maxHeartbeats 400000 in
theorem order_walk (x : Nat) (w : World) (hx : x < 18446744073709551616) (hT : TabAt w) (hw0 : 0 < w.heap.size) :
    Calls Tryd.prog 3 #[.int .u64 x] w fun e w' => e = .returned (.bool true) ∧ Below w.heap.size w w' := by
  have hp := Wd.pop_le x
  have hn := Wd.pop_neg hx
  have hneg := Wd.neg_lt x
  have hxn := Wd.xor_neg x hx
  have HN := Lib.hid hn
  clear hn
  go_enter Tryd.func3, Tryd.ntmps3
  go_wp2_with fail
  refine (count_one _ _ _ hx (new_cell (by simp) rfl)).mono ?_
  rintro e w' ⟨rfl, rfl⟩
  go_wp2_with fail
  go_loopw [5] (fun i wr => ∃ j : Nat, j ≤ 64 ∧ i = .int .i64 j ∧ Arr w.heap.size 64 (Wd.seen x j) wr ∧ Below w.heap.size w wr) (fun i _ => 64 - (intOf i).toNat)
  case atStart =>
    refine ⟨0, by omega, rfl, ?_, ?_⟩
    · intro i hi
      rw [World.cell?_alloc_past _ _ _ (by simp), World.frozen?_alloc_past _ _ _ (by simp)]
      refine ⟨(World.cell?_alloc_at _ _ _ _ rfl).trans ?_, World.frozen?_alloc_at _ _ _ _ rfl⟩
      have : ∀ i, i < 64 → (Array.replicate 64 (Value.bool false))[i]? = some (Value.bool false) := fun i hi => by rw [Array.getElem?_replicate, if_pos hi]
      exact this i hi
    · refine Below.alloc (Below.alloc (Below.refl _ _) (Nat.le_refl _) _) ?_ _
      simp
  case round =>
    obtain ⟨j, hj, rfl, harr, hb⟩ := hrel
    have hTW : TabAt wr := hT.below hb (by omega)
    by_cases hlt : j < 64
    · obtain ⟨p1, p2⟩ := Wd.place_spec hx hlt
      have p3 := Wd.seen_not hx hlt j (Nat.le_refl _)
      obtain ⟨c1, c2⟩ := harr (Wd.place x j) p1
      rw [p3] at c1
      have hset := harr.set (g := Wd.seen x (j + 1)) p1 true (fun i => by
        simp only [Wd.seen]
        by_cases e : i = Wd.place x j
        · simp [e]
        · have : (Wd.place x j == i) = false := by simp; omega
          simp [e, this])
      have hbs : Below w.heap.size w (wr.setCell ⟨w.heap.size, Wd.place x j, none⟩ (.bool true)) := hb.setCell (Nat.le_refl _) _
      have HS := Lib.hid hset
      have HB := Lib.hid hbs
      clear p2 p3 hset hbs harr
      by_cases h1 : j < Wd.pop x
      · have e1 : Wd.selI x j = (Wd.place x j : Int) := by rw [Wd.selI_of h1]; unfold Wd.place; rw [if_pos h1]
        have E1 := Lib.hid e1
        clear e1
        generalize Wd.place x j = k at *
        have h64 : (j : Int) < 64 := by omega
        go_wp2_with fail
        refine (select_any _ _ _ hx hTW).mono ?_
        rintro e w' ⟨rfl, rfl⟩
        rw [E1.out]
        go_wp2_with fail
        go_roundw
        case rel => exact ⟨j + 1, by omega, by go_num, HS.out, HB.out⟩
        case measure => simp [intOf]; omega
      · have e1 : Wd.selI (Wd.neg x) ((j : Int) - (Wd.pop x : Int)) = (Wd.place x j : Int) := by
          have := HN.out
          rw [show ((j : Int) - (Wd.pop x : Int)) = ((j - Wd.pop x : Nat) : Int) from by omega, Wd.selI_of (by omega)]
          unfold Wd.place
          rw [if_neg h1]
        have E1 := Lib.hid e1
        clear e1
        generalize Wd.place x j = k at *
        have h64 : (j : Int) < 64 := by omega
        go_wp2_with fail
        refine (select_any _ _ _ hx hTW).mono ?_
        rintro e w' ⟨rfl, rfl⟩
        generalize Wd.selI x j = z at *
        go_wp2_with fail
        refine (select_any _ _ _ hneg hTW).mono ?_
        rintro e w' ⟨rfl, rfl⟩
        rw [E1.out]
        go_wp2_with fail
        go_roundw
        case rel => exact ⟨j + 1, by omega, by go_num, HS.out, HB.out⟩
        case measure => simp [intOf]; omega
    · have hj64 : (64 : Int) ≤ j := by omega
      go_wp2_with fail
      refine (told_any _ hTW (by have := hb.size; omega)).mono ?_
      rintro e w1 ⟨rfl, hb1⟩
      go_wp2_with fail
      go_ret
      exact ⟨rfl, hb.trans (hb1.mono hb.size)⟩
end Go.Proofs.YtbchcppmbpnabaaDoor
