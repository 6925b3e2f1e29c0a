/- What the functions of package block that only read do: contracts of the walk. -/
import Derived.Test.YtfbhcbcpeocmcaaDoorBitsA
import Derived.Test.YtfbhcbcpeocmcaaDoorBlk
import Derived.Test.YtfbhcbcpeocmcaaDoorFrame
import Derived.Outline
import Derived.WalkSpells
import Derived.Laws.Rows
namespace Go.Proofs.YtfbhcbcpeocmcaaDoor
open Go Go.RowKit

/-- Block g of the memory is a block of the list l. -/
def IsBlk (w : World) (g : Nat) (l : List Bool) : Prop :=
  l.length ≤ 128 ∧ ∃ x y : Nat, w.heap[g]? = some (.cells #[.int .u64 x, .int .u64 y, .int .i64 l.length] 91 (0, 0)) ∧ Blk.Has x (Blk.at_ l 0) ∧ Blk.Has y (Blk.at_ l 64)
theorem IsBlk.stay {S : Nat → Prop} {w w' : World} {g : Nat} {l : List Bool} (h : IsBlk w g l) (hb : Stay S w w') (hs : ¬ S g) : IsBlk w' g l := by
  obtain ⟨h1, x, y, h2, h3, h4⟩ := h
  exact ⟨h1, x, y, hb.kept h2 hs, h3, h4⟩
theorem IsBlk.below {w w' : World} {g B : Nat} {l : List Bool} (h : IsBlk w g l) (hb : Below B w w') (hs : g < B) : IsBlk w' g l := by
  obtain ⟨h1, x, y, h2, h3, h4⟩ := h
  exact ⟨h1, x, y, Below.keptB hb h2 hs, h3, h4⟩
theorem IsBlk.lt {w : World} {g : Nat} {l : List Bool} (h : IsBlk w g l) : g < w.heap.size := by
  obtain ⟨h1, x, y, h2, h3, h4⟩ := h
  exact lt_of_block h2
/-- The three cells. -/
structure Cells3 (w : World) (g x y n : Nat) : Prop where
  c0 : w.cell? ⟨g, 0, none⟩ = some (.int .u64 x)
  c1 : w.cell? ⟨g, 1, none⟩ = some (.int .u64 y)
  c2 : w.cell? ⟨g, 2, none⟩ = some (.int .i64 n)
  f0 : w.frozen? ⟨g, 0, none⟩ = false
  f1 : w.frozen? ⟨g, 1, none⟩ = false
  f2 : w.frozen? ⟨g, 2, none⟩ = false
theorem cells3 {w : World} {g x y n : Nat} {t : TypeId} (h : w.heap[g]? = some (.cells #[.int .u64 x, .int .u64 y, .int .i64 n] t (0, 0))) : Cells3 w g x y n :=
  ⟨(cell_of h).trans rfl, (cell_of h).trans rfl, (cell_of h).trans rfl, free_of h, free_of h, free_of h⟩

theorem blen_nil (w : World) : Calls Tryd.prog 67 #[.pointer none] w fun e w' => e = .returned (.int .i64 0) ∧ w = w' := by
  go_enter Tryd.func67, Tryd.ntmps67
  go_wp2
  go_ret
  exact ⟨rfl, rfl⟩
theorem blen_any {l : List Bool} {g : Nat} (w : World) (h : IsBlk w g l) :
    Calls Tryd.prog 67 #[.pointer (some ⟨g, 0, none⟩)] w fun e w' => e = .returned (.int .i64 l.length) ∧ w = w' := by
  obtain ⟨hl, x, y, hg, hx, hy⟩ := h
  obtain ⟨c0, c1, c2, f0, f1, f2⟩ := cells3 hg
  clear hg c0 c1 f0 f1 f2 hx hy
  go_enter Tryd.func67, Tryd.ntmps67
  go_wp2
  go_ret
  exact ⟨rfl, rfl⟩
theorem bhas_yes {l : List Bool} {g : Nat} (k : Int) (w : World) (h : IsBlk w g l) (h0 : 0 ≤ k) (h1 : k < l.length) :
    Calls Tryd.prog 61 #[.pointer (some ⟨g, 0, none⟩), .int .i64 k] w fun e w' => e = .returned (.bool true) ∧ w = w' := by
  obtain ⟨hl, x, y, hg, hx, hy⟩ := h
  obtain ⟨c0, c1, c2, f0, f1, f2⟩ := cells3 hg
  clear hg c0 c1 f0 f1 f2 hx hy
  go_enter Tryd.func61, Tryd.ntmps61
  go_wp2
  go_ret
  exact ⟨rfl, rfl⟩
theorem bhas_no {l : List Bool} {g : Nat} (k : Int) (w : World) (h : IsBlk w g l) (h0 : k < 0 ∨ (l.length : Int) ≤ k) :
    Calls Tryd.prog 61 #[.pointer (some ⟨g, 0, none⟩), .int .i64 k] w fun e w' => e = .returned (.bool false) ∧ w = w' := by
  obtain ⟨hl, x, y, hg, hx, hy⟩ := h
  obtain ⟨c0, c1, c2, f0, f1, f2⟩ := cells3 hg
  clear hg c0 c1 f0 f1 f2 hx hy
  by_cases hk : k < 0
  · clear h0
    go_enter Tryd.func61, Tryd.ntmps61
    go_wp2
    go_ret
    exact ⟨rfl, rfl⟩
  · have h1 : 0 ≤ k := by omega
    have h2 : (l.length : Int) ≤ k := by omega
    clear h0 hk
    go_enter Tryd.func61, Tryd.ntmps61
    go_wp2
    go_ret
    exact ⟨ret_bool (by first | rfl | exact decide_eq_false (by omega)), rfl⟩

theorem bat_any {l : List Bool} {g : Nat} (k : Nat) (w : World) (h : IsBlk w g l) (h1 : k < l.length) :
    Calls Tryd.prog 62 #[.pointer (some ⟨g, 0, none⟩), .int .i64 k] w fun e w' => e = .returned (.bool (l.getD k false)) ∧ w = w' := by
  obtain ⟨hl, x, y, hg, hx, hy⟩ := h
  obtain ⟨c0, c1, c2, f0, f1, f2⟩ := cells3 hg
  by_cases hk : k < 64
  · have e := Wd.bit_at x k hx.1
    rw [hx.2 k hk] at e
    unfold Blk.at_ at e
    rw [Nat.zero_add] at e
    have EE := Lib.hid e
    have q1 : (k : Int) / 64 = 0 := by omega
    have q2 : (k : Int) % 64 = k := by omega
    clear hg c1 c2 f0 f1 f2 hx hy e
    go_enter Tryd.func62, Tryd.ntmps62
    go_wp2
    go_ret
    exact ⟨ret_bool EE.out, rfl⟩
  · obtain ⟨m, hm⟩ : ∃ m, k = 64 + m := ⟨k - 64, by omega⟩
    have e := Wd.bit_at y m hy.1
    rw [hy.2 m (by omega)] at e
    unfold Blk.at_ at e
    rw [← hm] at e
    have EE := Lib.hid e
    have q1 : (k : Int) / 64 = 1 := by omega
    have q2 : (k : Int) % 64 = m := by omega
    have q3 : (m : Int) < 64 := by omega
    clear hg c0 c2 f0 f1 f2 hx hy e hm
    go_enter Tryd.func62, Tryd.ntmps62
    go_wp2
    go_ret
    exact ⟨ret_bool EE.out, rfl⟩
theorem brange {l : List Bool} {g : Nat} (k : Int) (w : World) (h : IsBlk w g l) (h0 : k < 0 ∨ (l.length : Int) ≤ k) :
    Calls Tryd.prog 43 #[.pointer (some ⟨g, 0, none⟩), .int .i64 k] w fun e w' => e = .returned (.tuple #[.bool false, .int .i64 2]) ∧ w = w' := by
  go_enter Tryd.func43, Tryd.ntmps43
  go_wp2_with (go_at_call 61; refine (bhas_no _ _ h h0).mono ?_; rintro e w' ⟨rfl, rfl⟩)
  go_ret2
  exact ⟨rfl, rfl⟩
theorem bget_yes {l : List Bool} {g : Nat} (k : Nat) (w : World) (h : IsBlk w g l) (h1 : k < l.length) :
    Calls Tryd.prog 43 #[.pointer (some ⟨g, 0, none⟩), .int .i64 k] w fun e w' => e = .returned (.tuple #[.bool (l.getD k false), .int .i64 0]) ∧ w = w' := by
  have HL := Lib.hid h1
  clear h1
  go_enter Tryd.func43, Tryd.ntmps43
  go_wp2_with (first
    | (go_at_call 61; refine (bhas_yes _ _ h (by omega) (by have := HL.out; omega)).mono ?_; rintro e w' ⟨rfl, rfl⟩)
    | (go_at_call 62; refine (bat_any _ _ h HL.out).mono ?_; rintro e w' ⟨rfl, rfl⟩))
  go_ret2
  exact ⟨rfl, rfl⟩
theorem bget_nil (k : Int) (w : World) :
    Calls Tryd.prog 43 #[.pointer none, .int .i64 k] w fun e w' => e = .returned (.tuple #[.bool false, .int .i64 6]) ∧ w = w' := by
  go_enter Tryd.func43, Tryd.ntmps43
  go_wp2
  go_ret2
  exact ⟨rfl, rfl⟩
theorem bget_any {l : List Bool} {g : Nat} (k : Int) (w : World) (h : IsBlk w g l) :
    Calls Tryd.prog 43 #[.pointer (some ⟨g, 0, none⟩), .int .i64 k] w fun e w' => e = .returned (.tuple #[.bool (Blk.getB l k), .int .i64 (Blk.getE l k)]) ∧ w = w' := by
  unfold Blk.getB Blk.getE
  by_cases hk : 0 ≤ k ∧ k < l.length
  · rw [if_pos hk, if_pos hk]
    obtain ⟨n, rfl⟩ := Int.eq_ofNat_of_zero_le hk.1
    exact bget_yes n w h (by omega)
  · rw [if_neg hk, if_neg hk]
    exact brange k w h (by omega)
theorem bones_nil (w : World) : Calls Tryd.prog 68 #[.pointer none] w fun e w' => e = .returned (.int .i64 0) ∧ w = w' := by
  go_enter Tryd.func68, Tryd.ntmps68
  go_wp2
  go_ret
  exact ⟨rfl, rfl⟩
theorem bones_any {l : List Bool} {g : Nat} (w : World) (h : IsBlk w g l) :
    Calls Tryd.prog 68 #[.pointer (some ⟨g, 0, none⟩)] w fun e w' => e = .returned (.int .i64 (l.count true)) ∧ w = w' := by
  obtain ⟨hl, x, y, hg, hx, hy⟩ := h
  obtain ⟨c0, c1, c2, f0, f1, f2⟩ := cells3 hg
  have e := Blk.pop_two hx hy hl
  have EE := Lib.hid e
  have key := count_any [x, y] g 0 2 w (by simp; exact ⟨hx.1, hy.1⟩) (by simp) (fun i hi => by match i, hi with | 0, _ => exact c0 | 1, _ => exact c1)
  clear hg c0 c1 c2 f0 f1 f2 hx hy e
  go_enter Tryd.func68, Tryd.ntmps68
  go_wp2_with fail
  refine key.mono ?_
  rintro e w' ⟨rfl, rfl⟩
  go_wp2_with fail
  go_ret
  exact ⟨ret_int (by rw [← EE.out]; simp [pops]), rfl⟩
theorem brank_nil (k : Int) (w : World) : Calls Tryd.prog 63 #[.pointer none, .int .i64 k] w fun e w' => e = .returned (.int .i64 0) ∧ w = w' := by
  go_enter Tryd.func63, Tryd.ntmps63
  go_wp2
  go_ret
  exact ⟨rfl, rfl⟩
theorem rank_at (x : Nat) (k : Int) (p : Nat) (w : World) (hx : x < 18446744073709551616) (h : Wd.cnt x.testBit (min k.toNat 64) = p) :
    Calls Tryd.prog 80 #[.int .u64 x, .int .i64 k] w fun e w' => e = .returned (.int .i64 p) ∧ w = w' := by
  subst h
  exact rank_any x k w hx
theorem cnt_small (f : Nat → Bool) (n : Nat) (h : n ≤ 0) : Wd.cnt f n = 0 := by rw [show n = 0 from by omega]; rfl
set_option maxHeartbeats 400000 in
theorem brank_any {l : List Bool} {g : Nat} (k : Int) (w : World) (h : IsBlk w g l) :
    Calls Tryd.prog 63 #[.pointer (some ⟨g, 0, none⟩), .int .i64 k] w fun e w' => e = .returned (.int .i64 (Blk.rk true l k.toNat)) ∧ w = w' := by
  obtain ⟨hl, x, y, hg, hx, hy⟩ := h
  obtain ⟨c0, c1, c2, f0, f1, f2⟩ := cells3 hg
  have hr : ∀ m : Nat, m ≤ l.length → Wd.cnt x.testBit (min m 64) + Wd.cnt y.testBit (min (m - 64) 64) = Blk.rk true l m := fun m hm => Blk.rank_two hx hy (k := m) (by omega)
  have HR := Lib.hid hr
  have hx1 := hx.1
  have hy1 := hy.1
  have hall := Blk.rk_all (b := true) (l := l) (Nat.le_refl _)
  have HALL := Lib.hid hall
  have i0 : ∀ w, (Instr.index 89 (.agg #[.int .u64 x, .int .u64 y]) (.int .i64 0)).run Tryd.prog w = .ok (.int .u64 x) w := fun _ => by kernel_rfl
  have i1 : ∀ w, (Instr.index 89 (.agg #[.int .u64 x, .int .u64 y]) (.int .i64 1)).run Tryd.prog w = .ok (.int .u64 y) w := fun _ => by kernel_rfl
  clear hg f0 f1 f2 hx hy hr hall
  by_cases hk : k < 0
  · have h0 : ¬ (l.length : Int) < 0 := by omega
    have e0 : (0 : Int) ≤ l.length := by omega
    have ek : k.toNat = 0 := by omega
    rw [ek]
    clear ek
    go_enter Tryd.func63, Tryd.ntmps63
    go_wp2
    go_loop [5, 21] (fun n i => (i = .int .i64 0 ∧ n = .int .i64 0) ∨ (i = .int .i64 1 ∧ n = .int .i64 0) ∨ (i = .int .i64 2 ∧ n = .int .i64 0)) (fun _ i => 2 - (intOf i).toNat)
    case atStart => exact .inl ⟨rfl, rfl⟩
    case round =>
      rcases hrel with ⟨rfl, rfl⟩ | ⟨rfl, rfl⟩ | ⟨rfl, rfl⟩
      · go_wp2_with fail
        refine (rank_any x _ _ hx1).mono ?_
        rintro e w' ⟨rfl, rfl⟩
        rw [cnt_small _ _ (by omega)]
        go_wp2
        go_round
        case rel => exact .inr (.inl ⟨rfl, rfl⟩)
        case measure => simp [intOf]
      · go_wp2_with fail
        refine (rank_any y _ _ hy1).mono ?_
        rintro e w' ⟨rfl, rfl⟩
        rw [cnt_small _ _ (by omega)]
        go_wp2
        go_round
        case rel => exact .inr (.inr ⟨rfl, rfl⟩)
        case measure => simp [intOf]
      · go_wp2
        go_ret
        exact ⟨ret_int (by simp [Blk.rk]), rfl⟩
  · obtain ⟨kn, rfl⟩ := Int.eq_ofNat_of_zero_le (show 0 ≤ k by omega)
    have e0 : ¬ (kn : Int) < 0 := by omega
    rw [Int.toNat_natCast]
    obtain ⟨m, hm, hml, hmr⟩ : ∃ m : Nat, ((kn ≤ l.length ∧ m = kn) ∨ (¬ kn ≤ l.length ∧ m = l.length)) ∧ m ≤ l.length ∧ Blk.rk true l m = Blk.rk true l kn := by
      by_cases h : kn ≤ l.length
      · exact ⟨kn, .inl ⟨h, rfl⟩, h, rfl⟩
      · exact ⟨l.length, .inr ⟨h, rfl⟩, Nat.le_refl _, by rw [HALL.out, Blk.rk_all (by omega)]⟩
    obtain ⟨p, q, r, HP, HQ, HE, hp64, hq64⟩ : ∃ p q r : Nat, Hid (Wd.cnt x.testBit (min m 64) = p) ∧ Hid (Wd.cnt y.testBit (min (m - 64) 64) = q) ∧ Hid (p + q = r ∧ r = Blk.rk true l kn) ∧ p ≤ 64 ∧ q ≤ 64 :=
      ⟨_, _, _, Lib.hid rfl, Lib.hid rfl, Lib.hid ⟨rfl, (HR.out m hml).trans hmr⟩, Nat.le_trans (Wd.cnt_le _ _) (by omega), Nat.le_trans (Wd.cnt_le _ _) (by omega)⟩
    rw [← HE.out.2]
    clear hmr
    rcases hm with ⟨hkl, rfl⟩ | ⟨hkl, rfl⟩
    all_goals
      go_enter Tryd.func63, Tryd.ntmps63
      go_wp2
      go_loop [5, 21] (fun n i => (i = .int .i64 0 ∧ n = .int .i64 0) ∨ (i = .int .i64 1 ∧ n = .int .i64 p) ∨ (i = .int .i64 2 ∧ n = .int .i64 r)) (fun _ i => 2 - (intOf i).toNat)
      case atStart => exact .inl ⟨rfl, rfl⟩
      case round =>
        rcases hrel with ⟨rfl, rfl⟩ | ⟨rfl, rfl⟩ | ⟨rfl, rfl⟩
        · go_wp2_with fail
          refine (rank_at x _ p _ hx1 (by rw [← HP.out]; congr 1)).mono ?_
          rintro e w' ⟨rfl, rfl⟩
          go_wp2
          go_round
          case rel => exact .inr (.inl ⟨rfl, by go_num⟩)
          case measure => simp [intOf]
        · go_wp2_with fail
          refine (rank_at y _ q _ hy1 (by rw [← HQ.out]; congr 1; omega)).mono ?_
          rintro e w' ⟨rfl, rfl⟩
          have hr := HE.out.1
          go_wp2
          go_round
          case rel => exact .inr (.inr ⟨rfl, by rw [← HE.out.1]; go_num⟩)
          case measure => simp [intOf]
        · go_wp2
          go_ret
          exact ⟨rfl, rfl⟩
theorem TabAt.below {w w' : World} {B : Nat} (h : TabAt w) (hb : Below B w w') (hB : 0 < B) : TabAt w' := fun j hj => (hb.cell (p := ⟨0, j, none⟩) hB).trans (h j hj)
theorem count_one (x b : Nat) (w : World) (hx : x < 18446744073709551616) (h0 : w.cell? ⟨b, 0, none⟩ = some (.int .u64 x)) :
    Calls Tryd.prog 64 #[.slice (some ⟨b, 0, none⟩) 1 1] w fun e w' => e = .returned (.int .i64 (Wd.pop x)) ∧ w = w' :=
  (count_any [x] b 0 1 w (by simpa using hx) (by simp) (fun i hi => by match i, hi with | 0, _ => exact h0)).mono fun _ _ ⟨he, hw⟩ => ⟨he.trans (ret_int (by simp [pops])), hw⟩
theorem bplace_any {l : List Bool} {g : Nat} (k : Nat) (w : World) (h : IsBlk w g l) :
    Calls Tryd.prog 65 #[.pointer (some ⟨g, 0, none⟩), .int .i64 k] w fun e w' => e = .returned (.int .i64 (if k < l.length then (k : Int) else -1)) ∧ w = w' := by
  by_cases hk : k < l.length
  · rw [if_pos hk]
    have HK := Lib.hid hk
    clear hk
    go_enter Tryd.func65, Tryd.ntmps65
    go_wp2_with (go_at_call 61; refine (bhas_yes _ _ h (by omega) (by have := HK.out; omega)).mono ?_; rintro e w' ⟨rfl, rfl⟩)
    go_ret
    exact ⟨rfl, rfl⟩
  · rw [if_neg hk]
    have HK := Lib.hid hk
    clear hk
    go_enter Tryd.func65, Tryd.ntmps65
    go_wp2_with (go_at_call 61; refine (bhas_no _ _ h (by have := HK.out; omega)).mono ?_; rintro e w' ⟨rfl, rfl⟩)
    go_ret
    exact ⟨rfl, rfl⟩
theorem bsel_neg {l : List Bool} {g : Nat} (j : Int) (b : Bool) (w : World) (h : j < 0) :
    Calls Tryd.prog 49 #[.pointer (some ⟨g, 0, none⟩), .int .i64 j, .bool b] w fun e w' => e = .returned (.int .i64 (Blk.sl b l j)) ∧ Below w.heap.size w w' := by
  rw [Blk.sl_none (.inl h)]
  go_enter Tryd.func49, Tryd.ntmps49
  go_wp2
  go_ret
  exact ⟨rfl, Below.refl _ _⟩
theorem bsel_nil (j : Int) (b : Bool) (w : World) :
    Calls Tryd.prog 49 #[.pointer none, .int .i64 j, .bool b] w fun e w' => e = .returned (.int .i64 (-1)) ∧ w = w' := by
  go_enter Tryd.func49, Tryd.ntmps49
  go_wp2
  go_ret
  exact ⟨rfl, rfl⟩
theorem count_at (x b p : Nat) (w : World) (hx : x < 18446744073709551616) (hp : Wd.pop x = p) (h0 : w.cell? ⟨b, 0, none⟩ = some (.int .u64 x)) :
    Calls Tryd.prog 64 #[.slice (some ⟨b, 0, none⟩) 1 1] w fun e w' => e = .returned (.int .i64 p) ∧ w = w' := by
  subst hp; exact count_one x b w hx h0
theorem sel_at (x j s : Nat) (w : World) (hx : x < 18446744073709551616) (hj : j < Wd.pop x) (hT : TabAt w) (hs : Wd.sel j x = s) :
    Calls Tryd.prog 66 #[.int .u64 x, .int .i64 j] w fun e w' => e = .returned (.int .i64 s) ∧ w = w' := by
  subst hs; exact select_yes x j w hx (by omega) (by omega) hT
theorem bplace_at {l : List Bool} {g : Nat} (k : Nat) (r : Int) (w : World) (h : IsBlk w g l) (hr : (if k < l.length then (k : Int) else -1) = r) :
    Calls Tryd.prog 65 #[.pointer (some ⟨g, 0, none⟩), .int .i64 k] w fun e w' => e = .returned (.int .i64 r) ∧ w = w' := by
  subst hr; exact bplace_any k w h
set_option maxHeartbeats 800000 in
theorem bsel_pos {l : List Bool} {g : Nat} (j : Nat) (b : Bool) (w : World) (h : IsBlk w g l) (hT : TabAt w) (hw0 : 0 < w.heap.size) (hj63 : (j : Int) ≤ 9223372036854775807) :
    Calls Tryd.prog 49 #[.pointer (some ⟨g, 0, none⟩), .int .i64 j, .bool b] w fun e w' => e = .returned (.int .i64 (Blk.sl b l (j : Int))) ∧ Below w.heap.size w w' := by
  have hg0 := h.lt
  have hlow : IsBlk w g l := h
  obtain ⟨hl, x, y, hg, hx, hy⟩ := h
  obtain ⟨c0, c1, c2, f0, f1, f2⟩ := cells3 hg
  have i0 : ∀ w, (Instr.index 89 (.agg #[.int .u64 x, .int .u64 y]) (.int .i64 0)).run Tryd.prog w = .ok (.int .u64 x) w := fun _ => by kernel_rfl
  have i1 : ∀ w, (Instr.index 89 (.agg #[.int .u64 x, .int .u64 y]) (.int .i64 1)).run Tryd.prog w = .ok (.int .u64 y) w := fun _ => by kernel_rfl
  obtain ⟨p, q, hp, hq, HP, HQ⟩ : ∃ p q : Nat, p ≤ 64 ∧ q ≤ 64 ∧ Hid (Wd.pop (Blk.tw b x) = p) ∧ Hid (Wd.pop (Blk.tw b y) = q) := ⟨_, _, Wd.pop_le _, Wd.pop_le _, Lib.hid rfl, Lib.hid rfl⟩
  have hx1 : Blk.tw b x < 18446744073709551616 := Blk.tw_lt hx.1
  have hy1 : Blk.tw b y < 18446744073709551616 := Blk.tw_lt hy.1
  have R0 := Lib.hid (fun hj : j < Wd.pop (Blk.tw b x) => Blk.sel_lo (b := b) hx hj)
  have R1 := Lib.hid (fun (h0 : Wd.pop (Blk.tw b x) ≤ j) (hj : j - Wd.pop (Blk.tw b x) < Wd.pop (Blk.tw b y)) => Blk.sel_hi (b := b) hx hy h0 hj)
  have R2 := Lib.hid (fun h0 : Wd.pop (Blk.tw b x) + Wd.pop (Blk.tw b y) ≤ j => Blk.sel_no (b := b) hx hy hl h0)
  have X := Wd.xor_neg x hx.1
  have Y := Wd.xor_neg y hy.1
  have HT := Lib.hid hT
  clear hg f0 f1 f2 hx hy hT
  cases b
  case true =>
    have ex : Blk.tw true x = x := rfl
    have ey : Blk.tw true y = y := rfl
    rw [ex] at HP hx1 R0 R1 R2
    rw [ey] at HQ hy1 R1 R2
    clear X Y ex ey
    go_enter Tryd.func49, Tryd.ntmps49
    go_wp2
    go_loopw [1, 20] (fun t i wr => (i = .int .i64 0 ∧ t = .int .i64 j ∧ Below w.heap.size w wr) ∨ (i = .int .i64 1 ∧ ∃ m : Nat, t = .int .i64 m ∧ p + m = j ∧ Below w.heap.size w wr) ∨ (i = .int .i64 2 ∧ p + q ≤ j ∧ Below w.heap.size w wr)) (fun _ i _ => 2 - (intOf i).toNat)
    case atStart => exact .inl ⟨rfl, rfl, Below.refl _ _⟩
    case round =>
      rcases hrel with ⟨rfl, rfl, hb⟩ | ⟨rfl, m, rfl, hm0, hb⟩ | ⟨rfl, hj, hb⟩
      · have hsz := hb.size
        have B1 : Below w.heap.size w (wr.alloc (Obj.cells #[Value.int .u64 x] 88)) := hb.alloc hsz _
        by_cases hj : j < p
        · have ht : ∃ s : Nat, s < 64 ∧ Hid (Wd.sel j x = s) := ⟨_, (Wd.sel_spec j x hx1 (by rw [HP.out]; exact hj)).1, Lib.hid rfl⟩
          obtain ⟨s, hs, HS⟩ := ht
          go_wp2_with fail
          refine (count_at x _ p _ hx1 HP.out (new_cell rfl rfl)).mono ?_
          rintro e w' ⟨rfl, rfl⟩
          go_wp2_with fail
          refine (sel_at x j s _ hx1 (by rw [HP.out]; exact hj) (HT.out.below B1 hw0) HS.out).mono ?_
          rintro e w' ⟨rfl, rfl⟩
          go_wp2_with fail
          refine (bplace_at s (Blk.sl true l (j : Int)) _ (hlow.below B1 hg0) (by rw [← HS.out]; exact R0.out (by rw [HP.out]; exact hj))).mono ?_
          rintro e w' ⟨rfl, rfl⟩
          go_wp2
          go_ret
          exact ⟨rfl, B1⟩
        · obtain ⟨m, HM⟩ : ∃ m : Nat, Hid ((j : Int) - p = m ∧ p + m = j) := ⟨j - p, Lib.hid ⟨by omega, by omega⟩⟩
          go_wp2_with fail
          refine (count_at x _ p _ hx1 HP.out (new_cell rfl rfl)).mono ?_
          rintro e w' ⟨rfl, rfl⟩
          go_wp2
          go_roundw
          case rel => exact .inr (.inl ⟨rfl, m, by rw [HM.out.1], HM.out.2, B1⟩)
          case measure => simp [intOf]
      · have HM := Lib.hid hm0
        have HMJ := Lib.hid (show ¬ m < q → p + q ≤ j by omega)
        have hsz := hb.size
        clear hm0
        have B1 : Below w.heap.size w (wr.alloc (Obj.cells #[Value.int .u64 y] 88)) := hb.alloc hsz _
        by_cases hj : m < q
        · have ht : ∃ s : Nat, s < 64 ∧ Hid (Wd.sel m y = s) := ⟨_, (Wd.sel_spec m y hy1 (by rw [HQ.out]; exact hj)).1, Lib.hid rfl⟩
          obtain ⟨s, hs, HS⟩ := ht
          go_wp2_with fail
          refine (count_at y _ q _ hy1 HQ.out (new_cell rfl rfl)).mono ?_
          rintro e w' ⟨rfl, rfl⟩
          go_wp2_with fail
          refine (sel_at y m s _ hy1 (by rw [HQ.out]; exact hj) (HT.out.below B1 hw0) HS.out).mono ?_
          rintro e w' ⟨rfl, rfl⟩
          have e1 : j - Wd.pop x = m := by rw [HP.out]; have := HM.out; omega
          have R3 := Lib.hid (R1.out (by rw [HP.out]; have := HM.out; omega) (by rw [e1, HQ.out]; exact hj))
          clear e1
          go_wp2_with fail
          refine (bplace_at (64 + s) (Blk.sl true l (j : Int)) _ (hlow.below B1 hg0) (by have := R3.out; rw [show j - Wd.pop x = m from by rw [HP.out]; have := HM.out; omega, HS.out] at this; exact this)).mono ?_
          rintro e w' ⟨rfl, rfl⟩
          go_wp2
          go_ret
          exact ⟨rfl, B1⟩
        · have HJ := Lib.hid (HMJ.out hj)
          go_wp2_with fail
          refine (count_at y _ q _ hy1 HQ.out (new_cell rfl rfl)).mono ?_
          rintro e w' ⟨rfl, rfl⟩
          go_wp2
          go_roundw
          case rel => exact .inr (.inr ⟨rfl, HJ.out, B1⟩)
          case measure => simp [intOf]
      · go_wp2
        go_ret
        exact ⟨ret_int (R2.out (by rw [HP.out, HQ.out]; exact hj)).symm, hb⟩
  case false =>
    have ex : Blk.tw false x = Wd.neg x := rfl
    have ey : Blk.tw false y = Wd.neg y := rfl
    rw [ex] at HP hx1 R0 R1 R2
    rw [ey] at HQ hy1 R1 R2
    clear ex ey
    go_enter Tryd.func49, Tryd.ntmps49
    go_wp2
    go_loopw [1, 20] (fun t i wr => (i = .int .i64 0 ∧ t = .int .i64 j ∧ Below w.heap.size w wr) ∨ (i = .int .i64 1 ∧ ∃ m : Nat, t = .int .i64 m ∧ p + m = j ∧ Below w.heap.size w wr) ∨ (i = .int .i64 2 ∧ p + q ≤ j ∧ Below w.heap.size w wr)) (fun _ i _ => 2 - (intOf i).toNat)
    case atStart => exact .inl ⟨rfl, rfl, Below.refl _ _⟩
    case round =>
      rcases hrel with ⟨rfl, rfl, hb⟩ | ⟨rfl, m, rfl, hm0, hb⟩ | ⟨rfl, hj, hb⟩
      · have hsz := hb.size
        have B1 : Below w.heap.size w (wr.alloc (Obj.cells #[Value.int .u64 (Wd.neg x)] 88)) := hb.alloc hsz _
        by_cases hj : j < p
        · have ht : ∃ s : Nat, s < 64 ∧ Hid (Wd.sel j (Wd.neg x) = s) := ⟨_, (Wd.sel_spec j _ hx1 (by rw [HP.out]; exact hj)).1, Lib.hid rfl⟩
          obtain ⟨s, hs, HS⟩ := ht
          go_wp2_with fail
          refine (count_at (Wd.neg x) _ p _ hx1 HP.out (new_cell rfl rfl)).mono ?_
          rintro e w' ⟨rfl, rfl⟩
          go_wp2_with fail
          refine (sel_at (Wd.neg x) j s _ hx1 (by rw [HP.out]; exact hj) (HT.out.below B1 hw0) HS.out).mono ?_
          rintro e w' ⟨rfl, rfl⟩
          go_wp2_with fail
          refine (bplace_at s (Blk.sl false l (j : Int)) _ (hlow.below B1 hg0) (by rw [← HS.out]; exact R0.out (by rw [HP.out]; exact hj))).mono ?_
          rintro e w' ⟨rfl, rfl⟩
          go_wp2
          go_ret
          exact ⟨rfl, B1⟩
        · obtain ⟨m, HM⟩ : ∃ m : Nat, Hid ((j : Int) - p = m ∧ p + m = j) := ⟨j - p, Lib.hid ⟨by omega, by omega⟩⟩
          go_wp2_with fail
          refine (count_at (Wd.neg x) _ p _ hx1 HP.out (new_cell rfl rfl)).mono ?_
          rintro e w' ⟨rfl, rfl⟩
          go_wp2
          go_roundw
          case rel => exact .inr (.inl ⟨rfl, m, by rw [HM.out.1], HM.out.2, B1⟩)
          case measure => simp [intOf]
      · have HM := Lib.hid hm0
        have HMJ := Lib.hid (show ¬ m < q → p + q ≤ j by omega)
        have hsz := hb.size
        clear hm0
        have B1 : Below w.heap.size w (wr.alloc (Obj.cells #[Value.int .u64 (Wd.neg y)] 88)) := hb.alloc hsz _
        by_cases hj : m < q
        · have ht : ∃ s : Nat, s < 64 ∧ Hid (Wd.sel m (Wd.neg y) = s) := ⟨_, (Wd.sel_spec m _ hy1 (by rw [HQ.out]; exact hj)).1, Lib.hid rfl⟩
          obtain ⟨s, hs, HS⟩ := ht
          go_wp2_with fail
          refine (count_at (Wd.neg y) _ q _ hy1 HQ.out (new_cell rfl rfl)).mono ?_
          rintro e w' ⟨rfl, rfl⟩
          go_wp2_with fail
          refine (sel_at (Wd.neg y) m s _ hy1 (by rw [HQ.out]; exact hj) (HT.out.below B1 hw0) HS.out).mono ?_
          rintro e w' ⟨rfl, rfl⟩
          have e1 : j - Wd.pop (Wd.neg x) = m := by rw [HP.out]; have := HM.out; omega
          have R3 := Lib.hid (R1.out (by rw [HP.out]; have := HM.out; omega) (by rw [e1, HQ.out]; exact hj))
          clear e1
          go_wp2_with fail
          refine (bplace_at (64 + s) (Blk.sl false l (j : Int)) _ (hlow.below B1 hg0) (by have := R3.out; rw [show j - Wd.pop (Wd.neg x) = m from by rw [HP.out]; have := HM.out; omega, HS.out] at this; exact this)).mono ?_
          rintro e w' ⟨rfl, rfl⟩
          go_wp2
          go_ret
          exact ⟨rfl, B1⟩
        · have HJ := Lib.hid (HMJ.out hj)
          go_wp2_with fail
          refine (count_at (Wd.neg y) _ q _ hy1 HQ.out (new_cell rfl rfl)).mono ?_
          rintro e w' ⟨rfl, rfl⟩
          go_wp2
          go_roundw
          case rel => exact .inr (.inr ⟨rfl, HJ.out, B1⟩)
          case measure => simp [intOf]
      · go_wp2
        go_ret
        exact ⟨ret_int (R2.out (by rw [HP.out, HQ.out]; exact hj)).symm, hb⟩
theorem bsel_any {l : List Bool} {g : Nat} (j : Int) (b : Bool) (w : World) (h : IsBlk w g l) (hT : TabAt w) (hw0 : 0 < w.heap.size) (hj63 : j ≤ 9223372036854775807) :
    Calls Tryd.prog 49 #[.pointer (some ⟨g, 0, none⟩), .int .i64 j, .bool b] w fun e w' => e = .returned (.int .i64 (Blk.sl b l j)) ∧ Below w.heap.size w w' := by
  by_cases h0 : j < 0
  · exact bsel_neg j b w h0
  · obtain ⟨n, rfl⟩ := Int.eq_ofNat_of_zero_le (show 0 ≤ j by omega)
    exact bsel_pos n b w h hT hw0 hj63
end Go.Proofs.YtfbhcbcpeocmcaaDoor
