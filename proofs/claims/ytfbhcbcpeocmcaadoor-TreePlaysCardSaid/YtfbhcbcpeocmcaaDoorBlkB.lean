/- What the functions of package block that make or turn a block do: contracts of the walk. -/
import Derived.Test.YtfbhcbcpeocmcaaDoorBlkA
import Derived.Test.YtfbhcbcpeocmcaaDoorLst
import Derived.RegionTactic
import Derived.ChangeAlike
import Derived.BigRegion
import Derived.Deep.RegionLaw
namespace Go.Proofs.YtfbhcbcpeocmcaaDoor
open Go Go.RowKit
theorem setbit (y m : Nat) (hy : y < 18446744073709551616) (hm : m < 64) : bits .or .u64 (y : Int) (IntKind.u64.wrap (2 ^ m)) = ((y ||| 2 ^ m : Nat) : Int) := by
  have h1 : 2 ^ m < 2 ^ 64 := Nat.pow_lt_pow_right (by decide) hm
  have e1 : ((2 : Int) ^ m) = ((2 ^ m : Nat) : Int) := by simp
  rw [e1, Wd.wrap64u _ h1, Wd.or64 y hy _ h1]
/-- A list's first k bits lie in a block of n. -/
def Filled (w : World) (g : Nat) (l : List Bool) (n : Nat) : Prop :=
  ∃ x y : Nat, w.heap[g]? = some (.cells #[.int .u64 x, .int .u64 y, .int .i64 n] 91 (0, 0)) ∧ Blk.Has x (Blk.at_ l 0) ∧ Blk.Has y (Blk.at_ l 64)
theorem bnew_full (a : Option Addr) (len cap : Nat) (w : World) (h : 128 < len) :
    Calls Tryd.prog 52 #[.slice a len cap] w fun e w' => e = .returned (.tuple #[.pointer none, .int .i64 3]) ∧ w = w' := by
  have h1 : (128 : Int) < len := by omega
  go_enter Tryd.func52, Tryd.ntmps52
  go_wp2
  go_ret2
  exact ⟨rfl, rfl⟩
set_option maxHeartbeats 800000 in
theorem bnew_any (l : List Bool) (b off cap : Nat) (w : World) (hl : l.length ≤ 128) (hb : b < w.heap.size)
    (hc : ∀ i, i < l.length → w.cell? ⟨b, off + i, none⟩ = some (.bool (l.getD i false))) :
    Calls Tryd.prog 52 #[.slice (some ⟨b, off, none⟩) l.length cap] w fun e w' => ∃ g, e = .returned (.tuple #[.pointer (some ⟨g, 0, none⟩), .int .i64 0]) ∧ w.heap.size ≤ g ∧ IsBlk w' g l ∧ Below w.heap.size w w' := by
  have HC := Lib.hid hc
  have h1 : ¬ (128 : Int) < l.length := by omega
  clear hc
  go_enter Tryd.func52, Tryd.ntmps52
  go_wp2
  go_loopw [5, 6, 16] (fun _ _ i wr => ∃ k : Nat, k ≤ l.length ∧ i = .int .i64 k ∧ Filled wr w.heap.size (l.take k) l.length ∧ Below w.heap.size w wr) (fun _ _ i _ => l.length - (intOf i).toNat)
  case atStart => exact ⟨0, Nat.zero_le _, rfl, ⟨0, 0, alloc_of, Blk.Has.zero.congr fun i _ => by simp [Blk.at_], Blk.Has.zero.congr fun i _ => by simp [Blk.at_]⟩, (Below.refl _ _).alloc (Nat.le_refl _) _⟩
  case round =>
    obtain ⟨k, hk, rfl, ⟨x, y, hg, hx, hy⟩, hb1⟩ := hrel
    obtain ⟨c0, c1, c2, f0, f1, f2⟩ := cells3 hg
    have HG := Lib.hid hg
    have HX := Lib.hid hx
    have HY := Lib.hid hy
    have hx1 := hx.1
    have hy1 := hy.1
    clear hg hx hy
    by_cases hlt : k < l.length
    · have hcell := (hb1.cell (p := ⟨b, off + k, none⟩) hb).trans (HC.out k hlt)
      have hlt' : (k : Int) < l.length := by omega
      cases hbit : l.getD k false with
      | false =>
        rw [hbit] at hcell
        have HBIT := Lib.hid hbit
        clear hbit
        go_wp2
        go_roundw
        case rel => exact ⟨k + 1, by omega, by go_num, ⟨x, y, HG.out, HX.out.skip (.inl HBIT.out), HY.out.skip (.inl HBIT.out)⟩, hb1⟩
        case measure => simp [intOf]; omega
      | true =>
        rw [hbit] at hcell
        have HBIT := Lib.hid hbit
        clear hbit
        by_cases hk64 : k < 64
        · have q1 : (k : Int) / 64 = 0 := by omega
          have q2 : (k : Int) % 64 = k := by omega
          have hset := setbit x k hx1 hk64
          have hw1 : w.heap.size ≤ w.heap.size := Nat.le_refl _
          have HX1 : Hid (Blk.Has (x ||| 2 ^ k) (Blk.at_ (l.take (k + 1)) 0)) := by
            have h := Blk.Has.set (l := l) (s := 0) (m := k) (x := x) (by rw [Nat.zero_add]; exact HX.out) hk64 (by rw [Nat.zero_add]; exact HBIT.out)
            rw [Nat.zero_add] at h
            exact Lib.hid h
          clear c2 f2 f1 c1
          go_wp2
          go_region
          all_goals
            go_wp2
            go_roundw
            case rel => exact ⟨k + 1, by omega, by go_num, ⟨_, y, set_of HG.out _, HX1.out, HY.out.skip (.inr (.inl hk64))⟩, (hb1.setCell (p := ⟨w.heap.size, 0, none⟩) hw1 _).drew⟩
            case measure => simp [intOf]; omega
        · obtain ⟨m, hm⟩ : ∃ m, k = 64 + m := ⟨k - 64, by omega⟩
          have HM := Lib.hid hm
          have q1 : (k : Int) / 64 = 1 := by omega
          have q2 : (k : Int) % 64 = m := by omega
          have hm64 : m < 64 := by omega
          have hset := setbit y m hy1 hm64
          have hw1 : w.heap.size ≤ w.heap.size := Nat.le_refl _
          have HY1 : Hid (Blk.Has (y ||| 2 ^ m) (Blk.at_ (l.take (k + 1)) 64)) := by
            have h := Blk.Has.set (l := l) (s := 64) (m := m) (x := y) (by rw [← hm]; exact HY.out) hm64 (by rw [← hm]; exact HBIT.out)
            rw [← hm] at h
            exact Lib.hid h
          clear c2 f2 f0 c0 hm
          go_wp2
          go_region
          all_goals
            go_wp2
            go_roundw
            case rel => exact ⟨k + 1, by omega, by go_num, ⟨x, _, set_of HG.out _, HX.out.skip (.inr (.inr (by omega))), HY1.out⟩, (hb1.setCell (p := ⟨w.heap.size, 1, none⟩) hw1 _).drew⟩
            case measure => simp [intOf]; omega
    · have hkl : k = l.length := by omega
      subst hkl
      have HX2 := HX.out
      have HY2 := HY.out
      rw [List.take_length] at HX2 HY2
      have HX3 := Lib.hid HX2
      have HY3 := Lib.hid HY2
      clear HX2 HY2 hlt
      go_wp2
      go_ret2
      exact ⟨w.heap.size, rfl, Nat.le_refl _, ⟨hl, x, y, HG.out, HX3.out, HY3.out⟩, hb1⟩

theorem bnew_rd {l : List Bool} {v : Value} (w : World) (h : RdB w v l) (hl : l.length ≤ 128) :
    Calls Tryd.prog 52 #[v] w fun e w' => ∃ g, e = .returned (.tuple #[.pointer (some ⟨g, 0, none⟩), .int .i64 0]) ∧ w.heap.size ≤ g ∧ IsBlk w' g l ∧ Below w.heap.size w w' := by
  rcases h with ⟨rfl, rfl⟩ | ⟨b, off, cap, rfl, h0, h1, h2, h3⟩
  · go_enter Tryd.func52, Tryd.ntmps52
    go_wp2
    go_loopw [5, 6, 16] (fun _ _ i wr => i = .int .i64 0 ∧ Filled wr w.heap.size [] 0 ∧ Below w.heap.size w wr) (fun _ _ i _ => 0)
    case atStart => exact ⟨rfl, ⟨0, 0, alloc_of, Blk.Has.zero.congr fun i _ => by simp [Blk.at_], Blk.Has.zero.congr fun i _ => by simp [Blk.at_]⟩, (Below.refl _ _).alloc (Nat.le_refl _) _⟩
    case round =>
      obtain ⟨rfl, ⟨x, y, hg, hx, hy⟩, hb1⟩ := hrel
      go_wp2
      go_ret2
      exact ⟨w.heap.size, rfl, Nat.le_refl _, ⟨hl, x, y, hg, hx, hy⟩, hb1⟩
  · exact bnew_any l b off cap w hl h0 h3
theorem bnew_rd_full {l : List Bool} {v : Value} (w : World) (h : RdB w v l) (hl : 128 < l.length) :
    Calls Tryd.prog 52 #[v] w fun e w' => e = .returned (.tuple #[.pointer none, .int .i64 3]) ∧ w = w' := by
  rcases h with ⟨rfl, rfl⟩ | ⟨b, off, cap, rfl, h0, h1, h2, h3⟩
  · simp at hl
  · exact bnew_full _ _ _ _ hl

theorem bins_nil (k : Int) (b : Bool) (w : World) :
    Calls Tryd.prog 71 #[.pointer none, .int .i64 k, .bool b] w fun e w' => e = .returned (.int .i64 6) ∧ w = w' := by
  go_enter Tryd.func71, Tryd.ntmps71
  go_wp2
  go_ret
  exact ⟨rfl, rfl⟩
theorem bins_full {l : List Bool} {g : Nat} (k : Int) (b : Bool) (w : World) (h : IsBlk w g l) (hl : l.length = 128) :
    Calls Tryd.prog 71 #[.pointer (some ⟨g, 0, none⟩), .int .i64 k, .bool b] w fun e w' => e = .returned (.int .i64 3) ∧ w = w' := by
  obtain ⟨hl1, x, y, hg, hx, hy⟩ := h
  obtain ⟨c0, c1, c2, f0, f1, f2⟩ := cells3 hg
  rw [hl] at c2
  clear hg c0 c1 f0 f1 f2 hx hy hl1 hl
  go_enter Tryd.func71, Tryd.ntmps71
  go_wp2
  go_ret
  exact ⟨rfl, rfl⟩
theorem bins_range {l : List Bool} {g : Nat} (k : Int) (b : Bool) (w : World) (h : IsBlk w g l) (hl : l.length < 128) (hk : k < 0 ∨ (l.length : Int) < k) :
    Calls Tryd.prog 71 #[.pointer (some ⟨g, 0, none⟩), .int .i64 k, .bool b] w fun e w' => e = .returned (.int .i64 2) ∧ w = w' := by
  obtain ⟨hl1, x, y, hg, hx, hy⟩ := h
  obtain ⟨c0, c1, c2, f0, f1, f2⟩ := cells3 hg
  have h128 : ((l.length : Int) == 128) = false := by simp; omega
  clear hg c0 c1 f0 f1 f2 hx hy hl1
  by_cases h0 : k < 0
  · clear hk
    go_enter Tryd.func71, Tryd.ntmps71
    go_wp2
    go_ret
    exact ⟨rfl, rfl⟩
  · have h1 : 0 ≤ k := by omega
    have h2 : (l.length : Int) < k := by omega
    clear hk h0
    go_enter Tryd.func71, Tryd.ntmps71
    go_wp2
    go_ret
    exact ⟨rfl, rfl⟩
theorem set3_0 {w : World} {g x y n : Nat} {t : TypeId} (h : w.heap[g]? = some (.cells #[.int .u64 x, .int .u64 y, .int .i64 n] t (0, 0))) (z : Nat) : (w.setCell ⟨g, 0, none⟩ (.int .u64 z)).heap[g]? = some (.cells #[.int .u64 z, .int .u64 y, .int .i64 n] t (0, 0)) := set_of h _
theorem set3_1 {w : World} {g x y n : Nat} {t : TypeId} (h : w.heap[g]? = some (.cells #[.int .u64 x, .int .u64 y, .int .i64 n] t (0, 0))) (z : Nat) : (w.setCell ⟨g, 1, none⟩ (.int .u64 z)).heap[g]? = some (.cells #[.int .u64 x, .int .u64 z, .int .i64 n] t (0, 0)) := set_of h _
theorem set3_2 {w : World} {g x y n : Nat} {t : TypeId} (h : w.heap[g]? = some (.cells #[.int .u64 x, .int .u64 y, .int .i64 n] t (0, 0))) (z : Nat) : (w.setCell ⟨g, 2, none⟩ (.int .i64 z)).heap[g]? = some (.cells #[.int .u64 x, .int .u64 y, .int .i64 z] t (0, 0)) := set_of h _
theorem set3_n {w : World} {g x y n : Nat} {t : TypeId} (h : w.heap[g]? = some (.cells #[.int .u64 x, .int .u64 y, .int .i64 n] t (0, 0))) {z : Int} (m : Nat) (hz : z = m) : (w.setCell ⟨g, 2, none⟩ (.int .i64 z)).heap[g]? = some (.cells #[.int .u64 x, .int .u64 y, .int .i64 m] t (0, 0)) := by
  subst hz; exact set_of h _
set_option maxHeartbeats 1600000 in
theorem bins_yes {l : List Bool} {g : Nat} (k : Nat) (b : Bool) (w : World) (h : IsBlk w g l) (hl : l.length < 128) (hk : k ≤ l.length) :
    Calls Tryd.prog 71 #[.pointer (some ⟨g, 0, none⟩), .int .i64 k, .bool b] w fun e w' => e = .returned (.int .i64 0) ∧ IsBlk w' g (Blk.ins l k b) ∧ Stay (· = g) w w' := by
  obtain ⟨hl1, x, y, hg, hx, hy⟩ := h
  obtain ⟨c0, c1, c2, f0, f1, f2⟩ := cells3 hg
  have h128 : ((l.length : Int) == 128) = false := by simp; omega
  have HG := Lib.hid hg
  have HX := Lib.hid hx
  have HY := Lib.hid hy
  have HLEN := Lib.hid (Blk.ins_len (l := l) (k := k) (b := b) hk)
  have hx1 := hx.1
  have hy1 := hy.1
  have hk' : (k : Int) ≤ l.length := by omega
  have d1 : decide ((k : Int) < 0) = false := decide_eq_false (by omega)
  have d2 : decide (l.length < k) = false := decide_eq_false (by omega)
  clear hg hx hy
  by_cases hk64 : k < 64
  · have q1 : (k : Int) / 64 = 0 := by omega
    have q2 : (k : Int) % 64 = k := by omega
    have P0 := Lib.hid (Blk.put_lo (b := b) HX.out hk64 hk)
    have P1 := Lib.hid (Blk.put_carry (b := b) HX.out HY.out hk64 hk)
    go_enter Tryd.func71, Tryd.ntmps71
    go_wp2
    have Q2 := Lib.hid q2
    clear c0 c1 c2 f0 f1 f2 q1 q2 h128 d1 d2
    go_loopw [2, 7, 8] (fun t i f wr => (i = .int .i64 0 ∧ f = .int .i64 k ∧ t = .bool b ∧ wr.heap[g]? = some (.cells #[.int .u64 x, .int .u64 y, .int .i64 l.length] 91 (0, 0)) ∧ Stay (· = g) w wr) ∨
      (i = .int .i64 1 ∧ ∃ (x' : Nat), f = .int .i64 0 ∧ t = .bool (x.testBit 63) ∧ wr.heap[g]? = some (.cells #[.int .u64 x', .int .u64 y, .int .i64 l.length] 91 (0, 0)) ∧ Blk.Has x' (Blk.at_ (Blk.ins l k b) 0) ∧ Stay (· = g) w wr) ∨
      (i = .int .i64 2 ∧ ∃ (x' y' : Nat), wr.heap[g]? = some (.cells #[.int .u64 x', .int .u64 y', .int .i64 l.length] 91 (0, 0)) ∧ Blk.Has x' (Blk.at_ (Blk.ins l k b) 0) ∧ Blk.Has y' (Blk.at_ (Blk.ins l k b) 64) ∧ Stay (· = g) w wr)) (fun _ i _ _ => 2 - (intOf i).toNat)
    case atStart => exact .inl ⟨rfl, by rw [Q2.out], rfl, HG.out, Stay.refl _ _⟩
    case round =>
      rcases hrel with ⟨rfl, rfl, rfl, hg, hst⟩ | ⟨rfl, x', rfl, rfl, hg, hx', hst⟩ | ⟨rfl, x', y', hg, hx', hy', hst⟩
      · obtain ⟨c0, c1, c2, f0, f1, f2⟩ := cells3 hg
        have HG' := Lib.hid hg
        clear hg
        go_wp2_with fail
        go_region_law (first | (go_simp; (go_at_call 83; refine (put_yes _ _ _ _ hx1 (by omega) (by omega)).mono ?_; rintro e w1 ⟨rfl, nn, rfl⟩)))
        go_wp2_with fail
        go_roundw
        case rel => exact .inr (.inl ⟨rfl, _, rfl, rfl, set3_0 HG'.out _, P0.out, (hst.drewN _).setCell (p := ⟨g, 0, none⟩) (.inr rfl) _⟩)
        case measure => simp [intOf]
      · obtain ⟨c0, c1, c2, f0, f1, f2⟩ := cells3 hg
        have HG' := Lib.hid hg
        have HX' := Lib.hid hx'
        clear hg hx'
        go_wp2_with fail
        go_region_law (first | (go_simp; (go_at_call 83; refine (put_yes _ _ _ _ hy1 (by omega) (by omega)).mono ?_; rintro e w1 ⟨rfl, nn, rfl⟩)))
        go_wp2_with fail
        go_roundw
        case rel => exact .inr (.inr ⟨rfl, x', _, set3_1 HG'.out _, HX'.out, P1.out, (hst.drewN _).setCell (p := ⟨g, 1, none⟩) (.inr rfl) _⟩)
        case measure => simp [intOf]
      · obtain ⟨c0, c1, c2, f0, f1, f2⟩ := cells3 hg
        have HG' := Lib.hid hg
        have HX' := Lib.hid hx'
        have HY' := Lib.hid hy'
        clear hg hx' hy'
        go_wp2_with fail
        go_ret
        exact ⟨rfl, ⟨by rw [HLEN.out]; omega, x', y', by rw [HLEN.out]; exact set3_2 HG'.out (l.length + 1), HX'.out, HY'.out⟩, hst.setCell (p := ⟨g, 2, none⟩) (.inr rfl) _⟩
  · obtain ⟨m, hm⟩ : ∃ m, k = 64 + m := ⟨k - 64, by omega⟩
    have q1 : (k : Int) / 64 = 1 := by omega
    have q2 : (k : Int) % 64 = m := by omega
    have hm64 : m < 64 := by omega
    have P1 : Hid (Blk.Has (Wd.put y m b) (Blk.at_ (Blk.ins l k b) 64)) := by
      have := Blk.put_hi (b := b) HY.out hm64 (by omega)
      rw [← hm] at this
      exact Lib.hid this
    have P0 := Lib.hid (Blk.ins_lo (b := b) HX.out (by omega : 64 ≤ k) hk)
    clear hm
    go_enter Tryd.func71, Tryd.ntmps71
    go_wp2
    have Q2 := Lib.hid q2
    clear c0 c1 c2 f0 f1 f2 q1 q2 h128 d1 d2
    go_loopw [2, 7, 8] (fun t i f wr => (i = .int .i64 1 ∧ f = .int .i64 m ∧ t = .bool b ∧ wr.heap[g]? = some (.cells #[.int .u64 x, .int .u64 y, .int .i64 l.length] 91 (0, 0)) ∧ Stay (· = g) w wr) ∨
      (i = .int .i64 2 ∧ ∃ (y' : Nat), wr.heap[g]? = some (.cells #[.int .u64 x, .int .u64 y', .int .i64 l.length] 91 (0, 0)) ∧ Blk.Has y' (Blk.at_ (Blk.ins l k b) 64) ∧ Stay (· = g) w wr)) (fun _ i _ _ => 2 - (intOf i).toNat)
    case atStart => exact .inl ⟨rfl, by rw [Q2.out], rfl, HG.out, Stay.refl _ _⟩
    case round =>
      rcases hrel with ⟨rfl, rfl, rfl, hg, hst⟩ | ⟨rfl, y', hg, hy', hst⟩
      · obtain ⟨c0, c1, c2, f0, f1, f2⟩ := cells3 hg
        have HG' := Lib.hid hg
        clear hg
        go_wp2_with fail
        go_region_law (first | (go_simp; (go_at_call 83; refine (put_yes _ _ _ _ hy1 (by omega) (by omega)).mono ?_; rintro e w1 ⟨rfl, nn, rfl⟩)))
        go_wp2_with fail
        go_roundw
        case rel => exact .inr ⟨rfl, _, set3_1 HG'.out _, P1.out, (hst.drewN _).setCell (p := ⟨g, 1, none⟩) (.inr rfl) _⟩
        case measure => simp [intOf]
      · obtain ⟨c0, c1, c2, f0, f1, f2⟩ := cells3 hg
        have HG' := Lib.hid hg
        have HY' := Lib.hid hy'
        clear hg hy'
        go_wp2_with fail
        go_ret
        exact ⟨rfl, ⟨by rw [HLEN.out]; omega, x, y', by rw [HLEN.out]; exact set3_2 HG'.out (l.length + 1), P0.out, HY'.out⟩, hst.setCell (p := ⟨g, 2, none⟩) (.inr rfl) _⟩
end Go.Proofs.YtfbhcbcpeocmcaaDoor
