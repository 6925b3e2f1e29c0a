/- What Delete and All of package block do: contracts of the walk. -/
import Derived.Test.YtfbhcbcpeocmcaaDoorBlkB
namespace Go.Proofs.YtfbhcbcpeocmcaaDoor
open Go Go.RowKit

theorem bdel_nil (k : Int) (w : World) :
    Calls Tryd.prog 58 #[.pointer none, .int .i64 k] w fun e w' => e = .returned (.tuple #[.bool false, .int .i64 6]) ∧ w = w' := by
  go_enter Tryd.func58, Tryd.ntmps58
  go_wp2
  go_ret2
  exact ⟨rfl, rfl⟩
theorem bdel_range {l : List Bool} {g : Nat} (k : Int) (w : World) (h : IsBlk w g l) (h0 : k < 0 ∨ (l.length : Int) ≤ k) :
    Calls Tryd.prog 58 #[.pointer (some ⟨g, 0, none⟩), .int .i64 k] w fun e w' => e = .returned (.tuple #[.bool false, .int .i64 2]) ∧ w = w' := by
  go_enter Tryd.func58, Tryd.ntmps58
  go_wp2_with (go_at_call 61; refine (bhas_no _ _ h h0).mono ?_; rintro e w' ⟨rfl, rfl⟩)
  go_ret2
  exact ⟨rfl, rfl⟩
theorem cut_at (x : Nat) (k : Int) (b : Bool) (X : Nat) (o : Bool) (w : World) (hx : x < 18446744073709551616) (h0 : 0 ≤ k) (h1 : k < 64) (hX : Wd.cut x k.toNat b = X) (ho : x.testBit k.toNat = o) :
    Calls Tryd.prog 75 #[.int .u64 x, .int .i64 k, .bool b] w fun e w' => e = .returned (.tuple #[.int .u64 X, .bool o]) ∧ w = w' := by
  subst hX ho; exact cut_yes x k b w hx h0 h1
set_option maxHeartbeats 1600000 in
theorem bdel_yes {l : List Bool} {g : Nat} (k : Nat) (w : World) (h : IsBlk w g l) (hk : k < l.length) :
    Calls Tryd.prog 58 #[.pointer (some ⟨g, 0, none⟩), .int .i64 k] w fun e w' => e = .returned (.tuple #[.bool (l.getD k false), .int .i64 0]) ∧ IsBlk w' g (Blk.del l k) ∧ Stay (· = g) w w' := by
  have HB := Lib.hid h
  obtain ⟨hl1, x, y, hg, hx, hy⟩ := h
  have HG := Lib.hid hg
  have HX := Lib.hid hx
  have HY := Lib.hid hy
  have HLEN := Lib.hid (Blk.del_len (l := l) (k := k) hk)
  have hx1 := hx.1
  have hy1 := hy.1
  have hk' : (k : Int) < l.length := by omega
  clear hg hx hy
  by_cases hk64 : k < 64
  · have q1 : (k : Int) / 64 = 0 := by omega
    have q2 : (k : Int) % 64 = k := by omega
    obtain ⟨o, X, Y, HO, HCX, HCY, P0, P1⟩ : ∃ (o : Bool) (X Y : Nat), Hid (y.testBit 0 = o) ∧ Hid (Wd.cut x k o = X) ∧ Hid (Wd.cut y 0 false = Y) ∧ Hid (Blk.Has X (Blk.at_ (Blk.del l k) 0)) ∧ Hid (Blk.Has Y (Blk.at_ (Blk.del l k) 64)) :=
      ⟨_, _, _, Lib.hid rfl, Lib.hid rfl, Lib.hid rfl, Lib.hid (Blk.cut_lo HX.out HY.out hk64 hk), Lib.hid (Blk.cut_carry HY.out hk64 hk hl1)⟩
    have z0 : IntKind.i64.wrap 0 = 0 := by decide
    have z1 : (k : Int).tmod 64 = k := by rw [Int.tmod_eq_emod_of_nonneg (by omega)]; exact q2
    have z2 : IntKind.i64.wrap (k : Int) = k := by exact IntWalk.i64_in _ (by omega)
    have Z := Lib.hid (And.intro z0 (And.intro z1 z2))
    clear z0 z1 z2
    obtain ⟨c, PB⟩ : ∃ c : Bool, Hid (x.testBit k = c ∧ l.getD k false = c) := ⟨_, Lib.hid ⟨(by rw [HX.out.2 k hk64]; unfold Blk.at_; rw [Nat.zero_add]), rfl⟩⟩
    rw [PB.out.2]
    have Q2 := Lib.hid q2
    clear q2
    go_enter Tryd.func58, Tryd.ntmps58
    go_wp2_with (go_at_call 61; refine (bhas_yes _ _ HB.out (by omega) (by omega)).mono ?_; rintro e w' ⟨rfl, rfl⟩)
    go_loopw [6, 7] (fun t i wr => (i = .int .i64 1 ∧ t = .bool false ∧ wr.heap[g]? = some (.cells #[.int .u64 x, .int .u64 y, .int .i64 l.length] 91 (0, 0)) ∧ Stay (· = g) w wr) ∨
      (i = .int .i64 0 ∧ t = .bool o ∧ wr.heap[g]? = some (.cells #[.int .u64 x, .int .u64 Y, .int .i64 l.length] 91 (0, 0)) ∧ Stay (· = g) w wr)) (fun _ i _ => (intOf i).toNat)
    case atStart => exact .inl ⟨rfl, rfl, HG.out, Stay.refl _ _⟩
    case round =>
      rcases hrel with ⟨rfl, rfl, hg, hst⟩ | ⟨rfl, rfl, hg, hst⟩
      · obtain ⟨c0, c1, c2, f0, f1, f2⟩ := cells3 hg
        have HG' := Lib.hid hg
        clear hg
        go_wp2_with fail
        go_region_law (first | (go_simp; (go_at_call 75; refine (cut_at y 0 false Y o _ hy1 (by omega) (by omega) HCY.out HO.out).mono ?_; rintro e w1 ⟨rfl, rfl⟩)))
        go_wp2_with fail
        go_roundw
        case rel => exact .inr ⟨rfl, rfl, set3_1 HG'.out _, (hst.drewN 1).setCell (p := ⟨g, 1, none⟩) (.inr rfl) _⟩
        case measure => simp [intOf]
      · obtain ⟨c0, c1, c2, f0, f1, f2⟩ := cells3 hg
        have HG' := Lib.hid hg
        have q2 := Q2.out
        obtain ⟨z0, z1, z2⟩ := Z.out
        clear hg
        go_wp2_with fail
        go_region_law (first | (go_simp; (go_at_call 75; refine (cut_at x k o X c _ hx1 (by omega) (by omega) (by rw [Int.toNat_natCast]; exact HCX.out) (by rw [Int.toNat_natCast]; exact PB.out.1)).mono ?_; rintro e w1 ⟨rfl, rfl⟩)))
        go_wp2_with fail
        go_ret2
        exact ⟨rfl, ⟨by rw [HLEN.out]; omega, X, Y, by rw [HLEN.out]; exact set3_n (set3_0 HG'.out X) (l.length - 1) (by omega), P0.out, P1.out⟩, ((hst.drewN 1).setCell (p := ⟨g, 0, none⟩) (.inr rfl) _).setCell (p := ⟨g, 2, none⟩) (.inr rfl) _⟩
  · obtain ⟨m, hm⟩ : ∃ m, k = 64 + m := ⟨k - 64, by omega⟩
    have q1 : (k : Int) / 64 = 1 := by omega
    have hm64 : m < 64 := by omega
    obtain ⟨Y, HCY, P1⟩ : ∃ (Y : Nat), Hid (Wd.cut y m false = Y) ∧ Hid (Blk.Has Y (Blk.at_ (Blk.del l k) 64)) := by
      have := Blk.cut_hi HY.out hm64 (by omega) hl1
      rw [← hm] at this
      exact ⟨_, Lib.hid rfl, Lib.hid this⟩
    have P0 := Lib.hid (Blk.del_lo HX.out (by omega : 64 ≤ k) hk)
    obtain ⟨c, PB⟩ : ∃ c : Bool, Hid (y.testBit m = c ∧ l.getD k false = c) := ⟨_, Lib.hid ⟨(by rw [HY.out.2 m hm64]; unfold Blk.at_; rw [← hm]), rfl⟩⟩
    rw [PB.out.2]
    have z0 : IntKind.i64.wrap 1 = 1 := by decide
    have z1 : (k : Int).tmod 64 = m := by rw [Int.tmod_eq_emod_of_nonneg (by omega)]; omega
    have z2 : IntKind.i64.wrap (m : Int) = m := by exact IntWalk.i64_in _ (by omega)
    have q2 : (k : Int) % 64 = m := by omega
    have Z := Lib.hid (And.intro z0 (And.intro z1 (And.intro z2 q2)))
    clear z0 z1 z2 q2 hm
    go_enter Tryd.func58, Tryd.ntmps58
    go_wp2_with (go_at_call 61; refine (bhas_yes _ _ HB.out (by omega) (by omega)).mono ?_; rintro e w' ⟨rfl, rfl⟩)
    go_loopw [6, 7] (fun t i wr => (i = .int .i64 1 ∧ t = .bool false ∧ wr.heap[g]? = some (.cells #[.int .u64 x, .int .u64 y, .int .i64 l.length] 91 (0, 0)) ∧ Stay (· = g) w wr)) (fun _ i _ => (intOf i).toNat)
    case atStart => exact ⟨rfl, rfl, HG.out, Stay.refl _ _⟩
    case round =>
      obtain ⟨rfl, rfl, hg, hst⟩ := hrel
      obtain ⟨c0, c1, c2, f0, f1, f2⟩ := cells3 hg
      have HG' := Lib.hid hg
      obtain ⟨z0, z1, z2, q2⟩ := Z.out
      clear hg
      go_wp2_with fail
      go_region_law (first | (go_simp; (go_at_call 75; refine (cut_at y m false Y c _ hy1 (by omega) (by omega) (by rw [Int.toNat_natCast]; exact HCY.out) (by rw [Int.toNat_natCast]; exact PB.out.1)).mono ?_; rintro e w1 ⟨rfl, rfl⟩)))
      go_wp2_with fail
      go_ret2
      exact ⟨rfl, ⟨by rw [HLEN.out]; omega, x, Y, by rw [HLEN.out]; exact set3_n (set3_1 HG'.out Y) (l.length - 1) (by omega), P0.out, P1.out⟩, ((hst.drewN 1).setCell (p := ⟨g, 1, none⟩) (.inr rfl) _).setCell (p := ⟨g, 2, none⟩) (.inr rfl) _⟩

theorem ball_nil (w : World) : Calls Tryd.prog 55 #[.pointer none] w fun e w' => e = .returned (.slice none 0 0) ∧ w = w' := by
  go_enter Tryd.func55, Tryd.ntmps55
  go_wp2_with (go_at_call 67; refine (blen_nil _).mono ?_; rintro e w' ⟨rfl, rfl⟩)
  go_loop [3, 7] (fun v i => v = .slice none 0 0 ∧ i = .int .i64 0) (fun _ _ => 0)
  case atStart => exact ⟨rfl, rfl⟩
  case round =>
    obtain ⟨rfl, rfl⟩ := hrel
    go_wp2
    go_ret
    exact ⟨rfl, rfl⟩
set_option maxHeartbeats 400000 in
theorem ball_any {l : List Bool} {g : Nat} (w : World) (h : IsBlk w g l) :
    Calls Tryd.prog 55 #[.pointer (some ⟨g, 0, none⟩)] w fun e w' => ∃ v, e = .returned v ∧ OwnB w.heap.size w' v l ∧ (l = [] → v = .slice none 0 0) ∧ Below w.heap.size w w' := by
  obtain ⟨i0, hi, hz0, hz1, hz2⟩ := info_parts infoB
  have hl := h.1
  have hlt0 := h.lt
  go_enter Tryd.func55, Tryd.ntmps55
  go_wp2_with (go_at_call 67; refine (blen_any _ h).mono ?_; rintro e w' ⟨rfl, rfl⟩)
  go_loopw [3, 4, 7] (fun v _ i wr => ∃ m : Nat, m ≤ l.length ∧ i = .int .i64 m ∧ OwnB w.heap.size wr v (l.take m) ∧ (m = 0 → v = .slice none 0 0) ∧ Below w.heap.size w wr) (fun _ _ i _ => l.length - (intOf i).toNat)
  case atStart => exact ⟨0, Nat.zero_le _, rfl, World.ownsRow_nil _ _ _ _, fun _ => rfl, Below.refl _ _⟩
  case round =>
    obtain ⟨m, hm, rfl, hown, hnil, hb⟩ := hrel
    have HNIL := Lib.hid hnil
    clear hnil
    by_cases hlt : m < l.length
    · have h2 : (m : Int) < l.length := by omega
      have hsz := hb.size
      have hblk := h.below hb hlt0
      have htl : (l.take m).length = m := by rw [List.length_take]; omega
      have hown' := hown
      unfold OwnB at hown'
      rw [htl] at hown'
      have HTL := Lib.hid htl
      have HTK := Lib.hid (show l.take (m + 1) = l.take m ++ [l.getD m false] by rw [List.take_succ_eq_append_getElem hlt, List.getD_eq_getElem?_getD, List.getElem?_eq_getElem hlt]; rfl)
      clear htl
      obtain ⟨d, HD⟩ : ∃ d, Hid (l.getD m false = d) := ⟨_, Lib.hid rfl⟩
      have key := bat_any m wr hblk hlt
      rw [HD.out] at key
      go_wp2_with fail
      refine key.mono ?_
      clear key
      rintro e w' ⟨rfl, rfl⟩
      go_wp2_with (first
        | (at_builtin; (refine wpList_append_own _ rfl (.tmp 10) (.tmp 14) 24 rfl w.heap.size 4 i0 (.bool false) 1 1 Tryd.underlying24 hi hz0 hz1 hz2 rfl (by decide) _ _ _ rfl (World.ownsRow.alloc hown' _) ⟨wr.heap.size, 0, none⟩ 1 1 [.bool d] rfl rfl (cell_one_new _ _ _) (fun u hu => by simp at hu; subst hu; rfl) (by unfold maxLen; omega) (by omega) (by simp; omega) ?_); intro v' w3 hown3 hgrow3 hnil3))
      have hb3 : Below w.heap.size w w3 := (hb.alloc hsz _).grown hgrow3 (by simp; omega) (fun q hq => (hown.lt q hq).1)
      have hr : OwnB w.heap.size w3 v' (l.take (m + 1)) := by rw [HTK.out, HD.out]; exact OwnB.push (by rw [HTL.out]; exact hown3)
      clear hown3 hgrow3 hnil3
      go_roundw
      case rel => exact ⟨m + 1, by omega, by go_num, hr, fun h => by omega, hb3⟩
      case measure => simp [intOf]; omega
    · have he : m = l.length := by omega
      subst he
      rw [List.take_length] at hown
      go_wp2
      go_ret
      exact ⟨_, rfl, hown, fun h => HNIL.out (by rw [h]; rfl), hb⟩

theorem RdB.take {w : World} {l : List Bool} {b off cap : Nat} {k : Nat} (hb : b < w.heap.size) (h1 : l.length ≤ cap) (h2 : cap ≤ maxLen) (h3 : ∀ i, i < l.length → w.cell? ⟨b, off + i, none⟩ = some (.bool (l.getD i false))) (hk : k ≤ l.length) : RdB w (.slice (some ⟨b, off, none⟩) k cap) (l.take k) := by
  have ht : (l.take k).length = k := by rw [List.length_take]; omega
  refine .inr ⟨b, off, cap, by rw [ht], hb, by omega, h2, fun i hi => ?_⟩
  rw [ht] at hi
  rw [h3 i (by omega), Blk.take_getD]
  simp [hi]
theorem RdB.drop {w : World} {l : List Bool} {b off cap : Nat} {k : Nat} (hb : b < w.heap.size) (h1 : l.length ≤ cap) (h2 : cap ≤ maxLen) (h3 : ∀ i, i < l.length → w.cell? ⟨b, off + i, none⟩ = some (.bool (l.getD i false))) (hk : k ≤ l.length) : RdB w (.slice (if cap = k then some ⟨b, off, none⟩ else some ⟨b, off + k, none⟩) (l.length - k) (cap - k)) (l.drop k) := by
  have ht : (l.drop k).length = l.length - k := List.length_drop
  by_cases hc : cap = k
  · rw [if_pos hc]
    exact .inr ⟨b, off, cap - k, by rw [ht], hb, by omega, by omega, fun i hi => by rw [ht] at hi; omega⟩
  · rw [if_neg hc]
    refine .inr ⟨b, off + k, cap - k, by rw [ht], hb, by omega, by omega, fun i hi => ?_⟩
    rw [ht] at hi
    rw [Nat.add_assoc, h3 (k + i) (by omega), List.getD_eq_getElem?_getD, List.getD_eq_getElem?_getD, List.getElem?_drop]
end Go.Proofs.YtfbhcbcpeocmcaaDoor
