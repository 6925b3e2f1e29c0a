/- Walks are made: ofTransform, New, Of. -/
import Derived.Test.YthbbokoeiifjdaaGreatDoorKwD
namespace Go.Proofs.YthbbokoeiifjdaaGreatDoor
open Go Go.RowKit Go.ChangeAt Tr Wk

theorem kmake {a : Option Addr} {cap n : Nat} {t : List UInt8} (w : World) (hT : TabAt w) (hpos : 0 < w.heap.size) (h : RdL w a cap (Lx t)) (hn : t.length + 1 = n) (hm : n ≤ 100000) :
    Calls Tryz.prog 23 #[.slice a n cap] w fun e w' => ∃ b x T, e = .returned (.pointer (some ⟨b, 0, none⟩)) ∧ Wli w' b x T t ∧ w.heap.size = x.B ∧ w.heap.size ≤ T ∧ w.heap.size ≤ b ∧ Below w.heap.size w w' := by
  have key := wnew hpos h (by rw [Lx_len, hn]) (by omega) (Lx_good t)
  have hlen : (Lx t).length = n := by rw [Lx_len, hn]
  have HH := Lib.hid (And.intro hT h)
  have HL := Lib.hid hlen
  have HN := Lib.hid hn
  clear hT h hlen hn
  go_enter Tryz.func23, Tryz.ntmps23
  go_wp2_with fail
  (with_reducible refine key.mono ?_); rintro e w1 ⟨x, rfl, hW, hB, hb1⟩
  clear key
  have key := tnew_any w1 (HH.out.2.below hb1) HL.out (by omega)
  have HW := Lib.hid (And.intro hW (And.intro hB hb1))
  clear hW hB hb1
  go_wp2_with fail
  (with_reducible refine key.mono ?_); rintro e w2 ⟨hor, hb2⟩
  clear key
  have hgood : ∀ s ∈ Lx t, 0 ≤ s ∧ s ≤ 256 := Lx_good t
  rcases hor with ⟨-, rfl, hTal⟩ | ⟨hno, -⟩
  case inr => exact absurd hgood hno
  have hb3 : Below w1.heap.size w1 (w2.alloc (Obj.cells #[.pointer (some ⟨x.t, 0, none⟩), .pointer (some ⟨w1.heap.size, 0, none⟩)] 66)) := Below.allocs hb2 _
  have hal : Below w2.heap.size w2 (w2.alloc (Obj.cells #[.pointer (some ⟨x.t, 0, none⟩), .pointer (some ⟨w1.heap.size, 0, none⟩)] 66)) := (Below.refl _ _).alloc (Nat.le_refl _) _
  have hbw := HW.out.2.2.trans (hb3.mono HW.out.2.2.size)
  have hX : Wli (w2.alloc (Obj.cells #[.pointer (some ⟨x.t, 0, none⟩), .pointer (some ⟨w1.heap.size, 0, none⟩)] 66)) w2.heap.size x w1.heap.size t :=
    ⟨alloc_of, ⟨HW.out.1.below hb3, hTal.below hal, fun ho => by have := (HW.out.1.own_lt ho).2; omega, HH.out.1.below hbw hpos, by have := HN.out; omega⟩, fun ho => by have := (HW.out.1.own_lt ho).2; have := hb2.size; omega⟩
  have hb2s := hb2.size
  have hb1s := HW.out.2.2.size
  have HX := Lib.hid (And.intro hX (And.intro HW.out.2.1.symm (And.intro hb1s (And.intro (Nat.le_trans hb1s hb2s) hbw))))
  clear hX hbw hal hb3 hb2 hTal hb2s hb1s
  go_wp2_with fail
  go_ret
  exact ⟨_, x, _, rfl, HX.out⟩
theorem kwalk {a : Option Addr} {cap n : Nat} {t : List UInt8} (w : World) (hT : TabAt w) (hpos : 0 < w.heap.size) (h : RdU w a cap t) (hn : t.length = n) (hm : n ≤ 90000) :
    Calls Tryz.prog 6 #[.slice a n cap] w fun e w' => ∃ b x T, e = .returned (.pointer (some ⟨b, 0, none⟩)) ∧ Wli w' b x T t ∧ w.heap.size ≤ x.B ∧ w.heap.size ≤ T ∧ w.heap.size ≤ b ∧ Below w.heap.size w w' := by
  have key := klast w h hn (by omega)
  have HT := Lib.hid hT
  have HN := Lib.hid hn
  clear hT h hn
  go_enter Tryz.func6, Tryz.ntmps6
  go_wp2_with fail
  (with_reducible refine key.mono ?_); rintro e w1 ⟨bb, c, rfl, -, hA, hb1⟩
  clear key
  have hs1 := hb1.size
  have key := kmake w1 (HT.out.below hb1 hpos) (by omega) (hA.list (by rw [Lx_len, HN.out])) (by rw [HN.out]) (by omega)
  have HB1 := Lib.hid hb1
  clear hb1 hA
  go_wp2_with fail
  (with_reducible refine key.mono ?_); rintro e w2 ⟨b, x, T, rfl, hX, hxB, hTB, hbB, hb2⟩
  clear key
  have HX := Lib.hid (And.intro hX (And.intro (show w.heap.size ≤ x.B by omega) (And.intro (Nat.le_trans hs1 hTB) (And.intro (Nat.le_trans hs1 hbB) (HB1.out.trans (hb2.mono HB1.out.size))))))
  clear hX hxB hTB hbB hb2 hs1
  go_wp2_with fail
  go_ret
  exact ⟨b, x, T, rfl, HX.out⟩
theorem kwalk_of {a : Option Addr} {cap n : Nat} {l : List Int} {t : List UInt8} (w : World) (hT : TabAt w) (hpos : 0 < w.heap.size) (h : RdL w a cap l) (hn : l.length = n) (hm : n ≤ 90000) (ht : Lx t = l) :
    Calls Tryz.prog 11 #[.slice a n cap] w fun e w' => ∃ b x T, e = .returned (.tuple #[.pointer (some ⟨b, 0, none⟩), .int .i64 0]) ∧ Wli w' b x T t ∧ w.heap.size ≤ x.B ∧ w.heap.size ≤ T ∧ w.heap.size ≤ b ∧ Below w.heap.size w w' := by
  subst ht
  have key := kback_of t w h hn (by omega) rfl
  have HH := Lib.hid (And.intro hT h)
  have hn2 : t.length + 1 = n := by rw [← hn, Lx_len]
  have HN := Lib.hid hn2
  clear hT h hn hn2
  go_enter Tryz.func11, Tryz.ntmps11
  go_wp2_with fail
  (with_reducible refine key.mono ?_); rintro e w1 ⟨bb, rfl, -, -, hb1⟩
  clear key
  have hs1 := hb1.size
  have key := kmake w1 (HH.out.1.below hb1 hpos) (by omega) (HH.out.2.below hb1) HN.out (by omega)
  have HB1 := Lib.hid hb1
  clear hb1
  go_wp2_with fail
  (with_reducible refine key.mono ?_); rintro e w2 ⟨b, x, T, rfl, hX, hxB, hTB, hbB, hb2⟩
  clear key
  have HX := Lib.hid (And.intro hX (And.intro (show w.heap.size ≤ x.B by omega) (And.intro (Nat.le_trans hs1 hTB) (And.intro (Nat.le_trans hs1 hbB) (HB1.out.trans (hb2.mono HB1.out.size))))))
  clear hX hxB hTB hbB hb2 hs1
  go_wp2_with fail
  go_ret2
  exact ⟨b, x, T, rfl, HX.out⟩
theorem kwalk_no {a : Option Addr} {cap n : Nat} {l : List Int} (w : World) (h : RdL w a cap l) (hn : l.length = n) (hm : n ≤ 90000) (ht : ∀ t, Lx t ≠ l) :
    Calls Tryz.prog 11 #[.slice a n cap] w fun e w' => e = .returned (.tuple #[.pointer none, .int .i64 1]) ∧ Below w.heap.size w w' := by
  have key := kback_no w h hn (by omega) ht
  clear h hn ht
  go_enter Tryz.func11, Tryz.ntmps11
  go_wp2_with fail
  (with_reducible refine key.mono ?_); rintro e w1 ⟨rfl, hb1⟩
  have HB1 := Lib.hid hb1
  clear key hb1
  go_wp2_with fail
  go_ret2
  exact ⟨rfl, HB1.out⟩
end Go.Proofs.YthbbokoeiifjdaaGreatDoor
