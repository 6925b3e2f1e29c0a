/- Stage 7's statements as walks, over the contracts that are asked of waves: WaveRanks. -/
import Derived.Test.YtaglnomjlnlgoaaGreatDoorLw
namespace Go.Proofs.YtaglnomjlnlgoaaGreatDoor
open Go Go.RowKit Go.ChangeAt

/-- The laws' beginning: the symbols and the wave of them. -/
structure Beg (O : WOps) (W w1 : World) (a : Option Addr) (cap n : Nat) (m : List Int) : Prop where
  rd : RdL w1 a cap m
  len : m.length = n
  good : Wv.Good m
  below : Below W.heap.size W w1
  E : O.E w1
  pos : 0 < w1.heap.size
theorem beg {O : WOps} {W w1 : World} {v : Value} {m : List Int} (hE : O.E W) (hpos : 0 < W.heap.size) (hown : OwnI W.heap.size w1 v m) (hg : Wv.Good m) (hb : Below W.heap.size W w1) : ∃ a cap n, v = .slice a n cap ∧ Beg O W w1 a cap n m := by
  obtain ⟨a, cap, rfl, hr⟩ := OwnI.form m.length hown rfl
  exact ⟨a, cap, m.length, rfl, hr, rfl, hg, hb, O.E_below hE hpos hb, Nat.lt_of_lt_of_le hpos hb.size⟩
theorem Beg.new {O : WOps} {W w1 : World} {a : Option Addr} {cap n : Nat} {m : List Int} (h : Beg O W w1 a cap n m) (hn : n ≤ 1000000) :
    Calls Tryz.prog 5 #[.slice a n cap] w1 fun e w' => ∃ t x, e = .returned (.tuple #[.pointer (some ⟨t, 0, none⟩), .int .i64 0]) ∧ Wst O w1.heap.size w1 w' t x m :=
  (O.new h.E h.pos h.rd h.len hn h.good).mono fun _ _ ⟨t, x, he, hw, ho, hb⟩ => ⟨t, x, he, hw, ho, hb, O.E_below h.E h.pos hb, h.pos, hb.size⟩
/-- The list is as it was, whatever the wave did. -/
theorem Beg.cell {O : WOps} {W w1 wr : World} {a : Option Addr} {cap n : Nat} {m : List Int} (h : Beg O W w1 a cap n m) (hb : Below w1.heap.size w1 wr) {k : Nat} (hk : k < n) : ∃ b off, a = some ⟨b, off, none⟩ ∧ wr.cell? ⟨b, off + k, none⟩ = some (.int .i64 (m.getD k 0)) := by
  obtain ⟨b, off, ha, hlt, hc⟩ := h.rd.2.2.2 (by rw [h.len]; omega)
  exact ⟨b, off, ha, (hb.cell (p := ⟨b, off + k, none⟩) hlt).trans (hc k (by rw [h.len]; exact hk))⟩
theorem Wst.told {O : WOps} {B : Nat} {w1 wr : World} {t : Nat} {x : O.X} {m' : List Int} (hw : Wst O B w1 wr t x m') :
    Calls Tryz.prog 8 #[] wr fun e w' => e = .returned (.bool true) ∧ Wst O B w1 w' t x m' :=
  (O.told hw.E (Nat.lt_of_lt_of_le hw.pos hw.le)).mono fun _ _ ⟨he, hb⟩ => ⟨he, hw.beside hb⟩
theorem Beg.back {O : WOps} {W w1 wr : World} {t : Nat} {x : O.X} {m' : List Int} {a : Option Addr} {cap n : Nat} {m : List Int} (h : Beg O W w1 a cap n m) (hw : Wst O w1.heap.size w1 wr t x m') : Below W.heap.size W wr :=
  h.below.trans (hw.below.mono h.below.size)
/-- The contracts, of a wave of the law's own. -/
theorem Wst.get {O : WOps} {B : Nat} {W w : World} {t : Nat} {x : O.X} {m : List Int} (h : Wst O B W w t x m) (hm : m.length ≤ 1000000) (n : Nat) (s : Int) (hn : n < m.length) (hs : m.getD n 0 = s) :
    Calls Tryz.prog 16 #[.pointer (some ⟨t, 0, none⟩), .int .i64 n] w fun e w' => e = .returned (.tuple #[.int .i64 s, .int .i64 0]) ∧ ∃ x', Wst O B W w' t x' m ∧ O.Nxt w w' x x' ∧ O.shp x' = O.shp x ∧ O.vis x' ≤ 72 * (hiS 0 (O.shp x) + 2) := by
  subst hs
  exact (O.get n n h.E h.wav rfl hn hm).mono fun _ _ ⟨he, x', h1, h2, h3, h4, h5⟩ => ⟨he, x', h.next h1 h2 h3, ⟨h2, h3⟩, h4, h5⟩
theorem Wst.rank {O : WOps} {B : Nat} {W w : World} {t : Nat} {x : O.X} {m : List Int} (h : Wst O B W w t x m) (hm : m.length ≤ 1000000) (k s r : Int) (hr : (Wv.rk m k.toNat s : Int) = r) :
    Calls Tryz.prog 19 #[.pointer (some ⟨t, 0, none⟩), .int .i64 k, .int .i64 s] w fun e w' => e = .returned (.int .i64 r) ∧ ∃ x', Wst O B W w' t x' m ∧ O.Nxt w w' x x' ∧ O.shp x' = O.shp x := by
  subst hr
  exact (O.rank k s h.E h.wav hm).mono fun _ _ ⟨he, x', h1, h2, h3, h4⟩ => ⟨he, x', h.next h1 h2 h3, ⟨h2, h3⟩, h4⟩
theorem Wst.select {O : WOps} {B : Nat} {W w : World} {t : Nat} {x : O.X} {m : List Int} (h : Wst O B W w t x m) (hm : m.length ≤ 1000000) (j s r : Int) (hr : Wv.sl m j s = r) :
    Calls Tryz.prog 20 #[.pointer (some ⟨t, 0, none⟩), .int .i64 j, .int .i64 s] w fun e w' => e = .returned (.int .i64 r) ∧ ∃ x', Wst O B W w' t x' m ∧ O.Nxt w w' x x' ∧ O.shp x' = O.shp x := by
  subst hr
  exact (O.select j s h.E h.wav hm).mono fun _ _ ⟨he, x', h1, h2, h3, h4⟩ => ⟨he, x', h.next h1 h2 h3, ⟨h2, h3⟩, h4⟩

end Go.Proofs.YtaglnomjlnlgoaaGreatDoor
