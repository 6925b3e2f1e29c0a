/- Stage 7's statements as walks, over the contracts that are asked of waves: WaveUndo, WaveCounts. -/
import Derived.Test.YtaglnomjlnlgoaaGreatDoorLwA
namespace Go.Proofs.YtaglnomjlnlgoaaGreatDoor
open Go Go.RowKit Go.ChangeAt

theorem Wst.insert {O : WOps} {B : Nat} {W w : World} {t : Nat} {x : O.X} {m : List Int} (m' : List Int) (h : Wst O B W w t x m) (hm : m.length ≤ 1000000) (n : Nat) (s : Int) (hn : n ≤ m.length) (hs : 0 ≤ s ∧ s ≤ 256) (hi : Wv.ins m n s = m') :
    Calls Tryz.prog 11 #[.pointer (some ⟨t, 0, none⟩), .int .i64 n, .int .i64 s] w fun e w' => e = .returned (.int .i64 0) ∧ ∃ x', Wst O B W w' t x' m' ∧ O.Nxt w w' x x' ∧ O.vis x' ≤ 72 * (max (hiS 0 (O.shp x)) (hiS 0 (O.shp x')) + 2) := by
  subst hi
  exact (O.insert n s n h.E h.wav rfl hn hm hs).mono fun _ _ ⟨he, x', h1, h2, h3, h4⟩ => ⟨he, x', h.next h1 h2 h3, ⟨h2, h3⟩, h4⟩
theorem Wst.delete {O : WOps} {B : Nat} {W w : World} {t : Nat} {x : O.X} {m : List Int} (m' : List Int) (h : Wst O B W w t x m) (hm : m.length ≤ 1000000) (n : Nat) (s : Int) (hn : n < m.length) (hs : m.getD n 0 = s) (hi : Wv.del m n = m') :
    Calls Tryz.prog 14 #[.pointer (some ⟨t, 0, none⟩), .int .i64 n] w fun e w' => e = .returned (.tuple #[.int .i64 s, .int .i64 0]) ∧ ∃ x', Wst O B W w' t x' m' ∧ O.Nxt w w' x x' ∧ O.vis x' ≤ 72 * (max (hiS 0 (O.shp x)) (hiS 0 (O.shp x')) + 2) := by
  subst hs hi
  exact (O.delete n n h.E h.wav rfl hn hm).mono fun _ _ ⟨he, x', h1, h2, h3, h4⟩ => ⟨he, x', h.next h1 h2 h3, ⟨h2, h3⟩, h4⟩
theorem Wst.shlen {O : WOps} {B : Nat} {W w : World} {t : Nat} {x : O.X} {m : List Int} (h : Wst O B W w t x m) (hm : m.length ≤ 1000000) : (O.shp x).length = (Wv.lens m).length := by
  have := congrArg List.length (O.shapes_are h.wav hm).1
  simpa using this
theorem Wst.shapes {O : WOps} {B : Nat} {W w : World} {t : Nat} {x : O.X} {m : List Int} (h : Wst O B W w t x m) (hm : m.length ≤ 1000000) (L : Nat) (hL : (Wv.lens m).length = L) :
    Calls Tryz.prog 10 #[.pointer (some ⟨t, 0, none⟩)] w fun e w' => ∃ a cap x', e = .returned (.slice a L cap) ∧ RdS w' a (O.shp x) ∧ Wst O B W w' t x' m ∧ O.Nxt w w' x x' ∧ (∀ ad, a = some ad → ¬ O.own x' ad.block) ∧ O.shp x' = O.shp x := by
  have e := (h.shlen hm).trans hL
  refine (O.shapes h.E h.wav hm).mono ?_
  rintro _ w' ⟨a, cap, x', rfl, h1, h2, h3, h4, h5, h6, _⟩
  rw [e]
  exact ⟨a, cap, x', rfl, h1, h.next h2 h3 h4, ⟨h3, h4⟩, h5, h6⟩
theorem Wst.all {O : WOps} {B : Nat} {W w : World} {t : Nat} {x : O.X} {m : List Int} (h : Wst O B W w t x m) (hm : m.length ≤ 1000000) (n : Nat) (hn : m.length = n) :
    Calls Tryz.prog 7 #[.pointer (some ⟨t, 0, none⟩)] w fun e w' => ∃ a cap x', e = .returned (.slice a n cap) ∧ RdL w' a cap m ∧ Wst O B W w' t x' m ∧ O.Nxt w w' x x' := by
  refine (O.all h.E h.wav hm).mono ?_
  rintro _ w' ⟨v, x', rfl, h1, h2, h3, h4, _, _⟩
  obtain ⟨a, cap, rfl, hr⟩ := OwnI.form n h1 hn
  exact ⟨a, cap, x', rfl, hr, h.next h2 h3 h4, h3, h4⟩
/-- The list beside the wave. -/
theorem Beg.rdl {O : WOps} {W w1 wr : World} {a : Option Addr} {cap n : Nat} {m : List Int} (h : Beg O W w1 a cap n m) (hb : Below w1.heap.size w1 wr) : RdL wr a cap m := h.rd.below hb
theorem mod_len (z : Int) (N : Nat) (hN : N ≤ 999999) : ∃ q : Nat, q ≤ N ∧ RowKit.wrap64 ((IntKind.u64.wrap z).tmod ((N : Int) + 1)) = (q : Int) := by
  obtain ⟨q, hq, e⟩ := mod_any z (N + 1) (by omega) (by omega)
  exact ⟨q, by omega, by rw [← e]; congr 1⟩

end Go.Proofs.YtaglnomjlnlgoaaGreatDoor
