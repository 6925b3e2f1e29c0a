/- BitsAsks as a walk. -/
import Derived.Test.YtbchcppmbpnabaaDoorRefB
import Derived.Test.YtbchcppmbpnabaaDoorLaidB
import Derived.Test.YtbchcppmbpnabaaDoorOpen
import Derived.Outline
namespace Go.Proofs.YtbchcppmbpnabaaDoor
open Go Go.RowKit

def putN (x : Nat) (k : Int) (b : Bool) : Nat := if 0 ≤ k ∧ k < 64 then Wd.put x k.toNat b else x
def putB (x : Nat) (k : Int) : Bool := decide (0 ≤ k ∧ k < 64) && x.testBit 63
def cutN (x : Nat) (k : Int) (b : Bool) : Nat := if 0 ≤ k ∧ k < 64 then Wd.cut x k.toNat b else x
def cutB (x : Nat) (k : Int) : Bool := decide (0 ≤ k ∧ k < 64) && x.testBit k.toNat
theorem put_all (x : Nat) (k : Int) (b : Bool) (w : World) (hx : x < 18446744073709551616) :
    Calls Tryd.prog 12 #[.int .u64 x, .int .i64 k, .bool b] w fun e w' => e = .returned (.tuple #[.int .u64 (putN x k b), .bool (putB x k)]) ∧ Below w.heap.size w w' := by
  unfold putN putB
  by_cases h : 0 ≤ k ∧ k < 64
  · rw [if_pos h, decide_eq_true h, Bool.true_and]
    exact (put_yes x k b w hx h.1 h.2).mono fun _ _ ⟨he, n, hw⟩ => ⟨he, by rw [hw]; exact (Below.refl _ _).drewN _⟩
  · rw [if_neg h, decide_eq_false h, Bool.false_and]
    exact (put_no x k b w (by omega)).mono fun _ _ ⟨he, hw⟩ => ⟨he, by rw [← hw]; exact Below.refl _ _⟩
theorem cut_all (x : Nat) (k : Int) (b : Bool) (w : World) (hx : x < 18446744073709551616) :
    Calls Tryd.prog 14 #[.int .u64 x, .int .i64 k, .bool b] w fun e w' => e = .returned (.tuple #[.int .u64 (cutN x k b), .bool (cutB x k)]) ∧ Below w.heap.size w w' := by
  unfold cutN cutB
  by_cases h : 0 ≤ k ∧ k < 64
  · rw [if_pos h, decide_eq_true h, Bool.true_and]
    exact (cut_yes x k b w hx h.1 h.2).mono fun _ _ ⟨he, hw⟩ => ⟨he, by rw [← hw]; exact Below.refl _ _⟩
  · rw [if_neg h, decide_eq_false h, Bool.false_and]
    exact (cut_no x k b w (by omega)).mono fun _ _ ⟨he, hw⟩ => ⟨he, by rw [← hw]; exact Below.refl _ _⟩
theorem rput_all (x : Nat) (k : Int) (b : Bool) (w : World) (hx : x < 18446744073709551616) :
    Calls Tryd.prog 13 #[.int .u64 x, .int .i64 k, .bool b] w fun e w' => e = .returned (.tuple #[.int .u64 (putN x k b), .bool (putB x k)]) ∧ Below w.heap.size w w' := by
  unfold putN putB
  by_cases h : 0 ≤ k ∧ k < 64
  · rw [if_pos h, decide_eq_true h, Bool.true_and]
    obtain ⟨n, rfl⟩ := Int.eq_ofNat_of_zero_le h.1
    exact rput_yes x n b w hx (by omega)
  · rw [if_neg h, decide_eq_false h, Bool.false_and]
    exact (rput_no x k b w (by omega)).mono fun _ _ ⟨he, hw⟩ => ⟨he, by rw [← hw]; exact Below.refl _ _⟩
theorem rcut_all (x : Nat) (k : Int) (b : Bool) (w : World) (hx : x < 18446744073709551616) :
    Calls Tryd.prog 15 #[.int .u64 x, .int .i64 k, .bool b] w fun e w' => e = .returned (.tuple #[.int .u64 (cutN x k b), .bool (cutB x k)]) ∧ Below w.heap.size w w' := by
  unfold cutN cutB
  by_cases h : 0 ≤ k ∧ k < 64
  · rw [if_pos h, decide_eq_true h, Bool.true_and]
    obtain ⟨n, rfl⟩ := Int.eq_ofNat_of_zero_le h.1
    exact rcut_yes x n b w hx (by omega)
  · rw [if_neg h, decide_eq_false h, Bool.false_and]
    exact (rcut_no x k b w (by omega)).mono fun _ _ ⟨he, hw⟩ => ⟨he, by rw [← hw]; exact Below.refl _ _⟩

/-- A slice of words, as it is read: at most ten. -/
def Words (w : World) (a : Option Addr) (len : Nat) (l : List Nat) : Prop :=
  len = l.length ∧ (∀ x ∈ l, x < 18446744073709551616) ∧ (l = [] ∨ ∃ b off, a = some ⟨b, off, none⟩ ∧ ∀ i, i < l.length → w.cell? ⟨b, off + i, none⟩ = some (.int .u64 (l.getD i 0)))
theorem words_of_row {w : World} {a : Option Addr} {len cap : Nat} {zs : List Int} (h : IsRow .u64 w a len cap zs) : ∃ l, Words w a len l := by
  rcases h with ⟨rfl, rfl, rfl, rfl⟩ | ⟨x, rfl, hlc, hm, hz, hcell, hwf⟩
  · exact ⟨[], rfl, by simp, .inl rfl⟩
  · have hlen : ((zs.take len).map Int.toNat).length = len := by rw [List.length_map, List.length_take]; omega
    have hget : ∀ i, i < len → ((zs.take len).map Int.toNat).getD i 0 = (zs.getD i 0).toNat := fun i hi => by
      rw [List.getD_eq_getElem?_getD, List.getElem?_map, List.getElem?_take_of_lt hi, List.getD_eq_getElem?_getD, List.getElem?_eq_getElem (by omega)]
      rfl
    refine ⟨(zs.take len).map Int.toNat, hlen.symm, ?_, ?_⟩
    · intro y hy
      obtain ⟨z, hz1, rfl⟩ := List.mem_map.1 hy
      have := bounds_u64 (hwf z (List.mem_of_mem_take hz1))
      omega
    · by_cases h0 : len = 0
      · left; subst h0; simp
      · right
        obtain ⟨b, off, rfl, hc⟩ := ints_at hcell (by omega)
        refine ⟨b, off, rfl, fun i hi => ?_⟩
        rw [hlen] at hi
        rw [hget i hi, hc i (by omega)]
        have hmem : zs.getD i 0 ∈ zs := by rw [List.getD_eq_getElem?_getD, List.getElem?_eq_getElem (by omega)]; simp
        have := bounds_u64 (hwf _ hmem)
        rw [Int.toNat_of_nonneg this.1]
theorem Words.below {w w' : World} {a : Option Addr} {len : Nat} {l : List Nat} (h : Words w a len l) (hb : Below w.heap.size w w') : Words w' a len l := by
  obtain ⟨h1, h2, h3⟩ := h
  refine ⟨h1, h2, ?_⟩
  rcases h3 with h3 | ⟨b, off, ha, hc⟩
  · exact .inl h3
  · exact .inr ⟨b, off, ha, fun i hi => (hb.cell (p := ⟨b, off + i, none⟩) (block_lt_of_cell (hc i hi))).trans (hc i hi)⟩
theorem count_words (a : Option Addr) (len cap : Nat) (l : List Nat) (w : World) (h : Words w a len l) (hl : len ≤ 10) :
    Calls Tryd.prog 9 #[.slice a len cap] w fun e w' => e = .returned (.int .i64 (pops l)) ∧ w = w' := by
  obtain ⟨rfl, h2, h3⟩ := h
  rcases h3 with rfl | ⟨b, off, rfl, hc⟩
  · exact count_nil a cap w
  · exact count_any l b off cap w h2 (by omega) hc
theorem rcount_words (a : Option Addr) (len cap : Nat) (l : List Nat) (w : World) (h : Words w a len l) (hl : len ≤ 10) :
    Calls Tryd.prog 16 #[.slice a len cap] w fun e w' => e = .returned (.int .i64 (pops l)) ∧ w = w' := by
  obtain ⟨rfl, h2, h3⟩ := h
  rcases h3 with rfl | ⟨b, off, rfl, hc⟩
  · exact rcount_nil a cap w
  · exact rcount_any l b off cap w h2 (by omega) hc

set_option maxHeartbeats 800000 in
theorem asks_walk (a : Option Addr) (len cap : Nat) (l : List Nat) (x : Nat) (k : Int) (b : Bool) (w : World) (hl : Words w a len l) (hx : x < 18446744073709551616) (hT : TabAt w) (hw0 : 0 < w.heap.size) (hlen : len ≤ 9223372036854775807) :
    Calls Tryd.prog 4 #[.slice a len cap, .int .u64 x, .int .i64 k, .bool b] w fun e w' => e = .returned (.bool true) ∧ Below w.heap.size w w' := by
  by_cases h10 : len ≤ 10
  · have h1 : ¬ (10 : Int) < len := by omega
    go_enter Tryd.func4, Tryd.ntmps4
    go_wp2_with fail
    refine (put_all _ _ _ _ hx).mono ?_
    rintro e w1 ⟨rfl, hb1⟩
    go_wp2_with fail
    refine (rput_all _ _ _ _ hx).mono ?_
    rintro e w2 ⟨rfl, hb2⟩
    have hB2 := hb1.trans (hb2.mono hb1.size)
    clear hb2
    go_wp2_with fail
    refine (cut_all _ _ _ _ hx).mono ?_
    rintro e w3 ⟨rfl, hb3⟩
    have hB3 := hB2.trans (hb3.mono hB2.size)
    clear hb3
    go_wp2_with fail
    refine (rcut_all _ _ _ _ hx).mono ?_
    rintro e w4 ⟨rfl, hb4⟩
    have hB4 := hB3.trans (hb4.mono hB3.size)
    clear hb4 hB3 hB2 hb1
    go_wp2_with fail
    refine (told_any _ (hT.below hB4 hw0) (by have := hB4.size; omega)).mono ?_
    rintro e w5 ⟨rfl, hb5⟩
    have hB5 := hB4.trans (hb5.mono hB4.size)
    have hT5 := hT.below hB5 hw0
    have hl5 := hl.below hB5
    clear hb5 hB4 hT
    go_wp2_with fail
    refine (count_words _ _ _ _ _ hl5 h10).mono ?_
    rintro e w' ⟨rfl, rfl⟩
    go_wp2_with fail
    refine (rcount_words _ _ _ _ _ hl5 h10).mono ?_
    rintro e w' ⟨rfl, rfl⟩
    go_wp2_with fail
    refine (rank_any _ _ _ hx).mono ?_
    rintro e w' ⟨rfl, rfl⟩
    go_wp2_with fail
    refine (rrank_any _ _ _ hx).mono ?_
    rintro e w' ⟨rfl, rfl⟩
    go_wp2_with fail
    refine (select_any _ _ _ hx hT5).mono ?_
    rintro e w' ⟨rfl, rfl⟩
    go_wp2_with fail
    refine (rselect_any _ _ _ hx).mono ?_
    rintro e w' ⟨rfl, rfl⟩
    go_wp2_with fail
    go_ret
    exact ⟨rfl, hB5⟩
  · have h1 : (10 : Int) < len := by omega
    go_enter Tryd.func4, Tryd.ntmps4
    go_wp2_with fail
    refine (told_any _ hT hw0).mono ?_
    rintro e w' ⟨rfl, hb⟩
    go_wp2_with fail
    go_ret
    exact ⟨rfl, hb⟩
theorem asks_w (a0 : Option Addr) (len0 cap0 : Nat) (z0 : List Int) (a1 a2 : Int) (a3 : Bool) (W : World) (w0 : IsRow .u64 W a0 len0 cap0 z0) (w1 : (Lit.int .u64 a1).wf = true) (_ : (Lit.int .i64 a2).wf = true) (hL : LaidFact W) :
    Calls Tryd.prog 4 #[.slice a0 len0 cap0, .int .u64 a1, .int .i64 a2, .bool a3] W fun e w' => e = .returned (.bool true) ∧ Below W.heap.size W w' := by
  obtain ⟨x, rfl, hx⟩ := wf_u64 w1
  obtain ⟨l, hl⟩ := words_of_row w0
  have hlen : len0 ≤ 9223372036854775807 := by
    rcases w0 with ⟨_, rfl, _, _⟩ | ⟨_, _, h1, h2, _⟩
    · omega
    · unfold maxLen at h2; omega
  exact asks_walk a0 len0 cap0 l x a2 a3 W hl hx hL.tab hL.pos hlen
end Go.Proofs.YtbchcppmbpnabaaDoor
