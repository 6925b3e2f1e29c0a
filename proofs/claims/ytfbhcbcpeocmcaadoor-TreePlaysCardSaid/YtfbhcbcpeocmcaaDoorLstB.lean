/- The document's own answer for lists of bits (scrimshawref1): In, Out, Ranks, Selects, Gets, Same: contracts of the walk. -/
import Derived.Test.YtfbhcbcpeocmcaaDoorLst
namespace Go.Proofs.YtfbhcbcpeocmcaaDoor
open Go Go.RowKit
theorem retI {k : IntKind} {a b : Int} (h : a = b) : Ending.returned (.int k a) = .returned (.int k b) := by rw [h]

theorem rin_rd {l : List Bool} {v : Value} (k : Nat) (x : Bool) (w : World) (h : RdB w v l) (hk : k ≤ l.length) (hl : l.length ≤ 1099511627776) :
    Calls Tryd.prog 20 #[v, .int .i64 k, .bool x] w fun e w' => ∃ v, e = .returned v ∧ OwnB w.heap.size w' v (Blk.ins l k x) ∧ Below w.heap.size w w' := by
  rcases h with ⟨rfl, rfl⟩ | ⟨b, off, cap, rfl, h0, h1, h2, h3⟩
  · have : k = 0 := by simpa using hk
    subst this
    exact rin_nil x w
  · exact rin_any l b off cap k x w hk h0 hl h1 h2 h3
theorem rout_rd {l : List Bool} {v : Value} (k : Nat) (w : World) (h : RdB w v l) (hk : k < l.length) (hl : l.length ≤ 1099511627776) :
    Calls Tryd.prog 23 #[v, .int .i64 k] w fun e w' => ∃ v, e = .returned v ∧ OwnB w.heap.size w' v (Blk.del l k) ∧ Below w.heap.size w w' := by
  rcases h with ⟨rfl, rfl⟩ | ⟨b, off, cap, rfl, h0, h1, h2, h3⟩
  · simp at hk
  · exact rout_any l b off cap k w hk h0 hl h1 h2 h3
/-- A slice of bools, both forms in one: its address is known where it has elements. -/
theorem RdB.open {w : World} {v : Value} {l : List Bool} (h : RdB w v l) : ∃ a cap, v = .slice a l.length cap ∧ l.length ≤ maxLen ∧ (0 < l.length → ∃ b off, a = some ⟨b, off, none⟩ ∧ b < w.heap.size ∧ ∀ i, i < l.length → w.cell? ⟨b, off + i, none⟩ = some (.bool (l.getD i false))) := by
  rcases h with ⟨rfl, rfl⟩ | ⟨b, off, cap, rfl, h0, h1, h2, h3⟩
  · exact ⟨none, 0, rfl, by decide, fun h => by simp at h⟩
  · exact ⟨_, _, rfl, by omega, fun _ => ⟨b, off, rfl, h0, h3⟩⟩

theorem rgets_any {l : List Bool} {v : Value} (k : Int) (w : World) (h : RdB w v l) :
    Calls Tryd.prog 22 #[v, .int .i64 k] w fun e w' => e = .returned (.tuple #[.bool (Blk.getB l k), .int .i64 (Blk.getE l k)]) ∧ w = w' := by
  obtain ⟨a, cap, rfl, hm, hc⟩ := h.open
  unfold maxLen at hm
  unfold Blk.getB Blk.getE
  by_cases hk : 0 ≤ k ∧ k < l.length
  · obtain ⟨b, off, rfl, _, hcell⟩ := hc (by omega)
    obtain ⟨n, rfl⟩ := Int.eq_ofNat_of_zero_le hk.1
    have hc1 := hcell n (by omega)
    rw [if_pos hk, if_pos hk, Int.toNat_natCast]
    have h1 : (n : Int) < l.length := hk.2
    clear hk hc hcell
    go_enter Tryd.func22, Tryd.ntmps22
    go_wp2
    go_ret2
    exact ⟨rfl, rfl⟩
  · rw [if_neg hk, if_neg hk]
    clear hc
    by_cases h0 : k < 0
    · clear hk
      go_enter Tryd.func22, Tryd.ntmps22
      go_wp2
      go_ret2
      exact ⟨rfl, rfl⟩
    · have h1 : (l.length : Int) ≤ k := by omega
      have h2 : 0 ≤ k := by omega
      clear hk h0
      go_enter Tryd.func22, Tryd.ntmps22
      go_wp2
      go_ret2
      exact ⟨rfl, rfl⟩

theorem rranks_any {l : List Bool} {v : Value} (k : Int) (c : Bool) (w : World) (h : RdB w v l) :
    Calls Tryd.prog 44 #[v, .int .i64 k, .bool c] w fun e w' => e = .returned (.int .i64 (Blk.rk c l k.toNat)) ∧ w = w' := by
  obtain ⟨a, cap, rfl, hm, hc⟩ := h.open
  unfold maxLen at hm
  have HC := Lib.hid hc
  clear hc
  go_enter Tryd.func44, Tryd.ntmps44
  go_wp2_with fail
  go_loop [7, 8] (fun n i => ∃ m : Nat, m ≤ l.length ∧ m ≤ k.toNat ∧ i = .int .i64 m ∧ n = .int .i64 (Blk.rk c l m)) (fun _ i => l.length - (intOf i).toNat)
  case atStart => exact ⟨0, Nat.zero_le _, Nat.zero_le _, rfl, rfl⟩
  case round =>
    obtain ⟨m, hm1, hm2, rfl, rfl⟩ := hrel
    have hrk := Blk.rk_le c l m
    by_cases hlt : m < l.length ∧ m < k.toNat
    · obtain ⟨b, off, rfl, _, hcell⟩ := HC.out (by omega)
      have hc1 := hcell m hlt.1
      have h1 : (m : Int) < l.length := by omega
      have h2 : (m : Int) < k := by omega
      have hs := Blk.rk_succ (b := c) hlt.1
      have HL := Lib.hid hlt
      have HK := Lib.hid hm2
      clear hcell hlt hm2
      generalize l.getD m false = d at *
      cases c <;> cases d <;> simp only [if_true, if_false, Bool.false_eq_true, Bool.true_eq_false] at hs
      all_goals
        have HS := Lib.hid hs
        clear hs
        go_wp2_with fail
        go_round
        case rel => exact ⟨m + 1, by omega, by have := HL.out; omega, by go_num, by rw [HS.out]; go_num⟩
        case measure => simp [intOf]; omega
    · have HL := Lib.hid hlt
      have hfin : Hid (Blk.rk c l m = Blk.rk c l k.toNat) := by
        by_cases h1 : m < l.length
        · have : m = k.toNat := by omega
          rw [this]; exact Lib.hid rfl
        · exact Lib.hid (by rw [Blk.rk_all (k := m) (by omega), Blk.rk_all (by omega)])
      by_cases h2 : (m : Int) < k
      · have h1 : ¬ (m : Int) < l.length := by omega
        clear hlt
        go_wp2_with fail
        go_ret
        exact ⟨retI (by rw [hfin.out]), rfl⟩
      · clear hlt
        go_wp2_with fail
        go_ret
        exact ⟨retI (by rw [hfin.out]), rfl⟩

theorem rselects_any {l : List Bool} {v : Value} (j : Int) (c : Bool) (w : World) (h : RdB w v l) :
    Calls Tryd.prog 45 #[v, .int .i64 j, .bool c] w fun e w' => e = .returned (.int .i64 (Blk.sl c l j)) ∧ w = w' := by
  obtain ⟨a, cap, rfl, hm, hc⟩ := h.open
  unfold maxLen at hm
  have HC := Lib.hid hc
  clear hc
  go_enter Tryd.func45, Tryd.ntmps45
  go_wp2_with fail
  go_loop [7, 8] (fun n i => ∃ m : Nat, m ≤ l.length ∧ i = .int .i64 m ∧ n = .int .i64 (Blk.rk c l m) ∧ (j < 0 ∨ (Blk.rk c l m : Int) ≤ j)) (fun _ i => l.length - (intOf i).toNat)
  case atStart => exact ⟨0, Nat.zero_le _, rfl, rfl, by have : Blk.rk c l 0 = 0 := rfl; rw [this]; omega⟩
  case round =>
    obtain ⟨m, hm1, rfl, rfl, hj⟩ := hrel
    have hrk := Blk.rk_le c l m
    by_cases hlt : m < l.length
    · obtain ⟨b, off, rfl, _, hcell⟩ := HC.out (by omega)
      have hc1 := hcell m hlt
      have h1 : (m : Int) < l.length := by omega
      have hs := Blk.rk_succ (b := c) hlt
      have hof := Lib.hid (fun hb => Blk.sl_of (b := c) hlt hb rfl)
      have HJ := Lib.hid hj
      clear hcell hj
      generalize l.getD m false = d at *
      by_cases hcd : d = c
      · subst hcd
        have hof2 := Lib.hid (hof.out rfl)
        rw [if_pos rfl] at hs
        have HS := Lib.hid hs
        clear hs hof
        by_cases hjj : (Blk.rk d l m : Int) = j
        · have hj2 : ((Blk.rk d l m : Int) == j) = true := by simpa using hjj
          have HJJ := Lib.hid hjj
          clear hjj
          cases d
          all_goals
            go_wp2_with fail
            go_ret
            exact ⟨retI (by rw [← HJJ.out, hof2.out]), rfl⟩
        · have hj2 : ((Blk.rk d l m : Int) == j) = false := by simpa using hjj
          have HJJ := Lib.hid hjj
          clear hjj
          cases d
          all_goals
            go_wp2_with fail
            go_round
            case rel => exact ⟨m + 1, by omega, by go_num, by rw [HS.out]; go_num, by rw [HS.out]; have := HJJ.out; have := HJ.out; omega⟩
            case measure => simp [intOf]; omega
      · rw [if_neg hcd] at hs
        have HS := Lib.hid hs
        clear hs hof
        cases c <;> cases d <;> simp only [not_true_eq_false, reduceCtorEq] at hcd
        all_goals
          go_wp2_with fail
          go_round
          case rel => exact ⟨m + 1, by omega, by go_num, by rw [HS.out]; go_num, by rw [HS.out]; exact HJ.out⟩
          case measure => simp [intOf]; omega
    · have hsl := Blk.sl_none (b := c) (l := l) (j := j) (by rw [← Blk.rk_all (k := m) (by omega)]; exact hj)
      have HS := Lib.hid hsl
      clear hsl hj
      have h1 : ¬ (m : Int) < l.length := by omega
      go_wp2_with fail
      go_ret
      exact ⟨retI HS.out.symm, rfl⟩

theorem rsame_eq {l : List Bool} {v u : Value} (w : World) (h : RdB w v l) (h' : RdB w u l) :
    Calls Tryd.prog 13 #[v, u] w fun e w' => e = .returned (.bool true) ∧ Below w.heap.size w w' := by
  obtain ⟨a, cap, rfl, hm, hc⟩ := h.open
  obtain ⟨a', cap', rfl, _, hc'⟩ := h'.open
  unfold maxLen at hm
  have HC := Lib.hid hc
  have HC' := Lib.hid hc'
  clear hc hc'
  go_enter Tryd.func13, Tryd.ntmps13
  go_wp2_with fail
  go_loopw [5] (fun i wr => ∃ m : Nat, m ≤ l.length ∧ i = .int .i64 m ∧ Below w.heap.size w wr) (fun i _ => l.length - (intOf i).toNat)
  case atStart => exact ⟨0, Nat.zero_le _, rfl, Below.refl _ _⟩
  case round =>
    obtain ⟨m, hm1, rfl, hb⟩ := hrel
    by_cases hlt : m < l.length
    · obtain ⟨b, off, rfl, hbb, hcell⟩ := HC.out (by omega)
      obtain ⟨b', off', rfl, hbb', hcell'⟩ := HC'.out (by omega)
      have hc1 := (hb.cell (p := ⟨b, off + m, none⟩) hbb).trans (hcell m hlt)
      have hc2 := (hb.cell (p := ⟨b', off' + m, none⟩) hbb').trans (hcell' m hlt)
      have h1 : (m : Int) < l.length := by omega
      clear hcell hcell'
      generalize l.getD m false = d at *
      have HB := Lib.hid hb
      cases d
      all_goals
        go_wp2_with fail
        go_quiet (fail)
        go_wp2_with fail
        go_roundw
        case rel => exact ⟨m + 1, by omega, by go_num, HB.out.drewN _⟩
        case measure => simp [intOf]; omega
    · have h1 : ¬ (m : Int) < l.length := by omega
      go_wp2_with fail
      go_ret
      exact ⟨rfl, hb⟩
end Go.Proofs.YtfbhcbcpeocmcaaDoor
