/- How often a number stands in a list's beginning; a slice of the call's own that grew by one: facts, and the document's Rank (scrimshawref6): a contract of the walk. -/
import Derived.Test.YtfncjkkdemeclaaInt
namespace Go.Proofs.Ytfncjkkdemeclaa
open Go Go.RowKit Go.ChangeAt
namespace Lr
def rk (l : List Int) (k : Nat) (s : Int) : Nat := (l.take k).count s
theorem rk_all {l : List Int} {k : Nat} (s : Int) (h : l.length ≤ k) : rk l k s = l.count s := by unfold rk; rw [List.take_of_length_le h]
theorem rk_succ {l : List Int} {k : Nat} (s : Int) (h : k < l.length) : rk l (k + 1) s = rk l k s + if l.getD k 0 = s then 1 else 0 := by
  unfold rk
  rw [List.take_succ_eq_append_getElem h, List.count_append, List.getD_eq_getElem?_getD, List.getElem?_eq_getElem h]
  simp [List.count_cons]
theorem rk_le (l : List Int) (k : Nat) (s : Int) : rk l k s ≤ k := by unfold rk; exact Nat.le_trans List.count_le_length (List.length_take_le _ _)
theorem retI {k : IntKind} {a b : Int} (h : a = b) : Ending.returned (.int k a) = .returned (.int k b) := by rw [h]
theorem push {base : Nat} {w : World} {v : Value} {l : List Int} {n : Nat} {k : Int} (hn : l.length = n) (h : w.ownsRow base 3 1 v (n + 1) (l.map (Value.int .i64) ++ [Value.int .i64 k])) : OwnI base w v (l ++ [k]) := by
  subst hn
  unfold OwnI
  rw [List.length_append, List.map_append]
  exact h
theorem form {base : Nat} {w : World} {v : Value} {l : List Int} (n : Nat) (h : OwnI base w v l) (hn : l.length = n) : ∃ a cap, v = .slice a n cap ∧ RdL w a cap l := by
  subst hn
  obtain ⟨a, cap, rfl, _, _⟩ := own_form h
  exact ⟨a, cap, rfl, OwnI.rd h⟩
end Lr
theorem r6rk {l : List Int} {n : Nat} {a : Option Addr} {cap : Nat} (k s : Int) (w : World) (h : RdL w a cap l) (hn : l.length = n) :
    Calls Try.prog 29 #[.slice a n cap, .int .i64 k, .int .i64 s] w fun e w' => e = .returned (.int .i64 (Lr.rk l k.toNat s)) ∧ w = w' := by
  have hm : n ≤ maxLen := by have h1 := h.1; have h2 := h.2.1; rw [hn] at h1; omega
  unfold maxLen at hm
  have HC := Lib.hid h.2.2.2
  have HN := Lib.hid hn
  clear h hn
  go_enter Try.func29, Try.ntmps29
  go_wp2_with fail
  go_loop [7, 8] (fun c i => ∃ m : Nat, m ≤ n ∧ m ≤ k.toNat ∧ i = .int .i64 m ∧ c = .int .i64 (Lr.rk l m s)) (fun _ i => n - (intOf i).toNat)
  case atStart => exact ⟨0, Nat.zero_le _, Nat.zero_le _, rfl, rfl⟩
  case round =>
    obtain ⟨m, hm1, hm2, rfl, rfl⟩ := hrel
    have hrk := Lr.rk_le l m s
    by_cases hlt : m < n ∧ m < k.toNat
    · obtain ⟨b, off, rfl, _, hcell⟩ := HC.out (by rw [HN.out]; omega)
      have hml : m < l.length := by rw [HN.out]; exact hlt.1
      have hc1 := hcell m hml
      have h1 : (m : Int) < n := by omega
      have h2 : (m : Int) < k := by omega
      have hs := Lr.rk_succ s hml
      have HL := Lib.hid hlt
      have HK := Lib.hid hm2
      obtain ⟨d, hd⟩ : ∃ d, l.getD m 0 = d := ⟨_, rfl⟩
      rw [hd] at hc1 hs
      clear hcell hlt hm2 hml hd
      by_cases hds : d = s
      · subst hds
        have hj : (d == d) = true := by simp
        rw [if_pos rfl] at hs
        have HS := Lib.hid hs
        clear hs
        go_wp2_with fail
        go_round
        case rel => exact ⟨m + 1, by omega, by have := HL.out; omega, by go_num, by rw [HS.out]; go_num⟩
        case measure => simp [intOf]; omega
      · have hj : (d == s) = false := by simpa using hds
        rw [if_neg hds] at hs
        have HS := Lib.hid hs
        clear hs
        go_wp2_with fail
        go_round
        case rel => exact ⟨m + 1, by omega, by have := HL.out; omega, by go_num, by rw [HS.out]; go_num⟩
        case measure => simp [intOf]; omega
    · have HL := Lib.hid hlt
      have hfin : Hid (Lr.rk l m s = Lr.rk l k.toNat s) := by
        by_cases h1 : m < n
        · have : m = k.toNat := by omega
          rw [this]; exact Lib.hid rfl
        · exact Lib.hid (by rw [Lr.rk_all (k := m) s (by rw [HN.out]; omega), Lr.rk_all s (by rw [HN.out]; omega)])
      by_cases h2 : (m : Int) < k
      · have h1 : ¬ (m : Int) < n := by omega
        clear hlt
        go_wp2_with fail
        go_ret
        exact ⟨Lr.retI (by rw [hfin.out]), rfl⟩
      · clear hlt
        go_wp2_with fail
        go_ret
        exact ⟨Lr.retI (by rw [hfin.out]), rfl⟩
end Go.Proofs.Ytfncjkkdemeclaa
