/- Two lists of symbols that are one (scrimshawref6's Same): a contract of the walk. -/
import Derived.Test.YthbbokoeiifjdaaGreatDoorAre
import Derived.BigQuiet
namespace Go.Proofs.YthbbokoeiifjdaaGreatDoor
open Go Go.RowKit Go.ChangeAt

theorem OwnI.form {base : Nat} {w : World} {v : Value} {l : List Int} (n : Nat) (h : OwnI base w v l) (hn : l.length = n) : ∃ a cap, v = .slice a n cap ∧ RdL w a cap l := by
  subst hn
  obtain ⟨a, cap, rfl, _, _⟩ := own_form h
  exact ⟨a, cap, rfl, OwnI.rd h⟩
set_option maxHeartbeats 400000 in
theorem rsame6 {l : List Int} {n : Nat} {a a' : Option Addr} {cap cap' : Nat} (w : World) (h : RdL w a cap l) (h' : RdL w a' cap' l) (hn : l.length = n) :
    Calls Tryz.prog 20 #[.slice a n cap, .slice a' n cap'] w fun e w' => e = .returned (.bool true) ∧ Below w.heap.size w w' := by
  have hm : n ≤ maxLen := by have h1 := h.1; have h2 := h.2.1; rw [hn] at h1; omega
  unfold maxLen at hm
  have HC := Lib.hid h.2.2.2
  have HC' := Lib.hid h'.2.2.2
  have HN := Lib.hid hn
  clear h h' hn
  go_enter Tryz.func20, Tryz.ntmps20
  go_wp2_with fail
  go_loopw [5] (fun i wr => ∃ m : Nat, m ≤ n ∧ i = .int .i64 m ∧ Below w.heap.size w wr) (fun i _ => n - (intOf i).toNat)
  case atStart => exact ⟨0, Nat.zero_le _, rfl, Below.refl _ _⟩
  case round =>
    obtain ⟨m, hm1, rfl, hb⟩ := hrel
    by_cases hlt : m < n
    · obtain ⟨b, off, rfl, hbb, hcell⟩ := HC.out (by rw [HN.out]; omega)
      obtain ⟨b', off', rfl, hbb', hcell'⟩ := HC'.out (by rw [HN.out]; omega)
      have hc1 := (hb.cell (p := ⟨b, off + m, none⟩) hbb).trans (hcell m (by rw [HN.out]; exact hlt))
      have hc2 := (hb.cell (p := ⟨b', off' + m, none⟩) hbb').trans (hcell' m (by rw [HN.out]; exact hlt))
      have h1 : (m : Int) < n := by omega
      clear hcell hcell'
      obtain ⟨d, hd⟩ : ∃ d, l.getD m 0 = d := ⟨_, rfl⟩
      rw [hd] at hc1 hc2
      have HB := Lib.hid hb
      clear hd
      go_wp2_with fail
      go_quiet (fail)
      go_wp2_with fail
      go_roundw
      case rel => exact ⟨m + 1, by omega, by go_num, HB.out.drewN _⟩
      case measure => simp [intOf]; omega
    · have h1 : ¬ (m : Int) < n := by omega
      go_wp2_with fail
      go_ret
      exact ⟨rfl, hb⟩
end Go.Proofs.YthbbokoeiifjdaaGreatDoor
