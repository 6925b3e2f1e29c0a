/- The seventh law's statements as walks over the code's own wave (all but WavePlays). -/
import Derived.Test.YtaglnomjlnlgoaaDoorWaf
import Derived.Test.YtaglnomjlnlgoaaDoorLaidB
import Derived.Test.YtaglnomjlnlgoaaDoorLwF
namespace Go.Proofs.YtaglnomjlnlgoaaDoor
open Go Go.RowKit Go.ChangeAt Tr Wk

theorem waveranks_w (a0 : Option Addr) (len0 cap0 : Nat) (z0 : List Int) (few : Bool) (W : World) (r0 : IsRow .i64 W a0 len0 cap0 z0) (hL : LaidFact W) :
    Calls Tryd.prog 4 #[.slice a0 len0 cap0, .bool few] W fun e w' => e = .returned (.bool true) ∧ Below W.heap.size W w' :=
  waveranks_o O7 a0 len0 cap0 few W (RdZ.of_row r0) hL.tab hL.pos
theorem waveundo_w (a0 : Option Addr) (len0 cap0 : Nat) (z0 : List Int) (few : Bool) (a2 : Option Addr) (len2 cap2 : Nat) (z2 : List Int) (s : Int) (W : World) (r0 : IsRow .i64 W a0 len0 cap0 z0) (r2 : IsRow .i64 W a2 len2 cap2 z2) (_ : (Lit.int .i64 s).wf = true) (hL : LaidFact W) :
    Calls Tryd.prog 5 #[.slice a0 len0 cap0, .bool few, .slice a2 len2 cap2, .int .i64 s] W fun e w' => e = .returned (.bool true) ∧ Below W.heap.size W w' :=
  waveundo_o O7 a0 len0 cap0 few a2 len2 cap2 s W (RdZ.of_row r0) (RdZ.of_row r2) hL.tab hL.pos
theorem wavecounts_w (a0 : Option Addr) (len0 cap0 : Nat) (z0 : List Int) (few : Bool) (at0 : Int) (W : World) (r0 : IsRow .i64 W a0 len0 cap0 z0) (_ : (Lit.int .i64 at0).wf = true) (hL : LaidFact W) :
    Calls Tryd.prog 7 #[.slice a0 len0 cap0, .bool few, .int .i64 at0] W fun e w' => e = .returned (.bool true) ∧ Below W.heap.size W w' :=
  wavecounts_o O7 a0 len0 cap0 few at0 W (RdZ.of_row r0) hL.tab hL.pos
theorem wavebuilds_w (a0 : Option Addr) (len0 cap0 : Nat) (z0 : List Int) (few : Bool) (W : World) (r0 : IsRow .i64 W a0 len0 cap0 z0) (hL : LaidFact W) :
    Calls Tryd.prog 6 #[.slice a0 len0 cap0, .bool few] W fun e w' => e = .returned (.bool true) ∧ Below W.heap.size W w' :=
  wavebuilds_o O7 a0 len0 cap0 few W (RdZ.of_row r0) hL.tab hL.pos
theorem wf_i64 {p : Int} (h : (Lit.int .i64 p).wf = true) : -9223372036854775808 ≤ p ∧ p ≤ 9223372036854775807 := by
  unfold Lit.wf at h
  rw [Bool.and_eq_true] at h
  exact ⟨of_decide_eq_true h.1, of_decide_eq_true h.2⟩
theorem wavelevels_w (a0 : Option Addr) (len0 cap0 : Nat) (z0 : List Int) (few : Bool) (lv0 p0 : Int) (W : World) (r0 : IsRow .i64 W a0 len0 cap0 z0) (_ : (Lit.int .i64 lv0).wf = true) (wp : (Lit.int .i64 p0).wf = true) (hL : LaidFact W) :
    Calls Tryd.prog 3 #[.slice a0 len0 cap0, .bool few, .int .i64 lv0, .int .i64 p0] W fun e w' => e = .returned (.bool true) ∧ Below W.heap.size W w' :=
  wavelevels_o O7 a0 len0 cap0 few lv0 p0 W (RdZ.of_row r0) (wf_i64 wp) hL.tab hL.pos
end Go.Proofs.YtaglnomjlnlgoaaDoor
