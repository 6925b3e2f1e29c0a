/- The document's own Level (scrimshawref6): a contract of the walk. -/
import Derived.Test.YtaglnomjlnlgoaaGreatDoorLwD
namespace Go.Proofs.YtaglnomjlnlgoaaGreatDoor
open Go Go.RowKit Go.ChangeAt

theorem Wv.bits_take {l : List Int} {k : Nat} (v : Nat) (p : Int) (hk : k < l.length) : Wv.bits (l.take (k + 1)) v p = Wv.bits (l.take k) v p ++ if Sy.path (l.getD k 0) v = p then [Sy.bit (l.getD k 0) v] else [] := by
  rw [List.take_succ_eq_append_getElem hk, Wv.bits_app]
  congr 1
  have e : l[k] = l.getD k 0 := by rw [List.getD_eq_getElem?_getD, List.getElem?_eq_getElem hk]; rfl
  unfold Wv.bits
  rw [Wv.sub_cons, e]
  split <;> rfl
theorem Wv.bits_le (l : List Int) (v : Nat) (p : Int) (k : Nat) : (Wv.bits (l.take k) v p).length ≤ k := by
  rw [Wv.bits_len]
  exact Nat.le_trans (List.length_filter_le _ _) (List.length_take_le _ _)
theorem OwnB.push_n {base : Nat} {w : World} {v : Value} {l : List Bool} {n : Nat} {b : Bool} (hn : l.length = n) (h : w.ownsRow base 4 1 v (n + 1) (l.map Value.bool ++ [Value.bool b])) : OwnB base w v (l ++ [b]) := by
  subst hn; exact OwnB.push h

end Go.Proofs.YtaglnomjlnlgoaaGreatDoor
