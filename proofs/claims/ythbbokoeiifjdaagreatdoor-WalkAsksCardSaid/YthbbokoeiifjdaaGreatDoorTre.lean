/- again: contracts of the walk. feed: contracts of the walk. -/
import Derived.Test.YthbbokoeiifjdaaGreatDoorTrd
namespace Go.Proofs.YthbbokoeiifjdaaGreatDoor
open Go Go.RowKit Go.ChangeAt Tr

end Go.Proofs.YthbbokoeiifjdaaGreatDoor
namespace Go.Proofs.YthbbokoeiifjdaaGreatDoor
open Go Go.RowKit Go.ChangeAt Tr

/-- What feed makes of two sides. -/
structure Fed (S S' : St) (k : Nat) (a b t : T) : Prop where
  bits : t.bits = a.bits ++ b.bits
  bal : t.bal
  full : t.full
  lo : max a.ht b.ht ≤ t.ht
  hi : t.ht ≤ 1 + max a.ht b.ht
  rt : S'.rt = S.rt
  vis : S'.vis ≤ S.vis + 2
  live : S'.live + (T.node k a b).ks.length = S.live + t.ks.length
  T : S'.T.length = S.T.length
theorem clr_two {s : Sto} {x y j : Nat} (h1 : j ≠ x) (h2 : j ≠ y) : clr s [x, y] j = s j := by
  unfold clr
  rw [if_neg (by simp [h1, h2])]
theorem clr_in {s : Sto} {x y j : Nat} (h : j = x ∨ j = y) : clr s [x, y] j = none := by
  unfold clr
  rw [if_pos (by simp [h])]
theorem St.live_eq {S S' : St} (h1 : S'.T = S.T) (h2 : S'.F = S.F) : S'.live = S.live := by unfold St.live; rw [h1, h2]
end Go.Proofs.YthbbokoeiifjdaaGreatDoor
