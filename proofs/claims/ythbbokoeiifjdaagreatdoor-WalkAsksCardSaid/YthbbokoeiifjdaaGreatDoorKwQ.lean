/- The walk's calls beside the document's own: one answer for both, whatever is asked. -/
import Derived.Test.YthbbokoeiifjdaaGreatDoorKwO
import Derived.Test.YthbbokoeiifjdaaGreatDoorLaidB
namespace Go.Proofs.YthbbokoeiifjdaaGreatDoor
open Go Go.RowKit Go.ChangeAt

theorem back_pair (t : List UInt8) (k : Int) : ∃ v : Int,
    (∀ {w : World} {b lo hi : Nat}, Wlk w b lo hi t → Calls Tryz.prog 14 #[.pointer (some ⟨b, 0, none⟩), .int .i64 k] w fun e w' => e = .returned (.int .i64 v) ∧ Wlk w' b lo hi t ∧ Stay (Win lo hi) w w') ∧
    (∀ {w : World} {a : Option Addr} {cap n : Nat}, RdL w a cap (rxi t) → t.length + 1 = n → n ≤ 100000 → Calls Tryz.prog 15 #[.slice a n cap, .int .i64 k] w fun e w' => e = .returned (.int .i64 v) ∧ w = w') := by
  by_cases hk : 0 ≤ k ∧ k < (t.length : Int) + 1
  · obtain ⟨r, rfl⟩ : ∃ r : Nat, k = r := ⟨k.toNat, by omega⟩
    have hr : r < t.length + 1 := by omega
    exact ⟨bkx t r, fun h => h.back r r _ rfl hr rfl, fun {w} _ _ _ h hn hm => r6stepback r _ w h hn hm (by omega) rfl⟩
  · exact ⟨-1, fun h => h.back_no k (by omega), fun {w} _ _ _ _ hn _ => r6stepback_no k w (by omega)⟩
theorem on_pair (t : List UInt8) (k : Int) : ∃ v : Int,
    (∀ {w : World} {b lo hi : Nat}, Wlk w b lo hi t → Calls Tryz.prog 16 #[.pointer (some ⟨b, 0, none⟩), .int .i64 k] w fun e w' => e = .returned (.int .i64 v) ∧ Wlk w' b lo hi t ∧ Stay (Win lo hi) w w') ∧
    (∀ {w : World} {a : Option Addr} {cap n : Nat}, RdL w a cap (rxi t) → t.length + 1 = n → n ≤ 100000 → Calls Tryz.prog 17 #[.slice a n cap, .int .i64 k] w fun e w' => e = .returned (.int .i64 v) ∧ w = w') := by
  by_cases hk : 0 ≤ k ∧ k < (t.length : Int) + 1
  · obtain ⟨r, rfl⟩ : ∃ r : Nat, k = r := ⟨k.toNat, by omega⟩
    have hr : r < t.length + 1 := by omega
    exact ⟨onx t r, fun h => h.on r r _ rfl hr rfl, fun {w} _ _ _ h hn hm => r6stepon r _ w h hn hm (by omega) rfl⟩
  · exact ⟨-1, fun h => h.on_no k (by omega), fun {w} _ _ _ _ hn _ => r6stepon_no k w (by omega)⟩
theorem first_pair (t : List UInt8) (k : Int) : ∃ v : Int,
    (∀ {w : World} {b lo hi : Nat}, Wlk w b lo hi t → Calls Tryz.prog 18 #[.pointer (some ⟨b, 0, none⟩), .int .i64 k] w fun e w' => e = .returned (.int .i64 v) ∧ Below w.heap.size w w') ∧
    (∀ {w : World} {a : Option Addr} {cap n : Nat} {s : ByteArray}, str t = s → RdL w a cap (rxi t) → t.length + 1 = n → n ≤ 100000 → Calls Tryz.prog 19 #[.string s, .slice a n cap, .int .i64 k] w fun e w' => e = .returned (.int .i64 v) ∧ Below w.heap.size w w') := by
  by_cases hk : 0 ≤ k ∧ k < (t.length : Int) + 1
  · obtain ⟨r, rfl⟩ : ∃ r : Nat, k = r := ⟨k.toNat, by omega⟩
    have hr : r < t.length + 1 := by omega
    exact ⟨fsx t r, fun h => h.first r r _ rfl hr rfl, fun {w} _ _ _ _ hs h hn hm => r6first r _ w hs h hn hm (by omega) rfl⟩
  · exact ⟨-1, fun h => h.first_no k (by omega), fun {w} _ _ _ _ _ _ hn _ => r6first_no k w (by omega)⟩
theorem narrow_pair (t : List UInt8) (p q s : Int) : ∃ X Y : Int,
    (∀ {w : World} {b lo hi : Nat}, Wlk w b lo hi t → Calls Tryz.prog 9 #[.pointer (some ⟨b, 0, none⟩), .int .i64 p, .int .i64 q, .int .i64 s] w fun e w' => e = .returned (.tuple #[.int .i64 X, .int .i64 Y]) ∧ Wlk w' b lo hi t ∧ Stay (Win lo hi) w w') ∧
    (∀ {w : World} {a : Option Addr} {cap n : Nat}, RdL w a cap (Lx t) → t.length + 1 = n → n ≤ 100000 → Calls Tryz.prog 10 #[.slice a n cap, .int .i64 p, .int .i64 q, .int .i64 s] w fun e w' => e = .returned (.tuple #[.int .i64 X, .int .i64 Y]) ∧ w = w') := by
  by_cases hs : 0 ≤ s ∧ s ≤ 256
  · exact ⟨_, _, fun h => h.narrow p q s _ _ hs rfl rfl, fun {w} _ _ _ h hn hm => r6narrow p q s _ _ w h hn hm hs rfl rfl⟩
  · exact ⟨0, 0, fun {w} _ _ _ h => (narrow_no _ p q s w hs).mono fun _ _ ⟨he, hw⟩ => by subst hw; exact ⟨he, h, Stay.refl _ _⟩, fun {w} _ _ _ _ _ _ => r6narrow_no p q s w hs⟩

/-- What stands beside the walk: the text, its rows and last column, the symbols that came in. -/
structure As (W w : World) (b lo hi : Nat) (t : List UInt8) (a1 : Option Addr) (c1 R rc B bc : Nat) (a2 : Option Addr) (c2 : Nat) (l : List Int) : Prop where
  a : Wlk w b lo hi t
  bw : Below W.heap.size W w
  wl : W.heap.size ≤ lo
  r : RdU w a1 c1 t
  x : RdL w (some ⟨R, 0, none⟩) rc (rxi t)
  y : RdL w (some ⟨B, 0, none⟩) bc (Lx t)
  z : RdL w a2 c2 l
  hr : 0 < t.length → ∀ ad, a1 = some ad → ad.block < lo
  hx : hi ≤ R
  hy : hi ≤ B
  hz : 0 < l.length → ∀ ad, a2 = some ad → ad.block < lo
theorem As.below {W w w' : World} {b lo hi : Nat} {t : List UInt8} {a1 : Option Addr} {c1 R rc B bc : Nat} {a2 : Option Addr} {c2 : Nat} {l : List Int} (h : As W w b lo hi t a1 c1 R rc B bc a2 c2 l) (k : Below w.heap.size w w') : As W w' b lo hi t a1 c1 R rc B bc a2 c2 l :=
  ⟨h.a.below k, h.bw.trans (k.mono h.bw.size), h.wl, h.r.below k, h.x.below k, h.y.below k, h.z.below k, h.hr, h.hx, h.hy, h.hz⟩
theorem As.next {W w w' : World} {b lo hi : Nat} {t : List UInt8} {a1 : Option Addr} {c1 R rc B bc : Nat} {a2 : Option Addr} {c2 : Nat} {l : List Int} (h : As W w b lo hi t a1 c1 R rc B bc a2 c2 l) (k : Wlk w' b lo hi t) (k2 : Stay (Win lo hi) w w') : As W w' b lo hi t a1 c1 R rc B bc a2 c2 l :=
  ⟨k, h.bw.win k2 h.wl, h.wl, Rd.out h.r k2 (fun hp ad ha => .inl (h.hr hp ad ha)), Rd.outL h.x k2 (.inr h.hx), Rd.outL h.y k2 (.inr h.hy), h.z.stay k2 (fun hp ad ha _ hw => by
    have h1 := h.hz hp ad ha
    have h2 : lo ≤ ad.block ∧ ad.block < hi := hw
    omega), h.hr, h.hx, h.hy, h.hz⟩
theorem As.told {W w : World} {b lo hi : Nat} {t : List UInt8} {a1 : Option Addr} {c1 R rc B bc : Nat} {a2 : Option Addr} {c2 : Nat} {l : List Int} (h : As W w b lo hi t a1 c1 R rc B bc a2 c2 l) : Calls Tryz.prog 4 #[] w fun e w' => e = .returned (.bool true) ∧ Below w.heap.size w w' :=
  told10 w h.a.tab (by have := h.a.size; omega)
theorem RdL.old {w : World} {a : Option Addr} {cap : Nat} {l : List Int} (h : RdL w a cap l) : 0 < l.length → ∀ ad, a = some ad → ad.block < w.heap.size := fun hp ad had => by
  obtain ⟨b, off, e1, e2, _⟩ := h.cell hp
  obtain rfl := Option.some.inj (had.symm.trans e1)
  exact e2
end Go.Proofs.YthbbokoeiifjdaaGreatDoor
