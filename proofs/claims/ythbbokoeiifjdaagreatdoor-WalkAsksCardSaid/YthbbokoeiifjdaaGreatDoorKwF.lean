/- Walks as the statements use them: a walk of the call's own, between two marks. -/
import Derived.Test.YthbbokoeiifjdaaGreatDoorKwE
namespace Go.Proofs.YthbbokoeiifjdaaGreatDoor
open Go Go.RowKit Go.ChangeAt Tr Wk

/-- Blocks between two marks. -/
def Win (lo hi : Nat) (i : Nat) : Prop := lo ≤ i ∧ i < hi
/-- A walk, all its blocks between two marks. -/
def Wlk (w : World) (b lo hi : Nat) (t : List UInt8) : Prop :=
  ∃ x T, Wli w b x T t ∧ (∀ i, x.own i → lo ≤ i ∧ i < hi) ∧ (lo ≤ b ∧ b < hi) ∧ (lo ≤ T ∧ T < hi) ∧ 0 < lo ∧ hi ≤ w.heap.size
theorem Wlk.tab {w : World} {b lo hi : Nat} {t : List UInt8} (h : Wlk w b lo hi t) : TabAt w := by
  obtain ⟨_, _, h1, _⟩ := h
  exact h1.col.tab
theorem Wlk.size {w : World} {b lo hi : Nat} {t : List UInt8} (h : Wlk w b lo hi t) : 0 < lo ∧ lo < hi ∧ hi ≤ w.heap.size := by
  obtain ⟨_, _, _, _, h2, _, h3, h4⟩ := h
  exact ⟨h3, by omega, h4⟩
theorem Wlk.below {w w' : World} {b lo hi : Nat} {t : List UInt8} (h : Wlk w b lo hi t) (hb : Below w.heap.size w w') : Wlk w' b lo hi t := by
  obtain ⟨x, T, h1, h2, h3, h4, h5, h6⟩ := h
  exact ⟨x, T, h1.below hb, h2, h3, h4, h5, Nat.le_trans h6 hb.size⟩
theorem Wlk.drewN {w : World} {b lo hi : Nat} {t : List UInt8} (h : Wlk w b lo hi t) (n : Nat) : Wlk (w.drewN n) b lo hi t := h.below ((Below.refl _ _).drewN n)
/-- What turns nothing between the marks. -/
theorem Wlk.stay {w w' : World} {b lo hi : Nat} {t : List UInt8} {S : Nat → Prop} (h : Wlk w b lo hi t) (hb : Stay S w w') (hs : ∀ i, Win lo hi i → ¬ S i) (h0 : ¬ S 0) : Wlk w' b lo hi t := by
  obtain ⟨x, T, h1, h2, h3, h4, h5, h6⟩ := h
  exact ⟨x, T, ⟨hb.kept h1.top (hs _ h3), h1.col.stay hb (fun i hi => hs i (h2 i hi)) (hs _ h4) h0, h1.nb⟩, h2, h3, h4, h5, Nat.le_trans h6 hb.size⟩
theorem Wlk.beside {w w' : World} {b lo hi lo' hi' : Nat} {t : List UInt8} (h : Wlk w b lo hi t) (hb : Stay (Win lo' hi') w w') (hs : hi ≤ lo' ∨ hi' ≤ lo) (h0 : 0 < lo') : Wlk w' b lo hi t :=
  h.stay hb (fun i h1 h2 => by unfold Win at h1 h2; omega) (fun h1 => by unfold Win at h1; omega)
theorem Wlk.done {w w' : World} {b lo hi : Nat} {x : Wx} {T : Nat} {t : List UInt8} (h : Wli w b x T t) (h2 : ∀ i, x.own i → lo ≤ i ∧ i < hi) (h3 : lo ≤ b ∧ b < hi) (h4 : lo ≤ T ∧ T < hi) (h5 : 0 < lo) (h6 : hi ≤ w.heap.size) (k : Cld w w' x T t) : Wlk w' b lo hi t ∧ Stay (Win lo hi) w w' := by
  obtain ⟨x', k1, k2, k3⟩ := k
  refine ⟨⟨x', T, ⟨by rw [k2.t]; exact k3.kept h.top h.nb, k1, fun ho => h.nb ((k2.own b).1 ho)⟩, fun i hi => h2 i ((k2.own i).1 hi), h3, h4, h5, Nat.le_trans h6 k3.size⟩, k3.mono fun i _ hi => h2 i hi⟩
theorem Stay.win {w w' : World} {B lo hi : Nat} (h : Stay (Win lo hi) w w') (hB : B ≤ lo) (hs : lo ≤ w.heap.size) : Below B w w' := h.below (Nat.le_trans hB hs) fun _ _ hi => Nat.le_trans hB hi.1
theorem _root_.Go.RowKit.Below.win {W w w' : World} {lo hi : Nat} (h : Below W.heap.size W w) (k : Stay (Win lo hi) w w') (hB : W.heap.size ≤ lo) : Below W.heap.size W w' := h.trans (k.below h.size fun _ _ hi => Nat.le_trans hB hi.1)
theorem Rd.out {w w' : World} {lo hi : Nat} {a : Option Addr} {cap : Nat} {t : List UInt8} (h : RdU w a cap t) (hb : Stay (Win lo hi) w w') (hs : 0 < t.length → ∀ ad, a = some ad → ad.block < lo ∨ hi ≤ ad.block) : RdU w' a cap t :=
  h.stay hb fun hp ad ha _ hw => by have := hs hp ad ha; unfold Win at hw; omega
theorem Rd.outL {w w' : World} {lo hi : Nat} {b cap : Nat} {l : List Int} (h : RdL w (some ⟨b, 0, none⟩) cap l) (hb : Stay (Win lo hi) w w') (hs : b < lo ∨ hi ≤ b) : RdL w' (some ⟨b, 0, none⟩) cap l :=
  h.stay hb fun _ ad ha _ hw => by
    obtain rfl := Option.some.inj ha
    have hw' : lo ≤ b ∧ b < hi := hw
    omega
theorem RdU.old {w : World} {a : Option Addr} {cap : Nat} {t : List UInt8} (h : RdU w a cap t) : 0 < t.length → ∀ ad, a = some ad → ad.block < w.heap.size := fun hp ad had => by
  obtain ⟨b, off, e1, e2, _⟩ := h.2.2 hp
  obtain rfl := Option.some.inj (had.symm.trans e1)
  exact e2

theorem Wlk.back {w : World} {b lo hi : Nat} {t : List UInt8} (h : Wlk w b lo hi t) (k : Int) (r : Nat) (v : Int) (hk : k = r) (hr : r < t.length + 1) (hv : (bkx t r : Int) = v) :
    Calls Tryz.prog 14 #[.pointer (some ⟨b, 0, none⟩), .int .i64 k] w fun e w' => e = .returned (.int .i64 v) ∧ Wlk w' b lo hi t ∧ Stay (Win lo hi) w w' := by
  obtain ⟨x, T, h1, h2, h3, h4, h5, h6⟩ := h
  subst hk hv
  exact (h1.back r hr).mono fun _ _ ⟨he, hD⟩ => ⟨he, Wlk.done h1 h2 h3 h4 h5 h6 hD⟩
theorem Wlk.back_no {w : World} {b lo hi : Nat} {t : List UInt8} (h : Wlk w b lo hi t) (k : Int) (hk : k < 0 ∨ (t.length : Int) + 1 ≤ k) :
    Calls Tryz.prog 14 #[.pointer (some ⟨b, 0, none⟩), .int .i64 k] w fun e w' => e = .returned (.int .i64 (-1)) ∧ Wlk w' b lo hi t ∧ Stay (Win lo hi) w w' := by
  obtain ⟨x, T, h1, h2, h3, h4, h5, h6⟩ := h
  exact (h1.back_no k hk).mono fun _ _ ⟨he, hD⟩ => ⟨he, Wlk.done h1 h2 h3 h4 h5 h6 hD⟩
theorem Wlk.on {w : World} {b lo hi : Nat} {t : List UInt8} (h : Wlk w b lo hi t) (k : Int) (r : Nat) (v : Int) (hk : k = r) (hr : r < t.length + 1) (hv : (onx t r : Int) = v) :
    Calls Tryz.prog 16 #[.pointer (some ⟨b, 0, none⟩), .int .i64 k] w fun e w' => e = .returned (.int .i64 v) ∧ Wlk w' b lo hi t ∧ Stay (Win lo hi) w w' := by
  obtain ⟨x, T, h1, h2, h3, h4, h5, h6⟩ := h
  subst hk hv
  exact (h1.on r hr).mono fun _ _ ⟨he, hD⟩ => ⟨he, Wlk.done h1 h2 h3 h4 h5 h6 hD⟩
theorem Wlk.on_no {w : World} {b lo hi : Nat} {t : List UInt8} (h : Wlk w b lo hi t) (k : Int) (hk : k < 0 ∨ (t.length : Int) + 1 ≤ k) :
    Calls Tryz.prog 16 #[.pointer (some ⟨b, 0, none⟩), .int .i64 k] w fun e w' => e = .returned (.int .i64 (-1)) ∧ Wlk w' b lo hi t ∧ Stay (Win lo hi) w w' := by
  obtain ⟨x, T, h1, h2, h3, h4, h5, h6⟩ := h
  exact (h1.on_no k hk).mono fun _ _ ⟨he, hD⟩ => ⟨he, Wlk.done h1 h2 h3 h4 h5 h6 hD⟩
theorem Wlk.first {w : World} {b lo hi : Nat} {t : List UInt8} (h : Wlk w b lo hi t) (k : Int) (r : Nat) (v : Int) (hk : k = r) (hr : r < t.length + 1) (hv : fsx t r = v) :
    Calls Tryz.prog 18 #[.pointer (some ⟨b, 0, none⟩), .int .i64 k] w fun e w' => e = .returned (.int .i64 v) ∧ Below w.heap.size w w' := by
  obtain ⟨x, T, h1, h2, h3, h4, h5, h6⟩ := h
  subst hk hv
  exact h1.first r hr
theorem Wlk.first_no {w : World} {b lo hi : Nat} {t : List UInt8} (h : Wlk w b lo hi t) (k : Int) (hk : k < 0 ∨ (t.length : Int) + 1 ≤ k) :
    Calls Tryz.prog 18 #[.pointer (some ⟨b, 0, none⟩), .int .i64 k] w fun e w' => e = .returned (.int .i64 (-1)) ∧ Below w.heap.size w w' := by
  obtain ⟨x, T, h1, h2, h3, h4, h5, h6⟩ := h
  exact h1.first_no k hk
theorem Wlk.narrow {w : World} {b lo hi : Nat} {t : List UInt8} (h : Wlk w b lo hi t) (p q s A M : Int) (hs : 0 ≤ s ∧ s ≤ 256) (hA : (nrx t p.toNat s : Int) = A) (hM : (nrx t (max p q).toNat s : Int) = M) :
    Calls Tryz.prog 9 #[.pointer (some ⟨b, 0, none⟩), .int .i64 p, .int .i64 q, .int .i64 s] w fun e w' => e = .returned (.tuple #[.int .i64 A, .int .i64 M]) ∧ Wlk w' b lo hi t ∧ Stay (Win lo hi) w w' := by
  obtain ⟨x, T, h1, h2, h3, h4, h5, h6⟩ := h
  subst hA hM
  exact (h1.narrow p q _ s hs rfl).mono fun _ _ ⟨he, hD⟩ => ⟨he, Wlk.done h1 h2 h3 h4 h5 h6 hD⟩
theorem Wlk.len {w : World} {b lo hi : Nat} {t : List UInt8} (h : Wlk w b lo hi t) (n : Int) (hn : (t.length : Int) + 1 = n) :
    Calls Tryz.prog 22 #[.pointer (some ⟨b, 0, none⟩)] w fun e w' => e = .returned (.int .i64 n) ∧ Below w.heap.size w w' := by
  obtain ⟨x, T, h1, h2, h3, h4, h5, h6⟩ := h
  subst hn
  exact h1.len _ rfl
theorem Wlk.all {w : World} {b lo hi : Nat} {t : List UInt8} (h : Wlk w b lo hi t) (n : Nat) (hn : t.length + 1 = n) :
    Calls Tryz.prog 21 #[.pointer (some ⟨b, 0, none⟩)] w fun e w' => ∃ B cap, e = .returned (.slice (some ⟨B, 0, none⟩) n cap) ∧ w.heap.size ≤ B ∧ B < w'.heap.size ∧ RdL w' (some ⟨B, 0, none⟩) cap (Lx t) ∧ Below w.heap.size w w' := by
  obtain ⟨x, T, h1, h2, h3, h4, h5, h6⟩ := h
  refine h1.all.mono fun e w' ⟨v, he, hv, hb⟩ => ?_
  have hl := Lx_len t
  obtain ⟨B, cap, rfl, k1, k2, _⟩ := hv.cells (by omega)
  refine ⟨B, cap, by rw [he, hl, hn], k1, k2, hv.rd, hb⟩
theorem Wlk.text {w : World} {b lo hi : Nat} {t : List UInt8} (h : Wlk w b lo hi t) (n : Nat) (hn : t.length = n) :
    Calls Tryz.prog 13 #[.pointer (some ⟨b, 0, none⟩)] w fun e w' => ∃ B, e = .returned (.slice (some ⟨B, 0, none⟩) n n) ∧ w.heap.size ≤ B ∧ RdU w' (some ⟨B, 0, none⟩) n t ∧ Below w.heap.size w w' := by
  obtain ⟨x, T, h1, h2, h3, h4, h5, h6⟩ := h
  exact h1.text n hn
theorem Wlk.made {w w' : World} {b : Nat} {x : Wx} {T : Nat} {t : List UInt8} (h : Wli w' b x T t) (h1 : w.heap.size ≤ x.B) (h2 : w.heap.size ≤ T) (h3 : w.heap.size ≤ b) (hp : 0 < w.heap.size) : Wlk w' b w.heap.size w'.heap.size t :=
  ⟨x, T, h, fun i hi => by have := h.col.wav.own_lt hi; omega, ⟨h3, lt_of_block h.top⟩, ⟨h2, h.col.tal.lt⟩, hp, Nat.le_refl _⟩
theorem wnew_t {a : Option Addr} {cap n : Nat} {t : List UInt8} (w : World) (hT : TabAt w) (hpos : 0 < w.heap.size) (h : RdU w a cap t) (hn : t.length = n) (hm : n ≤ 90000) :
    Calls Tryz.prog 6 #[.slice a n cap] w fun e w' => ∃ b, e = .returned (.pointer (some ⟨b, 0, none⟩)) ∧ Wlk w' b w.heap.size w'.heap.size t ∧ Below w.heap.size w w' :=
  (kwalk w hT hpos h hn hm).mono fun _ _ ⟨b, _, _, he, hX, h1, h2, h3, hb⟩ => ⟨b, he, Wlk.made hX h1 h2 h3 hpos, hb⟩
theorem wof_t {a : Option Addr} {cap n : Nat} {l : List Int} {t : List UInt8} (w : World) (hT : TabAt w) (hpos : 0 < w.heap.size) (h : RdL w a cap l) (hn : l.length = n) (hm : n ≤ 90000) (ht : Lx t = l) :
    Calls Tryz.prog 11 #[.slice a n cap] w fun e w' => ∃ b, e = .returned (.tuple #[.pointer (some ⟨b, 0, none⟩), .int .i64 0]) ∧ Wlk w' b w.heap.size w'.heap.size t ∧ Below w.heap.size w w' :=
  (kwalk_of w hT hpos h hn hm ht).mono fun _ _ ⟨b, _, _, he, hX, h1, h2, h3, hb⟩ => ⟨b, he, Wlk.made hX h1 h2 h3 hpos, hb⟩

theorem bk_t3 : bkx t3 2 = 0 ∧ bkx t3 0 = 1 := by unfold bkx; rw [Lx_t3]; decide
theorem on_t3 : onx t3 0 = 2 := by unfold onx; rw [Rx_t3]; decide
theorem fs_t3 : fsx t3 3 = 99 := by unfold fsx; rw [Rx_t3]; decide
theorem nr_t3 : nrx t3 0 98 = 1 ∧ nrx t3 4 98 = 3 ∧ nrx t3 1 99 = 3 ∧ nrx t3 3 99 = 4 := by unfold nrx; rw [Lx_t3]; decide
theorem no_one : ∀ t, Lx t ≠ [98] := fun t e => by
  have h1 := Lx_len t
  rw [e] at h1
  obtain rfl : t = [] := List.eq_nil_of_length_eq_zero (by simpa using h1.symm)
  rw [Lx_nil] at e
  cases e
end Go.Proofs.YthbbokoeiifjdaaGreatDoor
