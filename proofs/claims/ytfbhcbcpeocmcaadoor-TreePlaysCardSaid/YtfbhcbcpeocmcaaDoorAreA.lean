/- Arenas in memory, and what package arena's functions that only read do, and New and mark: contracts of the walk. -/
import Derived.Test.YtfbhcbcpeocmcaaDoorRet
import Derived.Test.YtfbhcbcpeocmcaaDoorInt
import Derived.Test.YtfbhcbcpeocmcaaDoorAr
import Derived.Deep.QuietTactic
namespace Go.Proofs.YtfbhcbcpeocmcaaDoor
open Go Go.RowKit Go.ChangeAt

/-- Block g of the memory is an arena; A holds its blocks. -/
def ArM (base : Nat) (t : TypeId) (A : Nat → Prop) (w : World) (g most : Nat) (T : List Bool) (F : List Int) : Prop :=
  A g ∧ (∀ k, A k → base ≤ k ∧ k < w.heap.size) ∧ ∃ a c a' c', w.heap[g]? = some (.cells #[.int .i64 most, .slice a T.length c, .slice a' F.length c'] t (0, 0)) ∧
    OwnB base w (.slice a T.length c) T ∧ OwnI base w (.slice a' F.length c') F ∧ (∀ k, (Value.slice a T.length c).ownBlock = some k → A k) ∧ (∀ k, (Value.slice a' F.length c').ownBlock = some k → A k)
theorem ArM.stay {base : Nat} {t : TypeId} {A S : Nat → Prop} {w w' : World} {g most : Nat} {T : List Bool} {F : List Int} (h : ArM base t A w g most T F) (hb : Stay S w w') (hs : ∀ k, A k → ¬ S k) : ArM base t A w' g most T F := by
  obtain ⟨h1, h2, a, c, a', c', h3, h4, h5, h6, h7⟩ := h
  exact ⟨h1, fun k hk => ⟨(h2 k hk).1, Nat.lt_of_lt_of_le (h2 k hk).2 hb.size⟩, a, c, a', c', hb.kept h3 (hs _ h1), ownsRow_stay h4 hb (fun k hk => hs k (h6 k hk)), ownsRow_stay h5 hb (fun k hk => hs k (h7 k hk)), h6, h7⟩
theorem ArM.below {base : Nat} {t : TypeId} {A : Nat → Prop} {w w' : World} {g most : Nat} {T : List Bool} {F : List Int} (h : ArM base t A w g most T F) (hb : Below w.heap.size w w') : ArM base t A w' g most T F :=
  h.stay (Stay.of_below (S := fun _ => False) hb) (fun _ _ h => h)
/-- The three cells. -/
structure CellsA (w : World) (g : Nat) (m u v : Value) : Prop where
  c0 : w.cell? ⟨g, 0, none⟩ = some m
  c1 : w.cell? ⟨g, 1, none⟩ = some u
  c2 : w.cell? ⟨g, 2, none⟩ = some v
  f0 : w.frozen? ⟨g, 0, none⟩ = false
  f1 : w.frozen? ⟨g, 1, none⟩ = false
  f2 : w.frozen? ⟨g, 2, none⟩ = false
theorem cellsA {w : World} {g : Nat} {m u v : Value} {t : TypeId} (h : w.heap[g]? = some (.cells #[m, u, v] t (0, 0))) : CellsA w g m u v :=
  ⟨(cell_of h).trans rfl, (cell_of h).trans rfl, (cell_of h).trans rfl, free_of h, free_of h, free_of h⟩
/-- A store into the list of those that are taken. -/
theorem ArM.setT {base : Nat} {t : TypeId} {A : Nat → Prop} {w : World} {g most b c c' : Nat} {a' : Option Addr} {T : List Bool} {F : List Int} (ht : t ≠ 4) (h1 : A g) (h2 : ∀ k, A k → base ≤ k ∧ k < w.heap.size)
    (h3 : w.heap[g]? = some (.cells #[.int .i64 most, .slice (some ⟨b, 0, none⟩) T.length c, .slice a' F.length c'] t (0, 0))) (h4 : OwnB base w (.slice (some ⟨b, 0, none⟩) T.length c) T) (h5 : OwnI base w (.slice a' F.length c') F)
    (h6 : A b) (h7 : ∀ k, (Value.slice a' F.length c').ownBlock = some k → A k) (j : Nat) (x : Bool) : ArM base t A (w.setCell ⟨b, j, none⟩ (.bool x)) g most (T.set j x) F := by
  have hst : Stay (fun k => k = b) w (w.setCell ⟨b, j, none⟩ (.bool x)) := Stay.setCell (S := fun k => k = b) (Stay.refl _ _) (p := ⟨b, j, none⟩) (.inr rfl) _
  have hne : g ≠ b := fun e => own_ne h4 h3 ht b rfl e.symm
  have h4' := OwnB.set h4 j x
  rw [List.length_set] at h4'
  refine ⟨h1, fun k hk => ⟨(h2 k hk).1, Nat.lt_of_lt_of_le (h2 k hk).2 hst.size⟩, some ⟨b, 0, none⟩, c, a', c', ?_, ?_, ownsRow_stay h5 hst (fun k hk e => own_ne2 h5 h4 (by decide) k hk (by rw [e]; rfl)), ?_, h7⟩
  · rw [List.length_set]; exact hst.kept h3 hne
  · rw [List.length_set]; exact h4'
  · rintro k hk
    have : b = k := by simpa [Value.ownBlock] using hk
    rw [← this]; exact h6

theorem anew_ok (most : Nat) (w : World) (h : most ≤ 268435456) : Calls Tryd.prog 69 #[.int .i64 most] w fun e w' => e = .returned (.pointer (some ⟨w.heap.size, 0, none⟩)) ∧ ArM w.heap.size 84 (fun k => k = w.heap.size) w' w.heap.size most [] [] ∧ Below w.heap.size w w' := by
  have h1 : ¬ (268435456 : Int) < most := by omega
  go_enter Tryd.func69, Tryd.ntmps69
  go_wp2
  go_ret
  refine ⟨rfl, ⟨rfl, fun k hk => ?_, none, 0, none, 0, alloc_of, World.ownsRow_nil _ _ _ _, World.ownsRow_nil _ _ _ _, fun k hk => by simp [Value.ownBlock] at hk, fun k hk => by simp [Value.ownBlock] at hk⟩, (Below.refl _ _).alloc (Nat.le_refl _) _⟩
  subst hk
  exact ⟨Nat.le_refl _, by simp⟩
theorem anew_no (most : Int) (w : World) (h : most < 0 ∨ 268435456 < most) : Calls Tryd.prog 69 #[.int .i64 most] w fun e w' => e = .returned (.pointer none) ∧ w = w' := by
  by_cases h0 : most < 0
  · clear h
    go_enter Tryd.func69, Tryd.ntmps69
    go_wp2
    go_ret
    exact ⟨rfl, rfl⟩
  · have h1 : 268435456 < most := by omega
    clear h
    go_enter Tryd.func69, Tryd.ntmps69
    go_wp2
    go_ret
    exact ⟨rfl, rfl⟩
theorem amade_nil (w : World) : Calls Tryd.prog 46 #[.pointer none] w fun e w' => e = .returned (.int .i64 0) ∧ w = w' := by
  go_enter Tryd.func46, Tryd.ntmps46
  go_wp2
  go_ret
  exact ⟨rfl, rfl⟩
theorem amade {base g most : Nat} {A : Nat → Prop} {T : List Bool} {F : List Int} (w : World) (h : ArM base 84 A w g most T F) :
    Calls Tryd.prog 46 #[.pointer (some ⟨g, 0, none⟩)] w fun e w' => e = .returned (.int .i64 T.length) ∧ w = w' := by
  obtain ⟨h1, h2, a, c, a', c', h3, h4, h5, h6, h7⟩ := h
  obtain ⟨c0, c1, c2, f0, f1, f2⟩ := cellsA h3
  clear h1 h2 h3 h4 h5 h6 h7 f0 f1 f2 c0 c2
  go_enter Tryd.func46, Tryd.ntmps46
  go_wp2
  go_ret
  exact ⟨rfl, rfl⟩
theorem alive_nil (w : World) : Calls Tryd.prog 36 #[.pointer none] w fun e w' => e = .returned (.int .i64 0) ∧ w = w' := by
  go_enter Tryd.func36, Tryd.ntmps36
  go_wp2
  go_ret
  exact ⟨rfl, rfl⟩
theorem alive {base g most : Nat} {A : Nat → Prop} {T : List Bool} {F : List Int} (w : World) (h : ArM base 84 A w g most T F) (hs : Ar.S most T F) :
    Calls Tryd.prog 36 #[.pointer (some ⟨g, 0, none⟩)] w fun e w' => e = .returned (.int .i64 ((T.length - F.length : Nat) : Int)) ∧ ∃ n, w' = w.drewN n := by
  obtain ⟨h1, h2, a, c, a', c', h3, h4, h5, h6, h7⟩ := h
  obtain ⟨c0, c1, c2, f0, f1, f2⟩ := cellsA h3
  have q1 := hs.len
  have q2 := hs.tm
  have q3 := hs.mx
  clear h1 h2 h3 h4 h5 h6 h7 f0 f1 f2 c0 hs
  have e : ((T.length - F.length : Nat) : Int) = T.length - F.length := by omega
  rw [e]
  clear e
  go_enter Tryd.func36, Tryd.ntmps36
  go_wp2
  go_quiet (fail)
  go_wp2
  go_ret
  exact ⟨rfl, _, rfl⟩
theorem alive_n {base g most n : Nat} {A : Nat → Prop} {T : List Bool} {F : List Int} (w : World) (h : ArM base 84 A w g most T F) (hs : Ar.S most T F) (hn : T.length - F.length = n) :
    Calls Tryd.prog 36 #[.pointer (some ⟨g, 0, none⟩)] w fun e w' => e = .returned (.int .i64 n) ∧ ∃ n, w' = w.drewN n := by
  subst hn
  exact alive w h hs
theorem ArM.drewN {base : Nat} {t : TypeId} {A : Nat → Prop} {w : World} {g most : Nat} {T : List Bool} {F : List Int} (h : ArM base t A w g most T F) (n : Nat) : ArM base t A (w.drewN n) g most T F := h
theorem ais {base g most : Nat} {A : Nat → Prop} {T : List Bool} {F : List Int} (k : Int) (w : World) (h : ArM base 84 A w g most T F) (hm : T.length ≤ 268435456) :
    Calls Tryd.prog 78 #[.pointer (some ⟨g, 0, none⟩), .int .i64 k] w fun e w' => e = .returned (.bool (Ar.is T k)) ∧ w = w' := by
  obtain ⟨h1, h2, a, c, a', c', h3, h4, h5, h6, h7⟩ := id h
  obtain ⟨c0, c1, c2, f0, f1, f2⟩ := cellsA h3
  by_cases hk : k < 0
  · have hd := decide_eq_false (show ¬ (0 ≤ k) by omega)
    have e := Lib.hid (Ar.is_out (T := T) (k := k) (.inl hk))
    clear h1 h2 h3 h4 h5 h6 h7 f0 f1 f2 c0 c2
    go_enter Tryd.func78, Tryd.ntmps78
    go_wp2
    go_ret
    exact ⟨ret_bool (by rw [e.out]), rfl⟩
  · obtain ⟨n, rfl⟩ := Int.eq_ofNat_of_zero_le (show 0 ≤ k by omega)
    by_cases hn : n < T.length
    · obtain ⟨b, rfl, hbb, hlt, hc, hf⟩ := OwnB.open h4 (by omega)
      have hcell := hc n hn
      have e : Ar.is T (n : Int) = T.getD n false := by unfold Ar.is; rw [decide_eq_true (by omega)]; rfl
      obtain ⟨x, hx⟩ : ∃ x, T.getD n false = x := ⟨_, rfl⟩
      rw [hx] at hcell e
      have E := Lib.hid e
      have hn' : (n : Int) < T.length := by omega
      clear h1 h2 h3 h4 h5 h6 h7 f0 f1 f2 c0 c2 hk hc hf e hx
      go_enter Tryd.func78, Tryd.ntmps78
      go_wp2_with (go_at_call 46; refine (amade _ h).mono ?_; rintro e w' ⟨rfl, rfl⟩)
      go_ret
      exact ⟨ret_bool (by rw [E.out]), rfl⟩
    · have hd := decide_eq_false (show ¬ ((n : Int) < T.length) by omega)
      have e := Lib.hid (Ar.is_out (T := T) (k := n) (.inr (by omega)))
      clear h1 h2 h3 h4 h5 h6 h7 f0 f1 f2 c0 c2 hk
      go_enter Tryd.func78, Tryd.ntmps78
      go_wp2_with (go_at_call 46; refine (amade _ h).mono ?_; rintro e w' ⟨rfl, rfl⟩)
      go_ret
      exact ⟨ret_bool (by rw [e.out]), rfl⟩

set_option maxHeartbeats 400000 in
theorem amark {base g most : Nat} {A : Nat → Prop} {T : List Bool} {F : List Int} (v : Bool) (a : Option Addr) (cap : Nat) (l : List Int) (w : World) (h : ArM base 84 A w g most T F) (hm : T.length ≤ 268435456)
    (hl : RdL w a cap l) (ha : 0 < l.length → ∀ ad, a = some ad → ad.block < w.heap.size → ¬ A ad.block) (hin : ∀ k ∈ l, 0 ≤ k ∧ k < T.length) :
    Calls Tryd.prog 79 #[.pointer (some ⟨g, 0, none⟩), .bool v, .slice a l.length cap] w fun e w' => e = .returned (.tuple #[]) ∧ ArM base 84 A w' g most (Ar.setAll T v l) F ∧ Stay A w w' := by
  have hmax : l.length ≤ maxLen := Nat.le_trans hl.1 hl.2.1
  unfold maxLen at hmax
  go_enter Tryd.func79, Tryd.ntmps79
  go_wp2_with fail
  go_loopw [7, 10] (fun _ i wr => ∃ m : Nat, m ≤ l.length ∧ i = .int .i64 m ∧ ArM base 84 A wr g most (Ar.setAll T v (l.take m)) F ∧ Stay A w wr) (fun _ i _ => l.length - (intOf i).toNat)
  case atStart => exact ⟨0, Nat.zero_le _, rfl, h, Stay.refl _ _⟩
  case round =>
    obtain ⟨m, hml, rfl, hr, hst⟩ := hrel
    by_cases hlt : m < l.length
    · obtain ⟨b, off, rfl, hbb, hc⟩ := hl.2.2.2 (by omega)
      have hz' := (hst.cell (p := ⟨b, off + m, none⟩) hbb (ha (by omega) ⟨b, off, none⟩ rfl hbb)).trans (hc m hlt)
      obtain ⟨hk0, hk1⟩ := hin (l.getD m 0) (by rw [List.getD_eq_getElem?_getD, List.getElem?_eq_getElem hlt]; simp)
      have hsucc := Lib.hid (Ar.setAll_succ T v l m hlt)
      have hlen : (Ar.setAll T v (l.take m)).length = T.length := Ar.setAll_length _ _ _
      obtain ⟨n, hn⟩ := Int.eq_ofNat_of_zero_le hk0
      rw [hn] at hz' hk1 hsucc
      obtain ⟨h1, h2, a0, c0, a', c', h3, h4, h5, h6, h7⟩ := hr
      obtain ⟨b0, rfl, hb0, hlt0, hc0, hf0⟩ := OwnB.open h4 (by omega)
      obtain ⟨q0, q1, q2, f0, f1, f2⟩ := cellsA h3
      have hA0 := h6 b0 rfl
      have hfr := hf0 n
      have hcell := hc0 n (by omega)
      have hnl : (n : Int) < (Ar.setAll T v (l.take m)).length := by omega
      have key := Lib.hid (ArM.setT (by decide) h1 h2 h3 h4 h5 hA0 h7 n v)
      have HST := Lib.hid hst
      have h1' : (m : Int) < l.length := by omega
      clear h1 h2 h3 h4 h5 h6 h7 hlen hc0 hf0 hc hst q0 q2 f0 f1 f2 h hl ha hin hn hk0 hk1
      go_wp2_with fail
      go_roundw
      case rel => exact ⟨m + 1, by omega, by go_num, by rw [hsucc.out]; exact key.out, HST.out.setCell (.inr hA0) _⟩
      case measure => simp [intOf]; omega
    · have hml' : m = l.length := by omega
      have h1' : ¬ (m : Int) < l.length := by omega
      have HR := Lib.hid hr
      clear hr
      go_wp2_with fail
      go_end0
      refine ⟨rfl, ?_, hst⟩
      have := HR.out
      rw [hml', List.take_length] at this
      exact this
end Go.Proofs.YtfbhcbcpeocmcaaDoor
