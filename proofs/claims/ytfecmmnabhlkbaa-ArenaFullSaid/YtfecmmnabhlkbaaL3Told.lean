/- 'told' of layer 3's statements, and the arena's contracts in the form that the statements' walks use: a contract of the walk. -/
import Derived.Test.YtfecmmnabhlkbaaAreC
namespace Go.Proofs.Ytfecmmnabhlkbaa
open Go Go.RowKit Go.ChangeAt

theorem ArM.base {base base' : Nat} {t : TypeId} {A : Nat → Prop} {w : World} {g most : Nat} {T : List Bool} {F : List Int} (h : ArM base t A w g most T F) (hb : base' ≤ base) : ArM base' t A w g most T F := by
  obtain ⟨h1, h2, a, c, a', c', h3, h4, h5, h6, h7⟩ := h
  exact ⟨h1, fun k hk => ⟨Nat.le_trans hb (h2 k hk).1, (h2 k hk).2⟩, a, c, a', c', h3, ownsRow_base h4 hb, ownsRow_base h5 hb, h6, h7⟩
/-- An arena of the call's own, all of whose blocks were made since W. -/
def Kp (W w : World) (A : Nat → Prop) (g most : Nat) (T : List Bool) (F : List Int) : Prop :=
  ArM W.heap.size 46 A w g most T F ∧ Ar.S most T F ∧ Below W.heap.size W w
/-- Behind a call: what else may have turned are new blocks. -/
def Kq (W w w' : World) (A : Nat → Prop) (g most : Nat) (T : List Bool) (F : List Int) : Prop :=
  ∃ A', Kp W w' A' g most T F ∧ Stay A w w' ∧ ∀ k, A' k → A k ∨ w.heap.size ≤ k
theorem Kp.turned {W w w' : World} {A : Nat → Prop} {g most : Nat} {T T' : List Bool} {F F' : List Int} (h : Kp W w A g most T F) (ht : Turned W.heap.size 46 A w w' g most T' F') (hs : Ar.S most T' F') : Kq W w w' A g most T' F' := by
  obtain ⟨h1, h2, h3⟩ := h
  obtain ⟨A', k1, k2, k3⟩ := ht
  exact ⟨A', ⟨k1, hs, h3.trans (k2.below (by exact h3.size) (fun i _ hi => (h1.lt i hi).1))⟩, k2, k3⟩
theorem Kp.drewN {W w : World} {A : Nat → Prop} {g most : Nat} {T : List Bool} {F : List Int} (h : Kp W w A g most T F) (n : Nat) : Kp W (w.drewN n) A g most T F := ⟨h.1.drewN n, h.2.1, h.2.2.drewN n⟩
theorem Kp.below {W w w' : World} {A : Nat → Prop} {g most : Nat} {T : List Bool} {F : List Int} (h : Kp W w A g most T F) (hb : Below w.heap.size w w') : Kp W w' A g most T F := ⟨h.1.below hb, h.2.1, h.2.2.trans ⟨hb.os, hb.tape, hb.output, hb.size, fun k hk => hb.block k (Nat.lt_of_lt_of_le hk h.2.2.size)⟩⟩
theorem knew (most : Nat) (W w : World) (h : most ≤ 268435456) (hb : Below W.heap.size W w) : Calls Try.prog 8 #[.int .i64 most] w fun e w' => e = .returned (.pointer (some ⟨w.heap.size, 0, none⟩)) ∧ Kp W w' (fun k => k = w.heap.size) w.heap.size most [] [] ∧ Below w.heap.size w w' := by
  refine (anew_ok most w h).mono ?_
  rintro e w' ⟨he, h1, h2⟩
  exact ⟨he, ⟨h1.base hb.size, Ar.S.nil h, hb.trans ⟨h2.os, h2.tape, h2.output, h2.size, fun k hk => h2.block k (Nat.lt_of_lt_of_le hk hb.size)⟩⟩, h2⟩
theorem ktake {W w : World} {A : Nat → Prop} {g most : Nat} {T : List Bool} {F : List Int} (h : Kp W w A g most T F) {k e : Int} {T' : List Bool} {F' : List Int} (ht : Ar.tk most T F = (k, e, T', F')) :
    Calls Try.prog 9 #[.pointer (some ⟨g, 0, none⟩)] w fun x w' => x = .returned (.tuple #[.int .i64 k, .int .i64 e]) ∧ Kq W w w' A g most T' F' := by
  have hs := h.2.1.tk
  have hc := atake w h.1 h.2.1
  rw [ht] at hs hc
  refine hc.mono ?_
  rintro x w' ⟨hx, h1⟩
  exact ⟨hx, h.turned h1 hs⟩
theorem kfree {W w : World} {A : Nat → Prop} {g most : Nat} {T : List Bool} {F : List Int} (h : Kp W w A g most T F) (b : Option Addr) (cap n : Nat) (l : List Int) (hn : l.length = n) (hl : RdL w b cap l) (ha : 0 < l.length → ∀ ad, b = some ad → ad.block < w.heap.size → ¬ A ad.block) {e : Int} {T' : List Bool} {F' : List Int} (ht : Ar.fr T F l = (e, T', F')) :
    Calls Try.prog 10 #[.pointer (some ⟨g, 0, none⟩), .slice b n cap] w fun x w' => x = .returned (.int .i64 e) ∧ Kq W w w' A g most T' F' := by
  subst hn
  have hs := h.2.1.free (l := l)
  have hc := afree b cap l w h.1 h.2.1 hl ha
  rw [ht] at hs hc
  refine hc.mono ?_
  rintro x w' ⟨hx, h1⟩
  exact ⟨hx, h.turned h1 hs⟩
/-- The numbers were laid down for the call just now. -/
theorem kfree_new {W w : World} {A : Nat → Prop} {g most n : Nat} {T : List Bool} {F : List Int} (h : Kp W w A g most T F) (l : List Int) (cs : Array Value) (hn : l.length = n) (hcs : cs = (l.map (Value.int .i64)).toArray) (hm : l.length ≤ maxLen) {e : Int} {T' : List Bool} {F' : List Int} (ht : Ar.fr T F l = (e, T', F')) :
    Calls Try.prog 10 #[.pointer (some ⟨g, 0, none⟩), .slice (some ⟨w.heap.size, 0, none⟩) n n] (w.alloc (.cells cs 3)) fun x w' => x = .returned (.int .i64 e) ∧ Kq W w w' A g most T' F' := by
  subst hn hcs
  have hb : Below w.heap.size w (w.alloc (.cells (l.map (Value.int .i64)).toArray 3)) := (Below.refl _ _).alloc (Nat.le_refl _) _
  refine (kfree (h.below hb) _ _ _ l rfl (RdL.made l hm) (fun _ ad e _ hA => by cases e; exact absurd (h.1.lt _ hA).2 (Nat.lt_irrefl _)) ht).mono ?_
  rintro x w' ⟨hx, A', h1, h2, h3⟩
  exact ⟨hx, A', h1, (Stay.of_below hb).trans h2 (fun _ _ h => h), fun k hk => (h3 k hk).imp id (fun h => by have := hb.size; omega)⟩
theorem klive {W w : World} {A : Nat → Prop} {g most n : Nat} {T : List Bool} {F : List Int} (h : Kp W w A g most T F) (hn : T.length - F.length = n) :
    Calls Try.prog 13 #[.pointer (some ⟨g, 0, none⟩)] w fun e w' => e = .returned (.int .i64 n) ∧ ∃ n, w' = w.drewN n :=
  alive_n w h.1 h.2.1 hn
theorem kmade {W w : World} {A : Nat → Prop} {g most n : Nat} {T : List Bool} {F : List Int} (h : Kp W w A g most T F) (hn : T.length = n) :
    Calls Try.prog 18 #[.pointer (some ⟨g, 0, none⟩)] w fun e w' => e = .returned (.int .i64 n) ∧ w = w' := by
  subst hn
  exact amade w h.1
theorem kis {W w : World} {A : Nat → Prop} {g most : Nat} {T : List Bool} {F : List Int} (h : Kp W w A g most T F) (k : Int) {x : Bool} (hx : Ar.is T k = x) :
    Calls Try.prog 11 #[.pointer (some ⟨g, 0, none⟩), .int .i64 k] w fun e w' => e = .returned (.bool x) ∧ w = w' := by
  subst hx
  exact ais k w h.1 (Nat.le_trans h.2.1.tm h.2.1.mx)

set_option maxRecDepth 100000 in
set_option maxHeartbeats 1600000 in
theorem told_any (w : World) : Calls Try.prog 12 #[] w fun e w' => e = .returned (.bool true) ∧ Below w.heap.size w w' := by
  go_enter Try.func12, Try.ntmps12
  go_wp2_with (first
    | (go_at_call 8; refine (knew 2 w w (by decide) (Below.refl _ _)).mono ?_; rintro e w1 ⟨rfl, h1, _⟩))
  obtain ⟨g, hg⟩ : ∃ g, w.heap.size = g := ⟨_, rfl⟩
  rw [hg] at h1 ⊢
  have HG := Lib.hid hg
  clear hg
  go_wp2_with (first
    | (go_at_call 9; (with_reducible refine (ktake h1 (k := 0) (e := 0) (T' := [true]) (F' := []) rfl).mono ?_); rintro e w2 ⟨rfl, A2, h2, _, _⟩))
  go_wp2_with (first
    | (go_at_call 9; (with_reducible refine (ktake h2 (k := 1) (e := 0) (T' := [true, true]) (F' := []) rfl).mono ?_); rintro e w3 ⟨rfl, A3, h3, _, _⟩))
  go_wp2_with (first
    | (go_at_call 9; (with_reducible refine (ktake h3 (k := -1) (e := 3) (T' := [true, true]) (F' := []) rfl).mono ?_); rintro e w4 ⟨rfl, A4, h4, _, _⟩))
  go_wp2_with (first
    | (go_at_call 10; (have c := kfree_new (n := 2) h4 [0, 0] #[.int .i64 0, .int .i64 0] rfl rfl (by decide) (e := 7) (T' := [true, true]) (F' := []) (by decide)); (with_reducible refine c.mono ?_); clear c; rintro e w5 ⟨rfl, A5, h5, _, _⟩))
  go_wp2_with (first
    | (go_at_call 10; (have c := kfree_new (n := 2) h5 [0, 1] #[.int .i64 0, .int .i64 1] rfl rfl (by decide) (e := 0) (T' := [false, false]) (F' := [0, 1]) (by decide)); (with_reducible refine c.mono ?_); clear c; rintro e w6 ⟨rfl, A6, h6, _, _⟩))
  go_wp2_with (first
    | (go_at_call 9; (with_reducible refine (ktake h6 (k := 1) (e := 0) (T' := [false, true]) (F' := [0]) rfl).mono ?_); rintro e w7 ⟨rfl, A7, h7, _, _⟩))
  clear h1 h2 h3 h4 h5 h6
  go_wp2_with (first
    | (go_at_call 9; (with_reducible refine (atake_nil _).mono ?_); rintro e w8 ⟨rfl, rfl⟩))
  go_wp2_with (first
    | (go_at_call 13; (have c := klive (n := 1) h7 rfl); (with_reducible refine c.mono ?_); clear c; rintro e w8 ⟨rfl, n8, hw8⟩; (have h8 := h7.drewN n8); (rw [← hw8] at h8); clear hw8 h7)
    | (go_at_call 18; (have c := kmade (n := 2) h8 rfl); (with_reducible refine c.mono ?_); clear c; rintro e w9 ⟨rfl, rfl⟩)
    | (go_at_call 11; (have c := kis h8 1 (x := true) (by decide)); (with_reducible refine c.mono ?_); clear c; rintro e w9 ⟨rfl, rfl⟩)
    | (go_at_call 11; (have c := kis h8 0 (x := false) (by decide)); (with_reducible refine c.mono ?_); clear c; rintro e w9 ⟨rfl, rfl⟩)
    | (go_at_call 11; (have c := kis h8 (-1) (x := false) (by decide)); (with_reducible refine c.mono ?_); clear c; rintro e w9 ⟨rfl, rfl⟩)
    | (go_at_call 8; (have c := anew_no (-1) w8 (by decide)); (with_reducible refine c.mono ?_); clear c; rintro e w9 ⟨rfl, rfl⟩)
    | (go_at_call 13; (have c := alive_nil w8); (with_reducible refine c.mono ?_); clear c; rintro e w9 ⟨rfl, rfl⟩)
    | (go_at_call 10; (have c := afree_nil (.slice none 0 0) w8); (with_reducible refine c.mono ?_); clear c; rintro e w9 ⟨rfl, rfl⟩))
  go_ret
  refine ⟨rfl, ?_⟩
  exact h8.2.2
end Go.Proofs.Ytfecmmnabhlkbaa
