/- ArenaPlays: a contract of the walk. -/
import Derived.Test.YtfecmmnabhlkbaaL3Many
import Derived.Test.YtfecmmnabhlkbaaRefArC
import Derived.LaidEqlPtr
namespace Go.Proofs.Ytfecmmnabhlkbaa
open Go Go.RowKit Go.ChangeAt

/-- A slice of steps that came in, as it is read. -/
def RdOps (w : World) (a : Option Addr) (len : Nat) : Prop :=
  len ≤ maxLen ∧ (0 < len → ∃ b off, a = some ⟨b, off, none⟩ ∧ b < w.heap.size ∧ ∀ i, i < len → ∃ (z : Int) (la : Option Addr) (lc : Nat) (l : List Int),
    w.cell? ⟨b, off + i * 2, none⟩ = some (.int .i64 z) ∧ w.cell? ⟨b, off + i * 2 + 1, none⟩ = some (.slice la l.length lc) ∧ RdL w la lc l ∧ -9223372036854775808 ≤ z ∧ z ≤ 9223372036854775807)
/-- The two arenas side by side: the same numbers taken, the same numbers freed, no block in both. -/
def Side (W w : World) (A B : Nat → Prop) (g h most : Nat) (T : List Bool) (F : List Int) : Prop :=
  Kp W w A g most T F ∧ RrM W.heap.size B w h most T F ∧ ∀ k, A k → ¬ B k
theorem RrM.base {base base' : Nat} {A : Nat → Prop} {w : World} {g most : Nat} {T : List Bool} {F : List Int} (h : RrM base A w g most T F) (hb : base' ≤ base) : RrM base' A w g most T F := by
  obtain ⟨h1, h2, a, c, a', c', h3, h4, h5, h6, h7⟩ := h
  refine ⟨h1, fun k hk => ⟨Nat.le_trans hb (h2 k hk).1, (h2 k hk).2⟩, a, c, a', c', h3, ownsRow_base h4 hb, ?_, h6, h7⟩
  rcases h5 with h | ⟨b, cap, cur, hv, hb0, r⟩
  · exact .inl h
  · exact .inr ⟨b, cap, cur, hv, Nat.le_trans hb hb0, r⟩
theorem Side.drewN {W w : World} {A B : Nat → Prop} {g h most : Nat} {T : List Bool} {F : List Int} (hs : Side W w A B g h most T F) (n : Nat) : Side W (w.drewN n) A B g h most T F := ⟨hs.1.drewN n, hs.2.1.drewN n, hs.2.2⟩
theorem Side.below {W w w' : World} {A B : Nat → Prop} {g h most : Nat} {T : List Bool} {F : List Int} (hs : Side W w A B g h most T F) (hb : Below w.heap.size w w') : Side W w' A B g h most T F := ⟨hs.1.below hb, hs.2.1.below hb, hs.2.2⟩
/-- A block of the law's own stays apart. -/
def Off (A B : Nat → Prop) (k : Nat) : Prop := ¬ A k ∧ ¬ B k
/-- Take of both. -/
theorem side_take {W w : World} {A B : Nat → Prop} {g h most : Nat} {T : List Bool} {F : List Int} (hs : Side W w A B g h most T F) {k e : Int} {T' : List Bool} {F' : List Int} (ht : Ar.tk most T F = (k, e, T', F')) :
    Calls Try.prog 9 #[.pointer (some ⟨g, 0, none⟩)] w fun x w1 => x = .returned (.tuple #[.int .i64 k, .int .i64 e]) ∧ (∃ A', Kp W w1 A' g most T' F' ∧ (∀ i, A' i → A i ∨ w.heap.size ≤ i) ∧ Stay A w w1) ∧
      Calls Try.prog 15 #[.pointer (some ⟨h, 0, none⟩)] w1 fun y w2 => y = .returned (.tuple #[.int .i64 k, .int .i64 e]) ∧ ∃ A' B', Side W w2 A' B' g h most T' F' ∧ (∀ i, i < w.heap.size → Off A B i → Off A' B' i) ∧ Stay (fun i => A i ∨ B i) w w2 := by
  refine (ktake hs.1 ht).mono ?_
  rintro x w1 ⟨hx, A', h1, h2, h3⟩
  refine ⟨hx, ⟨A', h1, h3, h2⟩, ?_⟩
  have hr := hs.2.1.stay h2 (fun k hk hA => hs.2.2 k hA hk)
  have hc := rtake w1 hr hs.1.2.1
  rw [ht] at hc
  refine hc.mono ?_
  rintro y w2 ⟨hy, B', r1, r2, r3⟩
  have hA'B : ∀ k, A' k → ¬ B k := fun k hk hB => by
    rcases h3 k hk with h | h
    · exact hs.2.2 k h hB
    · have := (hs.2.1.lt k hB).2; omega
  have hb2 : W.heap.size ≤ w1.heap.size := h1.2.2.size
  have hk2 : Kp W w2 A' g most T' F' := ⟨h1.1.stay r2 (fun k hk hB => hA'B k hk hB), h1.2.1, h1.2.2.trans (r2.below hb2 (fun i _ hi => (hr.lt i hi).1))⟩
  have hsz := h2.size
  refine ⟨hy, A', B', ⟨hk2, r1, fun k hk hB => ?_⟩, fun i hi ho => ⟨fun hA => ?_, fun hB => ?_⟩, (h2.mono (fun i _ hi => .inl hi)).trans (r2.mono (fun i _ hi => .inr hi)) (fun _ _ h => h)⟩
  · rcases r3 k hB with h | h
    · exact hA'B k hk h
    · have := (h1.1.lt k hk).2; omega
  · rcases h3 i hA with h | h
    · exact ho.1 h
    · omega
  · rcases r3 i hB with h | h
    · exact ho.2 h
    · omega
/-- What stands behind both calls. -/
def After (W w w2 : World) (A B : Nat → Prop) (g h most : Nat) (T : List Bool) (F : List Int) : Prop :=
  ∃ A' B', Side W w2 A' B' g h most T F ∧ (∀ i, i < w.heap.size → Off A B i → Off A' B' i) ∧ Stay (fun i => A i ∨ B i) w w2
/-- Free of both, the program's first. -/
theorem side_free {W w : World} {A B : Nat → Prop} {g h most : Nat} {T : List Bool} {F : List Int} (hs : Side W w A B g h most T F) (la : Option Addr) (lc : Nat) (l : List Int) (hl : RdL w la lc l) (hw : 0 < l.length → ∀ ad, la = some ad → ad.block < W.heap.size) {e : Int} {T' : List Bool} {F' : List Int} (ht : Ar.fr T F l = (e, T', F')) :
    Calls Try.prog 10 #[.pointer (some ⟨g, 0, none⟩), .slice la l.length lc] w fun x w1 => x = .returned (.int .i64 e) ∧ Stay A w w1 ∧
      ∀ n, Calls Try.prog 16 #[.pointer (some ⟨h, 0, none⟩), .slice la l.length lc] (w1.drewN n) fun y w2 => y = .returned (.int .i64 e) ∧ After W w w2 A B g h most T' F' := by
  have hnA : 0 < l.length → ∀ ad, la = some ad → ad.block < w.heap.size → ¬ A ad.block := fun hp ad e _ hA => by have := (hs.1.1.lt _ hA).1; have := hw hp ad e; omega
  have hnB : 0 < l.length → ∀ ad, la = some ad → ad.block < w.heap.size → ¬ B ad.block := fun hp ad e _ hA => by have := (hs.2.1.lt _ hA).1; have := hw hp ad e; omega
  refine (kfree hs.1 la lc l.length l rfl hl hnA ht).mono ?_
  rintro x w1 ⟨hx, A', h1, h2, h3⟩
  refine ⟨hx, h2, fun n => ?_⟩
  have hr := (hs.2.1.stay h2 (fun k hk hA => hs.2.2 k hA hk)).drewN n
  have h1' := h1.drewN n
  have h2' : Stay A w (w1.drewN n) := h2.drewN n
  clear h1 h2
  generalize w1.drewN n = w1 at *
  have hc := rfree la lc l w1 hr hs.1.2.1 (hl.stay h2' hnA) (fun hp ad e _ => hnB hp ad e (Nat.lt_of_lt_of_le (hw hp ad e) hs.1.2.2.size))
  rw [ht] at hc
  refine hc.mono ?_
  rintro y w2 ⟨hy, B', r1, r2, r3⟩
  have hA'B : ∀ k, A' k → ¬ B k := fun k hk hB => by
    rcases h3 k hk with h | h
    · exact hs.2.2 k h hB
    · have := (hs.2.1.lt k hB).2; omega
  have hk2 : Kp W w2 A' g most T' F' := ⟨h1'.1.stay r2 (fun k hk hB => hA'B k hk hB), h1'.2.1, h1'.2.2.trans (r2.below h1'.2.2.size (fun i _ hi => (hr.lt i hi).1))⟩
  have hsz := h2'.size
  refine ⟨hy, A', B', ⟨hk2, r1, fun k hk hB => ?_⟩, fun i hi ho => ⟨fun hA => ?_, fun hB => ?_⟩, (h2'.mono (fun i _ hi => .inl hi)).trans (r2.mono (fun i _ hi => .inr hi)) (fun _ _ h => h)⟩
  · rcases r3 k hB with h | h
    · exact hA'B k hk h
    · have := (h1'.1.lt k hk).2; omega
  · rcases h3 i hA with h | h
    · exact ho.1 h
    · omega
  · rcases r3 i hB with h | h
    · exact ho.2 h
    · omega
theorem rlive_n {base g most n : Nat} {A : Nat → Prop} {T : List Bool} {F : List Int} (w : World) (h : RrM base A w g most T F) (hs : Ar.S most T F) (hn : T.length - F.length = n) :
    Calls Try.prog 17 #[.pointer (some ⟨g, 0, none⟩)] w fun e w' => e = .returned (.int .i64 n) ∧ ∃ n, w' = w.drewN n := by
  subst hn
  exact rlive w h hs
theorem ris_n {base g most : Nat} {A : Nat → Prop} {T : List Bool} {F : List Int} (k : Int) (w : World) (h : RrM base A w g most T F) (hs : Ar.S most T F) {x : Bool} (hx : Ar.is T k = x) :
    Calls Try.prog 19 #[.pointer (some ⟨g, 0, none⟩), .int .i64 k] w fun e w' => e = .returned (.bool x) ∧ w = w' := by
  subst hx
  exact ris k w h (Nat.le_trans hs.tm hs.mx)
end Go.Proofs.Ytfecmmnabhlkbaa
