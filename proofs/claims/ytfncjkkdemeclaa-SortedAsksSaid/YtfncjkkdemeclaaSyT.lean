/- Stage 6's statements as walks: told, SymLevels, SymPaths, SymTwins, SymOrder. -/
import Derived.Test.YtfncjkkdemeclaaSyL
import Derived.Test.YtfncjkkdemeclaaSyR
import Derived.Laws.IdiomStrings
namespace Go.Proofs.Ytfncjkkdemeclaa
open Go Go.RowKit Go.ChangeAt

theorem OwnI.cells {base : Nat} {w : World} {v : Value} {l : List Int} (h : OwnI base w v l) (hne : 0 < l.length) : ∃ b cap, v = .slice (some ⟨b, 0, none⟩) l.length cap ∧ base ≤ b ∧ b < w.heap.size ∧ ∀ i, i < l.length → w.cell? ⟨b, i, none⟩ = some (.int .i64 (l.getD i 0)) := by
  obtain ⟨a, cap, rfl, _, _⟩ := own_form h
  obtain ⟨b, rfl, h1, h2, h3, _⟩ := OwnI.open h hne
  exact ⟨b, cap, rfl, h1, h2, h3⟩

theorem conv_mark (w : World) (x : Value) (l c : Nat) : (convert 23 23 (.slice (some ⟨w.heap.size, 0, none⟩) l c)).run Try.prog (w.alloc (.cells #[x] 5)) = .ok (.slice (some ⟨w.heap.size, 0, none⟩) l c) (w.alloc (.cells #[x] 5 (1, 2))) := by
  have hsh : (w.alloc (.cells #[x] 5)).shape? w.heap.size = some (5, 1) := by
    have : (w.alloc (.cells #[x] 5)).heap[w.heap.size]? = some (.cells #[x] 5) := by
      show (w.heap.push (.cells #[x] 5))[w.heap.size]? = _
      simp
    unfold World.shape?
    rw [this]
    rfl
  have hfr : (w.alloc (.cells #[x] 5)).freeze ⟨w.heap.size, 1, none⟩ 1 = w.alloc (.cells #[x] 5 (1, 2)) := by
    have hm : ∀ (a : Array Obj) (x : Obj) (f : Obj → Obj), (a.push x).modify a.size f = a.push (f x) := by
      intro a x f
      apply Array.ext
      · simp
      · intro i h1 h2
        simp only [Array.getElem_modify, Array.getElem_push]
        by_cases h : a.size = i
        · subst h
          simp
        · have hi : i < a.size := by simp at h1; omega
          simp [h, hi]
    unfold World.freeze
    rw [if_neg (by decide)]
    show ({ w.alloc (.cells #[x] 5) with heap := (w.heap.push (.cells #[x] 5)).modify w.heap.size _ } : World) = _
    rw [hm]
    rfl
  simp [convert, run_underlying Try.underlying23, run_underlying Try.underlying5, markStringish, hsh, hfr]
/-- Slices of one byte, of parts, that were just made. -/
theorem RdU.lit (w : World) {g : Nat} (hg : g = w.heap.size) (b : UInt8) (fr : Nat × Nat) : RdU (w.alloc (.cells #[.int .u8 ((b.toNat : Nat) : Int)] 5 fr)) (some ⟨g, 0, none⟩) 1 [b] := by
  subst hg
  refine ⟨Nat.le_refl _, by decide, fun _ => ⟨w.heap.size, 0, rfl, by simp, fun i hi => ?_⟩⟩
  have h0 : i = 0 := by simp at hi; exact hi
  subst h0
  exact (World.cell?_alloc_mark w _ _ fr 0).trans rfl
theorem RdP.new {w : World} {g : Nat} (hg : g = w.heap.size) {vs : Array Value} {ps : List (List UInt8)} {n : Nat} (hn : ps.length = n) (hm : ps.length ≤ 1000000) (h : ∀ i, i < ps.length → ∃ ai ci, vs[i]? = some (.slice ai (ps.getD i []).length ci) ∧ RdU w ai ci (ps.getD i [])) :
    RdP (w.alloc (.cells vs 23)) (.slice (some ⟨g, 0, none⟩) n n) ps := by
  subst hn hg
  refine ⟨_, _, rfl, hm, fun hp => ⟨w.heap.size, 0, rfl, by simp, fun i hi => ?_⟩⟩
  obtain ⟨ai, ci, h1, h2⟩ := h i hi
  refine ⟨ai, ci, ?_, h2.below ((Below.refl _ _).alloc (Nat.le_refl _) _)⟩
  rw [Nat.zero_add]
  exact new_cell rfl h1
theorem RdP.one {w : World} {g : Nat} (hg : g = w.heap.size) {a : Option Addr} {n c : Nat} {l : List UInt8} (h : RdU w a c l) (hn : l.length = n) : RdP (w.alloc (.cells #[.slice a n c] 23)) (.slice (some ⟨g, 0, none⟩) 1 1) [l] := by
  subst hn
  refine RdP.new hg rfl (by simp) fun i hi => ?_
  have h0 : i = 0 := by simp at hi; exact hi
  subst h0
  exact ⟨a, c, rfl, h⟩
theorem RdP.two {w : World} {g : Nat} (hg : g = w.heap.size) {a b : Option Addr} {n m c d : Nat} {l k : List UInt8} (h : RdU w a c l) (h' : RdU w b d k) (hn : l.length = n) (hm : k.length = m) : RdP (w.alloc (.cells #[.slice a n c, .slice b m d] 23)) (.slice (some ⟨g, 0, none⟩) 2 2) [l, k] := by
  subst hn hm
  refine RdP.new hg rfl (by simp) fun i hi => ?_
  have h0 : i = 0 ∨ i = 1 := by simp at hi; omega
  rcases h0 with rfl | rfl
  · exact ⟨a, c, rfl, h⟩
  · exact ⟨b, d, rfl, h'⟩
theorem RdP.three {w : World} {g : Nat} (hg : g = w.heap.size) {a b e : Option Addr} {n m o c d f : Nat} {l k j : List UInt8} (h : RdU w a c l) (h' : RdU w b d k) (h2 : RdU w e f j) (hn : l.length = n) (hm : k.length = m) (ho : j.length = o) : RdP (w.alloc (.cells #[.slice a n c, .slice b m d, .slice e o f] 23)) (.slice (some ⟨g, 0, none⟩) 3 3) [l, k, j] := by
  subst hn hm ho
  refine RdP.new hg rfl (by simp) fun i hi => ?_
  have h0 : i = 0 ∨ i = 1 ∨ i = 2 := by simp at hi; omega
  rcases h0 with rfl | rfl | rfl
  · exact ⟨a, c, rfl, h⟩
  · exact ⟨b, d, rfl, h'⟩
  · exact ⟨e, f, rfl, h2⟩

theorem told_all (w : World) : Calls Try.prog 20 #[.slice (some ⟨w.heap.size + 1 + 1, 0, none⟩) 3 3]
    (((w.alloc (.cells #[.int .u8 97] 5 (1, 2))).alloc (.cells #[.int .u8 0] 5)).alloc (.cells #[.slice (some ⟨w.heap.size, 0, none⟩) 1 1, .slice none 0 0, .slice (some ⟨w.heap.size + 1, 0, none⟩) 1 1] 23))
    fun e w' => ∃ b cap, e = .returned (.slice (some ⟨b, 0, none⟩) 3 cap) ∧ w'.cell? ⟨b, 0, none⟩ = some (.int .i64 98) ∧ w'.cell? ⟨b, 1, none⟩ = some (.int .i64 1) ∧ w'.cell? ⟨b, 2, none⟩ = some (.int .i64 0) ∧ Below w.heap.size w w' := by
  have e1 : (w.alloc (.cells #[.int .u8 97] 5 (1, 2))).heap.size = w.heap.size + 1 := by simp
  have hu1 : RdU (w.alloc (.cells #[.int .u8 97] 5 (1, 2))) (some ⟨w.heap.size, 0, none⟩) 1 [97] := RdU.lit w rfl 97 (1, 2)
  have hu2 : RdU ((w.alloc (.cells #[.int .u8 97] 5 (1, 2))).alloc (.cells #[.int .u8 0] 5)) (some ⟨w.heap.size + 1, 0, none⟩) 1 [0] := RdU.lit _ e1.symm 0 (0, 0)
  have hp := RdP.three (g := w.heap.size + 1 + 1) (by simp) (hu1.below ((Below.refl _ _).alloc (Nat.le_refl _) (.cells #[.int .u8 0] 5))) (RdU.nil _ none 0 (by decide)) hu2 (n := 1) (m := 0) (o := 1) rfl rfl rfl
  refine (sall _ hp (by decide)).mono ?_
  rintro e w' ⟨v, rfl, hown, hb⟩
  have hl : Sy.of [[97], [], [0]].flatten ++ [0] = [98, 1, 0] := rfl
  rw [hl] at hown
  obtain ⟨b, cap, rfl, _, _, hc⟩ := OwnI.cells hown (by decide)
  refine ⟨b, cap, rfl, hc 0 (by decide), hc 1 (by decide), hc 2 (by decide), ?_⟩
  refine Below.trans ((((Below.refl _ _).alloc (Nat.le_refl _) _).alloc (by simp) _).alloc (by simp; omega) _) (hb.mono ?_)
  simp
  omega
end Go.Proofs.Ytfncjkkdemeclaa
