/- Strings of bytes: what a slice of bytes becomes, and back; sums. No statement stands in it. -/
import Derived.Test.YtfncjkkdemeclaaSyT
import Derived.Laws.BytesArg
namespace Go.Proofs.Ytfncjkkdemeclaa
open Go Go.RowKit Go.ChangeAt

/-- The string of bytes. -/
def str (l : List UInt8) : ByteArray := ⟨l.toArray⟩
theorem str_size (l : List UInt8) : (str l).size = l.length := by simp [str, ByteArray.size]
theorem str_app (l k : List UInt8) : str l ++ str k = str (l ++ k) := by
  apply ByteArray.ext
  rw [ByteArray.data_append]
  simp [str]
theorem str_nil : str [] = ByteArray.empty := rfl
theorem conv_str {w : World} {a : Option Addr} {cap n : Nat} {l : List UInt8} (h : RdU w a cap l) (hn : l.length = n) : (convert 23 9 (.slice a n cap)).run Try.prog w = .ok (.string (str l)) w := by
  subst hn
  cases a with
  | none =>
    have : l = [] := by
      by_cases hp : 0 < l.length
      · obtain ⟨b, off, hb, _⟩ := h.2.2 hp
        cases hb
      · exact List.length_eq_zero_iff.1 (by omega)
    subst this
    exact run_convert_bytes_nil w _ _ Try.underlying23 Try.underlying5 _ _ _ Try.underlying9
  | some ad =>
    refine run_convert_bytes_back w _ _ _ ad cap l Try.underlying23 Try.underlying5 Try.underlying9 fun j hj => ?_
    obtain ⟨b, off, hb, _, hc⟩ := h.2.2 (by omega)
    obtain rfl := Option.some.inj hb
    rw [show (⟨b, off, none⟩ : Addr).add j = ⟨b, off + j, none⟩ by simp [Addr.add], hc j hj, List.getD_eq_getElem?_getD, List.getElem?_eq_getElem hj]
    rfl
/-- The bytes of a string, newly laid. -/
theorem conv_back (w : World) (l : List UInt8) (hl : l.length ≤ 1000000000) : ∃ cap C fr, (∀ n, n = l.length → (convert 9 23 (.string (str l))).run Try.prog w = .ok (.slice (some ⟨w.heap.size, 0, none⟩) n cap) (w.drew.alloc (.cells C 5 fr))) ∧
    RdU (w.drew.alloc (.cells C 5 fr)) (some ⟨w.heap.size, 0, none⟩) cap l := by
  have hr := run_bytes_of_string (P := Try.prog) w 9 23 5 (str l) Try.underlying9 Try.underlying23 Try.underlying5
  have hge := grownCap_ge w (str l).size 0 5
  have hmx := grownCap_le_maxLen w (str l).size 0 5 (by rw [str_size]; unfold maxLen; omega)
  refine ⟨grownCap w (str l).size 0 5, bytesRow (str l) (grownCap w (str l).size 0 5), ((bytesRow (str l) (grownCap w (str l).size 0 5)).size, (bytesRow (str l) (grownCap w (str l).size 0 5)).size + 1), fun n hn => ?_, ?_⟩
  · subst hn
    rw [hr, str_size]
  · refine ⟨by rw [str_size] at hge; exact hge, hmx, fun hp => ⟨w.heap.size, 0, rfl, by simp, fun i hi => ?_⟩⟩
    rw [Nat.zero_add]
    refine (World.cell?_alloc_mark w.drew _ _ _ i).trans ?_
    rw [bytesRow_at _ _ _ (by simpa [str] using hi)]
    simp [str, List.getD_eq_getElem?_getD, List.getElem?_eq_getElem hi]
end Go.Proofs.Ytfncjkkdemeclaa
