/- fresh: a node more, and the link to it. -/
import Derived.Test.YtfbhcbcpeocmcaaDoorTmG
namespace Go.Proofs.YtfbhcbcpeocmcaaDoor
open Go Go.RowKit Go.ChangeAt Tr

/-- The link to a node that holds this. -/
def lkd (k : Nat) : Nd → Lk
  | .lf _ l => lkl k l
  | .pr A B => mk k A B
  | .dd => ⟨k, 0, 0, 0⟩
def NdOk : Nd → Prop
  | .lf _ _ => True
  | .pr A B => A.len + B.len < 4611686018427387904 ∧ A.ones + B.ones < 4611686018427387904 ∧ A.ht < 4611686018427387904 ∧ B.ht < 4611686018427387904
  | .dd => False
theorem tlink {base t k n : Nat} {S : St} {d : Nd} (w : World) (h : TM base w t S) (hk : S.sto k = some (n, d)) (hd : NdOk d) :
    Calls Tryd.prog 53 #[.pointer (some ⟨t, 0, none⟩), .int .i64 k] w fun e w' => e = .returned (lkv (lkd k d)) ∧ Below w.heap.size w w' := by
  cases d with
  | lf b l => exact tlink_lf w h hk
  | pr A B => exact tlink_pr w h hk hd.1 hd.2.1 hd.2.2.1 hd.2.2.2
  | dd => exact absurd hd (fun h => h)
/-- What fresh does. -/
def Freshed (base : Nat) (w w' : World) (t nb : Nat) (d : Nd) (S S' : St) (k : Nat) : Prop :=
  TM base w' t S' ∧ S.sto k = none ∧ S'.sto = upd S.sto k (some (nb, d)) ∧ S'.rt = S.rt ∧ S'.vis = S.vis + 1 ∧ S'.live = S.live + 1 ∧ S'.T.length = max S.T.length (S.live + 1) ∧
    (∀ b, S'.own b ≠ none → S.own b ≠ none ∨ w.heap.size ≤ b ∨ b = nb ∨ ∃ l, d = .lf b l) ∧ Stay (fun b => S.own b ≠ none) w w'
set_option maxHeartbeats 1600000 in
theorem tfresh {base t nb : Nat} {S : St} {d : Nd} (w : World) (h : TM base w t S) (hl : S.live < 268435456) (hd : Lone base w S nb d) (ho : NdOk d) (hv : S.vis < 4611686018427387904) :
    Calls Tryd.prog 73 #[.pointer (some ⟨t, 0, none⟩), .pointer (some ⟨nb, 0, none⟩)] w fun e w' => ∃ (k : Nat) (S' : St), e = .returned (lkv (lkd k d)) ∧ Freshed base w w' t nb d S S' k := by
  have hb0 : Below w.heap.size w (w.alloc ZL) := Below.allocs (Below.refl _ _) _
  have hV0 : Mv w (w.alloc ZL) S S := Mv.of_below hb0
  have key := tput _ (h.below hb0) hl (hd.mv hV0)
  have H := Lib.hid h
  have HD := Lib.hid hd
  have HV0 := Lib.hid hV0
  have ho0 := h.new (Nat.le_refl _)
  have htl := h.lt.2
  clear h hd hV0
  go_enter Tryd.func73, Tryd.ntmps73
  go_wp2_with fail
  (with_reducible refine key.mono ?_); rintro e w1 ⟨k, S1, rfl, hP⟩
  have hP' := hP.mv HV0.out rfl rfl rfl rfl rfl
  obtain ⟨a1, a2, a3, a4, a5, a6, a7, a8, a9⟩ := hP'
  have hs1 : S1.sto k = some (nb, d) := by rw [a3]; exact upd_at _ _ _
  have key2 := tlook w1 a1 hs1 (by omega)
  have HA := Lib.hid (And.intro a2 (And.intro a3 (And.intro a4 (And.intro a5 (And.intro a6 (And.intro a7 a8))))))
  have hr1 : w1.heap[w.heap.size]? = some ZL := hP.2.2.2.2.2.2.2.2.kept alloc_of (fun e => e ho0)
  have hro1 : S1.own w.heap.size = none := by
    cases e : S1.own w.heap.size with
    | none => rfl
    | some x =>
      rcases hP.2.2.2.2.2.2.2.1 w.heap.size (by rw [e]; exact fun h => by cases h) with h | h | h | h
      · exact absurd ho0 h
      · simp at h; omega
      · exact absurd h (Nat.ne_of_gt HD.out.lt)
      · obtain ⟨l, h⟩ := h; exact absurd (HD.out.l0 _ _ h).2.2 (Nat.lt_irrefl _)
  have HA9 := Lib.hid a9
  have HT1 := Lib.hid a1
  have HS1 := Lib.hid hs1
  have HR1 := Lib.hid hr1
  clear hP a1 a2 a3 a4 a5 a6 a7 a8 a9 hs1 hr1 key
  go_wp2_with fail
  (with_reducible refine key2.mono ?_); rintro e w2 ⟨rfl, hT2, hs2⟩
  have hs2' : (S1.see (S1.vis + 1)).sto k = some (nb, d) := HS1.out
  have key3 := tlink w2 hT2 hs2' ho
  have HT2 := Lib.hid hT2
  have HS2 := Lib.hid hs2
  clear hT2 hs2 hs2' key2
  unfold lkv at key3
  go_wp2_with fail
  (with_reducible refine key3.mono ?_); rintro e w3 ⟨rfl, hb3⟩
  have hz1 := HA9.out.size
  have hz2 := HS2.out.size
  have hw1 : w.heap.size < w1.heap.size := lt_of_block HR1.out
  have hr3 : w3.heap[w.heap.size]? = some ZL := Below.keptB hb3 (HS2.out.kept HR1.out (fun e => by omega)) (by omega)
  have r0 : w3.cell? ⟨w.heap.size, 0, none⟩ = some (.int .i64 0) := (cell_of hr3).trans rfl
  have r1 : w3.cell? ⟨w.heap.size, 1, none⟩ = some (.int .i64 0) := (cell_of hr3).trans rfl
  have r2 : w3.cell? ⟨w.heap.size, 2, none⟩ = some (.int .i64 0) := (cell_of hr3).trans rfl
  have r3 : w3.cell? ⟨w.heap.size, 3, none⟩ = some (.int .i64 0) := (cell_of hr3).trans rfl
  have q0 : w3.frozen? ⟨w.heap.size, 0, none⟩ = false := free_of hr3
  have q1 : w3.frozen? ⟨w.heap.size, 1, none⟩ = false := free_of hr3
  have q2 : w3.frozen? ⟨w.heap.size, 2, none⟩ = false := free_of hr3
  have q3 : w3.frozen? ⟨w.heap.size, 3, none⟩ = false := free_of hr3
  have HB3 := Lib.hid hb3
  clear hr3 hb3 key3
  go_wp2_with fail
  try simp only [Exit.inBlock, Exit.then]
  refine bodyPost_ret (v := lkv (lkd k d)) (by simp [results, Tryd.results73, go_sem, lkv, *]) rfl ⟨k, S1.see (S1.vis + 1), rfl, ?_⟩
  obtain ⟨a2, a3, a4, a5, a6, a7, a8⟩ := HA.out
  have hT1' := HT1.out
  have htr : S.own t ≠ none := by
    obtain ⟨g, a, c, hx⟩ := H.out
    rw [hx.ownt]; exact fun h => by cases h
  refine ⟨(HT2.out.below HB3.out).set4 hro1 0 1 2 3 _ _ _ _, a2, a3, a4, by show S1.vis + 1 = _; rw [a5], a6, a7, a8, ?_⟩
  have hst : Stay (fun b => S.own b ≠ none) w w3 := (HA9.out.trans HS2.out (fun i _ e => by subst e; exact htr)).trans (Stay.of_below (S := fun _ => False) HB3.out) (fun _ _ h => h.elim)
  exact (((hst.setCell (p := ⟨w.heap.size, 0, none⟩) (.inl (Nat.le_refl _)) _).setCell (p := ⟨w.heap.size, 1, none⟩) (.inl (Nat.le_refl _)) _).setCell (p := ⟨w.heap.size, 2, none⟩) (.inl (Nat.le_refl _)) _).setCell (p := ⟨w.heap.size, 3, none⟩) (.inl (Nat.le_refl _)) _
end Go.Proofs.YtfbhcbcpeocmcaaDoor
