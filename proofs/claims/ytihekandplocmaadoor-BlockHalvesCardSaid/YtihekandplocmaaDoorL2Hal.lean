/- BlockHalves as a walk. -/
import Derived.Test.YtihekandplocmaaDoorL2Same
import Derived.Test.YtihekandplocmaaDoorLaidB
namespace Go.Proofs.YtihekandplocmaaDoor
open Go Go.ChangeShapes Go.WideShapes Go.ChangeAt Go.RowKit

theorem count_halves (l : List Bool) (k : Nat) : (l.take k).count true + (l.drop k).count true = l.count true := by
  rw [← List.count_append, List.take_append_drop]
/-- A list of the call's own, as the source of an append. -/
theorem OwnB.src {base : Nat} {w : World} {v : Value} {l : List Bool} (h : OwnB base w v l) (hne : 0 < l.length) :
    ∃ b cap, v = .slice (some ⟨b, 0, none⟩) l.length cap ∧ cap ≤ maxLen ∧ ∀ j u, (l.map Value.bool)[j]? = some u → w.cell? ((⟨b, 0, none⟩ : Addr).add j) = some u := by
  have hc := fun gg hgg => World.ownsRow.cells h (g := gg) hgg
  rcases h.2 with ⟨_, h0⟩ | ⟨gg, cap, cur, hv, hb, hg, hnn, hmm, hs, ht⟩
  · omega
  · exact ⟨gg, cap, hv, hmm, hc gg (by rw [hv]; rfl)⟩

set_option maxHeartbeats 1600000 in
theorem halves_w (a0 : Option Addr) (len0 cap0 : Nat) (z0 : List Int) (W : World) (w0 : IsRow .i64 W a0 len0 cap0 z0) (hL : LaidFact W) :
    Calls Tryd.prog 6 #[.slice a0 len0 cap0] W fun e w' => e = .returned (.bool true) ∧ Below W.heap.size W w' := by
  obtain ⟨i0, hi, hz0, hz1, hz2⟩ := info_parts infoB
  have hrd := RdI.of_row w0
  have HT := Lib.hid hL.tab
  have hW0 := hL.pos
  clear w0 hL
  go_enter Tryd.func6, Tryd.ntmps6
  go_wp2_with fail
  refine (bits_any _ _ _ 128 _ hrd (by decide)).mono ?_
  rintro e w1 ⟨v, L, rfl, hown, hLL, hb1⟩
  have hsz1 := hb1.size
  have hRD := Lib.hid (OwnB.rd hown)
  obtain ⟨aa, cc, rfl, _, _⟩ := (OwnB.rd hown).open
  clear hown
  go_wp2_with fail
  refine (bnew_rd _ hRD.out hLL).mono ?_
  rintro e w2 ⟨g, rfl, hg, hblk, hb2⟩
  have hC := fun {w' : World} (h : Below w1.heap.size w1 w') => And.intro (hRD.out.below h) (And.intro (hb1.trans (h.mono hsz1)) (HT.out.below (hb1.trans (h.mono hsz1)) hW0))
  have HC := @hC
  clear hC
  have hgl := hblk.lt
  go_wp2_with fail
  refine (bsplit_any _ hblk).mono ?_
  rintro e w3 ⟨g2, rfl, hg2, hA, hB, hs3⟩
  have C3 : Below w1.heap.size w1 w3 := hb2.trans (hs3.below hb2.size (fun i _ h => by omega))
  have hg12 : g ≠ g2 := by omega
  have HNE := Lib.hid hg12
  have hgg : w1.heap.size ≤ g2 := by have := hb2.size; omega
  have hlA : Hid (((L.take (L.length / 2)).length : Int) = (L.length : Int) / 2) := Lib.hid (by rw [List.length_take]; omega)
  have hlB : Hid (((L.drop (L.length / 2)).length : Int) = (L.length : Int) - (L.length : Int) / 2) := Lib.hid (by rw [List.length_drop]; omega)
  have hlB' : Hid (L ≠ [] → 0 < (L.drop (L.length / 2)).length) := Lib.hid (fun h => by have := List.length_pos_iff.2 h; rw [List.length_drop]; omega)
  have hlL : Hid (L.take (L.length / 2) ++ L.drop (L.length / 2) = L) := Lib.hid (List.take_append_drop _ _)
  have hcnt : Hid (((L.take (L.length / 2)).count true : Int) + ((L.drop (L.length / 2)).count true : Int) = (L.count true : Int)) := Lib.hid (by have := count_halves L (L.length / 2); omega)
  have hl128 : Hid ((L.take (L.length / 2)).length + (L.drop (L.length / 2)).length ≤ 128) := Lib.hid (by rw [List.length_take, List.length_drop]; omega)
  have hnil : Hid (L = [] → L.drop (L.length / 2) = []) := Lib.hid (fun h => by rw [h]; rfl)
  generalize L.take (L.length / 2) = A at *
  generalize L.drop (L.length / 2) = B at *
  clear hblk hs3 hb2 hg12
  go_wp2_with fail
  refine (blen_to ((L.length : Int) / 2) _ hA hlA.out).mono ?_
  rintro e w' ⟨rfl, rfl⟩
  go_wp2_with fail
  refine (blen_to ((L.length : Int) - (L.length : Int) / 2) _ hB hlB.out).mono ?_
  rintro e w' ⟨rfl, rfl⟩
  go_wp2_with fail
  refine (ball_any _ hA).mono ?_
  rintro e w4 ⟨v4, rfl, hown4, _, hb4⟩
  have hA4 := hA.below hb4 hA.lt
  have hB4 := hB.below hb4 hB.lt
  have hsz4 := hb4.size
  have C4 : Below w1.heap.size w1 w4 := C3.trans (hb4.mono C3.size)
  have hlt1' : g < w3.heap.size := hA.lt
  have hlt2' : g2 < w3.heap.size := hB.lt
  have hC3sz := C3.size
  clear hA hB
  go_wp2_with fail
  refine (ball_any _ hB4).mono ?_
  rintro e w5 ⟨v5, rfl, hown5, hnil5, hb5⟩
  have hA5 := hA4.below hb5 hA4.lt
  have hB5 := hB4.below hb5 hB4.lt
  have hsz5 := hb5.size
  have hown45 := Lib.hid (ownsRow_below hown4 hb5)
  have C5 : Below w1.heap.size w1 w5 := C4.trans (hb5.mono C4.size)
  clear hA4 hB4 hown4 hb4 hb5 C4 C3
  have hcase : (v5 = .slice none 0 0 ∧ B = []) ∨ 0 < B.length := by
    by_cases h : L = []
    · exact .inl ⟨hnil5 (hnil.out h), hnil.out h⟩
    · exact .inr (hlB'.out h)
  have HOWN5 := Lib.hid hown5
  have hbase : w3.heap.size ≤ w5.heap.size := by omega
  have hlenA : A.length ≤ 128 := by have := hl128.out; omega
  have hlenB : B.length ≤ 128 := by have := hl128.out; omega
  clear hnil5 hown5
  rcases hcase with ⟨rfl, rfl⟩ | hBpos
  · go_wp2_with (first
      | (at_builtin; (refine append_none_g rfl (.tmp 45) (.tmp 47) 24 rfl w3.heap.size 4 i0 1 Tryd.underlying24 hi _ _ _ rfl hown45.out rfl ?_)))
    have hRes : RdB w5 v4 L := by have := OwnB.rd hown45.out; rw [← hlL.out, List.append_nil]; exact this
    have C6 := C5
    have D6 := Below.refl w5.heap.size w5
    have hA6 := hA5.below D6 hA5.lt
    have hB6 := hB5.below D6 hB5.lt
    have HA6 := Lib.hid hA6
    have HB6 := Lib.hid hB6
    clear hA5 hB5 hA6 hB6 D6
    refine (rsame_eq _ hRes (HC C6).1).mono ?_
    rintro e w7 ⟨rfl, hb7⟩
    have C7 : Below w1.heap.size w1 w7 := C6.trans (hb7.mono C6.size)
    have hA7 := Lib.hid (HA6.out.below hb7 HA6.out.lt)
    have hB7 := Lib.hid (HB6.out.below hb7 HB6.out.lt)
    clear hRes C6 HA6 HB6 hb7
    go_wp2_with fail
    refine (told_any _ (HC C7).2.2 (by have := (HC C7).2.1.size; omega)).mono ?_
    rintro e w8 ⟨rfl, hb8⟩
    have C8 : Below w1.heap.size w1 w8 := C7.trans (hb8.mono C7.size)
    have hA8 := Lib.hid (hA7.out.below hb8 hA7.out.lt)
    have hB8 := Lib.hid (hB7.out.below hb8 hB7.out.lt)
    clear hb8 hA7 hB7 C7
    go_wp2_with fail
    refine (bones_any _ hA8.out).mono ?_
    rintro e w' ⟨rfl, rfl⟩
    go_wp2_with fail
    refine (bones_any _ hB8.out).mono ?_
    rintro e w' ⟨rfl, rfl⟩
    have cA := List.count_le_length (a := true) (l := A)
    have cB := List.count_le_length (a := true) (l := ([] : List Bool))
    have hCE : (((A.count true : Int) + (([] : List Bool).count true : Int)) == (L.count true : Int)) = true := by have := hcnt.out; simpa using this
    go_wp2_with fail
    refine (rranks_any _ _ _ (HC C8).1).mono ?_
    rintro e w' ⟨rfl, rfl⟩
    rw [show Blk.rk true L (L.length : Int).toNat = L.count true from Blk.rk_all (by simp)]
    go_wp2_with fail
    refine (bjoin_to L _ hA8.out hB8.out HNE.out hl128.out hlL.out).mono ?_
    rintro e w9 ⟨rfl, hA9, hB9, hs9⟩
    have C9 : Below w1.heap.size w1 w9 := C8.trans (hs9.below C8.size (fun i _ h => by omega))
    have hA9 := Lib.hid hA9
    have hB9 := Lib.hid hB9
    clear hs9 hA8 hB8 C8
    go_wp2_with fail
    refine (ball_any _ hA9.out).mono ?_
    rintro e w10 ⟨v10, rfl, hown10, _, hb10⟩
    have C10 : Below w1.heap.size w1 w10 := C9.trans (hb10.mono C9.size)
    have hB10 := Lib.hid (hB9.out.below hb10 hB9.out.lt)
    have hR10 := OwnB.rd hown10
    clear hb10 hB9 hA9 C9 hown10
    go_wp2_with fail
    refine (rsame_eq _ hR10 (HC C10).1).mono ?_
    rintro e w11 ⟨rfl, hb11⟩
    have C11 : Below w1.heap.size w1 w11 := C10.trans (hb11.mono C10.size)
    have hB11 := Lib.hid (hB10.out.below hb11 hB10.out.lt)
    clear hb11 hB10 hR10 C10
    go_wp2_with fail
    refine (ball_any _ hB11.out).mono ?_
    rintro e w12 ⟨v12, rfl, _, hnil12, hb12⟩
    obtain rfl := hnil12 rfl
    have C12 : Below w1.heap.size w1 w12 := C11.trans (hb12.mono C11.size)
    have B12 := (HC C12).2.1
    go_wp2_with fail
    go_ret
    exact ⟨rfl, B12⟩
  · obtain ⟨b5, cap5, rfl, hm5, hcell5⟩ := HOWN5.out.src hBpos
    have HC5 := Lib.hid hcell5
    clear hcell5
    go_wp2_with (first
      | (at_builtin; (refine append_own_g _ rfl (.tmp 45) (.tmp 47) 24 rfl w3.heap.size 4 i0 (.bool false) 1 1 Tryd.underlying24 hi hz0 hz1 hz2 rfl (by decide) _ _ _ rfl hown45.out ⟨b5, 0, none⟩ B.length cap5 (B.map Value.bool) rfl (by rw [List.length_map]; omega) HC5.out (bools_one _) (by unfold maxLen; omega) (by omega) hbase ?_); intro v6 w6 hown6 hgrow6))
    have hRes : RdB w6 v6 L := by have := OwnB.rd (OwnB.app hown6); rw [hlL.out] at this; exact this
    have C6 : Below w1.heap.size w1 w6 := C5.grown hgrow6 C5.size (fun q hq => by have := (hown45.out.lt q hq).1; have := C5.size; have := hA5.lt; omega)
    have D6 : Below w3.heap.size w5 w6 := (Below.refl _ w5).grown hgrow6 hbase (fun q hq => (hown45.out.lt q hq).1)
    have hA6 := hA5.below D6 hlt1'
    have hB6 := hB5.below D6 hlt2'
    have HA6 := Lib.hid hA6
    have HB6 := Lib.hid hB6
    clear hA5 hB5 hA6 hB6 D6
    refine (rsame_eq _ hRes (HC C6).1).mono ?_
    rintro e w7 ⟨rfl, hb7⟩
    have C7 : Below w1.heap.size w1 w7 := C6.trans (hb7.mono C6.size)
    have hA7 := Lib.hid (HA6.out.below hb7 HA6.out.lt)
    have hB7 := Lib.hid (HB6.out.below hb7 HB6.out.lt)
    clear hRes C6 HA6 HB6 hb7
    go_wp2_with fail
    refine (told_any _ (HC C7).2.2 (by have := (HC C7).2.1.size; omega)).mono ?_
    rintro e w8 ⟨rfl, hb8⟩
    have C8 : Below w1.heap.size w1 w8 := C7.trans (hb8.mono C7.size)
    have hA8 := Lib.hid (hA7.out.below hb8 hA7.out.lt)
    have hB8 := Lib.hid (hB7.out.below hb8 hB7.out.lt)
    clear hb8 hA7 hB7 C7
    go_wp2_with fail
    refine (bones_any _ hA8.out).mono ?_
    rintro e w' ⟨rfl, rfl⟩
    go_wp2_with fail
    refine (bones_any _ hB8.out).mono ?_
    rintro e w' ⟨rfl, rfl⟩
    have cA := List.count_le_length (a := true) (l := A)
    have cB := List.count_le_length (a := true) (l := B)
    have hCE : (((A.count true : Int) + (B.count true : Int)) == (L.count true : Int)) = true := by have := hcnt.out; simpa using this
    go_wp2_with fail
    refine (rranks_any _ _ _ (HC C8).1).mono ?_
    rintro e w' ⟨rfl, rfl⟩
    rw [show Blk.rk true L (L.length : Int).toNat = L.count true from Blk.rk_all (by simp)]
    go_wp2_with fail
    refine (bjoin_to L _ hA8.out hB8.out HNE.out hl128.out hlL.out).mono ?_
    rintro e w9 ⟨rfl, hA9, hB9, hs9⟩
    have C9 : Below w1.heap.size w1 w9 := C8.trans (hs9.below C8.size (fun i _ h => by omega))
    have hA9 := Lib.hid hA9
    have hB9 := Lib.hid hB9
    clear hs9 hA8 hB8 C8
    go_wp2_with fail
    refine (ball_any _ hA9.out).mono ?_
    rintro e w10 ⟨v10, rfl, hown10, _, hb10⟩
    have C10 : Below w1.heap.size w1 w10 := C9.trans (hb10.mono C9.size)
    have hB10 := Lib.hid (hB9.out.below hb10 hB9.out.lt)
    have hR10 := OwnB.rd hown10
    clear hb10 hB9 hA9 C9 hown10
    go_wp2_with fail
    refine (rsame_eq _ hR10 (HC C10).1).mono ?_
    rintro e w11 ⟨rfl, hb11⟩
    have C11 : Below w1.heap.size w1 w11 := C10.trans (hb11.mono C10.size)
    have hB11 := Lib.hid (hB10.out.below hb11 hB10.out.lt)
    clear hb11 hB10 hR10 C10
    go_wp2_with fail
    refine (ball_any _ hB11.out).mono ?_
    rintro e w12 ⟨v12, rfl, _, hnil12, hb12⟩
    obtain rfl := hnil12 rfl
    have C12 : Below w1.heap.size w1 w12 := C11.trans (hb12.mono C11.size)
    have B12 := (HC C12).2.1
    go_wp2_with fail
    go_ret
    exact ⟨rfl, B12⟩
end Go.Proofs.YtihekandplocmaaDoor
