/- The document's own Level (scrimshawref6): a contract of the walk. -/
import Derived.Test.YtaglnomjlnlgoaaDoorLwD
namespace Go.Proofs.YtaglnomjlnlgoaaDoor
open Go Go.RowKit Go.ChangeAt

theorem Wv.bits_take {l : List Int} {k : Nat} (v : Nat) (p : Int) (hk : k < l.length) : Wv.bits (l.take (k + 1)) v p = Wv.bits (l.take k) v p ++ if Sy.path (l.getD k 0) v = p then [Sy.bit (l.getD k 0) v] else [] := by
  rw [List.take_succ_eq_append_getElem hk, Wv.bits_app]
  congr 1
  have e : l[k] = l.getD k 0 := by rw [List.getD_eq_getElem?_getD, List.getElem?_eq_getElem hk]; rfl
  unfold Wv.bits
  rw [Wv.sub_cons, e]
  split <;> rfl
theorem Wv.bits_le (l : List Int) (v : Nat) (p : Int) (k : Nat) : (Wv.bits (l.take k) v p).length ≤ k := by
  rw [Wv.bits_len]
  exact Nat.le_trans (List.length_filter_le _ _) (List.length_take_le _ _)
theorem OwnB.push_n {base : Nat} {w : World} {v : Value} {l : List Bool} {n : Nat} {b : Bool} (hn : l.length = n) (h : w.ownsRow base 4 1 v (n + 1) (l.map Value.bool ++ [Value.bool b])) : OwnB base w v (l ++ [b]) := by
  subst hn; exact OwnB.push h

set_option maxHeartbeats 1600000 in
theorem r6level_in {l : List Int} {n : Nat} {a : Option Addr} {cap : Nat} (V : Nat) (p : Int) (w : World) (h : RdL w a cap l) (hn : l.length = n) (hm : n ≤ 1000000) (hV : V ≤ 8) :
    Calls Tryd.prog 11 #[.slice a n cap, .int .i64 V, .int .i64 p] w fun e w' => ∃ v, e = .returned v ∧ OwnB w.heap.size w' v (Wv.bits l V p) ∧ Below w.heap.size w w' := by
  obtain ⟨i0, hi, hz0, hz1, hz2⟩ := info_parts infoB
  have HC := Lib.hid h.2.2.2
  have HN := Lib.hid hn
  have hV9 : (V : Int) < 9 := by omega
  clear h hn
  go_enter Tryd.func11, Tryd.ntmps11
  go_wp2_with fail
  go_loopw [7, 8] (fun v i wr => ∃ k : Nat, k ≤ n ∧ i = .int .i64 k ∧ OwnB w.heap.size wr v (Wv.bits (l.take k) V p) ∧ Below w.heap.size w wr) (fun _ i _ => n - (intOf i).toNat)
  case atStart => exact ⟨0, Nat.zero_le _, rfl, World.ownsRow_nil _ _ _ _, Below.refl _ _⟩
  case round =>
    obtain ⟨k, hk, rfl, hown, hb⟩ := hrel
    by_cases hlt : k < n
    · have hkl : k < l.length := by rw [HN.out]; exact hlt
      obtain ⟨b, off, rfl, hbb, hcell⟩ := HC.out (by omega)
      have c0 := (hb.cell (p := ⟨b, off + k, none⟩) hbb).trans (hcell k hkl)
      have h1 : (k : Int) < n := by omega
      have htk := Wv.bits_take V p hkl
      have hle := Wv.bits_le l V p k
      have hbs := hb.size
      obtain ⟨s, hs⟩ : ∃ s, l.getD k 0 = s := ⟨_, rfl⟩
      rw [hs] at c0 htk
      obtain ⟨M, hM⟩ : ∃ M, Wv.bits (l.take k) V p = M := ⟨_, rfl⟩
      obtain ⟨N, hN⟩ : ∃ N, M.length = N := ⟨_, rfl⟩
      rw [hM] at hown htk hle
      rw [hN] at hle
      have hown' := hown
      unfold OwnB at hown'
      rw [hN] at hown'
      have HNN := Lib.hid hN
      have keyP := fun w => rpath s V w
      by_cases hp : Sy.path s V = p
      · have hpp : (Sy.path s V == p) = true := by simpa using hp
        rw [if_pos hp] at htk
        obtain ⟨t, ht⟩ : ∃ t, Sy.bit s V = t := ⟨_, rfl⟩
        have keyB := fun w => rbit s V w
        rw [ht] at htk keyB
        have HTK := Lib.hid htk
        rw [hp] at keyP
        clear hcell hkl hs hM hN htk ht hp hpp
        go_wp2_with fail
        (with_reducible refine (keyP _).mono ?_); rintro e w2 ⟨rfl, rfl⟩
        have hpp : (p == p) = true := by simp
        clear keyP
        go_wp2_with fail
        (with_reducible refine (keyB _).mono ?_); rintro e w2 ⟨rfl, rfl⟩
        clear keyB
        go_wp2_with (first
          | (at_builtin; (refine wpList_append_own _ rfl (.tmp 31) (.tmp 38) 30 rfl w.heap.size 4 i0 (.bool false) 1 1 Tryd.underlying30 hi hz0 hz1 hz2 rfl (by decide) _ _ _ rfl (World.ownsRow.alloc hown' _) ⟨wr.heap.size, 0, none⟩ 1 1 [.bool t] rfl rfl (cell_one_new _ _ _) (fun u hu => by simp at hu; subst hu; rfl) (by unfold maxLen; omega) (by omega) (by simp; omega) ?_); intro v3 w3 hown3 hgrow3 hnil3))
        have hb3 : Below w.heap.size w w3 := (hb.alloc hbs _).grown hgrow3 (by simp; omega) (fun q hq => (hown.lt q hq).1)
        go_wp2_with fail
        go_roundw
        case rel => exact ⟨k + 1, by omega, by go_num, by rw [HTK.out]; exact OwnB.push_n HNN.out hown3, hb3⟩
        case measure => simp [intOf]; omega
      · obtain ⟨q, hq⟩ : ∃ q, Sy.path s V = q := ⟨_, rfl⟩
        rw [if_neg hp, List.append_nil] at htk
        rw [hq] at keyP hp
        have hpp : (q == p) = false := by simpa using hp
        have HTK := Lib.hid htk
        clear hcell hkl hs hM hN htk hq hp
        go_wp2_with fail
        (with_reducible refine (keyP _).mono ?_); rintro e w2 ⟨rfl, rfl⟩
        clear keyP
        go_wp2_with fail
        go_roundw
        case rel => exact ⟨k + 1, by omega, by go_num, by rw [HTK.out]; exact hown, hb⟩
        case measure => simp [intOf]; omega
    · have h1 : ¬ (k : Int) < n := by omega
      rw [List.take_of_length_le (by rw [HN.out]; omega)] at hown
      go_wp2_with fail
      go_ret
      exact ⟨_, rfl, hown, hb⟩
theorem r6level_out {n : Nat} {a : Option Addr} {cap : Nat} (lv p : Int) (w : World) (hm : n ≤ 1000000) (hV : ¬ (0 ≤ lv ∧ lv ≤ 8)) :
    Calls Tryd.prog 11 #[.slice a n cap, .int .i64 lv, .int .i64 p] w fun e w' => e = .returned (.slice none 0 0) ∧ w = w' := by
  go_enter Tryd.func11, Tryd.ntmps11
  go_wp2_with fail
  go_loop [7, 8] (fun v i => v = .slice none 0 0 ∧ i = .int .i64 0) (fun _ _ => 0)
  case atStart => exact ⟨rfl, rfl⟩
  case round =>
    obtain ⟨rfl, rfl⟩ := hrel
    by_cases h0 : (0 : Int) < n
    · by_cases h1 : 0 ≤ lv
      · have h2 : ¬ lv < 9 := by omega
        clear hV
        go_wp2_with fail
        go_ret
        exact ⟨rfl, rfl⟩
      · clear hV
        go_wp2_with fail
        go_ret
        exact ⟨rfl, rfl⟩
    · clear hV
      go_wp2_with fail
      go_ret
      exact ⟨rfl, rfl⟩
end Go.Proofs.YtaglnomjlnlgoaaDoor
