/- Where a pattern stands, the document's own answer (scrimshawref6): begins, Places. -/
import Derived.Test.YthbbokoeiifjdaaDoorKwH
import Derived.Test.YthbbokoeiifjdaaDoorSoi
import Derived.IntWalk
namespace Go.Proofs.YthbbokoeiifjdaaDoor
open Go Go.RowKit Go.ChangeAt

theorem ext_list (t : List UInt8) (i j : Nat) : ((str t).extract i j).toList = (t.drop i).take (j - i) := by
  rw [ByteArray.toList_eq, ByteArray.data_extract, Array.toList_extract]
  show (t.toArray.toList.extract i j) = _
  simp [List.extract]
theorem ext_pref {t q : List UInt8} {i k : Nat} (hk : q.length = k) : (((str t).extract i (i + k)).toList == (str q).toList) = q.isPrefixOf (t.drop i) := by
  rw [ext_list, str_list, show i + k - i = k by omega, Bool.eq_iff_iff, beq_iff_eq, List.isPrefixOf_iff_prefix, List.prefix_iff_eq_take, hk]
  exact eq_comm
theorem r6begins {t q : List UInt8} {s u : ByteArray} (i n k : Nat) (r : Bool) (w : World) (hs : str t = s) (hu : str q = u) (hn : t.length = n) (hk : q.length = k) (hm : n ≤ 1000) (hkm : k ≤ 1000) (hi : i ≤ n) (hr : q.isPrefixOf (t.drop i) = r) :
    Calls Tryd.prog 31 #[.string s, .int .i64 i, .string u] w fun e w' => e = .returned (.bool r) ∧ w = w' := by
  have hss : s.size = n := by rw [← hs, ← hn]; exact str_size t
  have hus : u.size = k := by rw [← hu, ← hk]; exact str_size q
  by_cases h : i + k ≤ n
  · have h1 : (i : Int) + k ≤ n := by omega
    have h2 : decide ((i : Int) + k ≤ n) = true := decide_eq_true h1
    have he := ext_pref (t := t) (i := i) hk
    rw [hs, hu, hr] at he
    go_enter Tryd.func31, Tryd.ntmps31
    go_wp2_with fail
    go_ret
    exact ⟨rfl, rfl⟩
  · have h1 : ¬ (i : Int) + k ≤ n := by omega
    have h2 : decide ((i : Int) + k ≤ n) = false := decide_eq_false h1
    obtain rfl : r = false := by rw [← hr]; exact Bw.plcs_none (by omega) (by omega)
    go_enter Tryd.func31, Tryd.ntmps31
    go_wp2_with fail
    go_ret
    exact ⟨rfl, rfl⟩

/-- The places below k where a pattern stands. -/
def plk (t q : List UInt8) (k : Nat) : List Int := ((List.range k).filter fun i => q.isPrefixOf (t.drop i)).map fun i : Nat => (i : Int)
theorem plk_zero (t q : List UInt8) : plk t q 0 = [] := rfl
theorem plk_yes {t q : List UInt8} {k : Nat} (h : q.isPrefixOf (t.drop k) = true) : plk t q (k + 1) = plk t q k ++ [(k : Int)] := by
  unfold plk
  rw [List.range_succ, List.filter_append, List.filter_cons, if_pos h, List.map_append]
  rfl
theorem plk_no {t q : List UInt8} {k : Nat} (h : q.isPrefixOf (t.drop k) = false) : plk t q (k + 1) = plk t q k := by
  unfold plk
  rw [List.range_succ, List.filter_append, List.filter_cons, if_neg (by rw [h]; exact Bool.false_ne_true), List.map_append, List.filter_nil, List.map_nil, List.append_nil]
theorem plk_few (t q : List UInt8) (k : Nat) : (plk t q k).length ≤ k := by
  unfold plk
  rw [List.length_map]
  have := List.length_filter_le (fun i => q.isPrefixOf (t.drop i)) (List.range k)
  rwa [List.length_range] at this
theorem plk_on {t q : List UInt8} : ∀ d k, k + d = t.length + 1 → t.length < k + q.length → plk t q k = plk t q (t.length + 1)
  | 0, k, h, _ => by rw [← h, Nat.add_zero]
  | d + 1, k, h, h2 => by
    rw [← plk_on d (k + 1) (by omega) (by omega), plk_no (Bw.plcs_none (by omega) (by omega))]
theorem plk_all {t q : List UInt8} {k : Nat} (hk : k ≤ t.length + 1) (h : t.length < k + q.length) : (plk t q k).length = (Bw.plcs t q).length := by
  rw [plk_on (t.length + 1 - k) k (by omega) h]
  unfold plk Bw.plcs
  rw [List.length_map]
set_option maxHeartbeats 3200000 in
set_option maxRecDepth 100000 in
theorem r6places {t q : List UInt8} {s u : ByteArray} (n k : Nat) (w : World) (hs : str t = s) (hu : str q = u) (hn : t.length = n) (hk : q.length = k) (hm : n ≤ 1000) (hkm : k ≤ 1000) :
    Calls Tryd.prog 15 #[.string s, .string u] w fun e w' => ∃ v l, e = .returned v ∧ OwnI w.heap.size w' v l ∧ l.length = (Bw.plcs t q).length ∧ Below w.heap.size w w' := by
  have hss : s.size = n := by rw [← hs, ← hn]; exact str_size t
  have hus : u.size = k := by rw [← hu, ← hk]; exact str_size q
  obtain ⟨j0, hj, hy0, hy1, hy2⟩ := info_parts infoI
  have HS := Lib.hid (And.intro hs (And.intro hu (And.intro hn hk)))
  clear hs hu hn hk
  go_enter Tryd.func15, Tryd.ntmps15
  go_wp2_with fail
  go_loopw [5, 6] (fun v i wr => ∃ j : Nat, j ≤ n + 1 ∧ i = .int .i64 j ∧ OwnI w.heap.size wr v (plk t q j) ∧ Below w.heap.size w wr) (fun _ i _ => n + 1 - (intOf i).toNat)
  case atStart => exact ⟨0, Nat.zero_le _, rfl, World.ownsRow_nil _ _ _ _, Below.refl _ _⟩
  case round =>
    obtain ⟨j, hj1, rfl, hown, hb⟩ := hrel
    by_cases hlt : j + k ≤ n
    · have hlt' : (j : Int) + k ≤ n := by omega
      have hbs := hb.size
      have hfew := plk_few t q j
      by_cases hyes : q.isPrefixOf (t.drop j) = true
      · have key := r6begins j n k true wr HS.out.1 HS.out.2.1 HS.out.2.2.1 HS.out.2.2.2 hm hkm (by omega) hyes
        have HY := Lib.hid (plk_yes hyes)
        clear hyes
        go_wp2_with fail
        (with_reducible refine key.mono ?_); rintro e w2 ⟨rfl, rfl⟩
        clear key
        go_wp2_with (first
          | (at_builtin; (refine wpList_append_own _ rfl (.tmp 20) (.tmp 22) 22 rfl w.heap.size 3 j0 (.int .i64 0) 1 8 Tryd.underlying22 hj hy0 hy1 hy2 rfl (by decide) _ _ _ rfl (World.ownsRow.alloc hown _) ⟨wr.heap.size, 0, none⟩ 1 1 [.int .i64 (j : Int)] rfl rfl (cell_one_new _ _ _) (fun u hu => by simp at hu; subst hu; rfl) (by unfold maxLen; omega) (by omega) (by simp; omega) ?_); intro v3 w3 hown3 hgrow3 hnil3))
        have hb3 : Below w.heap.size w w3 := (hb.alloc hbs _).grown hgrow3 (by simp; omega) (fun q hq => (hown.lt q hq).1)
        have HX := Lib.hid (And.intro (OwnI.push rfl hown3) hb3)
        clear hown hb hown3 hgrow3 hnil3 hb3
        go_wp2_with fail
        go_roundw
        case rel => exact ⟨j + 1, by omega, by go_num, by rw [HY.out]; exact HX.out.1, HX.out.2⟩
        case measure => simp [intOf]; omega
      · have hno : q.isPrefixOf (t.drop j) = false := Bool.eq_false_iff.2 hyes
        have key := r6begins j n k false wr HS.out.1 HS.out.2.1 HS.out.2.2.1 HS.out.2.2.2 hm hkm (by omega) hno
        have HY := Lib.hid (plk_no hno)
        clear hyes hno
        go_wp2_with fail
        (with_reducible refine key.mono ?_); rintro e w2 ⟨rfl, rfl⟩
        clear key
        have HX := Lib.hid (And.intro hown hb)
        clear hown hb
        go_wp2_with fail
        go_roundw
        case rel => exact ⟨j + 1, by omega, by go_num, by rw [HY.out]; exact HX.out.1, HX.out.2⟩
        case measure => simp [intOf]; omega
    · have hlt' : ¬ (j : Int) + k ≤ n := by omega
      have HF := Lib.hid (plk_all (t := t) (q := q) (k := j) (by rw [HS.out.2.2.1]; exact hj1) (by rw [HS.out.2.2.1, HS.out.2.2.2]; omega))
      have HX := Lib.hid (And.intro hown hb)
      clear hown hb
      go_wp2_with fail
      go_ret
      exact ⟨_, rfl, _, HX.out.1, HF.out, HX.out.2⟩
end Go.Proofs.YthbbokoeiifjdaaDoor
