/- drop: nodes that are given back. -/
import Derived.Test.YtfbhcbcpeocmcaaDoorTmF
import Derived.LoopTactic
namespace Go.Proofs.YtfbhcbcpeocmcaaDoor
open Go Go.RowKit Go.ChangeAt Tr

/-- A store without the nodes of these numbers. -/
def clr (s : Sto) (l : List Nat) : Sto := fun j => if j ∈ l then none else s j
theorem clr_nil (s : Sto) : clr s [] = s := by funext j; unfold clr; simp
theorem clr_snoc (s : Sto) (l : List Nat) (k : Nat) : clr s (l ++ [k]) = upd (clr s l) k none := by
  funext j
  unfold clr upd
  by_cases h : j = k
  · subst h; simp
  · by_cases h2 : j ∈ l
    · simp [h, h2]
    · simp [h, h2]
theorem clr_succ (s : Sto) (l : List Nat) (m : Nat) (h : m < l.length) : clr s (l.take (m + 1)) = upd (clr s (l.take m)) (l.getD m 0) none := by
  rw [List.take_succ_eq_append_getElem h, clr_snoc, List.getD_eq_getElem?_getD, List.getElem?_eq_getElem h]
  rfl
/-- The numbers, as the arena has them. -/
def nums (l : List Nat) : List Int := l.map fun (k : Nat) => (k : Int)
theorem nums_len (l : List Nat) : (nums l).length = l.length := by unfold nums; simp
theorem nums_getD (l : List Nat) (m : Nat) : (nums l).getD m 0 = ((l.getD m 0 : Nat) : Int) := by
  unfold nums
  rw [List.getD_eq_getElem?_getD, List.getD_eq_getElem?_getD, List.getElem?_map]
  cases l[m]? <;> rfl
theorem good_of (l : List Nat) : ∀ T : List Bool, l.Nodup → (∀ k ∈ l, T.getD k false = true) → Ar.good T (nums l) = true := by
  induction l with
  | nil => intro T _ _; rfl
  | cons k l ih =>
    intro T h1 h2
    obtain ⟨h3, h4⟩ := List.nodup_cons.1 h1
    show (Ar.is T (k : Int) && Ar.good (T.set (k : Int).toNat false) (nums l)) = true
    rw [Bool.and_eq_true]
    refine ⟨Ar.is_of (by omega) (by rw [Int.toNat_natCast]; exact h2 k List.mem_cons_self), ih _ h4 (fun j hj => ?_)⟩
    rw [Ar.getD_set, Int.toNat_natCast, if_neg (fun e => h3 (by rw [e.1]; exact hj))]
    exact h2 j (List.mem_cons_of_mem _ hj)
open Classical in
theorem TMx.drop {base : Nat} {w w1 w2 : World} {t g c : Nat} {S : St} {a : Option Addr} {A' : Nat → Prop} {l : List Nat} (h : TMx base w t S (some g) a c) (hn : l.Nodup) (hl : ∀ k ∈ l, S.sto k ≠ none)
    (hst1 : Stay (fun i => S.own i = some .li) w w1) (hrow : w1.ownsRow base 63 1 (.slice a S.T.length c) S.T.length (ptrs (clr S.sto l) S.T.length))
    (hst2 : Stay (fun i => S.own i = some .ar) w1 w2) (har : ArM base 84 A' w2 g 268435456 (Ar.setAll S.T false (nums l)) (S.F ++ nums l)) (hA : ∀ b, A' b → S.own b = some .ar ∨ w.heap.size ≤ b) (hsar : Ar.S 268435456 (Ar.setAll S.T false (nums l)) (S.F ++ nums l)) :
    ∃ own', TM base w2 t ⟨own', clr S.sto l, Ar.setAll S.T false (nums l), S.F ++ nums l, S.rt, S.vis⟩ ∧ Mv w w2 S ⟨own', clr S.sto l, Ar.setAll S.T false (nums l), S.F ++ nums l, S.rt, S.vis⟩ := by
  have hst : Stay (fun i => S.own i = some .li ∨ S.own i = some .ar) w w2 := (hst1.mono (fun i _ e => .inl e)).trans hst2 (fun i _ e => .inr e)
  let own' : Nat → Option Who := fun b => if A' b then some .ar else S.own b
  have hnA : ∀ b x, S.own b = some x → x ≠ .ar → ¬ A' b := fun b x e h1 h2 => by
    rcases hA b h2 with h3 | h3
    · rw [h3] at e; injection e with e; exact h1 e.symm
    · have := (h.lab b x e).2; omega
  have o_keep : ∀ b x, S.own b = some x → x ≠ .ar → own' b = some x := fun b x e h1 => (if_neg (hnA b x e h1)).trans e
  have hz' : ∀ b x, S.own b = some x → x ≠ .ar → x ≠ .li → ¬ (S.own b = some .li ∨ S.own b = some .ar) := fun b x e h1 h2 h3 => by
    rcases h3 with h3 | h3
    · rw [h3] at e; injection e with e; exact h2 e.symm
    · rw [h3] at e; injection e with e; exact h1 e.symm
  have hlen : (Ar.setAll S.T false (nums l)).length = S.T.length := Ar.setAll_length _ _ _
  have hsto : ∀ j x, clr S.sto l j = some x → S.sto j = some x := fun j x e => by
    unfold clr at e
    split at e
    · cases e
    · exact e
  refine ⟨own', ⟨some g, a, c, fun b x e => ?_, o_keep _ _ h.ownt (fun h => by cases h), ?_, .inr ⟨g, rfl, ?_⟩, ?_, ?_, hsar, fun j => ?_, fun k n d e => ?_, fun k n b ll e => o_keep _ _ (h.bks k n b ll (hsto _ _ e)) (fun h => by cases h)⟩, ⟨hst.mono (fun i _ e => ?_), fun b hb => ?_⟩⟩
  · have e' : own' b = some x := e
    by_cases h1 : A' b
    · exact har.lt b h1
    · have e2 : own' b = S.own b := if_neg h1
      rw [e2] at e'
      exact ⟨(h.lab b x e').1, Nat.lt_of_lt_of_le (h.lab b x e').2 hst.size⟩
  · show w2.heap[t]? = some (.cells (trv _ a (Ar.setAll S.T false (nums l)).length c _ _) _ _)
    rw [hlen]
    exact hst.kept h.cells (hz' _ _ h.ownt (fun h => by cases h) (fun h => by cases h))
  · obtain ⟨h1, h2, a', c', a2, c2, h3, h4, h5, h6, h7⟩ := har
    refine ⟨if_pos h1, fun b hb => ?_, a', c', a2, c2, h3, h4, h5, fun b hb => if_pos (h6 b hb), fun b hb => if_pos (h7 b hb)⟩
    have e' : own' b = some .ar := hb
    by_cases h8 : A' b
    · exact h2 b h8
    · have e2 : own' b = S.own b := if_neg h8
      rw [e2] at e'
      exact ⟨(h.lab b _ e').1, Nat.lt_of_lt_of_le (h.lab b _ e').2 hst.size⟩
  · show w2.ownsRow base _ 1 (.slice a (Ar.setAll S.T false (nums l)).length c) (Ar.setAll S.T false (nums l)).length (ptrs (clr S.sto l) (Ar.setAll S.T false (nums l)).length)
    rw [hlen]
    exact ownsRow_stay hrow hst2 (fun k hk e => by rw [h.rowl k hk] at e; cases e)
  · show ∀ b, (Value.slice a (Ar.setAll S.T false (nums l)).length c).ownBlock = some b → own' b = some .li
    rw [hlen]
    exact fun b hb => o_keep _ _ (h.rowl b hb) (fun h => by cases h)
  · show clr S.sto l j = none ↔ (Ar.setAll S.T false (nums l)).getD j false = false
    rw [Ar.getD_setAll]
    unfold clr
    by_cases hj : j ∈ l
    · have hjT : j < S.T.length := by
        cases e : S.sto j with
        | none => exact absurd e (hl j hj)
        | some x => exact h.inT e
      rw [if_pos hj, if_pos ⟨⟨(j : Int), List.mem_map.2 ⟨j, hj, rfl⟩, Int.toNat_natCast j⟩, hjT⟩]
      simp
    · rw [if_neg hj, if_neg]
      · exact h.dom j
      · rintro ⟨⟨k, hk, e⟩, _⟩
        obtain ⟨i, hi, rfl⟩ := List.mem_map.1 hk
        rw [Int.toNat_natCast] at e
        exact hj (e ▸ hi)
  · obtain ⟨h1, h2⟩ := h.nds k n d (hsto _ _ e)
    exact ⟨o_keep _ _ h1 (fun h => by cases h), h2.stay hst (hz' _ _ h1 (fun h => by cases h) (fun h => by cases h)) (fun b ll e2 => hz' _ _ (h.bks k n b ll (e2 ▸ hsto _ _ e)) (fun h => by cases h) (fun h => by cases h))⟩
  · show S.own i ≠ none
    rcases e with e | e <;> (rw [e]; exact fun h => by cases h)
  · have hb' : own' b ≠ none := hb
    by_cases h1 : A' b
    · rcases hA b h1 with h2 | h2
      · exact .inl (by rw [h2]; exact fun h => by cases h)
      · exact .inr h2
    · have e2 : own' b = S.own b := if_neg h1
      rw [e2] at hb'
      exact .inl hb'
/-- What drop does. -/
structure Dropped (S S' : St) (l : List Nat) : Prop where
  sto : S'.sto = clr S.sto l
  rt : S'.rt = S.rt
  vis : S'.vis = S.vis
  T : S'.T.length = S.T.length
  live : S'.live + l.length = S.live
set_option maxRecDepth 100000 in
set_option maxHeartbeats 1600000 in
theorem tdrop {base t : Nat} {S : St} (b : Option Addr) (cap : Nat) (l : List Nat) (w : World) (h : TM base w t S) (hn : l.Nodup) (hl : ∀ k ∈ l, S.sto k ≠ none) (hne : 0 < l.length) (hrd : RdL w b cap (nums l)) (hb : ∀ ad, b = some ad → S.own ad.block = none) :
    Calls Tryd.prog 40 #[.pointer (some ⟨t, 0, none⟩), .slice b l.length cap] w fun e w' => ∃ S', e = .returned (.tuple #[]) ∧ TM base w' t S' ∧ Mv w w' S S' ∧ Dropped S S' l := by
  obtain ⟨g, a, c, hx⟩ := h
  have hinT : ∀ k ∈ l, k < S.T.length := fun k hk => by
    cases e : S.sto k with
    | none => exact absurd e (hl k hk)
    | some x => exact hx.inT e
  obtain ⟨g, rfl, har⟩ : ∃ g', g = some g' ∧ ArM base 84 (fun b => S.own b = some .ar) w g' 268435456 S.T S.F := by
    rcases hx.ar with h | h
    · have hT := h.2.1
      obtain ⟨k, hk⟩ := List.exists_mem_of_length_pos hne
      have := hinT k hk
      rw [hT] at this
      exact absurd this (Nat.not_lt_zero _)
    · exact h
  have hgood : Ar.good S.T (nums l) = true := good_of l S.T hn (fun k hk => by
    cases e : S.T.getD k false with
    | true => rfl
    | false => exact absurd ((hx.dom k).2 e) (hl k hk))
  have hfr : Ar.fr S.T S.F (nums l) = (0, Ar.setAll S.T false (nums l), S.F ++ nums l) := if_pos hgood
  have hsar := hx.sar.freed hgood
  have hglen := hsar.len
  have HX := Lib.hid hx
  have HIN := Lib.hid hinT
  have HRD := Lib.hid hrd
  have HB := Lib.hid hb
  have HFR := Lib.hid hfr
  have HSAR := Lib.hid hsar
  have HAR := Lib.hid har
  have HNL := Lib.hid (And.intro hn hl)
  obtain ⟨k0, hk0⟩ := List.exists_mem_of_length_pos hne
  obtain ⟨lb, rfl, hlc, hcm, _, _, hown⟩ := hx.list (hinT k0 hk0)
  have hkk := room_int hlc hcm
  have hcap : l.length ≤ cap ∧ cap ≤ maxLen := ⟨by have := hrd.1; rw [nums_len] at this; exact this, hrd.2.1⟩
  have hcc := room_int hcap.1 hcap.2
  have hown' : S.own lb = some .li := hown
  have hlt : t < w.heap.size := (hx.lab _ _ hx.ownt).2
  have hlbt : ¬ lb = t := fun e => by rw [e, hx.ownt] at hown; cases hown
  have hllb : lb < w.heap.size := (hx.lab _ _ hown).2
  have hlenS : (nums l).length = l.length := nums_len l
  obtain ⟨c0', c1', _, _, _, _, _, _⟩ := cellsT hx.cells
  have c0 : w.cell? ⟨t, 0, none⟩ = some (.pointer (some ⟨g, 0, none⟩)) := c0'
  have c1 := c1'
  have HROW := Lib.hid hx.row
  clear hx hrd hb hfr hsar har hn hl hk0 hown c0' c1' hgood hcap hlc hcm hglen
  go_enter Tryd.func40, Tryd.ntmps40
  go_wp2_with fail
  go_loopw [5, 8] (fun _ i wr => ∃ m : Nat, m ≤ l.length ∧ i = .int .i64 m ∧ Stay (fun i => i = lb) w wr ∧ wr.ownsRow base 63 1 (.slice (some ⟨lb, 0, none⟩) S.T.length c) S.T.length (ptrs (clr S.sto (l.take m)) S.T.length)) (fun _ i _ => l.length - (intOf i).toNat)
  case atStart => exact ⟨0, Nat.zero_le _, rfl, Stay.refl _ _, by rw [List.take_zero, clr_nil]; exact HROW.out⟩
  case round =>
    obtain ⟨m, hm, rfl, hst, hrow⟩ := hrel
    have d1 := (hst.cell (p := ⟨t, 1, none⟩) hlt (fun e => hlbt e.symm)).trans c1
    have d0 := (hst.cell (p := ⟨t, 0, none⟩) hlt (fun e => hlbt e.symm)).trans c0
    by_cases hlt2 : m < l.length
    · obtain ⟨b0, off, rfl, hbb, hc⟩ := HRD.out.2.2.2 (by rw [hlenS]; omega)
      have hb0 : ¬ b0 = lb := fun e => by have := HB.out _ rfl; rw [show (⟨b0, off, none⟩ : Addr).block = b0 from rfl, e, hown'] at this; cases this
      have hz := (hst.cell (p := ⟨b0, off + m, none⟩) hbb hb0).trans (hc m (by rw [hlenS]; exact hlt2))
      rw [nums_getD] at hz
      obtain ⟨k, hk⟩ : ∃ k, l.getD m 0 = k := ⟨_, rfl⟩
      have hkT : k < S.T.length := HIN.out k (by rw [← hk, List.getD_eq_getElem?_getD, List.getElem?_eq_getElem hlt2]; exact List.getElem_mem _)
      have HCS := Lib.hid (clr_succ S.sto l m hlt2)
      rw [hk] at hz HCS
      obtain ⟨_, e, _, _, hcell, hfz⟩ := ownP_open hrow (by omega)
      injection e with e
      injection e with e
      subst e
      have e8 := (hcell k hkT).trans (ptrs_at _ hkT)
      have f8 := hfz k
      have h1' : (m : Int) < l.length := by omega
      have hmc : (m : Int) ≤ cap := by omega
      have hkT' : (k : Int) < S.T.length := by omega
      have HST := Lib.hid hst
      have HR := Lib.hid hrow
      clear hc hst hrow hcell hfz hk
      go_wp2_with fail
      go_roundw
      case rel => exact ⟨m + 1, by omega, by go_num, HST.out.setCell (p := ⟨lb, k, none⟩) (.inr rfl) _, by rw [HCS.out, ← ptrs_none hkT]; exact ownP_stored HR.out⟩
      case measure => simp [intOf]; omega
    · obtain rfl : m = l.length := by omega
      rw [List.take_length] at hrow
      have h1' : ¬ ((l.length : Int) < l.length) := by omega
      have hst1 : Stay (fun i => S.own i = some .li) w wr := hst.mono (fun i _ e => by subst e; exact hown')
      have har1 := HAR.out.stay hst1 (fun k hk e => by rw [hk] at e; cases e)
      have hrd1 := HRD.out.stay hst (fun _ ad e _ e2 => by have := HB.out _ e; rw [e2, hown'] at this; cases this)
      have key := afree b cap (nums l) wr har1 HX.out.sar hrd1 (fun _ ad e _ e2 => by have := HB.out _ e; rw [this] at e2; cases e2)
      rw [HFR.out, hlenS] at key
      have HST := Lib.hid hst1
      have HR := Lib.hid hrow
      clear hst hrow har1 hrd1 hst1
      go_wp2_with (first | (go_at_call 60; (with_reducible refine key.mono ?_); rintro e w2 ⟨rfl, A', har2, hst2, hA2⟩))
      go_end0
      obtain ⟨own', hT, hV⟩ := HX.out.drop HNL.out.1 HNL.out.2 HST.out HR.out hst2 har2 (fun b hb => (hA2 b hb).imp (fun h => h) (fun h => Nat.le_trans HST.out.size h)) HSAR.out
      refine ⟨_, rfl, hT, hV, ⟨rfl, rfl, rfl, Ar.setAll_length _ _ _, ?_⟩⟩
      have h1 := HSAR.out.len
      have h2 : (Ar.setAll S.T false (nums l)).length = S.T.length := Ar.setAll_length _ _ _
      rw [h2, List.length_append, hlenS] at h1
      show (Ar.setAll S.T false (nums l)).length - (S.F ++ nums l).length + l.length = S.T.length - S.F.length
      rw [h2, List.length_append, hlenS]
      omega
end Go.Proofs.YtfbhcbcpeocmcaaDoor
