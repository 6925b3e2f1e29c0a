/- build: contracts of the walk. -/
import Derived.Test.YtfbhcbcpeocmcaaDoorTmI
namespace Go.Proofs.YtfbhcbcpeocmcaaDoor
open Go Go.RowKit Go.ChangeAt Tr

theorem RdB.stays {w w' : World} {v : Value} {l : List Bool} {Z : Nat → Prop} (h : RdB w v l) (hb : Stay Z w w') (hz : ∀ b, v.ownBlock = some b → ¬ Z b) : RdB w' v l := by
  rcases h with h | ⟨b, off, cap, hv, h0, h1, h2, h3⟩
  · exact .inl h
  · exact .inr ⟨b, off, cap, hv, Nat.lt_of_lt_of_le h0 hb.size, h1, h2, fun i hi => (hb.cell (p := ⟨b, off + i, none⟩) h0 (hz b (by rw [hv]; rfl))).trans (h3 i hi)⟩
/-- A tree was laid into a store beside what was there. -/
structure Built (S S' : St) (a : T) : Prop where
  is : Is S'.sto a
  nd : a.ks.Nodup
  new : ∀ k ∈ a.ks, S.sto k = none
  old : ∀ k, S.sto k ≠ none → S'.sto k = S.sto k
  rt : S'.rt = S.rt
  vis : S'.vis = S.vis
  live : S'.live = S.live + a.ks.length
  made : S'.T.length = max S.T.length S'.live
/-- What build makes of a list. -/
structure Even (l : List Bool) (a : T) : Prop where
  bits : a.bits = l
  bal : a.bal
  ok : a.ok
  full : 64 ≤ l.length → a.full
  lvs : a.lvs ≤ l.length
  hi : l.length ≤ 128 * 2 ^ a.ht
  lo : 0 < a.ht → 128 * 2 ^ (a.ht - 1) < l.length
theorem Even.node {l : List Bool} {a b : T} {h k : Nat} (hl : 128 < l.length) (hh : h = l.length / 2) (ha : Even (l.take h) a) (hb : Even (l.drop h) b) : Even l (.node k a b) := by
  have e1 : (l.take h).length = h := by rw [List.length_take]; omega
  have e2 : (l.drop h).length = l.length - h := List.length_drop
  have a1 := ha.hi
  have a2 := ha.lo
  have b1 := hb.hi
  have b2 := hb.lo
  rw [e1] at a1 a2
  rw [e2] at b1 b2
  have p : ∀ {x y : Nat}, x ≤ y → 2 ^ x ≤ 2 ^ y := fun h => Nat.pow_le_pow_right (by decide) h
  have f1 : b.ht ≤ a.ht + 1 := by
    apply Nat.le_of_not_lt
    intro q
    have q1 := b2 (by omega)
    have q2 : 2 ^ (a.ht + 1) ≤ 2 ^ (b.ht - 1) := p (by omega)
    rw [Nat.pow_succ] at q2
    have q3 : 0 < 2 ^ a.ht := Nat.two_pow_pos _
    omega
  have f2 : a.ht ≤ b.ht := by
    apply Nat.le_of_not_lt
    intro q
    have q1 := a2 (by omega)
    have q2 : 2 ^ b.ht ≤ 2 ^ (a.ht - 1) := p (by omega)
    omega
  have eh : (T.node k a b).ht = b.ht + 1 := by show 1 + max a.ht b.ht = _; omega
  refine ⟨?_, ⟨ha.bal, hb.bal, by omega, f1⟩, ⟨ha.full (by omega), hb.full (by omega)⟩, fun _ => ⟨ha.full (by omega), hb.full (by omega)⟩, ?_, ?_, fun _ => ?_⟩
  · show a.bits ++ b.bits = l
    rw [ha.bits, hb.bits, List.take_append_drop]
  · show a.lvs + b.lvs ≤ _
    have := ha.lvs
    have := hb.lvs
    omega
  · rw [eh, Nat.pow_succ]; omega
  · rw [eh, Nat.add_sub_cancel]
    by_cases hz : b.ht = 0
    · rw [hz]; omega
    · have q := b2 (by omega)
      have e3 : 2 ^ b.ht = 2 * 2 ^ (b.ht - 1) := by rw [← Nat.pow_succ', show (b.ht - 1).succ = b.ht by omega]
      omega
theorem Built.node {S S1 S2 S3 : St} {a b : T} {k n : Nat} (h1 : Built S S1 a) (h2 : Built S1 S2 b) (hk : S2.sto k = none) (hs : S3.sto = upd S2.sto k (some (n, .pr a.lk b.lk))) (hr : S3.rt = S2.rt) (hv : S3.vis = S2.vis) (hl : S3.live = S2.live + 1) (hm : S3.T.length = max S2.T.length (S2.live + 1)) : Built S S3 (.node k a b) := by
  have q1 : ∀ j ∈ a.ks, S2.sto j = S1.sto j := fun j hj => h2.old j (h1.is.dom j hj)
  have k1 : k ∉ a.ks := fun hj => by have := h1.is.dom k hj; rw [← q1 k hj, hk] at this; exact this rfl
  have k2 : k ∉ b.ks := fun hj => h2.is.dom k hj hk
  have ha := h1.live
  have hb := h2.live
  have ma := h1.made
  have mb := h2.made
  refine ⟨⟨⟨n, by rw [hs, upd_at]⟩, ?_, ?_⟩, ?_, fun j hj => ?_, fun j hj => ?_, hr.trans (h2.rt.trans h1.rt), hv.trans (h2.vis.trans h1.vis), ?_, ?_⟩
  · exact h1.is.congr (fun j hj => by rw [hs, upd_ne S2.sto (k := k) (j := j) _ (fun e => k1 (e ▸ hj))]; exact q1 j hj)
  · exact h2.is.congr (fun j hj => by rw [hs, upd_ne S2.sto (k := k) (j := j) _ (fun e => k2 (e ▸ hj))])
  · show (k :: (a.ks ++ b.ks)).Nodup
    refine List.nodup_cons.2 ⟨fun h => by rcases List.mem_append.1 h with h | h; exact k1 h; exact k2 h, List.nodup_append.2 ⟨h1.nd, h2.nd, fun x hx y hy e => ?_⟩⟩
    subst e
    exact h1.is.dom x hx (h2.new x hy)
  · cases e : S.sto j with
    | none => rfl
    | some x =>
      have e1 : S.sto j ≠ none := by rw [e]; exact fun h => by cases h
      have e2 := h1.old j e1
      have e3 : S1.sto j ≠ none := by rw [e2]; exact e1
      have e4 := h2.old j e3
      rcases List.mem_cons.1 hj with rfl | hj
      · rw [hk] at e4; exact absurd e4.symm e3
      · rcases List.mem_append.1 hj with hj | hj
        · exact absurd (h1.new j hj) e1
        · exact absurd (h2.new j hj) e3
  · have e2 := h1.old j hj
    have e3 : S1.sto j ≠ none := by rw [e2]; exact hj
    have e4 := h2.old j e3
    have e5 : j ≠ k := fun e => by subst e; rw [hk] at e4; exact e3 e4.symm
    rw [hs, upd_ne _ _ e5, e4, e2]
  · show S3.live = S.live + (k :: (a.ks ++ b.ks)).length
    rw [List.length_cons, List.length_append]; omega
  · omega
def BuildIH (base t n : Nat) : Prop :=
  ∀ (w : World) (S : St) (l : List Bool) (b off cap : Nat), l.length ≤ n → TM base w t S → RdB w (.slice (some ⟨b, off, none⟩) l.length cap) l → S.own b = none → 0 < l.length → S.live + 2 * l.length ≤ 268435456 →
    Calls Tryd.prog 33 #[.pointer (some ⟨t, 0, none⟩), .slice (some ⟨b, off, none⟩) l.length cap] w fun e w' => ∃ a S', e = .returned (lkv a.lk) ∧ TM base w' t S' ∧ Mv w w' S S' ∧ Built S S' a ∧ Even l a
theorem RdB.form {w : World} {b off n cap : Nat} {l : List Bool} (h : RdB w (.slice (some ⟨b, off, none⟩) n cap) l) : n = l.length ∧ b < w.heap.size ∧ l.length ≤ cap ∧ cap ≤ maxLen ∧ ∀ i, i < l.length → w.cell? ⟨b, off + i, none⟩ = some (.bool (l.getD i false)) := by
  rcases h with ⟨h, _⟩ | ⟨b', off', cap', hv, h0, h1, h2, h3⟩
  · cases h
  · simp only [Value.slice.injEq, Option.some.injEq, Addr.mk.injEq, and_true] at hv
    obtain ⟨⟨rfl, rfl⟩, rfl, rfl⟩ := hv
    exact ⟨rfl, h0, h1, h2, h3⟩
set_option maxHeartbeats 3200000 in
theorem tbuild_leaf {base t b off cap : Nat} {S : St} {l : List Bool} (w : World) (h : TM base w t S) (hr : RdB w (.slice (some ⟨b, off, none⟩) l.length cap) l) (hpos : 0 < l.length) (hlen : l.length ≤ 128) (hl : S.live + 2 * l.length ≤ 268435456) :
    Calls Tryd.prog 33 #[.pointer (some ⟨t, 0, none⟩), .slice (some ⟨b, off, none⟩) l.length cap] w fun e w' => ∃ a S', e = .returned (lkv a.lk) ∧ TM base w' t S' ∧ Mv w w' S S' ∧ Built S S' a ∧ Even l a := by
  have hb0 : Below w.heap.size w (w.alloc ZL) := Below.allocs (Below.refl _ _) _
  have hr0 : RdB (w.alloc ZL) _ l := hr.below hb0
  have key := bnew_rd _ hr0 hlen
  have hli : (l.length : Int) ≤ 128 := by omega
  have hbase := h.lt
  have H := Lib.hid h
  have H0 := Lib.hid (h.below hb0)
  clear h hr hr0
  go_enter Tryd.func33, Tryd.ntmps33
  go_wp2_with fail
  (with_reducible refine key.mono ?_); rintro e w1 ⟨g, rfl, hg, hi, hb1⟩
  have hz1 := hb1.size
  have hsz : (w.alloc ZL).heap.size = w.heap.size + 1 := by simp
  have hT1 := H0.out.below hb1
  have hi' := hi.below (Below.allocs (Below.refl _ w1) (NZ (some ⟨g, 0, none⟩))) hi.lt
  have hgl := hi.lt
  have hT2 := hT1.below (Below.allocs (Below.refl _ w1) (NZ (some ⟨g, 0, none⟩)))
  have hLone : Lone base (w1.alloc (NZ (some ⟨g, 0, none⟩))) S w1.heap.size (.lf g l) := ⟨⟨⟨⟨0, 0, 0, 0⟩, ⟨0, 0, 0, 0⟩, alloc_of⟩, hi'⟩, hT1.new (Nat.le_refl _), by omega, fun b l e => by injection e with e _; subst e; exact ⟨H0.out.new hg, by omega, by simp; omega⟩, by simp⟩
  have keyP := tput _ hT2 (by omega) hLone
  clear key hi hi' hLone hT1 hT2
  go_wp2_with fail
  (with_reducible refine keyP.mono ?_); rintro e w3 ⟨k, S3, rfl, hP⟩
  obtain ⟨a1, a2, a3, a4, a5, a6, a7, a8, a9⟩ := id hP
  have hs3 : S3.sto k = some (w1.heap.size, .lf g l) := by rw [a3]; exact upd_at _ _ _
  have keyK := tlink_lf w3 a1 hs3
  unfold lkv at keyK
  have hV3 : Mv (w.alloc ZL) w3 S S3 := by
    refine ⟨(Stay.of_below (S := fun b => S.own b ≠ none) (hb1.trans ((Below.allocs (Below.refl _ w1) (NZ (some ⟨g, 0, none⟩))).mono hz1))).trans a9 (fun _ _ h => h), fun b hb => ?_⟩
    rcases a8 b hb with h | h | h | ⟨_, h⟩
    · exact .inl h
    · right; simp at h; omega
    · right; omega
    · injection h with h _; right; omega
  have HP := Lib.hid (And.intro a2 (And.intro a3 (And.intro a4 (And.intro a5 (And.intro a6 a7)))))
  have HT3 := Lib.hid a1
  have HV3 := Lib.hid hV3
  clear hP a1 a2 a3 a4 a5 a6 a7 a8 a9 hs3 hV3 keyP
  go_wp2_with fail
  (with_reducible refine keyK.mono ?_); rintro e w5 ⟨rfl, hb5⟩
  have hT5 := HT3.out.below hb5
  have hV5 := HV3.out.below hb5
  obtain ⟨r0, r1, r2, r3, q0, q1, q2, q3⟩ := Mv.res H.out hV5
  have fin := Lib.hid (Mv.done H.out hT5 hV5 (.int .i64 (lkl k l).num) (.int .i64 (lkl k l).len) (.int .i64 (lkl k l).ones) (.int .i64 (lkl k l).ht))
  clear hT5 hV5 hb5 keyK
  go_wp2_with fail
  try simp only [Exit.inBlock, Exit.then]
  refine bodyPost_ret (v := lkv (lkl k l)) (by simp [results, Tryd.results33, go_sem, lkv, *]) rfl ⟨.leaf k l, S3, rfl, fin.out.1, fin.out.2, ?_, ?_⟩
  · obtain ⟨a2, a3, a4, a5, a6, a7⟩ := HP.out
    refine ⟨⟨w1.heap.size, g, by rw [a3]; exact upd_at _ _ _⟩, List.nodup_cons.2 ⟨List.not_mem_nil, List.nodup_nil⟩, fun j hj => by rw [List.mem_singleton.1 hj]; exact a2, fun j hj => ?_, a4, a5, a6, by rw [a6]; exact a7⟩
    rw [a3, upd_ne _ _ (fun e => by subst e; exact hj a2)]
  · exact ⟨rfl, trivial, hlen, fun f => ⟨by omega, hlen⟩, hpos, by show l.length ≤ 128 * 2 ^ 0; omega, fun f => absurd f (Nat.lt_irrefl _)⟩
/-- The second half's call. -/
theorem build_next {base t b off cap n hf : Nat} {S S1 : St} {l : List Bool} {a1 : T} {w0 w2 : World} (ih : BuildIH base t n) (hh : 128 < l.length ∧ S.live + 2 * l.length ≤ 268435456 ∧ l.length ≤ n + 1 ∧ l.length ≤ cap) (hq : hf = l.length / 2) (he : (l.drop hf).length = l.length - hf)
    (hr : RdB w0 (.slice (some ⟨b, off + hf, none⟩) (l.drop hf).length (cap - hf)) (l.drop hf)) (hb : S.own b = none) (hT1 : TM base w2 t S1) (hV1 : Mv w0 w2 S S1) (hB1 : Built S S1 a1) (hE1 : Even (l.take hf) a1) :
    Calls Tryd.prog 33 #[.pointer (some ⟨t, 0, none⟩), .slice (some ⟨b, off + hf, none⟩) (l.length - hf) (cap - hf)] w2 fun e w' => ∃ a S', e = .returned (lkv a.lk) ∧ TM base w' t S' ∧ Mv w2 w' S1 S' ∧ Built S1 S' a ∧ Even (l.drop hf) a := by
  have hbl := hr.form.2.1
  have e1 : (l.take hf).length = hf := by rw [List.length_take]; omega
  have h1 := hE1.lvs
  have h2 := a1.ks_len
  have h3 := hB1.live
  have key := ih w2 S1 (l.drop hf) b (off + hf) (cap - hf) (by omega) hT1 (hr.stays hV1.st (fun q e e2 => by injection e with e; subst e; exact e2 hb)) (hV1.outer hbl hb) (by omega) (by omega)
  rw [he] at key
  exact key
abbrev NP (A B : Lk) : Obj := Obj.cells #[.pointer none, .int .i64 A.num, .int .i64 A.len, .int .i64 A.ones, .int .i64 A.ht, .int .i64 B.num, .int .i64 B.len, .int .i64 B.ones, .int .i64 B.ht] 74
theorem build_put {base t cap n hf : Nat} {S S1 S2 : St} {l : List Bool} {a1 a2 : T} {w3 : World} (hh : 128 < l.length ∧ S.live + 2 * l.length ≤ 268435456 ∧ l.length ≤ n + 1 ∧ l.length ≤ cap) (hq : hf = l.length / 2) (he : (l.drop hf).length = l.length - hf)
    (hB1 : Built S S1 a1) (hE1 : Even (l.take hf) a1) (hT2 : TM base w3 t S2) (hB2 : Built S1 S2 a2) (hE2 : Even (l.drop hf) a2) :
    Calls Tryd.prog 54 #[.pointer (some ⟨t, 0, none⟩), .pointer (some ⟨w3.heap.size, 0, none⟩)] (w3.alloc (NP a1.lk a2.lk)) fun e w' => ∃ (k : Nat) (S' : St), e = .returned (.int .i64 k) ∧ Putted base (w3.alloc (NP a1.lk a2.lk)) w' t w3.heap.size (.pr a1.lk a2.lk) S2 S' k := by
  have e1 : (l.take hf).length = hf := by rw [List.length_take]; omega
  have h1 := hE1.lvs
  have h2 := a1.ks_len
  have h3 := hB1.live
  have h4 := hE2.lvs
  have h5 := a2.ks_len
  have h6 := hB2.live
  have hbase := hT2.lt
  exact tput _ (hT2.below (Below.allocs (Below.refl _ _) _)) (by omega) ⟨alloc_of, hT2.new (Nat.le_refl _), by omega, (fun b l e => by cases e), by simp⟩
theorem build_link {base t cap n hf nb k : Nat} {S S2 S3 : St} {l : List Bool} {a1 a2 : T} {w3 w4 : World} (hh : 128 < l.length ∧ S.live + 2 * l.length ≤ 268435456 ∧ l.length ≤ n + 1 ∧ l.length ≤ cap) (hq : hf = l.length / 2)
    (hE1 : Even (l.take hf) a1) (hE2 : Even (l.drop hf) a2) (hP : Putted base w3 w4 t nb (.pr a1.lk a2.lk) S2 S3 k) :
    Calls Tryd.prog 53 #[.pointer (some ⟨t, 0, none⟩), .int .i64 k] w4 fun e w' => e = .returned (lkv (mk k a1.lk a2.lk)) ∧ Below w4.heap.size w4 w' := by
  obtain ⟨b1, b2, b3, _⟩ := hP
  have hs : S3.sto k = some (nb, .pr a1.lk a2.lk) := by rw [b3]; exact upd_at _ _ _
  have e1 : (l.take hf).length = hf := by rw [List.length_take]; omega
  have e2 : (l.drop hf).length = l.length - hf := List.length_drop
  have g1 : a1.lk.len = hf := by rw [T.lk_len, hE1.bits, e1]
  have g2 : a2.lk.len = l.length - hf := by rw [T.lk_len, hE2.bits, e2]
  have g3 := T.full.ones (t := a1)
  have g4 := T.full.ones (t := a2)
  have g5 := a1.ht_le
  have g6 := a2.ht_le
  have g7 := hE1.lvs
  have g8 := hE2.lvs
  exact tlink_pr w4 b1 hs (by omega) (by omega) (by rw [T.lk_ht]; omega) (by rw [T.lk_ht]; omega)
theorem build_end {base t k : Nat} {S S1 S2 S3 : St} {A B : Lk} {w w2 w3 w4 w5 : World} (h : TM base w t S) (hV1 : Mv (w.alloc ZL).drew w2 S S1) (hV2 : Mv w2 w3 S1 S2) (hP : Putted base (w3.alloc (NP A B)) w4 t w3.heap.size (.pr A B) S2 S3 k) (hb5 : Below w4.heap.size w4 w5) :
    Res w5 w.heap.size ∧ ∀ a b c d, TM base ((((w5.setCell ⟨w.heap.size, 0, none⟩ a).setCell ⟨w.heap.size, 1, none⟩ b).setCell ⟨w.heap.size, 2, none⟩ c).setCell ⟨w.heap.size, 3, none⟩ d) t S3 ∧ Mv w ((((w5.setCell ⟨w.heap.size, 0, none⟩ a).setCell ⟨w.heap.size, 1, none⟩ b).setCell ⟨w.heap.size, 2, none⟩ c).setCell ⟨w.heap.size, 3, none⟩ d) S S3 := by
  obtain ⟨b1, b2, b3, b4, b5, b6, b7, b8, b9⟩ := hP
  have hV0 : Mv (w.alloc ZL) (w.alloc ZL).drew S S := Mv.of_below (Below.drews (Below.refl _ _))
  have hV3 := (((hV0.trans hV1).trans hV2).below (Below.allocs (Below.refl _ _) (NP A B)))
  have hz3 := hV3.st.size
  have hz2 := ((hV0.trans hV1).trans hV2).st.size
  have hV4 : Mv (w.alloc ZL) w4 S S3 := by
    refine ⟨hV3.st.trans b9 (fun i hi hs => ?_), fun b hb => ?_⟩
    · rcases hV3.ne i hs with h | h
      · exact h
      · omega
    · rcases b8 b hb with h | h | h | ⟨_, h⟩
      · exact hV3.ne b h
      · exact .inr (Nat.le_trans hz3 h)
      · exact .inr (h ▸ hz2)
      · cases h
  have hV5 := hV4.below hb5
  exact ⟨Mv.res h hV5, fun a b c d => Mv.done h (b1.below hb5) hV5 a b c d⟩
set_option maxRecDepth 100000 in
set_option maxHeartbeats 6400000 in
theorem tbuild_node {base t b off cap n : Nat} {S : St} {l : List Bool} (w : World) (ih : BuildIH base t n) (hln : l.length ≤ n + 1) (h : TM base w t S) (hr : RdB w (.slice (some ⟨b, off, none⟩) l.length cap) l) (hb : S.own b = none) (hlen : 128 < l.length) (hl : S.live + 2 * l.length ≤ 268435456) :
    Calls Tryd.prog 33 #[.pointer (some ⟨t, 0, none⟩), .slice (some ⟨b, off, none⟩) l.length cap] w fun e w' => ∃ a S', e = .returned (lkv a.lk) ∧ TM base w' t S' ∧ Mv w w' S S' ∧ Built S S' a ∧ Even l a := by
  have hb0 : Below w.heap.size w (w.alloc ZL).drew := Below.drews (Below.allocs (Below.refl _ _) _)
  have h0 := h.below hb0
  have hr0 : RdB (w.alloc ZL).drew _ l := hr.below hb0
  obtain ⟨_, hbl, hcap, hmax, hcell⟩ := hr0.form
  obtain ⟨hf, hq⟩ : ∃ hf, hf = l.length / 2 := ⟨_, rfl⟩
  have e1 : (l.take hf).length = hf := by rw [List.length_take]; omega
  have e2 : (l.drop hf).length = l.length - hf := List.length_drop
  have hR1 : RdB (w.alloc ZL).drew (.slice (some ⟨b, off, none⟩) (l.take hf).length cap) (l.take hf) := .inr ⟨b, off, cap, rfl, hbl, by omega, hmax, fun i hi => by
    rw [hcell i (by omega), List.getD_eq_getElem?_getD, List.getD_eq_getElem?_getD, List.getElem?_take_of_lt (by omega)]⟩
  have hR2 : RdB (w.alloc ZL).drew (.slice (some ⟨b, off + hf, none⟩) (l.drop hf).length (cap - hf)) (l.drop hf) := .inr ⟨b, off + hf, cap - hf, rfl, hbl, by omega, by unfold maxLen at hmax ⊢; omega, fun i hi => by
    rw [Nat.add_assoc, hcell (hf + i) (by omega), List.getD_eq_getElem?_getD, List.getD_eq_getElem?_getD, List.getElem?_drop]⟩
  have key1 := ih _ S (l.take hf) b off cap (by omega) h0 hR1 hb (by omega) (by omega)
  rw [e1] at key1
  have hqi : (l.length : Int) / 2 = hf := by omega
  have hli : ¬ (l.length : Int) ≤ 128 := by omega
  have hfl : (hf : Int) ≤ l.length := by omega
  have hlc : (l.length : Int) ≤ cap := by omega
  have hfc : (hf : Int) ≤ cap := by omega
  have hcm : (cap : Int) ≤ 9223372036854775807 := by unfold maxLen at hmax; omega
  have hne : ¬ cap = hf := by omega
  have hsz : (w.alloc ZL).heap.size = w.heap.size + 1 := by simp
  have hszd : (w.alloc ZL).drew.heap.size = w.heap.size + 1 := hsz
  unfold lkv at key1
  have H := Lib.hid h
  have H0 := Lib.hid h0
  have HR2 := Lib.hid hR2
  have HQ := Lib.hid hq
  have HE2 := Lib.hid e2
  have HLEN := Lib.hid (And.intro hlen (And.intro hl (And.intro hln hcap)))
  clear h h0 hr hr0 hR1 hR2 hq e1 e2 hcell hmax hlen hl hln hcap
  go_enter Tryd.func33, Tryd.ntmps33
  go_wp2_with fail
  go_region_law (first
    | (go_simp; (go_at_call 33; (with_reducible refine key1.mono ?_); rintro e w2 ⟨a1, S1, rfl, hT1, hV1, hB1, hE1⟩; (have key2 := build_next ih HLEN.out HQ.out HE2.out HR2.out hb hT1 hV1 hB1 hE1); unfold lkv at key2; (have HT1 := Lib.hid hT1); (have HV1 := Lib.hid hV1); (have HB1 := Lib.hid hB1); (have HE1 := Lib.hid hE1); clear hT1 hV1 hB1 hE1))
    | (go_simp; (go_at_call 33; (with_reducible refine key2.mono ?_); rintro e w3 ⟨a2, S2, rfl, hT2, hV2, hB2, hE2⟩; (have keyP := build_put HLEN.out HQ.out HE2.out HB1.out HE1.out hT2 hB2 hE2); (have HT2 := Lib.hid hT2); (have HV2 := Lib.hid hV2); (have HB2 := Lib.hid hB2); (have HE2' := Lib.hid hE2); clear hT2 hV2 hB2 hE2))
    | (go_simp; (go_at_call 54; (with_reducible refine keyP.mono ?_); rintro e w4 ⟨k, S3, rfl, hP⟩; (have keyK := build_link HLEN.out HQ.out HE1.out HE2'.out hP); unfold lkv at keyK; (have HP := Lib.hid hP); clear hP))
    | (go_simp; (go_at_call 53; (with_reducible refine keyK.mono ?_); rintro e w5 ⟨rfl, hb5⟩; (have hE5 := build_end H.out HV1.out HV2.out HP.out hb5); (obtain ⟨r0, r1, r2, r3, q0, q1, q2, q3⟩ := hE5.1); (have fin := Lib.hid hE5.2); clear hb5 hE5)))
  all_goals
    go_wp2_with fail
    try simp only [Exit.inBlock, Exit.then]
    refine bodyPost_ret (v := lkv (mk k a1.lk a2.lk)) (by simp [results, Tryd.results33, go_sem, lkv, *]) rfl ⟨.node k a1 a2, S3, rfl, (fin.out _ _ _ _).1, (fin.out _ _ _ _).2, ?_, ?_⟩
    · obtain ⟨_, a2', a3, a4, a5, a6, a7, _⟩ := HP.out
      exact HB1.out.node HB2.out a2' a3 a4 a5 a6 a7
    · exact Even.node HLEN.out.1 HQ.out HE1.out HE2'.out
theorem tbuild (base t : Nat) : ∀ n, BuildIH base t n := by
  intro n
  induction n with
  | zero => intro w S l b off cap h1 _ _ _ h2 _; omega
  | succ n ih =>
    intro w S l b off cap h1 h2 h3 h4 h5 h6
    by_cases hl : l.length ≤ 128
    · exact tbuild_leaf w h2 h3 h5 hl h6
    · exact tbuild_node w ih h1 h2 h3 h4 (by omega) h6
end Go.Proofs.YtfbhcbcpeocmcaaDoor
