/- TreePlays: the list beside the tree, same, the steps that came in. -/
import Derived.Test.YtfbhcbcpeocmcaaDoorTlD
import Derived.Deep.Slices
namespace Go.Proofs.YtfbhcbcpeocmcaaDoor
open Go Go.ChangeShapes Go.WideShapes Go.ChangeAt Go.RowKit Tr

theorem rgets_to {l : List Bool} {v : Value} (k : Int) (b : Bool) (e0 : Int) (w : World) (h : RdB w v l) (hb : Blk.getB l k = b) (he : Blk.getE l k = e0) :
    Calls Tryd.prog 22 #[v, .int .i64 k] w fun e w' => e = .returned (.tuple #[.bool b, .int .i64 e0]) ∧ w = w' := by
  subst hb he; exact rgets_any k w h
theorem rk_place {c : Bool} {l : List Bool} {k : Int} : Blk.rk c l (place l.length k) = Blk.rk c l k.toNat := by
  unfold Blk.rk place
  rw [Nat.min_def]
  split
  · rfl
  · rw [List.take_of_length_le (Nat.le_refl _), List.take_of_length_le (by omega)]
theorem rranks_to {l : List Bool} {v : Value} (k : Int) (c : Bool) (r : Int) (w : World) (h : RdB w v l) (hr : (Blk.rk c l (place l.length k) : Int) = r) :
    Calls Tryd.prog 44 #[v, .int .i64 k, .bool c] w fun e w' => e = .returned (.int .i64 r) ∧ w = w' := by
  subst hr; rw [rk_place]; exact rranks_any k c w h
theorem rselects_to {l : List Bool} {v : Value} (j : Int) (c : Bool) (r : Int) (w : World) (h : RdB w v l) (hr : Blk.sl c l j = r) :
    Calls Tryd.prog 45 #[v, .int .i64 j, .bool c] w fun e w' => e = .returned (.int .i64 r) ∧ w = w' := by
  subst hr; exact rselects_any j c w h
theorem rin_to {l : List Bool} {v : Value} (k : Int) (n : Nat) (x : Bool) (w : World) (h : RdB w v l) (hk : k = n) (hn : n ≤ l.length) (hl : l.length ≤ 1099511627776) :
    Calls Tryd.prog 20 #[v, .int .i64 k, .bool x] w fun e w' => ∃ v, e = .returned v ∧ OwnB w.heap.size w' v (Blk.ins l n x) ∧ Below w.heap.size w w' := by
  subst hk; exact rin_rd n x w h hn hl
theorem rout_to {l : List Bool} {v : Value} (k : Int) (n : Nat) (w : World) (h : RdB w v l) (hk : k = n) (hn : n < l.length) (hl : l.length ≤ 1099511627776) :
    Calls Tryd.prog 23 #[v, .int .i64 k] w fun e w' => ∃ v, e = .returned v ∧ OwnB w.heap.size w' v (Blk.del l n) ∧ Below w.heap.size w w' := by
  subst hk; exact rout_rd n w h hn hl
theorem and7 (z : Int) : ∃ n : Nat, bits .and .i64 z 7 = (n : Int) ∧ n < 8 := by
  show ∃ n : Nat, IntKind.i64.wrap ((BitVec.ofInt 64 z &&& BitVec.ofInt 64 ((7 : Nat) : Int)).toNat : Int) = _ ∧ _
  rw [BitVec.toNat_and, ofInt_u64 7 (by decide)]
  generalize (BitVec.ofInt 64 z).toNat = x
  have h : x &&& 7 < 8 := Nat.and_lt_two_pow (n := 3) x (by decide)
  exact ⟨x &&& 7, IntWalk.i64_in _ (by omega), h⟩
theorem RdB.ltb {w : World} {v : Value} {l : List Bool} (h : RdB w v l) : ∀ k, v.ownBlock = some k → k < w.heap.size := by
  intro k hk
  rcases h with ⟨rfl, _⟩ | ⟨b, off, cap, rfl, h0, _⟩
  · cases hk
  · simp [Value.ownBlock] at hk; omega
/-- The list beside the tree. -/
structure PlT (W : World) (B t : Nat) (wr : World) (S : St) (v : Value) (L : List Bool) : Prop where
  tre : Tre B wr t S L
  rd : RdB wr v L
  ap : ∀ k, v.ownBlock = some k → S.own k = none
  bel : Below W.heap.size W wr
  le : W.heap.size ≤ B
theorem PlT.step {W : World} {B t : Nat} {w w' : World} {S : St} {v : Value} {L : List Bool} (h : PlT W B t w S v L) (hb : Below w.heap.size w w') : PlT W B t w' S v L :=
  ⟨h.tre.below hb, h.rd.below hb, h.ap, h.bel.trans (hb.mono h.bel.size), h.le⟩
theorem PlT.drewN {W : World} {B t : Nat} {w : World} {S : St} {v : Value} {L : List Bool} (h : PlT W B t w S v L) (n : Nat) : PlT W B t (w.drewN n) S v L :=
  ⟨h.tre.drewN n, h.rd, h.ap, h.bel.drewN n, h.le⟩
/-- The tree was read. -/
theorem PlT.see {W : World} {B t n : Nat} {w w' : World} {S : St} {v : Value} {L : List Bool} (h : PlT W B t w S v L) (ht : Tre B w' t (S.see n) L) (hs : Stay (· = t) w w') (hB : Below B w w') : PlT W B t w' (S.see n) v L := by
  refine ⟨ht, h.rd.stays hs (fun k hk e => ?_), h.ap, h.bel.trans (hB.mono h.le), h.le⟩
  subst e
  have h1 := h.ap _ hk
  obtain ⟨⟨g, a, c, hx⟩, _⟩ := h.tre
  rw [hx.ownt] at h1
  cases h1
/-- The tree was turned: the list as it was. -/
theorem PlT.turn {W : World} {B t : Nat} {w w' : World} {S S' : St} {v : Value} {L : List Bool} (h : PlT W B t w S v L) (hV : Mv w w' S S') (hB : Below B w w') : RdB w' v L ∧ (∀ k, v.ownBlock = some k → S'.own k = none) ∧ Below W.heap.size W w' := by
  refine ⟨h.rd.stays hV.st (fun k hk e => e (h.ap k hk)), fun k hk => ?_, h.bel.trans (hB.mono h.le)⟩
  have h1 := h.ap k hk
  have h2 := h.rd.ltb k hk
  cases e : S'.own k with
  | none => rfl
  | some x =>
    rcases hV.ne k (by rw [e]; exact fun h => by cases h) with h3 | h3
    · exact absurd h1 h3
    · omega
/-- The list was made anew. -/
theorem PlT.own {W : World} {B t : Nat} {w w' : World} {S : St} {v' : Value} {L' : List Bool} (hT : Tre B w t S L') (hbel : Below W.heap.size W w) (hle : W.heap.size ≤ B) (hown : OwnB w.heap.size w' v' L') (h6 : Below w.heap.size w w') : PlT W B t w' S v' L' := by
  refine ⟨hT.below h6, OwnB.rd hown, fun q hq => ?_, hbel.trans (h6.mono hbel.size), hle⟩
  have h1 := (hown.lt q hq).1
  cases e : S.own q with
  | none => rfl
  | some x =>
    obtain ⟨⟨g, a, c, hx⟩, _⟩ := hT
    have := (hx.lab q x e).2
    omega
/-- The step that is played, in its block. -/
def OpAt (w : World) (ob : Nat) (z k : Int) (c : Bool) : Prop := w.heap[ob]? = some (.cells #[.int .i64 z, .int .i64 k, .bool c] 33 (0, 0))
theorem OpAt.c0 {w : World} {ob : Nat} {z k : Int} {c : Bool} (h : OpAt w ob z k c) : w.cell? ⟨ob, 0, none⟩ = some (.int .i64 z) := cell_of h
theorem OpAt.c1 {w : World} {ob : Nat} {z k : Int} {c : Bool} (h : OpAt w ob z k c) : w.cell? ⟨ob, 1, none⟩ = some (.int .i64 k) := cell_of h
theorem OpAt.c2 {w : World} {ob : Nat} {z k : Int} {c : Bool} (h : OpAt w ob z k c) : w.cell? ⟨ob, 2, none⟩ = some (.bool c) := cell_of h
theorem OpAt.below {w w' : World} {ob : Nat} {z k : Int} {c : Bool} (h : OpAt w ob z k c) (hb : Below w.heap.size w w') : OpAt w' ob z k c := Below.keptB hb h (lt_of_block h)
theorem OpAt.mv {w w' : World} {S S' : St} {ob : Nat} {z k : Int} {c : Bool} (h : OpAt w ob z k c) (hb : Mv w w' S S') (hs : S.own ob = none) : OpAt w' ob z k c := hb.st.kept h (fun e => e hs)
/-- A slice of steps, as it is read. -/
def RdOps (w : World) (a : Option Addr) (len : Nat) : Prop :=
  len ≤ maxLen ∧ (0 < len → ∃ b off, a = some ⟨b, off, none⟩ ∧ b < w.heap.size ∧ ∀ i, i < len → ∃ (z k : Int) (c : Bool), w.cell? ⟨b, off + i * 3, none⟩ = some (.int .i64 z) ∧ w.cell? ⟨b, off + i * 3 + 1, none⟩ = some (.int .i64 k) ∧ w.cell? ⟨b, off + i * 3 + 2, none⟩ = some (.bool c) ∧ (-9223372036854775808 ≤ z ∧ z ≤ 9223372036854775807) ∧ -9223372036854775808 ≤ k ∧ k ≤ 9223372036854775807)
theorem add_none (b off j : Nat) : (⟨b, off, none⟩ : Addr).add j = ⟨b, off + j, none⟩ := by simp [Addr.add]
set_option maxRecDepth 100000 in
theorem open_ops {H : Type} {enc : TypeId × Value → H} {w : World} {base : Nat} {spare : Nat → Bool} {held : Bool} {fuel : Nat} {a : Option Addr} {len cap : Nat} {x : DataW H × List MemPlace}
    (h : DataW.trod enc Tryd.prog w base spare held fuel 23 [.slice a len cap] = some x) : RdOps w a len := by
  rcases Go.Deep.open_slice Tryd.underlying23 h with ⟨hc, _⟩ | ⟨ad, l, c, m, n, D, Pl, hc, hb, hl, hmx, hm, _, hel⟩
  · simp at hc
    obtain ⟨rfl, rfl, rfl⟩ := hc
    exact ⟨by decide, fun h => by omega⟩
  · simp at hc
    obtain ⟨rfl, rfl, rfl⟩ := hc
    have hlm : len ≤ m := by rw [hm]; split <;> omega
    have hC : Tryd.prog.cellsOf 33 = 3 := by kernel_rfl
    have hC1 : Tryd.prog.cellsOf 3 = 1 := by kernel_rfl
    have hC2 : Tryd.prog.cellsOf 4 = 1 := by kernel_rfl
    have key : ∀ i, i < len → ∃ (z k : Int) (b : Bool), w.cell? (ad.add (i * 3)) = some (.int .i64 z) ∧ w.cell? (ad.add (i * 3 + 1)) = some (.int .i64 k) ∧ w.cell? (ad.add (i * 3 + 2)) = some (.bool b) ∧ (Lit.int .i64 z).wf = true ∧ (Lit.int .i64 k).wf = true := by
      intro i hi
      obtain ⟨cs', hcs, ht'⟩ := hel i (by omega)
      obtain ⟨ys, n', _, _, hlen, hyl, hf⟩ := DataW.trod_struct Tryd.underlying33 ht'
      obtain ⟨_, hcl, hat⟩ := World.cells?_some hcs
      rw [hC] at hcl hat
      match cs', hcl with
      | [v0, v1, v2], _ =>
        have e0 : DataW.trod enc Tryd.prog w base spare held n' 3 (([v0, v1, v2].drop 0).take (Tryd.prog.cellsOf 3)) = ys[0]? := hf 0 _ rfl
        have e1 : DataW.trod enc Tryd.prog w base spare held n' 3 (([v0, v1, v2].drop 1).take (Tryd.prog.cellsOf 3)) = ys[1]? := hf 1 _ rfl
        have e2 : DataW.trod enc Tryd.prog w base spare held n' 4 (([v0, v1, v2].drop 2).take (Tryd.prog.cellsOf 4)) = ys[2]? := hf 2 _ rfl
        rw [hC1] at e0 e1
        rw [hC2] at e2
        have hy0 : ys[0]? = some (ys[0]'(by rw [hyl]; decide)) := List.getElem?_eq_getElem _
        have hy1 : ys[1]? = some (ys[1]'(by rw [hyl]; decide)) := List.getElem?_eq_getElem _
        have hy2 : ys[2]? = some (ys[2]'(by rw [hyl]; decide)) := List.getElem?_eq_getElem _
        obtain ⟨z, hz, _, wz⟩ := DataW.trod_int Tryd.underlying3 (e0.trans hy0)
        obtain ⟨k, hk, _, wk⟩ := DataW.trod_int Tryd.underlying3 (e1.trans hy1)
        obtain ⟨b, hbb, _⟩ := DataW.trod_bool Tryd.underlying4 (e2.trans hy2)
        simp at hz hk hbb
        subst hz hk hbb
        have a0 := hat 0 (by decide)
        have a1 := hat 1 (by decide)
        have a2 := hat 2 (by decide)
        refine ⟨z, k, b, ?_, ?_, ?_, wz, wk⟩
        · simpa [Addr.add, hC] using a0
        · rw [← Go.Deep.add_add, ← hC]; exact a1
        · rw [← Go.Deep.add_add, ← hC]; exact a2
    refine ⟨by omega, fun hpos => ?_⟩
    obtain ⟨b, off, spot⟩ := ad
    have hsp : spot = none := by
      obtain ⟨z, k, c, h0, _⟩ := key 0 hpos
      cases spot with
      | none => rfl
      | some s => simp [World.cell?, Addr.add] at h0; split at h0 <;> simp_all
    subst hsp
    obtain ⟨z, k, c, h0, _⟩ := key 0 hpos
    refine ⟨b, off, rfl, block_lt_of_cell h0, fun i hi => ?_⟩
    obtain ⟨z, k, c, h0, h1, h2, wz, wk⟩ := key i hi
    have bz := bounds_i64 wz
    have bk := bounds_i64 wk
    refine ⟨z, k, c, ?_, ?_, ?_, ⟨bz.1, bz.2⟩, bk.1, bk.2⟩
    · rw [add_none] at h0; exact h0
    · rw [add_none, ← Nat.add_assoc] at h1; exact h1
    · rw [add_none, ← Nat.add_assoc] at h2; exact h2
set_option maxHeartbeats 3200000 in
/-- The tree tells what the list tells. -/
theorem same5 {W : World} {B t : Nat} {S : St} {v : Value} {L : List Bool} (k : Int) (w : World) (h : PlT W B t w S v L) (hT : TabAt W) (hW0 : 0 < W.heap.size) (hlen : L.length ≤ 1000000) :
    Calls Tryd.prog 25 #[.pointer (some ⟨t, 0, none⟩), v, .int .i64 k] w fun e w' => e = .returned (.bool true) ∧ ∃ S', PlT W B t w' S' v L := by
  have hml : (L.length : Int) ≤ 1000000 := by omega
  obtain ⟨gb, hgb⟩ : ∃ x, Blk.getB L k = x := ⟨_, rfl⟩
  obtain ⟨ge, hge⟩ : ∃ x, Blk.getE L k = x := ⟨_, rfl⟩
  obtain ⟨o, ho⟩ : ∃ x, L.count true = x := ⟨_, rfl⟩
  obtain ⟨rt, hrt⟩ : ∃ r : Int, (Blk.rk true L (place L.length k) : Int) = r := ⟨_, rfl⟩
  obtain ⟨rf, hrf⟩ : ∃ r : Int, (Blk.rk false L (place L.length k) : Int) = r := ⟨_, rfl⟩
  obtain ⟨st, hst⟩ : ∃ r : Int, Blk.sl true L k = r := ⟨_, rfl⟩
  obtain ⟨sf, hsf⟩ : ∃ r : Int, Blk.sl false L k = r := ⟨_, rfl⟩
  have hpl : place L.length (L.length : Int) = L.length := by unfold place; omega
  have HG := Lib.hid (And.intro hgb hge)
  have HO := Lib.hid (And.intro ho hpl)
  have HR := Lib.hid (And.intro hrt hrf)
  have HS := Lib.hid (And.intro hst hsf)
  have HT := Lib.hid hT
  have HLN := Lib.hid (show L.length ≤ 100000000 by omega)
  have hB0 : 0 < B := by have := h.le; omega
  have key := kget_at k gb ge w h.tre (by omega) hgb hge
  have H := Lib.hid h
  obtain ⟨a, cap, rfl, _, _⟩ := h.rd.open
  clear h hT hgb hge ho hrt hrf hst hsf hpl hlen
  go_enter Tryd.func25, Tryd.ntmps25
  go_wp2_with fail
  (with_reducible refine key.mono ?_); rintro e w1 ⟨rfl, v1, q1, q2, _, q3⟩
  have H1 := Lib.hid (H.out.see q1 q3 q2)
  have key := rgets_to k gb ge w1 H1.out.rd HG.out.1 HG.out.2
  clear q1 q2 q3 H
  go_wp2_with fail
  (with_reducible refine key.mono ?_); rintro e w1' ⟨rfl, rfl⟩
  have keyN := klen (L.length : Int) w1 H1.out.tre rfl
  have keyO := kones (o : Int) w1 H1.out.tre (by rw [HO.out.1])
  have keyA := rranks_to (L.length : Int) true (o : Int) w1 H1.out.rd (by rw [HO.out.2, Blk.rk_all (Nat.le_refl _), HO.out.1])
  have keyR := krank k true rt w1 H1.out.tre HLN.out HR.out.1
  clear key
  go_wp2_with fail
  (with_reducible refine keyN.mono ?_); rintro e w1' ⟨rfl, rfl⟩
  go_wp2_with fail
  (with_reducible refine keyO.mono ?_); rintro e w1' ⟨rfl, rfl⟩
  go_wp2_with fail
  (with_reducible refine keyA.mono ?_); rintro e w1' ⟨rfl, rfl⟩
  clear keyN keyO keyA
  go_wp2_with fail
  (with_reducible refine keyR.mono ?_); rintro e w2 ⟨rfl, v2, q1, q2, _, q3⟩
  have H2 := Lib.hid (H1.out.see q1 q3 q2)
  have keyA := rranks_to k true rt w2 H2.out.rd HR.out.1
  have keyR := krank k false rf w2 H2.out.tre HLN.out HR.out.2
  clear q1 q2 q3 H1
  go_wp2_with fail
  (with_reducible refine keyA.mono ?_); rintro e w2' ⟨rfl, rfl⟩
  go_wp2_with fail
  (with_reducible refine keyR.mono ?_); rintro e w3 ⟨rfl, v3, q1, q2, _, q3⟩
  have H3 := Lib.hid (H2.out.see q1 q3 q2)
  have keyA := rranks_to k false rf w3 H3.out.rd HR.out.2
  have keyS := kselect k true st w3 H3.out.tre HLN.out (HT.out.below H3.out.bel hW0) hB0 HS.out.1
  clear q1 q2 q3 H2 keyR
  go_wp2_with fail
  (with_reducible refine keyA.mono ?_); rintro e w3' ⟨rfl, rfl⟩
  go_wp2_with fail
  (with_reducible refine keyS.mono ?_); rintro e w4 ⟨rfl, v4, q1, q2, _, q3⟩
  have H4 := Lib.hid (H3.out.see q1 q3 q2)
  have keyA := rselects_to k true st w4 H4.out.rd HS.out.1
  have keyS := kselect k false sf w4 H4.out.tre HLN.out (HT.out.below H4.out.bel hW0) hB0 HS.out.2
  clear q1 q2 q3 H3
  go_wp2_with fail
  (with_reducible refine keyA.mono ?_); rintro e w4' ⟨rfl, rfl⟩
  go_wp2_with fail
  (with_reducible refine keyS.mono ?_); rintro e w5 ⟨rfl, v5, q1, q2, _, q3⟩
  have H5 := Lib.hid (H4.out.see q1 q3 q2)
  have keyA := rselects_to k false sf w5 H5.out.rd HS.out.2
  clear q1 q2 q3 H4 keyS
  go_wp2_with fail
  (with_reducible refine keyA.mono ?_); rintro e w5' ⟨rfl, rfl⟩
  go_wp2_with fail
  go_ret
  exact ⟨rfl, _, H5.out⟩
end Go.Proofs.YtfbhcbcpeocmcaaDoor
