/- BlockPlays as a walk. -/
import Derived.Test.YtihekandplocmaaDoorL2Same
import Derived.Test.YtihekandplocmaaDoorLaidB
import Derived.Test.YtihekandplocmaaDoorZeros
namespace Go.Proofs.YtihekandplocmaaDoor
open Go Go.ChangeShapes Go.WideShapes Go.ChangeAt Go.RowKit

/-- A slice of steps, as it is read. -/
def RdOps (w : World) (a : Option Addr) (len : Nat) : Prop :=
  len ≤ maxLen ∧ (0 < len → ∃ b off, a = some ⟨b, off, none⟩ ∧ b < w.heap.size ∧ ∀ i, i < len → ∃ (z k : Int) (c : Bool), w.cell? ⟨b, off + i * 3, none⟩ = some (.int .i64 z) ∧ w.cell? ⟨b, off + i * 3 + 1, none⟩ = some (.int .i64 k) ∧ w.cell? ⟨b, off + i * 3 + 2, none⟩ = some (.bool c) ∧ (-9223372036854775808 ≤ z ∧ z ≤ 9223372036854775807) ∧ -9223372036854775808 ≤ k ∧ k ≤ 9223372036854775807)
theorem RdB.stay {S : Nat → Prop} {w w' : World} {v : Value} {l : List Bool} (h : RdB w v l) (hb : Stay S w w') (hs : ∀ k, v.ownBlock = some k → ¬ S k) : RdB w' v l := by
  rcases h with h | ⟨b, off, cap, hv, h0, h1, h2, h3⟩
  · exact .inl h
  · refine .inr ⟨b, off, cap, hv, Nat.lt_of_lt_of_le h0 hb.size, h1, h2, fun i hi => ?_⟩
    exact (World.cell?_of_block (w := w) (a := ⟨b, off + i, none⟩) (hb.block b h0 (hs b (by rw [hv]; rfl)))).trans (h3 i hi)
/-- The list's slice is apart from the block. -/
def Apart (v : Value) (g : Nat) : Prop := ∀ k, v.ownBlock = some k → ¬ k = g
structure PlaySt (W : World) (g : Nat) (wr : World) (v : Value) (L : List Bool) : Prop where
  blk : IsBlk wr g L
  rd : RdB wr v L
  apart : Apart v g
  bel : Below W.heap.size W wr
theorem PlaySt.step {W : World} {g : Nat} {w w' : World} {v : Value} {L : List Bool} (h : PlaySt W g w v L) (hb : Below w.heap.size w w') : PlaySt W g w' v L :=
  ⟨h.blk.below hb h.blk.lt, h.rd.below hb, h.apart, h.bel.trans (hb.mono h.bel.size)⟩
/-- Behind a step that turned the block, the list as it was. -/
theorem PlaySt.turn {W : World} {g : Nat} {w w' : World} {v : Value} {L L' : List Bool} (h : PlaySt W g w v L) (hg : W.heap.size ≤ g) (hs : Stay (· = g) w w') (_ : IsBlk w' g L') : RdB w' v L ∧ Below W.heap.size W w' :=
  ⟨h.rd.stay hs h.apart, h.bel.trans (hs.below h.bel.size (fun i _ h => by omega))⟩
/-- The step that is played, in its block. -/
def OpAt (w : World) (ob : Nat) (z k : Int) (c : Bool) : Prop := w.heap[ob]? = some (.cells #[.int .i64 z, .int .i64 k, .bool c] 31 (0, 0))
theorem OpAt.c1 {w : World} {ob : Nat} {z k : Int} {c : Bool} (h : OpAt w ob z k c) : w.cell? ⟨ob, 1, none⟩ = some (.int .i64 k) := cell_of h
theorem OpAt.c2 {w : World} {ob : Nat} {z k : Int} {c : Bool} (h : OpAt w ob z k c) : w.cell? ⟨ob, 2, none⟩ = some (.bool c) := cell_of h
theorem OpAt.below {w w' : World} {ob : Nat} {z k : Int} {c : Bool} (h : OpAt w ob z k c) (hb : Below w.heap.size w w') : OpAt w' ob z k c := Below.keptB hb h (lt_of_block h)
theorem OpAt.stay {S : Nat → Prop} {w w' : World} {ob : Nat} {z k : Int} {c : Bool} (h : OpAt w ob z k c) (hb : Stay S w w') (hs : ¬ S ob) : OpAt w' ob z k c := hb.kept h hs
theorem and7 (z : Int) : ∃ n : Nat, bits .and .i64 z 7 = (n : Int) ∧ n < 8 := by
  show ∃ n : Nat, IntKind.i64.wrap ((BitVec.ofInt 64 z &&& BitVec.ofInt 64 ((7 : Nat) : Int)).toNat : Int) = _ ∧ _
  rw [BitVec.toNat_and, ofInt_u64 7 (by decide)]
  generalize (BitVec.ofInt 64 z).toNat = x
  have h : x &&& 7 < 8 := Nat.and_lt_two_pow (n := 3) x (by decide)
  exact ⟨x &&& 7, IntWalk.i64_in _ (by omega), h⟩
theorem rin_to {l : List Bool} {v : Value} (k : Int) (n : Nat) (x : Bool) (w : World) (h : RdB w v l) (hk : k = n) (hn : n ≤ l.length) (hl : l.length ≤ 1099511627776) :
    Calls Tryd.prog 12 #[v, .int .i64 k, .bool x] w fun e w' => ∃ v, e = .returned v ∧ OwnB w.heap.size w' v (Blk.ins l n x) ∧ Below w.heap.size w w' := by
  subst hk; exact rin_rd n x w h hn hl
theorem rout_to {l : List Bool} {v : Value} (k : Int) (n : Nat) (w : World) (h : RdB w v l) (hk : k = n) (hn : n < l.length) (hl : l.length ≤ 1099511627776) :
    Calls Tryd.prog 15 #[v, .int .i64 k] w fun e w' => ∃ v, e = .returned v ∧ OwnB w.heap.size w' v (Blk.del l n) ∧ Below w.heap.size w w' := by
  subst hk; exact rout_rd n w h hn hl
theorem rgets_to {l : List Bool} {v : Value} (k : Int) (b : Bool) (e0 : Int) (w : World) (h : RdB w v l) (hb : Blk.getB l k = b) (he : Blk.getE l k = e0) :
    Calls Tryd.prog 14 #[v, .int .i64 k] w fun e w' => e = .returned (.tuple #[.bool b, .int .i64 e0]) ∧ w = w' := by
  subst hb he; exact rgets_any k w h
/-- Behind an append to the list: the list's new slice. -/
theorem PlaySt.own {W : World} {g : Nat} {w w' : World} {v' : Value} {L' : List Bool} (hb : IsBlk w g L') (hbel : Below W.heap.size W w) (hown : OwnB w.heap.size w' v' L') (h6 : Below w.heap.size w w') : PlaySt W g w' v' L' :=
  ⟨hb.below h6 hb.lt, OwnB.rd hown, fun q hq => by have := (hown.lt q hq).1; have := hb.lt; omega, hbel.trans (h6.mono hbel.size)⟩
theorem RdB.lt {w : World} {v : Value} {l : List Bool} (h : RdB w v l) : ∀ k, v.ownBlock = some k → k < w.heap.size := by
  intro k hk
  rcases h with ⟨rfl, _⟩ | ⟨b, off, cap, rfl, h0, _⟩
  · cases hk
  · simp [Value.ownBlock] at hk; omega
theorem key60 (k : Int) : ∃ n : Nat, n < 60 ∧ RowKit.wrap64 ((IntKind.u64.wrap k).tmod 60) = (n : Int) := by
  have h0 : 0 ≤ k % 18446744073709551616 := Int.emod_nonneg _ (by decide)
  have h2 : (k % 18446744073709551616).tmod 60 = k % 18446744073709551616 % 60 := Int.tmod_eq_emod_of_nonneg h0
  rw [IntKind.wrap_u64, h2]
  refine ⟨(k % 18446744073709551616 % 60).toNat, by omega, ?_⟩
  unfold RowKit.wrap64
  omega
theorem same_at {l : List Bool} {v : Value} {g : Nat} {W : World} (k : Int) (w : World) (h : PlaySt W g w v l) (hT : TabAt W) (hW0 : 0 < W.heap.size) (hk : k ≤ 9223372036854775807) :
    Calls Tryd.prog 17 #[.pointer (some ⟨g, 0, none⟩), v, .int .i64 k] w fun e w' => e = .returned (.bool true) ∧ PlaySt W g w' v l :=
  (same_any k w h.blk h.rd (hT.below h.bel hW0) (by have := h.bel.size; omega) hk).mono fun _ _ ⟨he, hb⟩ => ⟨he, h.step hb⟩
set_option maxRecDepth 100000 in
set_option maxHeartbeats 12800000 in
theorem plays_w (a0 : Option Addr) (len0 cap0 : Nat) (a1 : Option Addr) (len1 cap1 : Nat) (W : World) (w0 : RdI W a0 len0) (w1 : RdOps W a1 len1) (hL : LaidFact W) :
    Calls Tryd.prog 3 #[.slice a0 len0 cap0, .slice a1 len1 cap1] W fun e w' => e = .returned (.bool true) ∧ Below W.heap.size W w' := by
  obtain ⟨i0, hi, hz0, hz1, hz2⟩ := info_parts infoB
  have HT := Lib.hid hL.tab
  have hW0 := hL.pos
  obtain ⟨hm1, hr1⟩ := w1
  have hm1' : (len1 : Int) ≤ 9223372036854775807 := by unfold maxLen at hm1; omega
  have HR1 := Lib.hid hr1
  clear hL hr1 hm1
  go_enter Tryd.func3, Tryd.ntmps3
  go_wp2_with fail
  refine (bits_any _ _ _ 140 _ w0 (by decide)).mono ?_
  rintro e w1 ⟨v, L, rfl, hown, hLL, hb1⟩
  have hsz1 := hb1.size
  have hRD := Lib.hid (OwnB.rd hown)
  by_cases hfull : 128 < L.length
  · obtain ⟨aa, cc, rfl, _, _⟩ := (OwnB.rd hown).open
    have h1 : (128 : Int) < L.length := by omega
    clear hown
    go_wp2_with fail
    refine (bnew_rd_full _ hRD.out hfull).mono ?_
    rintro e w' ⟨rfl, rfl⟩
    go_wp2_with fail
    refine (told_any _ (HT.out.below hb1 hW0) (by omega)).mono ?_
    rintro e w2 ⟨rfl, hb2⟩
    have B2 := hb1.trans (hb2.mono hsz1)
    go_wp2_with fail
    go_ret
    exact ⟨rfl, B2⟩
  · have h128 : L.length ≤ 128 := by omega
    have hownlt := hown.lt
    obtain ⟨aa, cc, rfl, _, _⟩ := (OwnB.rd hown).open
    have h1 : ¬ (128 : Int) < L.length := by omega
    clear hown
    go_wp2_with fail
    refine (bnew_rd _ hRD.out h128).mono ?_
    rintro e w2 ⟨g, rfl, hg, hblk, hb2⟩
    have B2 := hb1.trans (hb2.mono hsz1)
    have hap : Apart (.slice aa L.length cc) g := fun k hk => by have := hownlt k hk; omega
    have hst := PlaySt.mk hblk (hRD.out.below hb2) hap B2
    have hgW : W.heap.size ≤ g := by omega
    clear hownlt hblk hb1 hb2 hap hRD hfull
    by_cases h60 : 60 < len1
    · have h2 : (60 : Int) < len1 := by omega
      go_wp2_with fail
      refine (told_any _ (HT.out.below B2 hW0) (by have := B2.size; omega)).mono ?_
      rintro e w3 ⟨rfl, hb3⟩
      have B3 := B2.trans (hb3.mono B2.size)
      go_wp2_with fail
      go_ret
      exact ⟨rfl, B3⟩
    · have h2 : ¬ (60 : Int) < len1 := by omega
      have HST := Lib.hid hst
      clear hst B2 h1
      go_wp2_with fail
      go_loopw [5, 8] (fun v i wr => ∃ (m : Nat) (L : List Bool), m ≤ len1 ∧ i = .int .i64 m ∧ PlaySt W g wr v L) (fun _ i _ => len1 - (intOf i).toNat)
      case atStart => exact ⟨0, L, Nat.zero_le _, rfl, HST.out⟩
      case round =>
        clear HST h128
        obtain ⟨m, M, hml, rfl, hst⟩ := hrel
        have HS := Lib.hid hst
        by_cases hlt : m < len1
        · have h3 : (m : Int) < len1 := by omega
          obtain ⟨b, off, rfl, hbb, hc⟩ := HR1.out (by omega)
          obtain ⟨z, k, c, e0, e1, e2, hzb, hkb⟩ := hc m hlt
          have e0' := (hst.bel.cell (p := ⟨b, off + m * 3, none⟩) hbb).trans e0
          have e1' := (hst.bel.cell (p := ⟨b, off + m * 3 + 1, none⟩) hbb).trans e1
          have e2' := (hst.bel.cell (p := ⟨b, off + m * 3 + 2, none⟩) hbb).trans e2
          obtain ⟨kk, hkk, hk8⟩ := and7 z
          have hst0 : PlaySt W g (wr.alloc (Obj.cells #[.int .i64 z, .int .i64 k, .bool c] 31)) u5 M := hst.step ((Below.refl _ _).alloc (Nat.le_refl _) _)
          have hop0 : OpAt (wr.alloc (Obj.cells #[.int .i64 z, .int .i64 k, .bool c] 31)) wr.heap.size z k c := alloc_of
          have hobg : ¬ wr.heap.size = g := by have := hst.blk.lt; omega
          have hM128 := hst.blk.1
          have hop1 := hop0.c1
          have hop2 := hop0.c2
          have HOP0 := Lib.hid hop0
          have HST0 := Lib.hid hst0
          obtain ⟨ob, hob⟩ : ∃ ob, ob = wr.heap.size := ⟨_, rfl⟩
          obtain ⟨va, vc, rfl, _, _⟩ := hst.rd.open
          clear hc e0 e1 e2 hst hst0 hop0 hob ob
          by_cases k4 : kk < 4
          · have k4' : (kk : Int) < 4 := by omega
            by_cases hfl : M.length = 128
            · as_aux_lemma =>
                have hfl' : (128 : Int) ≤ M.length := by omega
                have HFL := Lib.hid hfl
                clear hfl
                go_wp2_with fail
                refine (bins_full _ _ _ HST0.out.blk HFL.out).mono ?_
                rintro e w' ⟨rfl, rfl⟩
                have hstX := HST0.out
                go_wp2_with fail
                (with_reducible refine (same_at k _ hstX HT.out hW0 hkb.2).mono ?_)
                rintro e wZ ⟨rfl, hstZ⟩
                have HZ := Lib.hid hstZ
                clear hstZ hstX
                go_wp2_with fail
                go_roundw
                case rel => exact ⟨m + 1, _, by omega, by go_num, HZ.out⟩
                case measure => simp [intOf]; omega
            · have hfl' : ¬ (128 : Int) ≤ M.length := by omega
              by_cases hrng : k < 0 ∨ (M.length : Int) < k
              · as_aux_lemma =>
                  by_cases hk0 : k < 0
                  · go_wp2_with fail
                    refine (bins_range _ _ _ HST0.out.blk (by omega) hrng).mono ?_
                    rintro e w' ⟨rfl, rfl⟩
                    have hstX := HST0.out
                    go_wp2_with fail
                    (with_reducible refine (same_at k _ hstX HT.out hW0 hkb.2).mono ?_)
                    rintro e wZ ⟨rfl, hstZ⟩
                    have HZ := Lib.hid hstZ
                    clear hstZ hstX
                    go_wp2_with fail
                    go_roundw
                    case rel => exact ⟨m + 1, _, by omega, by go_num, HZ.out⟩
                    case measure => simp [intOf]; omega
                  · have hk0' : 0 ≤ k := by omega
                    have hkM : (M.length : Int) < k := by omega
                    go_wp2_with fail
                    refine (bins_range _ _ _ HST0.out.blk (by omega) hrng).mono ?_
                    rintro e w' ⟨rfl, rfl⟩
                    have hstX := HST0.out
                    go_wp2_with fail
                    (with_reducible refine (same_at k _ hstX HT.out hW0 hkb.2).mono ?_)
                    rintro e wZ ⟨rfl, hstZ⟩
                    have HZ := Lib.hid hstZ
                    clear hstZ hstX
                    go_wp2_with fail
                    go_roundw
                    case rel => exact ⟨m + 1, _, by omega, by go_num, HZ.out⟩
                    case measure => simp [intOf]; omega
              · as_aux_lemma =>
                  obtain ⟨n, HN⟩ : ∃ n : Nat, Hid (k = n) := ⟨k.toNat, Lib.hid (by omega)⟩
                  have hr0 : 0 ≤ k := by omega
                  have hr1 : ¬ (M.length : Int) < k := by omega
                  have HNM := Lib.hid (show n ≤ M.length by have := HN.out; omega)
                  have HML := Lib.hid (show M.length < 128 by omega)
                  go_wp2_with fail
                  refine (bins_to _ k n c _ HST0.out.blk HML.out HN.out HNM.out rfl).mono ?_
                  rintro e w5 ⟨rfl, hblk5, hs5⟩
                  obtain ⟨hrd5, hbel5⟩ := HST0.out.turn hgW hs5 hblk5
                  have hop5 := HOP0.out.stay hs5 hobg
                  have hop51 := hop5.c1
                  have hop52 := hop5.c2
                  have HP5 := Lib.hid (And.intro hrd5 (And.intro hbel5 hblk5))
                  clear hrd5 hbel5 hblk5 hs5 hop5 hop1 hop2
                  go_wp2_with fail
                  refine (rin_to k n c _ HP5.out.1 HN.out HNM.out (by omega)).mono ?_
                  rintro e w6 ⟨v6, rfl, hown6, hb6⟩
                  have hstX := PlaySt.own HP5.out.2.2 HP5.out.2.1 hown6 hb6
                  have h61 := (hb6.cell (p := ⟨wr.heap.size, 1, none⟩) (block_lt_of_cell hop51)).trans hop51
                  obtain ⟨va6, vc6, rfl, _, _⟩ := (OwnB.rd hown6).open
                  have HLI := Lib.hid (Blk.ins_len (l := M) (k := n) (b := c) HNM.out)
                  clear hown6 hb6 hop51 hop52
                  go_wp2_with fail
                  (with_reducible refine (same_at k _ hstX HT.out hW0 hkb.2).mono ?_)
                  rintro e wZ ⟨rfl, hstZ⟩
                  have HZ := Lib.hid hstZ
                  clear hstZ hstX
                  go_wp2_with fail
                  go_roundw
                  case rel => exact ⟨m + 1, _, by omega, by go_num, HZ.out⟩
                  case measure => simp [intOf]; omega
          · by_cases k6 : kk < 6
            · have k6' : (kk : Int) < 6 := by omega
              have k4' : ¬ (kk : Int) < 4 := by omega
              by_cases hrng : 0 ≤ k ∧ k < M.length
              · as_aux_lemma =>
                  obtain ⟨n, HN⟩ : ∃ n : Nat, Hid (k = n) := ⟨k.toNat, Lib.hid (by omega)⟩
                  have HNM := Lib.hid (show n < M.length by have := HN.out; omega)
                  obtain ⟨d, HD⟩ : ∃ d, Hid (M.getD n false = d) := ⟨_, Lib.hid rfl⟩
                  have HGB : Hid (Blk.getB M k = d) := Lib.hid (by unfold Blk.getB; rw [if_pos hrng, HN.out, Int.toNat_natCast, HD.out])
                  have HGE : Hid (Blk.getE M k = 0) := Lib.hid (by unfold Blk.getE; rw [if_pos hrng])
                  have HRNG := Lib.hid hrng
                  clear hrng
                  go_wp2_with fail
                  refine (bdel_to _ k n d _ HST0.out.blk HN.out HNM.out HD.out rfl).mono ?_
                  rintro e w5 ⟨rfl, hblk5, hs5⟩
                  obtain ⟨hrd5, hbel5⟩ := HST0.out.turn hgW hs5 hblk5
                  have hop5 := HOP0.out.stay hs5 hobg
                  have hop51 := hop5.c1
                  have HP5 := Lib.hid (And.intro hrd5 (And.intro hbel5 hblk5))
                  clear hrd5 hbel5 hblk5 hs5 hop5 hop1 hop2
                  go_wp2_with fail
                  refine (rgets_to k d 0 _ HP5.out.1 HGB.out HGE.out).mono ?_
                  rintro e w' ⟨rfl, rfl⟩
                  go_wp2_with fail
                  refine (rout_to k n _ HP5.out.1 HN.out HNM.out (by omega)).mono ?_
                  rintro e w6 ⟨v6, rfl, hown6, hb6⟩
                  have hstX := PlaySt.own HP5.out.2.2 HP5.out.2.1 hown6 hb6
                  have h61 := (hb6.cell (p := ⟨wr.heap.size, 1, none⟩) (block_lt_of_cell hop51)).trans hop51
                  obtain ⟨va6, vc6, rfl, _, _⟩ := (OwnB.rd hown6).open
                  clear hown6 hb6 hop51
                  go_wp2_with fail
                  (with_reducible refine (same_at k _ hstX HT.out hW0 hkb.2).mono ?_)
                  rintro e wZ ⟨rfl, hstZ⟩
                  have HZ := Lib.hid hstZ
                  clear hstZ hstX
                  go_wp2_with fail
                  go_roundw
                  case rel => exact ⟨m + 1, _, by omega, by go_num, HZ.out⟩
                  case measure => simp [intOf]; omega
              · as_aux_lemma =>
                  have HGB : Hid (Blk.getB M k = false) := Lib.hid (by unfold Blk.getB; rw [if_neg hrng])
                  have HGE : Hid (Blk.getE M k = 2) := Lib.hid (by unfold Blk.getE; rw [if_neg hrng])
                  have HR := Lib.hid (show k < 0 ∨ (M.length : Int) ≤ k by omega)
                  clear hrng
                  go_wp2_with fail
                  refine (bdel_range k _ HST0.out.blk HR.out).mono ?_
                  rintro e w' ⟨rfl, rfl⟩
                  go_wp2_with fail
                  refine (rgets_to k false 2 _ HST0.out.rd HGB.out HGE.out).mono ?_
                  rintro e w' ⟨rfl, rfl⟩
                  have hstX := HST0.out
                  go_wp2_with fail
                  (with_reducible refine (same_at k _ hstX HT.out hW0 hkb.2).mono ?_)
                  rintro e wZ ⟨rfl, hstZ⟩
                  have HZ := Lib.hid hstZ
                  clear hstZ hstX
                  go_wp2_with fail
                  go_roundw
                  case rel => exact ⟨m + 1, _, by omega, by go_num, HZ.out⟩
                  case measure => simp [intOf]; omega
            · have k4' : ¬ (kk : Int) < 4 := by omega
              have k6' : ¬ (kk : Int) < 6 := by omega
              by_cases k7 : kk = 6
              · have k7' : ((kk : Int) == 6) = true := by simp; omega
                clear k7
                go_wp2_with fail
                refine (bsplit_any _ HST0.out.blk).mono ?_
                rintro e w5 ⟨g2, rfl, hg2, hA5, hB5, hs5⟩
                have hgw0 := HST0.out.blk.lt
                obtain ⟨hrd5, hbel5⟩ := HST0.out.turn hgW hs5 hA5
                have HOP5 := Lib.hid (HOP0.out.stay hs5 hobg)
                have hVlt := HST0.out.rd.lt
                have hg12 : g ≠ g2 := by omega
                have hobl : ¬ wr.heap.size = g2 := by have := lt_of_block HOP0.out; omega
                have hg2W : W.heap.size ≤ g2 := by have := HST0.out.bel.size; omega
                have HNE := Lib.hid (And.intro hg12 (And.intro hobl (fun q hq => show ¬ q = g2 by have := hVlt q hq; omega)))
                have HAB := Lib.hid (show M.take (M.length / 2) ++ M.drop (M.length / 2) = M from List.take_append_drop _ _)
                have HLAB := Lib.hid (show (M.take (M.length / 2)).length + (M.drop (M.length / 2)).length ≤ 128 by rw [List.length_take, List.length_drop]; omega)
                have HRD5 := Lib.hid hrd5
                have HB5' := Lib.hid hbel5
                have hop51 : w5.cell? ⟨wr.heap.size, 1, none⟩ = some (.int .i64 k) := HOP5.out.c1
                obtain ⟨p, HP, hp2⟩ : ∃ p : Nat, Hid (M.length / 2 = p) ∧ p ≤ M.length := ⟨_, Lib.hid rfl, by omega⟩
                rw [HP.out] at hA5 hB5 HAB HLAB
                have HA5 := Lib.hid hA5
                have HBB5 := Lib.hid hB5
                have HAP0 := Lib.hid HST0.out.apart
                clear hs5 hbel5 hVlt hg12 hobl hop1 hop2 hA5 hB5 hgw0 hg2 HST0 HOP0
                rcases hrd5 with ⟨hv, hM0⟩ | ⟨b9, off9, cap9, hv, q0, q1, q2, q3⟩
                · as_aux_lemma =>
                    simp only [Value.slice.injEq] at hv
                    obtain ⟨rfl, _, rfl⟩ := hv
                    subst hM0
                    obtain rfl : p = 0 := by have := HP.out; simpa using this.symm
                    have z0 : IntKind.i64.wrap 0 = 0 := by decide
                    have R1 : Hid (RdB w5 (.slice none 0 0) (([] : List Bool).take 0)) := Lib.hid (.inl ⟨rfl, rfl⟩)
                    have R2 : Hid (RdB w5 (.slice none 0 0) (([] : List Bool).drop 0)) := Lib.hid (.inl ⟨rfl, rfl⟩)
                    go_wp2_with fail
                    have FA : Hid (IsBlk w5.drew g (([] : List Bool).take 0)) := HA5
                    have FR : Hid (RdB w5.drew (.slice none 0 0) (([] : List Bool).take 0)) := R1
                    have FT : Hid (TabAt w5.drew) := Lib.hid (HT.out.below (HB5'.out.drew) hW0)
                    have FP : 0 < w5.drew.heap.size := by have := HB5'.out.size; show 0 < w5.heap.size; omega
                    have FD : ∀ {w6 : World}, Below w5.drew.heap.size w5.drew w6 → Below w5.heap.size w5 w6 := fun hb6 => (Below.drew (Below.refl _ w5)).trans hb6
                    go_region_held3 (fun w' => w'.cell? ⟨wr.heap.size, 1, none⟩ = some (.int .i64 k)) (first | exact hop51 | exact h61 | exact h71 | exact h81 | go_keep)
                      (first
                      | (go_at_call 17; (with_reducible refine (same_any k _ (Hid.out FA) (Hid.out FR) (Hid.out FT) FP hkb.2).mono ?_); rintro e w6 ⟨rfl, hb6⟩; (have D6 : Below w5.heap.size w5 w6 := FD hb6); (have h61 := (OpAt.below (Hid.out HOP5) D6).c1); clear hb6)
                      | (go_at_call 17; (with_reducible refine (same_any k _ (HBB5.out.below D6 HBB5.out.lt) (R2.out.below D6) (HT.out.below (HB5'.out.trans (D6.mono HB5'.out.size)) hW0) (by have := HB5'.out.size; have := D6.size; omega) hkb.2).mono ?_); rintro e w7 ⟨rfl, hb7⟩; (have D7 : Below w5.heap.size w5 w7 := D6.trans (hb7.mono D6.size)); (have h71 := (OpAt.below (Hid.out HOP5) D7).c1); clear hb7)
                      | (go_at_call 18; (with_reducible refine (bjoin_to [] _ (HA5.out.below D7 HA5.out.lt) (HBB5.out.below D7 HBB5.out.lt) HNE.out.1 HLAB.out HAB.out).mono ?_); rintro e w8 ⟨rfl, hA8, hB8, hs8⟩; (have h81 := (OpAt.stay (OpAt.below (Hid.out HOP5) D7) hs8 (fun hS => hS.elim hobg HNE.out.2.1)).c1))
                      | (go_at_call 19; (with_reducible refine (blen_to 0 _ hB8 rfl).mono ?_); rintro e w' ⟨rfl, rfl⟩))
                    have hstX := PlaySt.mk hA8 ((HRD5.out.below D7).stay hs8 (fun q hq hS => hS.elim (HAP0.out q hq) (HNE.out.2.2 q hq))) HAP0.out ((HB5'.out.trans (D7.mono HB5'.out.size)).trans (hs8.below (B := W.heap.size) (by have := HB5'.out.size; have := D7.size; omega) (fun i _ hS => by rcases hS with rfl | rfl <;> omega)))
                    have hstX : PlaySt W g w8 (.slice none 0 0) [] := hstX
                    clear hA8 hB8 hs8 D6 D7 h61 h71 FD FP hop51
                    go_wp2_with fail
                    (with_reducible refine (same_at k _ hstX HT.out hW0 hkb.2).mono ?_)
                    rintro e wZ ⟨rfl, hstZ⟩
                    have HZ := Lib.hid hstZ
                    clear hstZ hstX
                    go_wp2_with fail
                    go_roundw
                    case rel => exact ⟨m + 1, _, by omega, by go_num, HZ.out⟩
                    case measure => simp [intOf]; omega
                · simp only [Value.slice.injEq] at hv
                  obtain ⟨rfl, _, rfl⟩ := hv
                  by_cases hcp : vc = p
                  · as_aux_lemma =>
                      have hlen0 : M.length = 0 := by have := HP.out; omega
                      obtain rfl : M = [] := List.eq_nil_of_length_eq_zero hlen0
                      obtain rfl : p = 0 := by have := HP.out; simpa using this.symm
                      subst hcp
                      have z0 : IntKind.i64.wrap 0 = 0 := by decide
                      have R1 : Hid (RdB w5 (.slice (some ⟨b9, off9, none⟩) 0 0) (([] : List Bool).take 0)) := Lib.hid (.inr ⟨b9, off9, 0, rfl, q0, Nat.le_refl _, by decide, fun i hi => by simp at hi⟩)
                      have R2 : Hid (RdB w5 (.slice (some ⟨b9, off9, none⟩) 0 0) (([] : List Bool).drop 0)) := R1
                      clear q2 q3 hlen0
                      go_wp2_with fail
                      have FA : Hid (IsBlk w5.drew g (([] : List Bool).take 0)) := HA5
                      have FR : Hid (RdB w5.drew (.slice (some ⟨b9, off9, none⟩) 0 0) (([] : List Bool).take 0)) := R1
                      have FT : Hid (TabAt w5.drew) := Lib.hid (HT.out.below (HB5'.out.drew) hW0)
                      have FP : 0 < w5.drew.heap.size := by have := HB5'.out.size; show 0 < w5.heap.size; omega
                      have FD : ∀ {w6 : World}, Below w5.drew.heap.size w5.drew w6 → Below w5.heap.size w5 w6 := fun hb6 => (Below.drew (Below.refl _ w5)).trans hb6
                      go_region_held3 (fun w' => w'.cell? ⟨wr.heap.size, 1, none⟩ = some (.int .i64 k)) (first | exact hop51 | exact h61 | exact h71 | exact h81 | go_keep)
                        (first
                        | (go_at_call 17; (with_reducible refine (same_any k _ (Hid.out FA) (Hid.out FR) (Hid.out FT) FP hkb.2).mono ?_); rintro e w6 ⟨rfl, hb6⟩; (have D6 : Below w5.heap.size w5 w6 := FD hb6); (have h61 := (OpAt.below (Hid.out HOP5) D6).c1); clear hb6)
                        | (go_at_call 17; (with_reducible refine (same_any k _ (HBB5.out.below D6 HBB5.out.lt) (R2.out.below D6) (HT.out.below (HB5'.out.trans (D6.mono HB5'.out.size)) hW0) (by have := HB5'.out.size; have := D6.size; omega) hkb.2).mono ?_); rintro e w7 ⟨rfl, hb7⟩; (have D7 : Below w5.heap.size w5 w7 := D6.trans (hb7.mono D6.size)); (have h71 := (OpAt.below (Hid.out HOP5) D7).c1); clear hb7)
                        | (go_at_call 18; (with_reducible refine (bjoin_to [] _ (HA5.out.below D7 HA5.out.lt) (HBB5.out.below D7 HBB5.out.lt) HNE.out.1 HLAB.out HAB.out).mono ?_); rintro e w8 ⟨rfl, hA8, hB8, hs8⟩; (have h81 := (OpAt.stay (OpAt.below (Hid.out HOP5) D7) hs8 (fun hS => hS.elim hobg HNE.out.2.1)).c1))
                        | (go_at_call 19; (with_reducible refine (blen_to 0 _ hB8 rfl).mono ?_); rintro e w' ⟨rfl, rfl⟩))
                      have hstX := PlaySt.mk hA8 ((HRD5.out.below D7).stay hs8 (fun q hq hS => hS.elim (HAP0.out q hq) (HNE.out.2.2 q hq))) HAP0.out ((HB5'.out.trans (D7.mono HB5'.out.size)).trans (hs8.below (B := W.heap.size) (by have := HB5'.out.size; have := D7.size; omega) (fun i _ hS => by rcases hS with rfl | rfl <;> omega)))
                      have hstX : PlaySt W g w8 (.slice (some ⟨b9, off9, none⟩) 0 0) [] := hstX
                      clear hA8 hB8 hs8 D6 D7 h61 h71 FD FP hop51
                      go_wp2_with fail
                      (with_reducible refine (same_at k _ hstX HT.out hW0 hkb.2).mono ?_)
                      rintro e wZ ⟨rfl, hstZ⟩
                      have HZ := Lib.hid hstZ
                      clear hstZ hstX
                      go_wp2_with fail
                      go_roundw
                      case rel => exact ⟨m + 1, _, by omega, by go_num, HZ.out⟩
                      case measure => simp [intOf]; omega
                  · as_aux_lemma =>
                      have R1 := Lib.hid (RdB.take q0 q1 q2 q3 (k := p) (by omega))
                      have R2 := RdB.drop q0 q1 q2 q3 (k := p) (by omega)
                      rw [if_neg hcp] at R2
                      have R2 := Lib.hid R2
                      have hvc : (vc : Int) ≤ 9223372036854775807 := by unfold maxLen at q2; omega
                      have hw0 : (M.length : Int) / 2 = (p : Int) := by have := HP.out; omega
                      have hw1 : (M.length : Int).tdiv 2 = (p : Int) := by rw [Int.tdiv_eq_ediv_of_nonneg (by omega)]; exact hw0
                      have hw2 : IntKind.i64.wrap (p : Int) = p := by exact IntWalk.i64_in _ (by omega)
                      have hp5 : (0 : Int) ≤ p := by omega
                      have hp6 : (p : Int) ≤ vc := by omega
                      have hp7 : (p : Int) ≤ M.length := by omega
                      clear q2 q3
                      go_wp2_with fail
                      have FA : Hid (IsBlk w5.drew g (M.take p)) := HA5
                      have FR : Hid (RdB w5.drew (.slice (some ⟨b9, off9, none⟩) p vc) (M.take p)) := R1
                      have FT : Hid (TabAt w5.drew) := Lib.hid (HT.out.below (HB5'.out.drew) hW0)
                      have FP : 0 < w5.drew.heap.size := by have := HB5'.out.size; show 0 < w5.heap.size; omega
                      have FD : ∀ {w6 : World}, Below w5.drew.heap.size w5.drew w6 → Below w5.heap.size w5 w6 := fun hb6 => (Below.drew (Below.refl _ w5)).trans hb6
                      go_region_held3 (fun w' => w'.cell? ⟨wr.heap.size, 1, none⟩ = some (.int .i64 k)) (first | exact hop51 | exact h61 | exact h71 | exact h81 | go_keep)
                        (first
                        | (go_at_call 17; (with_reducible refine (same_any k _ (Hid.out FA) (Hid.out FR) (Hid.out FT) FP hkb.2).mono ?_); rintro e w6 ⟨rfl, hb6⟩; (have D6 : Below w5.heap.size w5 w6 := FD hb6); (have h61 := (OpAt.below (Hid.out HOP5) D6).c1); clear hb6)
                        | (go_at_call 17; (with_reducible refine (same_any k _ (HBB5.out.below D6 HBB5.out.lt) (R2.out.below D6) (HT.out.below (HB5'.out.trans (D6.mono HB5'.out.size)) hW0) (by have := HB5'.out.size; have := D6.size; omega) hkb.2).mono ?_); rintro e w7 ⟨rfl, hb7⟩; (have D7 : Below w5.heap.size w5 w7 := D6.trans (hb7.mono D6.size)); (have h71 := (OpAt.below (Hid.out HOP5) D7).c1); clear hb7)
                        | (go_at_call 18; (with_reducible refine (bjoin_to M _ (HA5.out.below D7 HA5.out.lt) (HBB5.out.below D7 HBB5.out.lt) HNE.out.1 HLAB.out HAB.out).mono ?_); rintro e w8 ⟨rfl, hA8, hB8, hs8⟩; (have h81 := (OpAt.stay (OpAt.below (Hid.out HOP5) D7) hs8 (fun hS => hS.elim hobg HNE.out.2.1)).c1))
                        | (go_at_call 19; (with_reducible refine (blen_to 0 _ hB8 rfl).mono ?_); rintro e w' ⟨rfl, rfl⟩))
                      have hstX := PlaySt.mk hA8 ((HRD5.out.below D7).stay hs8 (fun q hq hS => hS.elim (HAP0.out q hq) (HNE.out.2.2 q hq))) HAP0.out ((HB5'.out.trans (D7.mono HB5'.out.size)).trans (hs8.below (B := W.heap.size) (by have := HB5'.out.size; have := D7.size; omega) (fun i _ hS => by rcases hS with rfl | rfl <;> omega)))
                      clear hA8 hB8 hs8 D6 D7 h61 h71 FD FP hop51
                      go_wp2_with fail
                      (with_reducible refine (same_at k _ hstX HT.out hW0 hkb.2).mono ?_)
                      rintro e wZ ⟨rfl, hstZ⟩
                      have HZ := Lib.hid hstZ
                      clear hstZ hstX
                      go_wp2_with fail
                      go_roundw
                      case rel => exact ⟨m + 1, _, by omega, by go_num, HZ.out⟩
                      case measure => simp [intOf]; omega
              · have k7' : ((kk : Int) == 6) = false := by simp; omega
                obtain ⟨n, hn60, HN0⟩ : ∃ n : Nat, n < 60 ∧ Hid (RowKit.wrap64 ((IntKind.u64.wrap k).tmod 60) = (n : Int)) := by
                  obtain ⟨n, h1, h2⟩ := key60 k
                  exact ⟨n, h1, Lib.hid h2⟩
                have HBASE0 := Lib.hid HST0.out.bel.size
                clear k7
                go_wp2_with (first | (at_make; refine wpList_make_full _ rfl _ _ 24 rfl W.heap.size 4 i0 (.bool false) 1 Tryd.underlying24 hi hz0 hz1 .i64 .i64 _ _ n rfl rfl HN0.out HN0.out (by rw [hz2]; omega) (by unfold maxLen; omega) HBASE0.out ?_; intro w7 hown7 hgrow7))
                have hb7 := (Below.refl _ _).grown (B := (wr.alloc (Obj.cells #[.int .i64 z, .int .i64 k, .bool c] 31)).heap.size) hgrow7 (Nat.le_refl _) (fun q hq => by cases hq)
                have hst7 := HST0.out.step hb7
                have hop7 := HOP0.out.below hb7
                have hZ7 : OwnB W.heap.size w7 (.slice (some ⟨wr.heap.size + 1, 0, none⟩) n n) (List.replicate n false) := by
                  unfold OwnB
                  rw [List.length_replicate, List.map_replicate]
                  have := hown7
                  rw [show (wr.alloc (Obj.cells #[.int .i64 z, .int .i64 k, .bool c] 31)).heap.size = wr.heap.size + 1 by simp] at this
                  rw [show (Value.bool false).cells = #[Value.bool false] from rfl, Nat.mul_one, toList_madeCells_one] at this
                  exact this
                have HR7 := Lib.hid (OwnB.rd hZ7)
                have HST7 := Lib.hid hst7
                have HOP7 := Lib.hid hop7
                have HLZ := Lib.hid (show (List.replicate n false).length = n from List.length_replicate)
                clear hown7 hgrow7 hb7 hst7 hop7 hZ7 hop1 hop2
                go_wp2_with fail
                (with_reducible refine (bnew_rd _ HR7.out (by rw [HLZ.out]; omega)).mono ?_)
                rintro e w8 ⟨g2, rfl, hg2, hblk8, hb8⟩
                have HST8 := Lib.hid (HST7.out.step hb8)
                have HOP8 := Lib.hid (HOP7.out.below hb8)
                have hg2g : g ≠ g2 := by have := HST7.out.blk.lt; omega
                have hg2o : ¬ wr.heap.size = g2 := by have := lt_of_block HOP7.out; omega
                have hg2W : W.heap.size ≤ g2 := by have := HST7.out.bel.size; omega
                have hVlt := HST7.out.rd.lt
                have HNE := Lib.hid (And.intro hg2g (And.intro hg2o (fun q hq => show ¬ q = g2 by have := hVlt q hq; omega)))
                clear hVlt
                clear hb8 hg2g hg2o HOP7 HST7 HR7
                go_wp2_with fail
                refine (blen_to n _ hblk8 (by rw [HLZ.out])).mono ?_
                rintro e w' ⟨rfl, rfl⟩
                by_cases hfit : M.length + n ≤ 128
                · have hfit' : ((M.length : Int) + n ≤ 128) := by omega
                  go_wp2_with fail
                  refine (bjoin_yes _ HST8.out.blk hblk8 HNE.out.1 (by rw [HLZ.out]; exact hfit)).mono ?_
                  rintro e w9 ⟨rfl, hblk9, _, hs9⟩
                  have HRD9 := Lib.hid (HST8.out.rd.stay hs9 (fun q hq hS => hS.elim (HST8.out.apart q hq) (HNE.out.2.2 q hq)))
                  have HOP9 := Lib.hid (HOP8.out.stay hs9 (fun hS => hS.elim hobg HNE.out.2.1))
                  have HB9 := Lib.hid (HST8.out.bel.trans (hs9.below (B := W.heap.size) HST8.out.bel.size (fun i _ hS => by rcases hS with rfl | rfl <;> omega)))
                  have HBLK9 := Lib.hid hblk9
                  clear hs9 hblk9 hblk8 HST8 HOP8
                  have hown0 := World.ownsRow_made w9 (e := 4) (base := w9.heap.size) (size := 1) #[] 0 (Nat.le_refl _) (by decide) rfl
                  have HOWN0 := Lib.hid hown0
                  have hba0 : Below w9.heap.size w9 (w9.alloc (.cells #[] 4)) := (Below.refl _ _).alloc (Nat.le_refl _) _
                  have HBA0 := Lib.hid hba0
                  have hM141 : M.length ≤ 128 := hM128
                  clear hown0 hba0
                  rcases HRD9.out with ⟨hv, hM0⟩ | ⟨b9, off9, cap9, hv, k0, k1, k2, k3⟩
                  · as_aux_lemma =>
                      subst hM0
                      simp only [Value.slice.injEq] at hv
                      obtain ⟨rfl, _, rfl⟩ := hv
                      go_wp2_with (first
                        | (at_builtin; (refine wpList_append_own_none rfl (.tmp 103) (.tmp 104) 24 rfl w9.heap.size 4 i0 1 Tryd.underlying24 hi _ 0 [] rfl HOWN0.out rfl ?_))
                        | (at_builtin; (refine wpList_append_zeros _ rfl (.tmp 105) (.tmp 106) 24 3 rfl w9.heap.size 4 i0 (.bool false) 1 Tryd.underlying24 Tryd.underlying3 hi hz0 hz1 hz2 rfl rfl _ _ _ rfl HOWN0.out (by intro h; cases h) n _ rfl rfl (by unfold maxLen; omega) (by omega) HBA0.out.size ?_); intro v11 w11 hown11 hgrow11; (have hb11 : Below w9.heap.size w9 w11 := HBA0.out.grown hgrow11 HBA0.out.size (fun q hq => by have := (HOWN0.out.lt q hq).1; omega)); (have h61 := (HOP9.out.below hb11).c1)))
                      have hr11 : OwnB w9.heap.size w11 v11 (([] : List Bool) ++ List.replicate n false) := OwnB.app (l := []) (m := List.replicate n false) (by rw [List.length_replicate, List.map_replicate]; exact hown11)
                      obtain ⟨M', hstX⟩ : ∃ M', PlaySt W g w11 v11 M' := ⟨_, PlaySt.own HBLK9.out HB9.out hr11 hb11⟩
                      obtain ⟨va6, vc6, rfl, _, _⟩ := hstX.rd.open
                      clear hown11 hgrow11 hb11 hr11
                      go_wp2_with fail
                      (with_reducible refine (same_at k _ hstX HT.out hW0 hkb.2).mono ?_)
                      rintro e wZ ⟨rfl, hstZ⟩
                      have HZ := Lib.hid hstZ
                      clear hstZ hstX
                      go_wp2_with fail
                      go_roundw
                      case rel => exact ⟨m + 1, _, by omega, by go_num, HZ.out⟩
                      case measure => simp [intOf]; omega
                  · as_aux_lemma =>
                      simp only [Value.slice.injEq] at hv
                      obtain ⟨rfl, _, rfl⟩ := hv
                      have hsrc : Hid (∀ j u, (M.map Value.bool)[j]? = some u → (w9.alloc (.cells #[] 4)).cell? ((⟨b9, off9, none⟩ : Addr).add j) = some u) := by
                        have h := take_cells (w := w9.alloc (.cells #[] 4)) (l := M) (b := b9) (off := off9) (fun i hi => (World.cell?_alloc_past _ _ _ k0).trans (k3 i hi)) M.length (Nat.le_refl _)
                        rw [List.take_length] at h
                        exact Lib.hid h
                      clear k1 k2 k3
                      go_wp2_with (first
                        | (at_builtin; (refine wpList_append_own _ rfl (.tmp 103) (.tmp 104) 24 rfl w9.heap.size 4 i0 (.bool false) 1 1 Tryd.underlying24 hi hz0 hz1 hz2 rfl (by decide) _ 0 [] rfl HOWN0.out ⟨b9, off9, none⟩ M.length _ (M.map Value.bool) rfl (by rw [List.length_map]; omega) hsrc.out (bools_one _) (by unfold maxLen; omega) (by omega) HBA0.out.size ?_); intro v10 w10 hown10 hgrow10 hnil10;
                            (have hb10 : Below w9.heap.size w9 w10 := HBA0.out.grown hgrow10 HBA0.out.size (fun q hq => by have := (HOWN0.out.lt q hq).1; omega));
                            (have hnn10 : v10 ≠ .slice none 0 0 := fun h => by have := (hnil10.1 h).1; cases this); clear hgrow10 hnil10)
                        | (at_builtin; (refine wpList_append_zeros _ rfl (.tmp 105) (.tmp 106) 24 3 rfl w9.heap.size 4 i0 (.bool false) 1 Tryd.underlying24 Tryd.underlying3 hi hz0 hz1 hz2 rfl rfl _ _ _ rfl hown10 hnn10 n _ rfl rfl (by unfold maxLen; omega) (by omega) hb10.size ?_); intro v11 w11 hown11 hgrow11; (have hb11 : Below w9.heap.size w9 w11 := hb10.grown hgrow11 hb10.size (fun q hq => by have := (hown10.lt q hq).1; omega)); (have h61 := (HOP9.out.below hb11).c1)))
                      have hr11 : OwnB w9.heap.size w11 v11 (M ++ List.replicate n false) := OwnB.app (by rw [List.length_replicate, List.map_replicate]; have := hown11; rw [Nat.zero_add, List.nil_append] at this; exact this)
                      obtain ⟨M', hstX⟩ : ∃ M', PlaySt W g w11 v11 M' := ⟨_, PlaySt.own HBLK9.out HB9.out hr11 hb11⟩
                      obtain ⟨va6, vc6, rfl, _, _⟩ := hstX.rd.open
                      clear hown11 hgrow11 hb11 hr11 hown10 hb10 hnn10
                      go_wp2_with fail
                      (with_reducible refine (same_at k _ hstX HT.out hW0 hkb.2).mono ?_)
                      rintro e wZ ⟨rfl, hstZ⟩
                      have HZ := Lib.hid hstZ
                      clear hstZ hstX
                      go_wp2_with fail
                      go_roundw
                      case rel => exact ⟨m + 1, _, by omega, by go_num, HZ.out⟩
                      case measure => simp [intOf]; omega
                · as_aux_lemma =>
                    have hfit' : ¬ ((M.length : Int) + n ≤ 128) := by omega
                    go_wp2_with fail
                    refine (bjoin_full _ HST8.out.blk hblk8 (by rw [HLZ.out]; omega)).mono ?_
                    rintro e w9 ⟨rfl, nd, rfl⟩
                    have hstX : PlaySt W g (w8.drewN nd) _ M := HST8.out.step ((Below.refl _ _).drewN _)
                    have h61 : (w8.drewN nd).cell? ⟨wr.heap.size, 1, none⟩ = some (.int .i64 k) := HOP8.out.c1
                    go_wp2_with fail
                    (with_reducible refine (same_at k _ hstX HT.out hW0 hkb.2).mono ?_)
                    rintro e wZ ⟨rfl, hstZ⟩
                    have HZ := Lib.hid hstZ
                    clear hstZ hstX
                    go_wp2_with fail
                    go_roundw
                    case rel => exact ⟨m + 1, _, by omega, by go_num, HZ.out⟩
                    case measure => simp [intOf]; omega
        · have h3 : ¬ (m : Int) < len1 := by omega
          go_wp2_with fail
          refine (told_any _ (HT.out.below hst.bel hW0) (by have := hst.bel.size; omega)).mono ?_
          rintro e w3 ⟨rfl, hb3⟩
          have B3 := hst.bel.trans (hb3.mono hst.bel.size)
          go_wp2_with fail
          go_ret
          exact ⟨rfl, B3⟩
end Go.Proofs.YtihekandplocmaaDoor
