/- Stage 7's statements as walks, over the contracts that are asked of waves: WavePlays. -/
import Derived.Test.YtaglnomjlnlgoaaGreatDoorLwG
import Derived.Deep.RegionLaw
import Derived.Deep.CutBlock
import Derived.Deep.RegionHeld3
namespace Go.Proofs.YtaglnomjlnlgoaaGreatDoor
open Go Go.RowKit Go.ChangeAt

theorem Wst.insert_arg {O : WOps} {B : Nat} {W w : World} {t : Nat} {x : O.X} {m : List Int} (h : Wst O B W w t x m) (hm : m.length ≤ 1000000) (k s : Int) (hs : ¬ (0 ≤ s ∧ s ≤ 256)) :
    Calls Tryz.prog 11 #[.pointer (some ⟨t, 0, none⟩), .int .i64 k, .int .i64 s] w fun e w' => e = .returned (.int .i64 1) ∧ ∃ x', Wst O B W w' t x' m ∧ O.Nxt w w' x x' ∧ O.shp x' = O.shp x ∧ O.vis x' ≤ 72 * (hiS 0 (O.shp x) + 2) :=
  (O.insert_arg k s h.E h.wav hm hs).mono fun _ _ ⟨he, x', h1, h2, h3, h4, h5⟩ => ⟨he, x', h.next h1 h2 h3, ⟨h2, h3⟩, h4, h5⟩
theorem Wst.insert_out {O : WOps} {B : Nat} {W w : World} {t : Nat} {x : O.X} {m : List Int} (h : Wst O B W w t x m) (hm : m.length ≤ 1000000) (k s : Int) (hs : 0 ≤ s ∧ s ≤ 256) (hk : k < 0 ∨ (m.length : Int) < k) :
    Calls Tryz.prog 11 #[.pointer (some ⟨t, 0, none⟩), .int .i64 k, .int .i64 s] w fun e w' => e = .returned (.int .i64 2) ∧ ∃ x', Wst O B W w' t x' m ∧ O.Nxt w w' x x' ∧ O.shp x' = O.shp x ∧ O.vis x' ≤ 72 * (hiS 0 (O.shp x) + 2) :=
  (O.insert_out k s h.E h.wav hm hs hk).mono fun _ _ ⟨he, x', h1, h2, h3, h4, h5⟩ => ⟨he, x', h.next h1 h2 h3, ⟨h2, h3⟩, h4, h5⟩
theorem Wst.delete_out {O : WOps} {B : Nat} {W w : World} {t : Nat} {x : O.X} {m : List Int} (h : Wst O B W w t x m) (hm : m.length ≤ 1000000) (k : Int) (hk : k < 0 ∨ (m.length : Int) ≤ k) :
    Calls Tryz.prog 14 #[.pointer (some ⟨t, 0, none⟩), .int .i64 k] w fun e w' => e = .returned (.tuple #[.int .i64 (-1), .int .i64 2]) ∧ ∃ x', Wst O B W w' t x' m ∧ O.Nxt w w' x x' ∧ O.shp x' = O.shp x ∧ O.vis x' ≤ 72 * (hiS 0 (O.shp x) + 2) :=
  (O.delete_out k h.E h.wav hm hk).mono fun _ _ ⟨he, x', h1, h2, h3, h4, h5⟩ => ⟨he, x', h.next h1 h2 h3, ⟨h2, h3⟩, h4, h5⟩
theorem Wst.get_out {O : WOps} {B : Nat} {W w : World} {t : Nat} {x : O.X} {m : List Int} (h : Wst O B W w t x m) (hm : m.length ≤ 1000000) (k : Int) (hk : k < 0 ∨ (m.length : Int) ≤ k) :
    Calls Tryz.prog 16 #[.pointer (some ⟨t, 0, none⟩), .int .i64 k] w fun e w' => e = .returned (.tuple #[.int .i64 (-1), .int .i64 2]) ∧ ∃ x', Wst O B W w' t x' m ∧ O.Nxt w w' x x' ∧ O.shp x' = O.shp x ∧ O.vis x' ≤ 72 * (hiS 0 (O.shp x) + 2) :=
  (O.get_out k h.E h.wav hm hk).mono fun _ _ ⟨he, x', h1, h2, h3, h4, h5⟩ => ⟨he, x', h.next h1 h2 h3, ⟨h2, h3⟩, h4, h5⟩
theorem PlW.at {O : WOps} {B : Nat} {W w : World} {t : Nat} {x : O.X} {m : List Int} {a : Option Addr} {cap : Nat} {l : List Int} (h : PlW O B W w t x m a cap l) {k : Nat} (hk : k < l.length) : ∃ b off, a = some ⟨b, off, none⟩ ∧ w.cell? ⟨b, off + k, none⟩ = some (.int .i64 (l.getD k 0)) := by
  obtain ⟨b, off, ha, _, hc⟩ := h.rd.1.2.2.2 (by omega)
  exact ⟨b, off, ha, hc k hk⟩
theorem vis_max {v h h' : Int} (hv : v ≤ 72 * (h + 2)) : v ≤ 72 * (max h h' + 2) := by omega
theorem len_one {l : Nat} (h : (l : Int) = min ((1 : Nat) : Int) 1) : l = 1 := by omega
theorem mod_raw (z : Int) (N : Nat) (hN : N ≤ 999999) : ∃ q : Nat, q ≤ N ∧ (IntKind.u64.wrap z).tmod ((N : Int) + 1) = (q : Int) := by
  rw [IntKind.wrap_u64]
  have h2 : 0 ≤ z % 18446744073709551616 := Int.emod_nonneg _ (by decide)
  rw [Int.tmod_eq_emod_of_nonneg h2]
  generalize z % 18446744073709551616 = x at h2 ⊢
  have h3 : 0 ≤ x % ((N : Int) + 1) := Int.emod_nonneg _ (by omega)
  have h4 : x % ((N : Int) + 1) < (N : Int) + 1 := Int.emod_lt_of_pos _ (by omega)
  exact ⟨(x % ((N : Int) + 1)).toNat, by omega, by omega⟩

set_option maxRecDepth 100000 in
set_option maxHeartbeats 6400000 in
theorem waveplays_o (O : WOps) (hVs : O.Vis) (a : Option Addr) (n cap : Nat) (few : Bool) (a2 : Option Addr) (n2 cap2 : Nat) (W : World) (hz : RdZ W a n) (hops : RdOps W a2 n2) (hE : O.E W) (hpos : 0 < W.heap.size) :
    Calls Tryz.prog 3 #[.slice a n cap, .bool few, .slice a2 n2 cap2] W fun e w' => e = .returned (.bool true) ∧ Below W.heap.size W w' := by
  have keyS := syms7 a n cap 200 few W hz (by omega)
  have hn2 := hops.1
  unfold maxLen at hn2
  have HOPS := Lib.hid hops.2
  clear hops
  go_enter Tryz.func3, Tryz.ntmps3
  go_wp2_with fail
  (with_reducible refine keyS.mono ?_)
  rintro e w1 ⟨v, m, rfl, hown, hg, hmin, hb1⟩
  obtain ⟨a', cap', n', rfl, hB⟩ := beg hE hpos hown hg hb1
  have hlen := hB.len
  have hn : (n' : Int) ≤ 200 := by omega
  have hm6 : m.length ≤ 1000000 := by omega
  have keyN := hB.new (by omega)
  have hrf : RdF w1 a' cap' m := RdF.own (by rw [hlen]; exact hown)
  have HB := Lib.hid hB
  have HM := Lib.hid hm6
  have HLN := Lib.hid hlen
  have HRF := Lib.hid hrf
  clear keyS hown hg hmin hb1 hB hm6 hlen hz hE hpos hrf
  go_wp2_with fail
  (with_reducible refine keyN.mono ?_)
  rintro e w2 ⟨t, x, rfl, hW⟩
  have hP : PlW O w1.heap.size w1 w2 t x m a' cap' m := by
    refine ⟨hW, HRF.out.below hW.below, fun ad ha e => ?_⟩
    rcases HRF.out.2 with ⟨h0, _⟩ | ⟨b, off, hb, hlt⟩
    · rw [h0] at ha; cases ha
    · rw [ha] at hb
      injection hb with hb
      subst hb
      have := hW.own _ e
      have e' : w1.heap.size ≤ b := this
      omega
  have keyA := hW.alls HM.out n' HLN.out
  have HP := Lib.hid hP
  clear keyN hW hP
  go_wp2_with fail
  (with_reducible refine keyA.mono ?_)
  rintro e w3 ⟨aA, cA, x3, rfl, hrA, _, hW3, hN3⟩
  have hP3 := HP.out.next hW3 hN3
  have keyM := rsame6 w3 hrA hP3.rd.1 HLN.out
  clear keyA hrA hW3 hN3
  go_wp2_with fail
  (with_reducible refine keyM.mono ?_)
  rintro e w4 ⟨rfl, hb4⟩
  have hP4 := hP3.beside hb4
  clear keyM hP3 hb4
  by_cases hlong : 60 < n2
  · have i1 : (60 : Int) < n2 := by omega
    have keyT := hP4.w.told
    clear hP4
    go_wp2_with fail
    (with_reducible refine keyT.mono ?_)
    rintro e w5 ⟨rfl, hW5⟩
    have HW := Lib.hid hW5
    clear keyT hW5
    go_wp2_with fail
    go_ret
    exact ⟨rfl, HB.out.back HW.out⟩
  · have i1 : ¬ (60 : Int) < n2 := by omega
    go_wp2_with fail
    clear i1
    go_loopw [7, 10, 11, 12, 13, 14, 15, 16, 17, 18, 19, 100, 114, 118, 127] (fun mv i _ _ _ _ _ _ _ _ _ _ _ _ _ wr => ∃ (j : Nat) (x : O.X) (m : List Int) (a : Option Addr) (cap : Nat) (N : Nat), j ≤ n2 ∧ i = .int .i64 j ∧ mv = .slice a N cap ∧ m.length = N ∧ N ≤ 200 + j ∧ PlW O w1.heap.size w1 wr t x m a cap m) (fun _ i _ _ _ _ _ _ _ _ _ _ _ _ _ _ => n2 - (intOf i).toNat)
    case atStart => exact ⟨0, x3, m, a', cap', n', Nat.zero_le _, rfl, rfl, HLN.out, by omega, hP4⟩
    case round =>
      clear hP4 HP
      obtain ⟨j, x, m, aL, cL, N, hj, rfl, rfl, hmN, hNj, hP⟩ := hrel
      have hN : (N : Int) ≤ 260 := by omega
      have hm6 : m.length ≤ 1000000 := by omega
      have HMN := Lib.hid hmN
      have HM6 := Lib.hid hm6
      clear hmN hm6
      by_cases hlt : j < n2
      · have hi1 : (j : Int) < n2 := by omega
        have hjb : (j : Int) ≤ 60 := by omega
        obtain ⟨ob0, off, rfl, hob, hops⟩ := HOPS.out (by omega)
        obtain ⟨z, k, c, c0, c1, c2, _, hk1, hk2⟩ := hops j hlt
        have hbel := HB.out.back hP.w
        have g0 := (hbel.cell (p := ⟨ob0, off + j * 3, none⟩) hob).trans c0
        have g1 := (hbel.cell (p := ⟨ob0, off + j * 3 + 1, none⟩) hob).trans c1
        have g2 := (hbel.cell (p := ⟨ob0, off + j * 3 + 2, none⟩) hob).trans c2
        have hOP0 : OpW (wr.alloc (Obj.cells #[.int .i64 z, .int .i64 k, .int .i64 c] 32)) wr.heap.size z k c := alloc_of
        have hP0 := hP.beside ((Below.refl _ wr).alloc (Nat.le_refl _) (Obj.cells #[.int .i64 z, .int .i64 k, .int .i64 c] 32))
        have hOWN : ¬ O.own x wr.heap.size := fun e => by have := hP.w.lt _ e; omega
        clear hops c0 c1 c2 hbel hP
        go_wp2_with fail
        generalize wr.alloc (Obj.cells #[.int .i64 z, .int .i64 k, .int .i64 c] 32) = w2 at *
        generalize wr.heap.size = ob at *
        have hP0d : PlW O w1.heap.size w1 w2.drew t x m aL cL m := hP0.beside ((Below.refl _ _).drew)
        have hOP0d : OpW w2.drew ob z k c := hOP0
        obtain ⟨L, hL⟩ : ∃ L, (Wv.lens m).length = L := ⟨_, rfl⟩
        have keySh := hP0d.w.shapes HM6.out L hL
        have hsl := (hP0d.w.shlen HM6.out).trans hL
        have hsh := (O.shapes_are hP0d.w.wav HM6.out).2
        have hht0 : 0 ≤ hiS 0 (O.shp x) := hiS_ge _ 0
        have hht1 : hiS 0 (O.shp x) ≤ 100 := hiS_le _ 100 (fun s hs => (hsh s hs).2.2.2) 0 (by omega)
        have HSL := Lib.hid hsl
        have HHT := Lib.hid (And.intro hht0 hht1)
        have HP0 := Lib.hid hP0d
        have HOP0 := Lib.hid hOP0d
        have o1 : w2.drew.cell? ⟨ob, 1, none⟩ = some (.int .i64 k) := hOP0d.c1
        have o2 : w2.drew.cell? ⟨ob, 2, none⟩ = some (.int .i64 c) := hOP0d.c2
        have HOW := Lib.hid hOWN
        clear hP0 hP0d hOP0 hOP0d g0 g1 g2 hsl hsh hht0 hht1 hL hOWN
        go_cut [12, 13, 14] (fun k' s' h' wx => ∃ x', k' = .int .i64 k ∧ s' = .int .i64 c ∧ h' = .int .i64 (hiS 0 (O.shp x')) ∧ (0 ≤ hiS 0 (O.shp x') ∧ hiS 0 (O.shp x') ≤ 100) ∧ PlW O w1.heap.size w1 wx t x' m aL cL m ∧ OpW wx ob z k c ∧ ¬ O.own x' ob)
        case first =>
          as_aux_lemma =>
            go_region_held3 (fun w' => w'.cell? ⟨ob, 1, none⟩ = some (.int .i64 k) ∧ w'.cell? ⟨ob, 2, none⟩ = some (.int .i64 c))
              (first | exact ⟨o1, o2⟩ | exact ⟨q1, q2⟩ | go_keep)
              (first
               | (go_at_call 10; (with_reducible refine keySh.mono ?_); rintro e w3 ⟨aS, cS, x3, rfl, hrS, hW3, hN3, _, he3⟩; (have hOP3 := HOP0.out.next hN3 HOW.out); (have q1 := hOP3.c1); (have q2 := hOP3.c2); (have HOP3 := Lib.hid hOP3); (have HP3 := Lib.hid (HP0.out.next hW3 hN3)); (have HO3 : Hid (¬ O.own x3 ob) := Lib.hid (fun e => (hN3.2 _ e).elim HOW.out (fun e => by have := lt_of_block HOP0.out; omega))); (have keyH := high7 L cS w3 hrS HSL.out); (have HE3 := Lib.hid he3); clear hOP3 hW3 hN3 hrS he3)
               | (go_at_call 9; (with_reducible refine keyH.mono ?_); rintro e w3' ⟨rfl, rfl⟩; (rw [← HE3.out])))
            all_goals
              go_wp2_with fail
              go_meet
              case rel => exact ⟨x3, rfl, rfl, rfl, by rw [HE3.out]; exact HHT.out, HP3.out, HOP3.out, HO3.out⟩
        case rest =>
        obtain ⟨x', rfl, rfl, rfl, hht, hP3, hOP3, hO3⟩ := hcut
        clear o1 o2 keySh HP0 HOP0 HSL HHT HOW
        have HP3 := Lib.hid hP3
        have HOP3 := Lib.hid hOP3
        have HHT := Lib.hid hht
        have HO3 := Lib.hid hO3
        clear hP3 hOP3 hht hO3
        generalize wc = w3 at *
        obtain ⟨q, hq, hmod⟩ := mod_raw k N (by omega)
        go_upto_if 64 with fail
        go_cut [12, 13] (fun k' s' wx => ∃ (K s2 : Int), k' = .int .i64 K ∧ s' = .int .i64 s2 ∧ Below w3.heap.size w3 wx)
        case first =>
          as_aux_lemma =>
            by_cases h9 : (j : Int) % 9 < 8
            · have z1 : IntKind.i64.wrap ((N : Int) + 1) = (N : Int) + 1 := IntWalk.i64_in _ (by omega)
              have z2 : IntKind.u64.wrap ((N : Int) + 1) = (N : Int) + 1 := by rw [IntKind.wrap_u64]; omega
              have z3 : IntKind.u64.wrap (q : Int) = (q : Int) := by rw [IntKind.wrap_u64]; omega
              have z4 : IntKind.i64.wrap (q : Int) = (q : Int) := IntWalk.i64_in _ (by omega)
              have z5 : ¬ ((N : Int) + 1 = 0) := by omega
              have hb3 : Below w3.heap.size w3 (w3.alloc (Obj.cells #[.int .i64 c] 3)).drew := ((Below.refl _ w3).alloc (Nat.le_refl _) _).drew
              have hrz : RdZ (w3.alloc (Obj.cells #[.int .i64 c] 3)).drew (some ⟨w3.heap.size, 0, none⟩) 1 := ⟨by decide, fun _ => ⟨w3.heap.size, 0, rfl, by simp, fun i hi => ⟨c, by
                have h0 : i = 0 := by omega
                subst h0
                exact new_cell (w := w3) rfl rfl⟩⟩⟩
              have keyS := syms7 (some ⟨w3.heap.size, 0, none⟩) 1 1 1 few _ hrz (by omega)
              go_wp2_with fail
              refine wp_region_held_drew (S := fun _ => True) (by kernel_rfl) trivial (fun hHeld => ?_)
              refine wpAnyH_take (i := 0) (v := ?u0) rfl (by kernel_rfl) (by kernel_rfl) (by kernel_rfl) (fun _ _ _ h => h) (Or.inl ⟨by rfl, ?hy0⟩) hHeld ?rest0
              case hy0 => (intro w hSw; clear hSw; go_simp; (try with_reducible rfl))
              try simp only [Act.put, List.getElem_toArray, List.getElem_cons_zero, List.setIfInBounds_toArray, List.set_cons_zero, List.set_cons_succ]
              refine wpAnyH_take (i := 1) (v := ?u1) rfl (by kernel_rfl) (by kernel_rfl) (by kernel_rfl) (fun _ _ _ h => h) (Or.inl ⟨by rfl, ?hy1⟩) hHeld ?rest1
              case hy1 => (intro w hSw; clear hSw; go_simp; (try with_reducible rfl))
              try simp only [Act.put, List.getElem_toArray, List.getElem_cons_succ, List.getElem_cons_zero, List.setIfInBounds_toArray, List.set_cons_zero, List.set_cons_succ]
              refine wpAnyH_take (i := 2) (v := ?u2) rfl (by kernel_rfl) (by kernel_rfl) (by kernel_rfl) (fun _ _ _ h => h) (Or.inl ⟨by rfl, ?hy2⟩) hHeld ?rest2
              case hy2 => (intro w hSw; clear hSw; go_simp; (try with_reducible rfl))
              try simp only [Act.put, List.getElem_toArray, List.getElem_cons_succ, List.getElem_cons_zero, List.setIfInBounds_toArray, List.set_cons_zero, List.set_cons_succ]
              refine wpAnyH_take (i := 3) (v := ?u3) rfl (by kernel_rfl) (by kernel_rfl) (by kernel_rfl) (fun _ _ _ h => h) (Or.inl ⟨by rfl, ?hy3⟩) hHeld ?rest3
              case hy3 => (intro w hSw; clear hSw; go_simp; (try with_reducible rfl))
              try simp only [Act.put, List.getElem_toArray, List.getElem_cons_succ, List.getElem_cons_zero, List.setIfInBounds_toArray, List.set_cons_zero, List.set_cons_succ]
              refine wpAnyH_take (i := 4) (v := ?u4) rfl (by kernel_rfl) (by kernel_rfl) (by kernel_rfl) (fun _ _ _ h => h) (Or.inl ⟨by rfl, ?hy4⟩) hHeld ?rest4
              case hy4 => (intro w hSw; clear hSw; go_simp; (try with_reducible rfl))
              try simp only [Act.put, List.getElem_toArray, List.getElem_cons_succ, List.getElem_cons_zero, List.setIfInBounds_toArray, List.set_cons_zero, List.set_cons_succ]
              refine wpAnyH_take (i := 5) (v := ?u5) rfl (by kernel_rfl) (by kernel_rfl) (by kernel_rfl) (fun _ _ _ h => h) (Or.inl ⟨by rfl, ?hy5⟩) hHeld ?rest5
              case hy5 => (intro w hSw; clear hSw; go_simp; (try with_reducible rfl))
              try simp only [Act.put, List.getElem_toArray, List.getElem_cons_succ, List.getElem_cons_zero, List.setIfInBounds_toArray, List.set_cons_zero, List.set_cons_succ]
              refine wpAnyH_take (i := 6) (v := ?u6) rfl (by kernel_rfl) (by kernel_rfl) (by kernel_rfl) (fun _ _ _ h => h) (Or.inl ⟨by rfl, ?hy6⟩) hHeld ?rest6
              case hy6 => (intro w hSw; clear hSw; go_simp; (try with_reducible rfl))
              try simp only [Act.put, List.getElem_toArray, List.getElem_cons_succ, List.getElem_cons_zero, List.setIfInBounds_toArray, List.set_cons_zero, List.set_cons_succ]
              refine wpAnyH_take (i := 7) (v := ?u7) rfl (by kernel_rfl) (by kernel_rfl) (by kernel_rfl) (fun _ _ _ h => h) (Or.inl ⟨by rfl, ?hy7⟩) hHeld ?rest7
              case hy7 => (intro w hSw; clear hSw; go_simp; (try with_reducible rfl))
              try simp only [Act.put, List.getElem_toArray, List.getElem_cons_succ, List.getElem_cons_zero, List.setIfInBounds_toArray, List.set_cons_zero, List.set_cons_succ]
              refine wpAnyH_take (i := 8) (v := ?u8) rfl (by kernel_rfl) (by kernel_rfl) (by kernel_rfl) (fun _ _ _ h => h) (Or.inl ⟨by rfl, ?hy8⟩) hHeld ?rest8
              case hy8 => (intro w hSw; clear hSw; go_simp; (try with_reducible rfl))
              try simp only [Act.put, List.getElem_toArray, List.getElem_cons_succ, List.getElem_cons_zero, List.setIfInBounds_toArray, List.set_cons_zero, List.set_cons_succ]
              refine wpAnyH_take (i := 10) (v := ?u10) rfl (by kernel_rfl) (by kernel_rfl) (by kernel_rfl) (fun _ _ _ h => h) (Or.inl ⟨by rfl, ?hy10⟩) hHeld ?rest10
              case hy10 => (intro w hSw; clear hSw; go_simp; (try with_reducible rfl))
              try simp only [Act.put, List.getElem_toArray, List.getElem_cons_succ, List.getElem_cons_zero, List.setIfInBounds_toArray, List.set_cons_zero, List.set_cons_succ]
              refine wpAnyH_ready (rs := [9]) (by kernel_rfl) (by simp) ?_
              refine AllReadyH.cons rfl (fun K hK => ?_) AllReadyH.nil
              clear hHeld
              go_simp
              refine hK.out _ _ trivial (fun hHeld => ?_)
              clear hK K
              try simp only [Act.put, List.getElem_toArray, List.getElem_cons_succ, List.getElem_cons_zero, List.setIfInBounds_toArray, List.set_cons_zero, List.set_cons_succ]
              refine wpAnyH_ready (rs := [11]) (by kernel_rfl) (by simp) ?_
              refine AllReadyH.cons rfl (fun K hK => ?_) AllReadyH.nil
              clear hHeld
              go_simp
              go_at_call 4; (with_reducible refine keyS.mono ?_); rintro e w4 ⟨v4, m4, rfl, hown4, hg4, hl4, hb4⟩; (have hl4' : m4.length = 1 := len_one hl4); (have hc4 := OwnI.one hown4 hl4'); (obtain ⟨b4, cp4, rfl, c4⟩ := hc4); (have HB4 := Lib.hid (hb3.trans (hb4.mono hb3.size))); clear hown4 hg4 hl4 hb4
              (try go_wp2_with fail)
              refine hK.out _ _ trivial (fun hHeld => ?_)
              clear hK K
              try simp only [Act.put, List.getElem_toArray, List.getElem_cons_succ, List.getElem_cons_zero, List.setIfInBounds_toArray, List.set_cons_zero, List.set_cons_succ]
              refine wpAnyH_take (i := 12) (v := ?u12) rfl (by kernel_rfl) (by kernel_rfl) (by kernel_rfl) (fun _ _ _ h => h) (Or.inl ⟨by rfl, ?hy12⟩) hHeld ?rest12
              case hy12 => (intro w hSw; clear hSw; go_simp; (try with_reducible rfl))
              try simp only [Act.put, List.getElem_toArray, List.getElem_cons_succ, List.getElem_cons_zero, List.setIfInBounds_toArray, List.set_cons_zero, List.set_cons_succ]
              refine wpAnyH_take (i := 14) (v := ?u14) rfl (by kernel_rfl) (by kernel_rfl) (by kernel_rfl) (fun _ _ _ h => h) (Or.inl ⟨by rfl, ?hy14⟩) hHeld ?rest14
              case hy14 => (intro w hSw; clear hSw; go_simp; (try with_reducible rfl))
              try simp only [Act.put, List.getElem_toArray, List.getElem_cons_succ, List.getElem_cons_zero, List.setIfInBounds_toArray, List.set_cons_zero, List.set_cons_succ]
              refine wpAnyH_ready (rs := [13]) (by kernel_rfl) (by simp) ?_
              refine AllReadyH.cons rfl (fun K hK => ?_) AllReadyH.nil
              clear hHeld
              go_simp
              refine hK.out _ _ trivial (fun hHeld => ?_)
              clear hK K
              try simp only [Act.put, List.getElem_toArray, List.getElem_cons_succ, List.getElem_cons_zero, List.setIfInBounds_toArray, List.set_cons_zero, List.set_cons_succ]
              refine wpAnyH_take (i := 15) (v := ?u15) rfl (by kernel_rfl) (by kernel_rfl) (by kernel_rfl) (fun _ _ _ h => h) (Or.inl ⟨by rfl, ?hy15⟩) hHeld ?rest15
              case hy15 => (intro w hSw; clear hSw; go_simp; (try with_reducible rfl))
              try simp only [Act.put, List.getElem_toArray, List.getElem_cons_succ, List.getElem_cons_zero, List.setIfInBounds_toArray, List.set_cons_zero, List.set_cons_succ]
              refine wpAnyH_done (by kernel_rfl) ?_ _
              all_goals
                go_wp2_with fail
                go_meet
                case rel => exact ⟨_, _, rfl, rfl, HB4.out⟩
            · go_wp2_with fail
              go_meet
              case rel => exact ⟨k, c, rfl, rfl, Below.refl _ _⟩
        case rest =>
        obtain ⟨K, s2, rfl, rfl, hb5⟩ := hcut
        have hP5 := HP3.out.beside hb5
        have hOP5 := HOP3.out.below hb5
        clear hmod hb5 HP3 HOP3
        generalize wc = w5 at *
        obtain ⟨kk, hkk, hk8⟩ := and7 z
        have o0 := hOP5.c0
        have HP5 := Lib.hid hP5
        obtain ⟨ht, hhte⟩ : ∃ ht, hiS 0 (O.shp x') = ht := ⟨_, rfl⟩
        have HE := Lib.hid hhte
        rw [hhte]
        rw [hhte] at HHT
        clear hP5 hOP5 hhte HO3
        go_upto_block 2 with fail
        go_cut [7, 15, 16, 17, 18] (fun mv xv av yv bv wx => ∃ (X A : Int) (x2 : O.X) (m2 : List Int) (aM : Option Addr) (cM N2 : Nat), mv = .slice aM N2 cM ∧ xv = .int .i64 X ∧ av = .int .i64 A ∧ yv = .int .i64 X ∧ bv = .int .i64 A ∧ m2.length = N2 ∧ N2 ≤ N + 1 ∧ PlW O w1.heap.size w1 wx t x2 m2 aM cM m2 ∧ O.vis x2 ≤ 72 * (max ht (hiS 0 (O.shp x2)) + 2))
        case first =>
          as_aux_lemma =>
            go_upto_if 100 with fail
            go_cut [100] (fun b wx => ∃ b5 : Bool, b = .bool b5 ∧ ((b5 = true ∧ kk < 5) ∨ (b5 = false ∧ (kk = 5 ∨ kk = 6 ∨ kk = 7))) ∧ w5 = wx)
            case first =>
              have h8 : ((((((kk = 0 ∨ kk = 1) ∨ kk = 2) ∨ kk = 3) ∨ kk = 4) ∨ kk = 5) ∨ kk = 6) ∨ kk = 7 := by omega
              obtain (((((((rfl | rfl) | rfl) | rfl) | rfl) | rfl) | rfl) | rfl) := h8
              all_goals
                go_wp2_with fail
                go_meet
                case rel => exact ⟨_, rfl, by decide, rfl⟩
            case rest =>
            obtain ⟨b5, rfl, h5, rfl⟩ := hcut
            clear o0
            rcases h5 with ⟨rfl, h5⟩ | ⟨rfl, h5⟩
            · clear h5 hkk
              by_cases his : 0 ≤ s2 ∧ s2 ≤ 256
              · by_cases hin : 0 ≤ K ∧ K ≤ N
                · as_aux_lemma =>
                    obtain ⟨q, rfl⟩ := Int.eq_ofNat_of_zero_le hin.1
                    have hqN : q ≤ N := by omega
                    have i2 : ¬ (q : Int) < 0 := by omega
                    have i3 : ¬ (N : Int) < q := by omega
                    obtain ⟨M, hM⟩ : ∃ M, Wv.ins m q s2 = M := ⟨_, rfl⟩
                    have hML : M.length = N + 1 := by rw [← hM, Wv.ins_len (by rw [HMN.out]; exact hqN), HMN.out]
                    have keyI := HP5.out.w.insert M HM6.out q s2 (by rw [HMN.out]; exact hqN) his hM
                    have keyY := fun w => ris_yes w his
                    have HMM := Lib.hid hM
                    have HML := Lib.hid hML
                    clear hin his hM hML
                    go_wp2_with fail
                    (with_reducible refine keyI.mono ?_)
                    rintro e w6 ⟨rfl, x6, hW6, hN6, hv⟩
                    have hP6 := HP5.out.next hW6 hN6
                    rw [HE.out] at hv
                    have HV := Lib.hid hv
                    have keyIn := r6in q q s2 M w6 hP6.rd HMN.out rfl hqN (by omega) HMM.out
                    have HP6 := Lib.hid hP6
                    clear keyI hW6 hN6 hv hP6
                    go_wp2_with fail
                    (with_reducible refine (keyY _).mono ?_); rintro e w6' ⟨rfl, rfl⟩
                    clear keyY
                    go_wp2_with fail
                    (with_reducible refine keyIn.mono ?_)
                    rintro e w7 ⟨v7, rfl, hown7, hb7⟩
                    obtain ⟨a7, c7, rfl, _, _⟩ := own_form hown7
                    have hP7 := PlW.own HP6.out.w hown7 hb7
                    rw [HML.out]
                    have HP7 := Lib.hid hP7
                    clear keyIn hown7 hb7 hP7
                    go_wp2_with fail
                    go_meet
                    case rel => exact ⟨-1, 0, x6, M, a7, c7, N + 1, rfl, rfl, rfl, rfl, rfl, HML.out, Nat.le_refl _, HP7.out, HV.out⟩
                · as_aux_lemma =>
                    have hout : K < 0 ∨ (m.length : Int) < K := by have := HMN.out; omega
                    have keyI := HP5.out.w.insert_out HM6.out K s2 his hout
                    have keyY := fun w => ris_yes w his
                    have hor : K < 0 ∨ (¬ K < 0 ∧ (N : Int) < K) := by omega
                    clear hin his hout
                    rcases hor with i2 | ⟨i2, i3⟩
                    all_goals
                      go_wp2_with fail
                      (with_reducible refine keyI.mono ?_)
                      rintro e w6 ⟨rfl, x6, hW6, hN6, he6, hv⟩
                      rw [HE.out] at hv
                      have HV := Lib.hid hv
                      have HP6 := Lib.hid (HP5.out.next hW6 hN6)
                      clear keyI hW6 hN6 hv he6
                      go_wp2_with fail
                      (with_reducible refine (keyY _).mono ?_); rintro e w6' ⟨rfl, rfl⟩
                      clear keyY
                      go_wp2_with fail
                      go_meet
                      case rel => exact ⟨-1, 2, x6, m, aL, cL, N, rfl, rfl, rfl, rfl, rfl, HMN.out, Nat.le_succ _, HP6.out, vis_max HV.out⟩
              · as_aux_lemma =>
                  have keyI := HP5.out.w.insert_arg HM6.out K s2 his
                  have keyY := fun w => ris_no w his
                  clear his
                  go_wp2_with fail
                  (with_reducible refine keyI.mono ?_)
                  rintro e w6 ⟨rfl, x6, hW6, hN6, he6, hv⟩
                  rw [HE.out] at hv
                  have HV := Lib.hid hv
                  have HP6 := Lib.hid (HP5.out.next hW6 hN6)
                  clear keyI hW6 hN6 hv he6
                  go_wp2_with fail
                  (with_reducible refine (keyY _).mono ?_); rintro e w6' ⟨rfl, rfl⟩
                  clear keyY
                  go_wp2_with fail
                  go_meet
                  case rel => exact ⟨-1, 1, x6, m, aL, cL, N, rfl, rfl, rfl, rfl, rfl, HMN.out, Nat.le_succ _, HP6.out, vis_max HV.out⟩
            · by_cases hin : 0 ≤ K ∧ K < N
              · as_aux_lemma =>
                  obtain ⟨q, rfl⟩ := Int.eq_ofNat_of_zero_le hin.1
                  have hqN : q < N := by omega
                  have hqN' : (q : Int) < N := by omega
                  have i2 : ¬ (q : Int) < 0 := by omega
                  have i3 : ¬ (N : Int) ≤ q := by omega
                  obtain ⟨y, hy⟩ : ∃ y, m.getD q 0 = y := ⟨_, rfl⟩
                  obtain ⟨M, hM⟩ : ∃ M, Wv.del m q = M := ⟨_, rfl⟩
                  have hML : M.length = N - 1 := by rw [← hM, Wv.del_len (by rw [HMN.out]; exact hqN), HMN.out]
                  have keyD := HP5.out.w.delete M HM6.out q y (by rw [HMN.out]; exact hqN) hy hM
                  have keyG := HP5.out.w.get HM6.out q y (by rw [HMN.out]; exact hqN) hy
                  obtain ⟨b6, o6, ha6, _⟩ := HP5.out.at (k := q) (by rw [HMN.out]; exact hqN)
                  subst ha6
                  have HC : Hid (∀ w x' m', PlW O w1.heap.size w1 w t x' m' (some ⟨b6, o6, none⟩) cL m → w.cell? ⟨b6, o6 + q, none⟩ = some (.int .i64 y)) := Lib.hid (fun w x' m' h => by
                    obtain ⟨b, o, h1, h2⟩ := h.at (k := q) (by rw [HMN.out]; exact hqN)
                    injection h1 with h1
                    injection h1 with h1 h3 h4
                    subst h1 h3
                    rw [hy] at h2
                    exact h2)
                  have HMM := Lib.hid hM
                  have HML := Lib.hid hML
                  clear hin hM hML hy
                  rcases h5 with rfl | rfl | rfl
                  rotate_left 2
                  · clear keyD
                    go_wp2_with fail
                    (with_reducible refine keyG.mono ?_)
                    rintro e w6 ⟨rfl, x6, hW6, hN6, he6, hv⟩
                    rw [HE.out] at hv
                    have HV := Lib.hid hv
                    have hP6 := HP5.out.next hW6 hN6
                    have c6 := HC.out _ _ _ hP6
                    have HP6 := Lib.hid hP6
                    clear keyG hW6 hN6 hv he6 hP6
                    go_wp2_with fail
                    go_meet
                    case rel => exact ⟨y, 0, x6, m, _, cL, N, rfl, rfl, rfl, rfl, rfl, HMN.out, Nat.le_succ _, HP6.out, vis_max HV.out⟩
                  all_goals
                    clear keyG
                    go_wp2_with fail
                    (with_reducible refine keyD.mono ?_)
                    rintro e w6 ⟨rfl, x6, hW6, hN6, hv⟩
                    rw [HE.out] at hv
                    have HV := Lib.hid hv
                    have hP6 := HP5.out.next hW6 hN6
                    have c6 := HC.out _ _ _ hP6
                    have keyO := r6out q q M w6 hP6.rd HMN.out rfl hqN (by omega) HMM.out
                    have HP6 := Lib.hid hP6
                    clear keyD hW6 hN6 hv hP6
                    go_wp2_with fail
                    (with_reducible refine keyO.mono ?_)
                    rintro e w7 ⟨v7, rfl, hown7, hb7⟩
                    obtain ⟨a7, c7, rfl, _, _⟩ := own_form hown7
                    have hP7 := PlW.own HP6.out.w hown7 hb7
                    rw [HML.out]
                    have HP7 := Lib.hid hP7
                    clear keyO hown7 hb7 hP7
                    go_wp2_with fail
                    go_meet
                    case rel => exact ⟨y, 0, x6, M, a7, c7, N - 1, rfl, rfl, rfl, rfl, rfl, HML.out, by omega, HP7.out, HV.out⟩
              · as_aux_lemma =>
                  have hout : K < 0 ∨ (m.length : Int) ≤ K := by have := HMN.out; omega
                  have keyD := HP5.out.w.delete_out HM6.out K hout
                  have keyG := HP5.out.w.get_out HM6.out K hout
                  have hor : K < 0 ∨ (¬ K < 0 ∧ (N : Int) ≤ K) := by omega
                  clear hin hout
                  rcases h5 with rfl | rfl | rfl
                  rotate_left 2
                  · clear keyD
                    rcases hor with i2 | ⟨i2, i3⟩
                    all_goals
                      go_wp2_with fail
                      (with_reducible refine keyG.mono ?_)
                      rintro e w6 ⟨rfl, x6, hW6, hN6, he6, hv⟩
                      rw [HE.out] at hv
                      have HV := Lib.hid hv
                      have HP6 := Lib.hid (HP5.out.next hW6 hN6)
                      clear keyG hW6 hN6 hv he6
                      go_wp2_with fail
                      go_meet
                      case rel => exact ⟨-1, 2, x6, m, aL, cL, N, rfl, rfl, rfl, rfl, rfl, HMN.out, Nat.le_succ _, HP6.out, vis_max HV.out⟩
                  all_goals
                    clear keyG
                    rcases hor with i2 | ⟨i2, i3⟩
                    all_goals
                      go_wp2_with fail
                      (with_reducible refine keyD.mono ?_)
                      rintro e w6 ⟨rfl, x6, hW6, hN6, he6, hv⟩
                      rw [HE.out] at hv
                      have HV := Lib.hid hv
                      have HP6 := Lib.hid (HP5.out.next hW6 hN6)
                      clear keyD hW6 hN6 hv he6
                      go_wp2_with fail
                      go_meet
                      case rel => exact ⟨-1, 2, x6, m, aL, cL, N, rfl, rfl, rfl, rfl, rfl, HMN.out, Nat.le_succ _, HP6.out, vis_max HV.out⟩
        case rest =>
        obtain ⟨X, A, x2, m2, aM, cM, N2, rfl, rfl, rfl, rfl, rfl, hm2, hN2, hP, hv⟩ := hcut
        clear HP5 HE hkk hk8 o0 hq HMN HM6
        generalize wc = w6 at *
        have hN2i : (N2 : Int) ≤ 261 := by omega
        have hm26 : m2.length ≤ 1000000 := by omega
        have HMN := Lib.hid hm2
        have HM6 := Lib.hid hm26
        obtain ⟨r, hr⟩ : ∃ r : Int, (Wv.rk m2 K.toNat s2 : Int) = r := ⟨_, rfl⟩
        obtain ⟨sv, hsv⟩ : ∃ sv, Wv.sl m2 K s2 = sv := ⟨_, rfl⟩
        have keyF := fine7 O hVs ht w6 hP.w hm26 HHT.out hv
        have keyR6 := r6rank K s2 w6 hP.rd.1 hm2
        rw [hr] at keyR6
        have hrn : ¬ (0 ≤ s2 ∧ s2 ≤ 256) → Hid (r = 0) := fun hs => Lib.hid (by
          rw [← hr]
          have : Wv.rk m2 K.toNat s2 = 0 := by
            unfold Wv.rk
            exact List.count_eq_zero.2 fun h => hs ((O.good hP.w.wav).take _ s2 h)
          rw [this]; rfl)
        have HR := Lib.hid hr
        have HSV := Lib.hid hsv
        have HP := Lib.hid hP
        have hXX : (X == X) = true := by simp
        have hAA : (A == A) = true := by simp
        clear hm2 hm26 hP hv hr hsv
        have hrr : (r == r) = true := by simp
        have hss : (sv == sv) = true := by simp
        by_cases his : 0 ≤ s2 ∧ s2 ≤ 256
        · as_aux_lemma =>
            have keyY := ris_yes w6 his
            clear hrn his
            go_wp2_with fail
            (with_reducible refine keyY.mono ?_); rintro e w6' ⟨rfl, rfl⟩
            clear keyY
            go_wp2_with fail
            (with_reducible refine keyR6.mono ?_); rintro e w6' ⟨rfl, rfl⟩
            clear keyR6
            go_wp2_with fail
            (with_reducible refine keyF.mono ?_)
            rintro e w7 ⟨rfl, x7, hW7, hN7, _⟩
            have hP7 := HP.out.next hW7 hN7
            have keyK := hP7.w.rank HM6.out K s2 r HR.out
            have HP7 := Lib.hid hP7
            clear keyF hW7 hN7 hP7
            go_wp2_with fail
            (with_reducible refine keyK.mono ?_)
            rintro e w8 ⟨rfl, x8, hW8, hN8, _⟩
            have hP8 := HP7.out.next hW8 hN8
            have keyK2 := hP8.w.select HM6.out K s2 sv HSV.out
            have HP8 := Lib.hid hP8
            clear keyK hW8 hN8 hP8
            go_wp2_with fail
            (with_reducible refine keyK2.mono ?_)
            rintro e w9 ⟨rfl, x9, hW9, hN9, _⟩
            have hP9 := HP8.out.next hW9 hN9
            have keyL := r6select K s2 w9 hP9.rd.1 HMN.out
            rw [HSV.out] at keyL
            have HP9 := Lib.hid hP9
            clear keyK2 hW9 hN9 hP9
            go_wp2_with fail
            (with_reducible refine keyL.mono ?_); rintro e w9' ⟨rfl, rfl⟩
            have keyN := O.len HP9.out.w.wav
            rw [HMN.out] at keyN
            clear keyL
            go_wp2_with fail
            (with_reducible refine keyN.mono ?_); rintro e w9' ⟨rfl, rfl⟩
            clear keyN
            go_wp2_with fail
            go_roundw
            case rel => exact ⟨j + 1, x9, m2, aM, cM, N2, by omega, by go_num, rfl, HMN.out, by omega, HP9.out⟩
            case measure => simp [intOf]; omega
        · as_aux_lemma =>
            have keyY := ris_no w6 his
            have hr0 := (hrn his).out
            subst hr0
            clear hrn his keyR6
            go_wp2_with fail
            (with_reducible refine keyY.mono ?_); rintro e w6' ⟨rfl, rfl⟩
            clear keyY
            go_wp2_with fail
            (with_reducible refine keyF.mono ?_)
            rintro e w7 ⟨rfl, x7, hW7, hN7, _⟩
            have hP7 := HP.out.next hW7 hN7
            have keyK := hP7.w.rank HM6.out K s2 0 HR.out
            have HP7 := Lib.hid hP7
            clear keyF hW7 hN7 hP7
            go_wp2_with fail
            (with_reducible refine keyK.mono ?_)
            rintro e w8 ⟨rfl, x8, hW8, hN8, _⟩
            have hP8 := HP7.out.next hW8 hN8
            have keyK2 := hP8.w.select HM6.out K s2 sv HSV.out
            have HP8 := Lib.hid hP8
            clear keyK hW8 hN8 hP8
            go_wp2_with fail
            (with_reducible refine keyK2.mono ?_)
            rintro e w9 ⟨rfl, x9, hW9, hN9, _⟩
            have hP9 := HP8.out.next hW9 hN9
            have keyL := r6select K s2 w9 hP9.rd.1 HMN.out
            rw [HSV.out] at keyL
            have HP9 := Lib.hid hP9
            clear keyK2 hW9 hN9 hP9
            go_wp2_with fail
            (with_reducible refine keyL.mono ?_); rintro e w9' ⟨rfl, rfl⟩
            have keyN := O.len HP9.out.w.wav
            rw [HMN.out] at keyN
            clear keyL
            go_wp2_with fail
            (with_reducible refine keyN.mono ?_); rintro e w9' ⟨rfl, rfl⟩
            clear keyN
            go_wp2_with fail
            go_roundw
            case rel => exact ⟨j + 1, x9, m2, aM, cM, N2, by omega, by go_num, rfl, HMN.out, by omega, HP9.out⟩
            case measure => simp [intOf]; omega
      · obtain rfl : j = n2 := by omega
        have hi1 : ¬ (j : Int) < j := by omega
        have keyT := O.told hP.w.E (Nat.lt_of_lt_of_le hP.w.pos hP.w.le)
        have HP := Lib.hid hP
        clear hP
        go_wp2_with fail
        (with_reducible refine keyT.mono ?_)
        rintro e w5 ⟨rfl, hb5⟩
        have hP5 := HP.out.beside hb5
        have keyA := hP5.w.alls HM6.out N HMN.out
        have HP5 := Lib.hid hP5
        clear keyT hb5 hP5
        go_wp2_with fail
        (with_reducible refine keyA.mono ?_)
        rintro e w6 ⟨aA, cA, x6, rfl, hrA, _, hW6, hN6⟩
        have hP6 := HP5.out.next hW6 hN6
        have keyM := rsame6 w6 hrA hP6.rd.1 HMN.out
        have HP6 := Lib.hid hP6
        clear keyA hrA hW6 hN6 hP6
        go_wp2_with fail
        (with_reducible refine keyM.mono ?_)
        rintro e w7 ⟨rfl, hb7⟩
        have HP7 := Lib.hid (HP6.out.beside hb7)
        clear keyM hb7
        go_wp2_with fail
        go_ret
        exact ⟨rfl, HB.out.back HP7.out.w⟩
end Go.Proofs.YtaglnomjlnlgoaaGreatDoor
