/- even, of a tree: what stands in the node's place is balanced, and holds the same bits. -/
import Derived.Test.YtfbhcbcpeocmcaaDoorTmC
namespace Go.Proofs.YtfbhcbcpeocmcaaDoor
open Go Go.RowKit Go.ChangeAt Tr

theorem Tr.nd_node {k : Nat} {a b : T} (h : (T.node k a b).ks.Nodup) : k ∉ a.ks ∧ k ∉ b.ks ∧ a.ks.Nodup ∧ b.ks.Nodup ∧ ∀ j ∈ a.ks, j ∉ b.ks := by
  have hn' : (k :: (a.ks ++ b.ks)).Nodup := h
  obtain ⟨hk, hab⟩ := List.nodup_cons.1 hn'
  obtain ⟨ha, hb, hd⟩ := List.nodup_append.1 hab
  exact ⟨fun h => hk (List.mem_append_left _ h), fun h => hk (List.mem_append_right _ h), ha, hb, fun j h1 h2 => hd j h1 j h2 rfl⟩
theorem Tr.Is.keep {s s' : Sto} {t : T} (h : Is s t) (hs : ∀ j ∈ t.ks, s' j = s j) : Is s' t := h.congr hs
/-- Not too great, of a tree. -/
theorem Tr.bd {N : Nat} {t : T} (h : t.bits.length ≤ N) (h2 : t.ht ≤ N) : Bd N t.lk :=
  ⟨by rw [T.lk_len]; exact h, Nat.le_trans T.full.ones (by rw [T.lk_len]; exact h), by rw [T.lk_ht]; exact h2⟩
theorem Tr.bd_node {N k : Nat} {a b : T} (h : Bd N (T.node k a b).lk) : Bd N a.lk ∧ Bd N b.lk := by
  have h1 : a.lk.len + b.lk.len ≤ N := h.len
  have h2 : a.lk.ones + b.lk.ones ≤ N := h.ones
  have h3 : 1 + max a.lk.ht b.lk.ht ≤ N := h.ht
  exact ⟨⟨by omega, by omega, by omega⟩, ⟨by omega, by omega, by omega⟩⟩
/-- What even makes of two sides. -/
structure Ev (a b t : T) : Prop where
  bits : t.bits = a.bits ++ b.bits
  bal : t.bal
  full : a.full → b.full → t.full
  lvs : t.lvs = a.lvs + b.lvs
  lo : max a.ht b.ht ≤ t.ht
  hi : t.ht ≤ 1 + max a.ht b.ht
  pos : 1 ≤ t.ht
  flat : a.ht ≤ b.ht + 1 → b.ht ≤ a.ht + 1 → t.ht = 1 + max a.ht b.ht
theorem teven {base t k N : Nat} {S : St} {a b : T} (w : World) (h : TM base w t S) (hi : Is S.sto (.node k a b)) (hn : (T.node k a b).ks.Nodup) (ha : a.bal) (hb : b.bal) (h1 : a.ht ≤ b.ht + 2) (h2 : b.ht ≤ a.ht + 2) (hv : S.vis < 1000000000000) (hN : N ≤ 72057594037927936) (bA : Bd N a.lk) (bB : Bd N b.lk) :
    Calls Tryd.prog 57 #[.pointer (some ⟨t, 0, none⟩), .int .i64 k] w fun e w' => ∃ t' S', e = .returned (lkv t'.lk) ∧ TM base w' t S' ∧ Mv w w' S S' ∧ Sm S S' 3 ∧ Chg S.sto S'.sto (.node k a b) t' ∧ Ev a b t' := by
  obtain ⟨⟨n, hk⟩, hia, hib⟩ := id hi
  obtain ⟨nk1, nk2, na, nb, nab⟩ := nd_node hn
  by_cases c1 : a.ht ≤ b.ht + 1
  · by_cases c2 : b.ht ≤ a.ht + 1
    · refine (teven_flat w h hk (by omega) bA bB (by rw [T.lk_ht, T.lk_ht]; exact c1) (by rw [T.lk_ht, T.lk_ht]; exact c2)).mono ?_
      rintro e w' ⟨rfl, hT, hV⟩
      refine ⟨.node k a b, S, rfl, hT, hV, Sm.refl _ _, Chg.refl hi hn, ⟨rfl, ⟨ha, hb, c1, c2⟩, fun f1 f2 => ⟨f1, f2⟩, rfl, ?_, ?_, ?_, fun _ _ => rfl⟩⟩
      · show _ ≤ 1 + max a.ht b.ht; omega
      · exact Nat.le_refl _
      · show 1 ≤ 1 + max a.ht b.ht; omega
    · -- the upper side is too high
      cases b with
      | leaf c l => exact absurd (show (0 : Nat) ≤ a.ht + 1 by omega) c2
      | node c x y =>
        have e0 : (T.node c x y).ht = 1 + max x.ht y.ht := rfl
        rw [e0] at c2 h2 h1
        obtain ⟨bx, byy, hxy, hyx⟩ := hb
        obtain ⟨⟨m, hm⟩, hix, hiy⟩ := id hib
        obtain ⟨nc1, nc2, nx, ny, nxy⟩ := nd_node nb
        have hck : c ≠ k := fun e => nk2 (e ▸ List.mem_cons_self)
        have hca : c ∉ a.ks := fun h => nab c h List.mem_cons_self
        have hkx : k ∉ x.ks := fun h => nk2 (List.mem_cons_of_mem _ (List.mem_append_left _ h))
        have hky : k ∉ y.ks := fun h => nk2 (List.mem_cons_of_mem _ (List.mem_append_right _ h))
        obtain ⟨bX, bY⟩ := bd_node bB
        by_cases c3 : x.ht ≤ y.ht
        · refine (teven_one1 (A := a.lk) (B := (T.node c x y).lk) (I := x.lk) (O := y.lk) w h hk hm hck hv (by omega) bA bB bY bX (by rw [T.lk_ht, T.lk_ht, e0]; omega) (by rw [T.lk_ht, T.lk_ht]; exact c3)).mono ?_
          rintro e w' ⟨rfl, hT, hV⟩
          have S1 : ∀ j, j ≠ c → j ≠ k → ((((S.see (S.vis + 2)).lay k n (.pr a.lk x.lk)).lay (T.node c x y).lk.num m (.pr (mk k a.lk x.lk) y.lk)).sto j = S.sto j) := fun j h1 h2 => (upd_ne _ _ h1).trans (upd_ne _ _ h2)
          refine ⟨.node c (.node k a x) y, _, rfl, hT, hV, ⟨rfl, rfl, rfl, by show S.vis + 2 ≤ S.vis + 3; omega⟩, Chg.same ⟨⟨m, upd_at _ _ _⟩, ⟨⟨n, (upd_ne _ _ hck.symm).trans (upd_at _ _ _)⟩, ?_, ?_⟩, ?_⟩ hn ?_ ?_, ?_⟩
          · exact hia.congr (fun j hj => S1 j (fun e => hca (e ▸ hj)) (fun e => nk1 (e ▸ hj)))
          · exact hix.congr (fun j hj => S1 j (fun e => nc1 (e ▸ hj)) (fun e => hkx (e ▸ hj)))
          · exact hiy.congr (fun j hj => S1 j (fun e => nc2 (e ▸ hj)) (fun e => hky (e ▸ hj)))
          · refine List.perm_iff_count.2 fun z => ?_
            simp only [T.ks, List.count_cons, List.count_append]
            omega
          · intro j hj
            have hj' : j ∉ k :: (a.ks ++ (c :: (x.ks ++ y.ks))) := hj
            simp only [List.mem_cons, List.mem_append, not_or] at hj'
            exact S1 j hj'.2.2.1 hj'.1
          · refine ⟨by simp only [T.bits, List.append_assoc], ⟨⟨ha, bx, ?_, ?_⟩, byy, ?_, ?_⟩, fun f1 f2 => ⟨⟨f1, f2.1⟩, f2.2⟩, by simp only [T.lvs]; omega, ?_, ?_, ?_, fun f1 f2 => by simp only [T.ht] at f1 f2; omega⟩ <;> (try simp only [T.ht]) <;> omega
        · cases x with
          | leaf d l => exact absurd (show (0 : Nat) ≤ y.ht by omega) c3
          | node d u v =>
            have e1 : (T.node d u v).ht = 1 + max u.ht v.ht := rfl
            rw [e1] at c2 h2 h1 c3 hxy hyx
            obtain ⟨bu, bv, huv, hvu⟩ := bx
            obtain ⟨⟨q, hq⟩, hiu, hiv⟩ := id hix
            obtain ⟨nd1, nd2, nu, nv, nuv⟩ := nd_node nx
            have hdk : d ≠ k := fun e => hkx (e ▸ List.mem_cons_self)
            have hdc : d ≠ c := fun e => nc1 (e ▸ List.mem_cons_self)
            have hda : d ∉ a.ks := fun h => nab d h (List.mem_cons_of_mem _ (List.mem_append_left _ List.mem_cons_self))
            have hdy : d ∉ y.ks := fun h => nxy d List.mem_cons_self h
            have hku : k ∉ u.ks := fun h => hkx (List.mem_cons_of_mem _ (List.mem_append_left _ h))
            have hkv : k ∉ v.ks := fun h => hkx (List.mem_cons_of_mem _ (List.mem_append_right _ h))
            have hcu : c ∉ u.ks := fun h => nc1 (List.mem_cons_of_mem _ (List.mem_append_left _ h))
            have hcv : c ∉ v.ks := fun h => nc1 (List.mem_cons_of_mem _ (List.mem_append_right _ h))
            obtain ⟨bU, bV⟩ := bd_node bX
            refine (teven_two1 (A := a.lk) (B := (T.node c (.node d u v) y).lk) (I := (T.node d u v).lk) (O := y.lk) (E := u.lk) (F := v.lk) w h hk hm hq hdk hdc hck hv (by omega) bA bB bY bX bU bV (by rw [T.lk_ht, T.lk_ht, e0]; omega) (by rw [T.lk_ht, T.lk_ht]; simp only [T.ht]; omega)).mono ?_
            rintro e w' ⟨rfl, hT, hV⟩
            have S1 : ∀ j, j ≠ c → j ≠ k → j ≠ d → (upd (upd (upd (upd (upd S.sto c (some (m, .pr v.lk y.lk))) d (some (q, .pr u.lk (mk c v.lk y.lk)))) k (some (n, .pr a.lk (mk d u.lk (mk c v.lk y.lk))))) k (some (n, .pr a.lk u.lk))) d (some (q, .pr (mk k a.lk u.lk) (mk c v.lk y.lk)))) j = S.sto j := fun j h1 h2 h3 => (upd_ne _ _ h3).trans ((upd_ne _ _ h2).trans ((upd_ne _ _ h2).trans ((upd_ne _ _ h3).trans (upd_ne _ _ h1))))
            refine ⟨.node d (.node k a u) (.node c v y), _, rfl, hT, hV, ⟨rfl, rfl, rfl, by show S.vis + 3 ≤ S.vis + 3; omega⟩, Chg.same ⟨⟨q, upd_at _ _ _⟩, ⟨⟨n, (upd_ne _ _ hdk.symm).trans (upd_at _ _ _)⟩, ?_, ?_⟩, ⟨⟨m, (upd_ne _ _ hdc.symm).trans ((upd_ne _ _ hck).trans ((upd_ne _ _ hck).trans ((upd_ne _ _ hdc.symm).trans (upd_at _ _ _))))⟩, ?_, ?_⟩⟩ hn ?_ ?_, ?_⟩
            · exact hia.congr (fun j hj => S1 j (fun e => hca (e ▸ hj)) (fun e => nk1 (e ▸ hj)) (fun e => hda (e ▸ hj)))
            · exact hiu.congr (fun j hj => S1 j (fun e => hcu (e ▸ hj)) (fun e => hku (e ▸ hj)) (fun e => nd1 (e ▸ hj)))
            · exact hiv.congr (fun j hj => S1 j (fun e => hcv (e ▸ hj)) (fun e => hkv (e ▸ hj)) (fun e => nd2 (e ▸ hj)))
            · exact hiy.congr (fun j hj => S1 j (fun e => nc2 (e ▸ hj)) (fun e => hky (e ▸ hj)) (fun e => hdy (e ▸ hj)))
            · refine List.perm_iff_count.2 fun z => ?_
              simp only [T.ks, List.count_cons, List.count_append]
              omega
            · intro j hj
              have hj' : j ∉ k :: (a.ks ++ (c :: ((d :: (u.ks ++ v.ks)) ++ y.ks))) := hj
              simp only [List.mem_cons, List.mem_append, not_or] at hj'
              exact S1 j hj'.2.2.1 hj'.1 hj'.2.2.2.1.1
            · refine ⟨by simp only [T.bits, List.append_assoc], ⟨⟨ha, bu, ?_, ?_⟩, ⟨bv, byy, ?_, ?_⟩, ?_, ?_⟩, fun f1 f2 => ⟨⟨f1, f2.1.1⟩, ⟨f2.1.2, f2.2⟩⟩, by simp only [T.lvs]; omega, ?_, ?_, ?_, fun f1 f2 => by simp only [T.ht] at f1 f2; omega⟩ <;> (try simp only [T.ht]) <;> omega
  · cases a with
    | leaf c l => exact absurd (show (0 : Nat) ≤ b.ht + 1 by omega) c1
    | node c x y =>
      have e0 : (T.node c x y).ht = 1 + max x.ht y.ht := rfl
      rw [e0] at c1 h2 h1
      obtain ⟨bx, byy, hxy, hyx⟩ := ha
      obtain ⟨⟨m, hm⟩, hix, hiy⟩ := id hia
      obtain ⟨nc1, nc2, nx, ny, nxy⟩ := nd_node na
      have hck : c ≠ k := fun e => nk1 (e ▸ List.mem_cons_self)
      have hcb : c ∉ b.ks := nab c List.mem_cons_self
      have hkx : k ∉ x.ks := fun h => nk1 (List.mem_cons_of_mem _ (List.mem_append_left _ h))
      have hky : k ∉ y.ks := fun h => nk1 (List.mem_cons_of_mem _ (List.mem_append_right _ h))
      obtain ⟨bX, bY⟩ := bd_node bA
      by_cases c3 : y.ht ≤ x.ht
      · refine (teven_one0 (A := (T.node c x y).lk) (B := b.lk) (O := x.lk) (I := y.lk) w h hk hm hck hv (by omega) bA bB bX bY (by rw [T.lk_ht, T.lk_ht, e0]; omega) (by rw [T.lk_ht, T.lk_ht]; exact c3)).mono ?_
        rintro e w' ⟨rfl, hT, hV⟩
        have S1 : ∀ j, j ≠ c → j ≠ k → (upd (upd S.sto k (some (n, .pr y.lk b.lk))) c (some (m, .pr x.lk (mk k y.lk b.lk)))) j = S.sto j := fun j h1 h2 => (upd_ne _ _ h1).trans (upd_ne _ _ h2)
        refine ⟨.node c x (.node k y b), _, rfl, hT, hV, ⟨rfl, rfl, rfl, by show S.vis + 2 ≤ S.vis + 3; omega⟩, Chg.same ⟨⟨m, upd_at _ _ _⟩, ?_, ⟨⟨n, (upd_ne _ _ hck.symm).trans (upd_at _ _ _)⟩, ?_, ?_⟩⟩ hn ?_ ?_, ?_⟩
        · exact hix.congr (fun j hj => S1 j (fun e => nc1 (e ▸ hj)) (fun e => hkx (e ▸ hj)))
        · exact hiy.congr (fun j hj => S1 j (fun e => nc2 (e ▸ hj)) (fun e => hky (e ▸ hj)))
        · exact hib.congr (fun j hj => S1 j (fun e => hcb (e ▸ hj)) (fun e => nk2 (e ▸ hj)))
        · refine List.perm_iff_count.2 fun z => ?_
          simp only [T.ks, List.count_cons, List.count_append]
          omega
        · intro j hj
          have hj' : j ∉ k :: ((c :: (x.ks ++ y.ks)) ++ b.ks) := hj
          simp only [List.mem_cons, List.mem_append, not_or] at hj'
          exact S1 j hj'.2.1.1 hj'.1
        · refine ⟨by simp only [T.bits, List.append_assoc], ⟨bx, ⟨byy, hb, ?_, ?_⟩, ?_, ?_⟩, fun f1 f2 => ⟨f1.1, ⟨f1.2, f2⟩⟩, by simp only [T.lvs]; omega, ?_, ?_, ?_, fun f1 f2 => by simp only [T.ht] at f1 f2; omega⟩ <;> (try simp only [T.ht]) <;> omega
      · cases y with
        | leaf d l => exact absurd (show (0 : Nat) ≤ x.ht by omega) c3
        | node d u v =>
          have e1 : (T.node d u v).ht = 1 + max u.ht v.ht := rfl
          rw [e1] at c1 h2 h1 c3 hxy hyx
          obtain ⟨bu, bv, huv, hvu⟩ := byy
          obtain ⟨⟨q, hq⟩, hiu, hiv⟩ := id hiy
          obtain ⟨nd1, nd2, nu, nv, nuv⟩ := nd_node ny
          have hdk : d ≠ k := fun e => hky (e ▸ List.mem_cons_self)
          have hdc : d ≠ c := fun e => nc2 (e ▸ List.mem_cons_self)
          have hdb : d ∉ b.ks := nab d (List.mem_cons_of_mem _ (List.mem_append_right _ List.mem_cons_self))
          have hdx : d ∉ x.ks := fun h => nxy d h List.mem_cons_self
          have hku : k ∉ u.ks := fun h => hky (List.mem_cons_of_mem _ (List.mem_append_left _ h))
          have hkv : k ∉ v.ks := fun h => hky (List.mem_cons_of_mem _ (List.mem_append_right _ h))
          have hcu : c ∉ u.ks := fun h => nc2 (List.mem_cons_of_mem _ (List.mem_append_left _ h))
          have hcv : c ∉ v.ks := fun h => nc2 (List.mem_cons_of_mem _ (List.mem_append_right _ h))
          obtain ⟨bU, bV⟩ := bd_node bY
          refine (teven_two0 (A := (T.node c x (.node d u v)).lk) (B := b.lk) (O := x.lk) (I := (T.node d u v).lk) (E := u.lk) (F := v.lk) w h hk hm hq hdk hdc hck hv (by omega) bA bB bX bY bU bV (by rw [T.lk_ht, T.lk_ht, e0]; omega) (by rw [T.lk_ht, T.lk_ht]; simp only [T.ht]; omega)).mono ?_
          rintro e w' ⟨rfl, hT, hV⟩
          have S1 : ∀ j, j ≠ c → j ≠ k → j ≠ d → (upd (upd (upd (upd (upd S.sto c (some (m, .pr x.lk u.lk))) d (some (q, .pr (mk c x.lk u.lk) v.lk))) k (some (n, .pr (mk d (mk c x.lk u.lk) v.lk) b.lk))) k (some (n, .pr v.lk b.lk))) d (some (q, .pr (mk c x.lk u.lk) (mk k v.lk b.lk)))) j = S.sto j := fun j h1 h2 h3 => (upd_ne _ _ h3).trans ((upd_ne _ _ h2).trans ((upd_ne _ _ h2).trans ((upd_ne _ _ h3).trans (upd_ne _ _ h1))))
          refine ⟨.node d (.node c x u) (.node k v b), _, rfl, hT, hV, ⟨rfl, rfl, rfl, by show S.vis + 3 ≤ S.vis + 3; omega⟩, Chg.same ⟨⟨q, upd_at _ _ _⟩, ⟨⟨m, (upd_ne _ _ hdc.symm).trans ((upd_ne _ _ hck).trans ((upd_ne _ _ hck).trans ((upd_ne _ _ hdc.symm).trans (upd_at _ _ _))))⟩, ?_, ?_⟩, ⟨⟨n, (upd_ne _ _ hdk.symm).trans (upd_at _ _ _)⟩, ?_, ?_⟩⟩ hn ?_ ?_, ?_⟩
          · exact hix.congr (fun j hj => S1 j (fun e => nc1 (e ▸ hj)) (fun e => hkx (e ▸ hj)) (fun e => hdx (e ▸ hj)))
          · exact hiu.congr (fun j hj => S1 j (fun e => hcu (e ▸ hj)) (fun e => hku (e ▸ hj)) (fun e => nd1 (e ▸ hj)))
          · exact hiv.congr (fun j hj => S1 j (fun e => hcv (e ▸ hj)) (fun e => hkv (e ▸ hj)) (fun e => nd2 (e ▸ hj)))
          · exact hib.congr (fun j hj => S1 j (fun e => hcb (e ▸ hj)) (fun e => nk2 (e ▸ hj)) (fun e => hdb (e ▸ hj)))
          · refine List.perm_iff_count.2 fun z => ?_
            simp only [T.ks, List.count_cons, List.count_append]
            omega
          · intro j hj
            have hj' : j ∉ k :: ((c :: (x.ks ++ (d :: (u.ks ++ v.ks)))) ++ b.ks) := hj
            simp only [List.mem_cons, List.mem_append, not_or] at hj'
            exact S1 j hj'.2.1.1 hj'.1 hj'.2.1.2.2.1
          · refine ⟨by simp only [T.bits, List.append_assoc], ⟨⟨bx, bu, ?_, ?_⟩, ⟨bv, hb, ?_, ?_⟩, ?_, ?_⟩, fun f1 f2 => ⟨⟨f1.1, f1.2.1⟩, ⟨f1.2.2, f2⟩⟩, by simp only [T.lvs]; omega, ?_, ?_, ?_, fun f1 f2 => by simp only [T.ht] at f1 f2; omega⟩ <;> (try simp only [T.ht]) <;> omega
end Go.Proofs.YtfbhcbcpeocmcaaDoor
