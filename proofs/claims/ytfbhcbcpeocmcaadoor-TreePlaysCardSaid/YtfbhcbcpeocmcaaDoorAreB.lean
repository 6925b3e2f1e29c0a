/- What Take and Free of package arena do: contracts of the walk. -/
import Derived.Test.YtfbhcbcpeocmcaaDoorAreA
import Derived.Maps.AppendAt
namespace Go.Proofs.YtfbhcbcpeocmcaaDoor
open Go Go.RowKit Go.ChangeAt

/-- An arena behind a call: its blocks are those that it had, or new ones; all others stay. -/
def Turned (base : Nat) (t : TypeId) (A : Nat → Prop) (w w' : World) (g most : Nat) (T : List Bool) (F : List Int) : Prop :=
  ∃ A', ArM base t A' w' g most T F ∧ Stay A w w' ∧ ∀ k, A' k → A k ∨ w.heap.size ≤ k
/-- Another list of the freed ones in the arena's cell. -/
theorem ArM.setF {base : Nat} {t : TypeId} {A : Nat → Prop} {w1 : World} {g most c : Nat} {a a1 : Option Addr} {c1 n1 : Nat} {T : List Bool} {F1 : List Int} {v : Value} (hn : F1.length = n1) (hti : t ≠ 3) (h1 : A g) (h2 : ∀ k, A k → base ≤ k ∧ k < w1.heap.size)
    (h3 : w1.heap[g]? = some (.cells #[.int .i64 most, .slice a T.length c, v] t (0, 0))) (h4 : OwnB base w1 (.slice a T.length c) T) (h6 : ∀ k, (Value.slice a T.length c).ownBlock = some k → A k) (htb : t ≠ 4)
    (h5 : w1.ownsRow base 3 1 (.slice a1 n1 c1) n1 (F1.map (Value.int .i64))) (h7 : ∀ k, (Value.slice a1 n1 c1).ownBlock = some k → A k) : ArM base t A (w1.setCell ⟨g, 2, none⟩ (.slice a1 n1 c1)) g most T F1 := by
  subst hn
  have hst : Stay (fun k => k = g) w1 (w1.setCell ⟨g, 2, none⟩ (.slice a1 F1.length c1)) := Stay.setCell (S := fun k => k = g) (Stay.refl _ _) (p := ⟨g, 2, none⟩) (.inr rfl) _
  exact ⟨h1, fun k hk => ⟨(h2 k hk).1, Nat.lt_of_lt_of_le (h2 k hk).2 hst.size⟩, a, c, a1, c1, set_of h3 _, ownsRow_stay h4 hst (own_ne h4 h3 htb), ownsRow_stay h5 hst (own_ne h5 h3 hti), h6, h7⟩
theorem ArM.setV {base : Nat} {t : TypeId} {A : Nat → Prop} {w1 : World} {g most c' : Nat} {a' a1 : Option Addr} {c1 n1 : Nat} {T1 : List Bool} {F : List Int} {v : Value} (hn : T1.length = n1) (hti : t ≠ 3) (h1 : A g) (h2 : ∀ k, A k → base ≤ k ∧ k < w1.heap.size)
    (h3 : w1.heap[g]? = some (.cells #[.int .i64 most, v, .slice a' F.length c'] t (0, 0))) (h4 : OwnI base w1 (.slice a' F.length c') F) (h6 : ∀ k, (Value.slice a' F.length c').ownBlock = some k → A k) (htb : t ≠ 4)
    (h5 : w1.ownsRow base 4 1 (.slice a1 n1 c1) n1 (T1.map Value.bool)) (h7 : ∀ k, (Value.slice a1 n1 c1).ownBlock = some k → A k) : ArM base t A (w1.setCell ⟨g, 1, none⟩ (.slice a1 n1 c1)) g most T1 F := by
  subst hn
  have hst : Stay (fun k => k = g) w1 (w1.setCell ⟨g, 1, none⟩ (.slice a1 T1.length c1)) := Stay.setCell (S := fun k => k = g) (Stay.refl _ _) (p := ⟨g, 1, none⟩) (.inr rfl) _
  exact ⟨h1, fun k hk => ⟨(h2 k hk).1, Nat.lt_of_lt_of_le (h2 k hk).2 hst.size⟩, a1, c1, a', c', set_of h3 _, ownsRow_stay h5 hst (own_ne h5 h3 htb), ownsRow_stay h4 hst (own_ne h4 h3 hti), h7, h6⟩

theorem atake_nil (w : World) : Calls Tryd.prog 70 #[.pointer none] w fun e w' => e = .returned (.tuple #[.int .i64 (-1), .int .i64 6]) ∧ w = w' := by
  go_enter Tryd.func70, Tryd.ntmps70
  go_wp2
  go_ret2
  exact ⟨rfl, rfl⟩
theorem atake_full {base g most : Nat} {A : Nat → Prop} {T : List Bool} (w : World) (h : ArM base 84 A w g most T []) (hs : Ar.S most T []) (hl : ¬ T.length < most) :
    Calls Tryd.prog 70 #[.pointer (some ⟨g, 0, none⟩)] w fun e w' => e = .returned (.tuple #[.int .i64 (-1), .int .i64 3]) ∧ ∃ n, w' = w.drewN n := by
  have H := Lib.hid h
  have HS := Lib.hid hs
  have hlv : (T.length - ([] : List Int).length : Nat) = most := by have := hs.tm; simp; omega
  have HLV := Lib.hid hlv
  obtain ⟨h1, h2, a, c, a', c', h3, h4, h5, h6, h7⟩ := h
  obtain ⟨c0, c1, c2, f0, f1, f2⟩ := cellsA h3
  clear h1 h2 h3 h4 h5 h6 h7 f0 f1 f2 c1 c2 hs hl hlv
  go_enter Tryd.func70, Tryd.ntmps70
  go_wp2_with fail
  go_quiet ((go_at_call 36; exact Calls.quiet_of (alive_n _ (H.out.drewN _) HS.out HLV.out)))
  go_wp2_with fail
  go_ret2
  exact ⟨rfl, _, rfl⟩
set_option maxRecDepth 100000 in
theorem atake_new {base g most : Nat} {A : Nat → Prop} {T : List Bool} (w : World) (h : ArM base 84 A w g most T []) (hs : Ar.S most T []) (hl : T.length < most) :
    Calls Tryd.prog 70 #[.pointer (some ⟨g, 0, none⟩)] w fun e w' => e = .returned (.tuple #[.int .i64 T.length, .int .i64 0]) ∧ Turned base 84 A w w' g most (T ++ [true]) [] := by
  obtain ⟨i0, hi, hz0, hz1, hz2⟩ := info_parts infoB
  have H := Lib.hid h
  have HS := Lib.hid hs
  have HLV := Lib.hid (show (T.length - ([] : List Int).length : Nat) = T.length by simp)
  have hmx := hs.mx
  have c0 : w.cell? ⟨g, 0, none⟩ = some (.int .i64 most) := by
    obtain ⟨h1, h2, a, c, a', c', h3, h4, h5, h6, h7⟩ := h
    exact (cellsA h3).c0
  have hne : ¬ (T.length : Int) = most := by omega
  clear hs h
  go_enter Tryd.func70, Tryd.ntmps70
  go_wp2_with fail
  go_quiet ((go_at_call 36; exact Calls.quiet_of (alive_n _ (H.out.drewN _) HS.out HLV.out)))
  have hst0 : Stay A w (w.drewN nq) := (Stay.refl _ _).drewN _
  have HQ := Lib.hid (H.out.drewN nq)
  clear H c0
  generalize w.drewN nq = w0 at *
  obtain ⟨h1, h2, a, c, a', c', h3, h4, h5, h6, h7⟩ := HQ.out
  obtain ⟨c0, c1, c2, f0, f1, f2⟩ := cellsA h3
  have hbase : base ≤ w0.heap.size := by have := h2 g h1; omega
  have hgs : g < w0.heap.size := (h2 g h1).2
  have c2' : w0.cell? ⟨g, 2, none⟩ = some (.slice a' 0 c') := c2
  have H1 := Lib.hid h1
  have H2 := Lib.hid h2
  have H3 := Lib.hid h3
  have H4 := Lib.hid h4
  have H5 := Lib.hid h5
  have H6 := Lib.hid h6
  have H7 := Lib.hid h7
  clear h1 h2 h3 h4 h5 h6 h7 f0 f2 c0 c2
  go_wp2_with (first
    | (at_builtin; (refine wpList_append_own_at _ rfl (.tmp 28) (.tmp 29) 24 rfl base 4 i0 (.bool false) 1 1 Tryd.underlying24 hi hz0 hz1 hz2 rfl (by decide) _ _ _ rfl (World.ownsRow.alloc H4.out _) ⟨w0.heap.size, 0, none⟩ 1 1 [.bool true] rfl rfl (cell_one_new _ _ _) (fun u hu => by simp at hu; subst hu; rfl) (by unfold maxLen; omega) (by omega) (by simp; omega) ?_); intro v1 w1 hown1 hgrow1 hnil1 hat1;
       (obtain ⟨a1, k1, rfl, hk1, hk2⟩ := own_form hown1);
       (have hst1 : Stay (fun i => (Value.slice a T.length c).ownBlock = some i) w0 w1 := Stay.trans ((Stay.refl _ _).alloc _) (grown_stay hgrow1) (fun i hi e => e));
       (have h31 : w1.heap[g]? = _ := hst1.kept H3.out (fun e => own_ne H4.out H3.out (by decide) _ e rfl));
       (have h51 : OwnI base w1 (.slice a' 0 c') [] := ownsRow_stay H5.out hst1 (fun k hk e => own_ne2 H5.out H4.out (by decide) k hk e));
       (have hat2 : (Value.slice a1 (T.length + 1) k1).ownBlock = (Value.slice a T.length c).ownBlock ∨ (Value.slice a1 (T.length + 1) k1).ownBlock = some (w0.heap.size + 1) := by (rcases hat1 with e | e; exact .inl e; exact .inr (e.trans (by simp))));
       (obtain ⟨c01, c11, c21, f01, f11, f21⟩ := cellsA h31);
       (have H31 := Lib.hid h31); clear h31 f01 f21 c01 c21 hnil1 hgrow1 hat1))
  go_ret2
  have hz1 := hst1.size
  have hrow : w1.ownsRow base 4 1 (.slice a1 (T.length + 1) k1) (T.length + 1) ((T ++ [true]).map Value.bool) := by rw [List.map_append]; exact hown1
  have hlt1 := hown1.lt
  have hA1 : Stay A w0 w1 := hst1.mono (fun i _ e => H6.out i e)
  refine ⟨rfl, fun k => A k ∨ (w0.heap.size ≤ k ∧ k < w1.heap.size), ?_, hst0.trans (hA1.setCell (.inr H1.out) _) (fun _ _ h => h), fun k hk => ?_⟩
  · refine ArM.setV (by simp) (by decide) (.inl H1.out) (fun k hk => ?_) H31.out h51 (fun k hk => .inl (H7.out k hk)) (by decide) hrow (fun k hk => ?_)
    · rcases hk with hk | hk
      · exact ⟨(H2.out k hk).1, Nat.lt_of_lt_of_le (H2.out k hk).2 hz1⟩
      · exact ⟨Nat.le_trans hbase hk.1, hk.2⟩
    · rcases hat2 with e | e
      · exact .inl (H6.out k (e ▸ hk))
      · have := hlt1 k hk
        rw [e] at hk
        exact .inr ⟨by have := Option.some.inj hk; omega, this.2⟩
  · have := hst0.size
    rcases hk with hk | hk
    · exact .inl hk
    · exact .inr (by omega)
set_option maxRecDepth 100000 in
theorem atake_old {base g most : Nat} {A : Nat → Prop} {T : List Bool} {F : List Int} {k : Int} (w : World) (h : ArM base 84 A w g most T (F ++ [k])) (hs : Ar.S most T (F ++ [k])) :
    Calls Tryd.prog 70 #[.pointer (some ⟨g, 0, none⟩)] w fun e w' => e = .returned (.tuple #[.int .i64 k, .int .i64 0]) ∧ Turned base 84 A w w' g most (T.set k.toNat true) F := by
  have hold := hs.old
  obtain ⟨hk0, hk1, _, _⟩ := hold
  have hmx := hs.mx
  have htm := hs.tm
  obtain ⟨n, rfl⟩ := Int.eq_ofNat_of_zero_le hk0
  obtain ⟨lv, hlv⟩ : ∃ lv, T.length - (F ++ [(n : Int)]).length = lv := ⟨_, rfl⟩
  have hlen : (F ++ [(n : Int)]).length = F.length + 1 := by simp
  have hlen2 := hs.len
  have hne : ¬ (lv : Int) = most := by omega
  have H := Lib.hid h
  have HS := Lib.hid hs
  have HLV := Lib.hid hlv
  have c0 : w.cell? ⟨g, 0, none⟩ = some (.int .i64 most) := by
    obtain ⟨h1, h2, a, c, a', c', h3, h4, h5, h6, h7⟩ := h
    exact (cellsA h3).c0
  clear hs h hlv hk0
  go_enter Tryd.func70, Tryd.ntmps70
  go_wp2_with fail
  go_quiet ((go_at_call 36; exact Calls.quiet_of (alive_n _ (H.out.drewN _) HS.out HLV.out)))
  have hst0 : Stay A w (w.drewN nq) := (Stay.refl _ _).drewN _
  have HQ := Lib.hid (H.out.drewN nq)
  clear H c0
  generalize w.drewN nq = w0 at *
  obtain ⟨h1, h2, a, c, a', c', h3, h4, h5, h6, h7⟩ := HQ.out
  obtain ⟨b', rfl, hb0', hlt0', hc0', hf0'⟩ := OwnI.open h5 (by omega)
  obtain ⟨b, rfl, hb0, hlt0, hc0, hf0⟩ := OwnB.open h4 (by omega)
  have hfcell : w0.cell? ⟨b', F.length, none⟩ = some (.int .i64 n) := by rw [hc0' F.length (by omega)]; simp
  have htcell := hc0 n (by omega)
  have htf := hf0 n
  have h5' := OwnI.init h5
  obtain ⟨_, kc, e, hn1, _⟩ := own_form h5
  simp only [Value.slice.injEq] at e
  obtain ⟨rfl, _, rfl⟩ := e
  rw [hlen] at h3 hn1 hlen2
  obtain ⟨c0, c1, c2, f0, f1, f2⟩ := cellsA h3
  have hsl : (F.length : Int) ≤ c' := by omega
  have hbg : ¬ b = g := fun e => own_ne h4 h3 (by decide) b rfl e
  have hbb : ¬ b = b' := fun e => own_ne2 h4 h5' (by decide) b rfl (by rw [e]; rfl)
  have hA := h7 b' rfl
  have hst : Stay (fun k => k = g) w0 (w0.setCell ⟨g, 2, none⟩ (.slice (some ⟨b', 0, none⟩) F.length c')) := Stay.setCell (S := fun k => k = g) (Stay.refl _ _) (p := ⟨g, 2, none⟩) (.inr rfl) _
  have key := Lib.hid (ArM.setT (A := A) (F := F) (by decide) h1 (fun k hk => ⟨(h2 k hk).1, Nat.lt_of_lt_of_le (h2 k hk).2 hst.size⟩) (set_of h3 _) (ownsRow_stay h4 hst (own_ne h4 h3 (by decide))) (ownsRow_stay h5' hst (own_ne h5' h3 (by decide))) (h6 b rfl) (fun k hk => h7 k hk) n true)
  have H1 := Lib.hid h1
  have H4 := Lib.hid (h6 b rfl)
  clear h1 h2 h3 h4 h5 h6 h7 h5' hc0' hf0' hc0 hf0 hlen
  go_wp2_with fail
  go_ret2
  exact ⟨rfl, A, key.out, (hst0.setCell (p := ⟨g, 2, none⟩) (.inr H1.out) _).setCell (p := ⟨b, n, none⟩) (.inr H4.out) _, fun k hk => .inl hk⟩
theorem atake {base g most : Nat} {A : Nat → Prop} {T : List Bool} {F : List Int} (w : World) (h : ArM base 84 A w g most T F) (hs : Ar.S most T F) :
    Calls Tryd.prog 70 #[.pointer (some ⟨g, 0, none⟩)] w fun e w' => e = .returned (.tuple #[.int .i64 (Ar.tk most T F).1, .int .i64 (Ar.tk most T F).2.1]) ∧ Turned base 84 A w w' g most (Ar.tk most T F).2.2.1 (Ar.tk most T F).2.2.2 := by
  by_cases hF : F = []
  · subst hF
    by_cases hl : T.length < most
    · rw [Ar.tk_new _ _ hl]
      exact atake_new w h hs hl
    · rw [Ar.tk_full _ _ hl]
      refine (atake_full w h hs hl).mono ?_
      rintro e w' ⟨he, n, rfl⟩
      exact ⟨he, A, h.drewN n, (Stay.refl _ _).drewN n, fun k hk => .inl hk⟩
  · obtain ⟨G, k, rfl⟩ := Ar.snoc_of hF
    rw [Ar.tk_snoc]
    exact atake_old w h hs
end Go.Proofs.YtfbhcbcpeocmcaaDoor
