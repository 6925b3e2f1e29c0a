/- The document's own arenas (scrimshawref1): what NewArena, Live, Is and Take do: contracts of the walk. -/
import Derived.Test.YtfecmmnabhlkbaaRefArA
namespace Go.Proofs.Ytfecmmnabhlkbaa
open Go Go.RowKit Go.ChangeAt

/-- Such an arena behind a call. -/
def RTurned (base : Nat) (A : Nat → Prop) (w w' : World) (g most : Nat) (T : List Bool) (F : List Int) : Prop :=
  ∃ A', RrM base A' w' g most T F ∧ Stay A w w' ∧ ∀ k, A' k → A k ∨ w.heap.size ≤ k
theorem rnew_ok (most : Nat) (w : World) (h : most ≤ 268435456) : Calls Try.prog 14 #[.int .i64 most] w fun e w' => e = .returned (.pointer (some ⟨w.heap.size, 0, none⟩)) ∧ RrM w.heap.size (fun k => k = w.heap.size) w' w.heap.size most [] [] ∧ Below w.heap.size w w' := by
  have h1 : ¬ (268435456 : Int) < most := by omega
  go_enter Try.func14, Try.ntmps14
  go_wp2
  go_ret
  refine ⟨rfl, ⟨rfl, fun k hk => ?_, none, 0, none, 0, alloc_of, World.ownsRow_nil _ _ _ _, .inl ⟨rfl, rfl⟩, fun k hk => by simp [Value.ownBlock] at hk, fun k hk => by simp [Value.ownBlock] at hk⟩, (Below.refl _ _).alloc (Nat.le_refl _) _⟩
  subst hk
  exact ⟨Nat.le_refl _, by simp⟩
theorem rnew_no (most : Int) (w : World) (h : most < 0 ∨ 268435456 < most) : Calls Try.prog 14 #[.int .i64 most] w fun e w' => e = .returned (.pointer none) ∧ w = w' := by
  by_cases h0 : most < 0
  · clear h
    go_enter Try.func14, Try.ntmps14
    go_wp2
    go_ret
    exact ⟨rfl, rfl⟩
  · have h1 : 268435456 < most := by omega
    clear h
    go_enter Try.func14, Try.ntmps14
    go_wp2
    go_ret
    exact ⟨rfl, rfl⟩
theorem rlive {base g most : Nat} {A : Nat → Prop} {T : List Bool} {F : List Int} (w : World) (h : RrM base A w g most T F) (hs : Ar.S most T F) :
    Calls Try.prog 17 #[.pointer (some ⟨g, 0, none⟩)] w fun e w' => e = .returned (.int .i64 ((T.length - F.length : Nat) : Int)) ∧ ∃ n, w' = w.drewN n := by
  obtain ⟨h1, h2, a, c, a', c', h3, h4, h5, h6, h7⟩ := h
  obtain ⟨c0, c1, c2, f0, f1, f2⟩ := cellsA h3
  have q1 := hs.len
  have q2 := hs.tm
  have q3 := hs.mx
  clear h1 h2 h3 h4 h5 h6 h7 f0 f1 f2 c0 hs
  have e : ((T.length - F.length : Nat) : Int) = T.length - F.length := by omega
  rw [e]
  clear e
  go_enter Try.func17, Try.ntmps17
  go_wp2
  go_quiet (fail)
  go_wp2
  go_ret
  exact ⟨rfl, _, rfl⟩
theorem ris {base g most : Nat} {A : Nat → Prop} {T : List Bool} {F : List Int} (k : Int) (w : World) (h : RrM base A w g most T F) (hm : T.length ≤ 268435456) :
    Calls Try.prog 19 #[.pointer (some ⟨g, 0, none⟩), .int .i64 k] w fun e w' => e = .returned (.bool (Ar.is T k)) ∧ w = w' := by
  obtain ⟨h1, h2, a, c, a', c', h3, h4, h5, h6, h7⟩ := h
  obtain ⟨c0, c1, c2, f0, f1, f2⟩ := cellsA h3
  by_cases hk : k < 0
  · have hd := decide_eq_false (show ¬ (0 ≤ k) by omega)
    have e := Lib.hid (Ar.is_out (T := T) (k := k) (.inl hk))
    clear h1 h2 h3 h4 h5 h6 h7 f0 f1 f2 c0 c2
    go_enter Try.func19, Try.ntmps19
    go_wp2
    go_ret
    exact ⟨ret_bool (by rw [e.out]), rfl⟩
  · obtain ⟨n, rfl⟩ := Int.eq_ofNat_of_zero_le (show 0 ≤ k by omega)
    by_cases hn : n < T.length
    · obtain ⟨b, rfl, hbb, hlt, hc, hf⟩ := OwnB.open h4 (by omega)
      have hcell := hc n hn
      have e : Ar.is T (n : Int) = T.getD n false := by unfold Ar.is; rw [decide_eq_true (by omega)]; rfl
      obtain ⟨x, hx⟩ : ∃ x, T.getD n false = x := ⟨_, rfl⟩
      rw [hx] at hcell e
      have E := Lib.hid e
      have hn' : (n : Int) < T.length := by omega
      clear h1 h2 h3 h4 h5 h6 h7 f0 f1 f2 c0 c2 hk hc hf e hx
      go_enter Try.func19, Try.ntmps19
      go_wp2
      go_ret
      exact ⟨ret_bool (by rw [E.out]), rfl⟩
    · have hd := decide_eq_false (show ¬ ((n : Int) < T.length) by omega)
      have e := Lib.hid (Ar.is_out (T := T) (k := n) (.inr (by omega)))
      clear h1 h2 h3 h4 h5 h6 h7 f0 f1 f2 c0 c2 hk
      go_enter Try.func19, Try.ntmps19
      go_wp2
      go_ret
      exact ⟨ret_bool (by rw [e.out]), rfl⟩

theorem rtake_full {base g most : Nat} {A : Nat → Prop} {T : List Bool} (w : World) (h : RrM base A w g most T []) (hl : ¬ T.length < most) :
    Calls Try.prog 15 #[.pointer (some ⟨g, 0, none⟩)] w fun e w' => e = .returned (.tuple #[.int .i64 (-1), .int .i64 3]) ∧ ∃ n, w' = w.drewN n := by
  obtain ⟨h1, h2, a, c, a', c', h3, h4, h5, h6, h7⟩ := h
  obtain ⟨c0, c1, c2, f0, f1, f2⟩ := cellsA h3
  have c2' : w.cell? ⟨g, 2, none⟩ = some (.slice a' 0 c') := c2
  have hge : (most : Int) ≤ T.length := by omega
  clear h1 h2 h3 h4 h5 h6 h7 f0 f1 f2 c2 hl
  go_enter Try.func15, Try.ntmps15
  go_wp2_with fail
  go_quiet (fail)
  go_wp2_with fail
  go_ret2
  exact ⟨rfl, _, rfl⟩
theorem rtake_new {base g most : Nat} {A : Nat → Prop} {T : List Bool} (w : World) (h : RrM base A w g most T []) (hs : Ar.S most T []) (hl : T.length < most) :
    Calls Try.prog 15 #[.pointer (some ⟨g, 0, none⟩)] w fun e w' => e = .returned (.tuple #[.int .i64 T.length, .int .i64 0]) ∧ RTurned base A w w' g most (T ++ [true]) [] := by
  obtain ⟨i0, hi, hz0, hz1, hz2⟩ := info_parts infoB
  have hmx := hs.mx
  have HQ := Lib.hid h
  obtain ⟨h1, h2, a, c, a', c', h3, h4, h5, h6, h7⟩ := h
  obtain ⟨c0, c1, c2, f0, f1, f2⟩ := cellsA h3
  have c2' : w.cell? ⟨g, 2, none⟩ = some (.slice a' 0 c') := c2
  have hne : ¬ (most : Int) ≤ T.length := by omega
  clear hs h1 h2 h3 h4 h5 h6 h7 f0 f1 f2 c2
  go_enter Try.func15, Try.ntmps15
  go_wp2_with fail
  go_quiet (fail)
  have hst0 : Stay A w (w.drewN nq) := (Stay.refl _ _).drewN _
  have HQ2 := Lib.hid (HQ.out.drewN nq)
  clear HQ c0 c1 c2'
  generalize w.drewN nq = w0 at *
  obtain ⟨h1, h2, a, c, a', c', h3, h4, h5, h6, h7⟩ := HQ2.out
  obtain ⟨c0, c1, c2, f0, f1, f2⟩ := cellsA h3
  have hbase : base ≤ w0.heap.size := by have := h2 g h1; omega
  have hgs : g < w0.heap.size := (h2 g h1).2
  have H1 := Lib.hid h1
  have H2 := Lib.hid h2
  have H3 := Lib.hid h3
  have H4 := Lib.hid h4
  have H5 := Lib.hid h5
  have H6 := Lib.hid h6
  have H7 := Lib.hid h7
  clear h1 h2 h3 h4 h5 h6 h7 f0 f2 c0 c2
  go_wp2_with (first
    | (at_builtin; (refine wpList_append_own_at _ rfl (.tmp 54) (.tmp 55) 38 rfl base 4 i0 (.bool false) 1 1 Try.underlying38 hi hz0 hz1 hz2 rfl (by decide) _ _ _ rfl (World.ownsRow.alloc H4.out _) ⟨w0.heap.size, 0, none⟩ 1 1 [.bool true] rfl rfl (cell_one_new _ _ _) (fun u hu => by simp at hu; subst hu; rfl) (by unfold maxLen; omega) (by omega) (by simp; omega) ?_); intro v1 w1 hown1 hgrow1 hnil1 hat1;
       (obtain ⟨a1, k1, rfl, hk1, hk2⟩ := own_form hown1);
       (have hst1 : Stay (fun i => (Value.slice a T.length c).ownBlock = some i) w0 w1 := Stay.trans ((Stay.refl _ _).alloc _) (grown_stay hgrow1) (fun i hi e => e));
       (have h31 : w1.heap[g]? = _ := hst1.kept H3.out (fun e => own_ne H4.out H3.out (by decide) _ e rfl));
       (have hat2 : (Value.slice a1 (T.length + 1) k1).ownBlock = (Value.slice a T.length c).ownBlock ∨ (Value.slice a1 (T.length + 1) k1).ownBlock = some (w0.heap.size + 1) := by (rcases hat1 with e | e; exact .inl e; exact .inr (e.trans (by simp))));
       (obtain ⟨c01, c11, c21, f01, f11, f21⟩ := cellsA h31);
       (have H31 := Lib.hid h31); clear h31 f01 f21 c01 c21 hnil1 hgrow1 hat1))
  go_ret2
  have hz1 := hst1.size
  have h51 : GoneI base w1 (.slice a' 0 c') [] := by
    have h := H5.out
    rcases h with ⟨hv, _⟩ | ⟨b, cap, cur, hv, hb0, hg, hn, hm, ht, hc⟩
    · exact .inl ⟨hv, rfl⟩
    · have hne : (Value.slice a T.length c).ownBlock ≠ some b := fun e => own_ne H4.out hg (by decide) b e rfl
      exact .inr ⟨b, cap, cur, hv, hb0, hst1.kept hg hne, hn, hm, ht, hc⟩
  have hrow : w1.ownsRow base 4 1 (.slice a1 (T.length + 1) k1) (T.length + 1) ((T ++ [true]).map Value.bool) := by rw [List.map_append]; exact hown1
  have hlt1 := hown1.lt
  have hA1 : Stay A w0 w1 := hst1.mono (fun i _ e => H6.out i e)
  refine ⟨rfl, fun k => A k ∨ (w0.heap.size ≤ k ∧ k < w1.heap.size), ?_, hst0.trans (hA1.setCell (.inr H1.out) _) (fun _ _ h => h), fun k hk => ?_⟩
  · refine RrM.setV (by simp) (.inl H1.out) (fun k hk => ?_) H31.out h51 (fun k hk => .inl (H7.out k hk)) hrow (fun k hk => ?_)
    · rcases hk with hk | hk
      · exact ⟨(H2.out k hk).1, Nat.lt_of_lt_of_le (H2.out k hk).2 hz1⟩
      · exact ⟨Nat.le_trans hbase hk.1, hk.2⟩
    · rcases hat2 with e | e
      · exact .inl (H6.out k (e ▸ hk))
      · have := hlt1 k hk
        rw [e] at hk
        exact .inr ⟨by have := Option.some.inj hk; omega, this.2⟩
  · have := hst0.size
    rcases hk with hk | hk
    · exact .inl hk
    · exact .inr (by omega)
theorem rtake_old {base g most : Nat} {A : Nat → Prop} {T : List Bool} {F : List Int} {k : Int} (w : World) (h : RrM base A w g most T (F ++ [k])) (hs : Ar.S most T (F ++ [k])) :
    Calls Try.prog 15 #[.pointer (some ⟨g, 0, none⟩)] w fun e w' => e = .returned (.tuple #[.int .i64 k, .int .i64 0]) ∧ RTurned base A w w' g most (T.set k.toNat true) F := by
  have hold := hs.old
  obtain ⟨hk0, hk1, _, _⟩ := hold
  have hmx := hs.mx
  have htm := hs.tm
  obtain ⟨n, rfl⟩ := Int.eq_ofNat_of_zero_le hk0
  have hlen : (F ++ [(n : Int)]).length = F.length + 1 := by simp
  have hlen2 := hs.len
  obtain ⟨h1, h2, a, c, a', c', h3, h4, h5, h6, h7⟩ := h
  obtain ⟨b', rfl, hlt0', hc0'⟩ := h5.open (by omega)
  obtain ⟨b, rfl, hb0, hlt0, hc0, hf0⟩ := OwnB.open h4 (by omega)
  have hfcell : w.cell? ⟨b', F.length, none⟩ = some (.int .i64 n) := by rw [hc0' F.length (by omega)]; simp
  have htcell := hc0 n (by omega)
  have htf := hf0 n
  have h5' := h5.init
  obtain ⟨_, kc, e, hn1, hn2⟩ := h5.form
  simp only [Value.slice.injEq] at e
  obtain ⟨rfl, _, rfl⟩ := e
  rw [hlen] at h3 hn1 hlen2
  obtain ⟨c0, c1, c2, f0, f1, f2⟩ := cellsA h3
  have hsl : (F.length : Int) ≤ c' := by omega
  have hsl2 : (c' : Int) ≤ 9223372036854775807 := by unfold maxLen at hn2; omega
  have hbg : ¬ b = g := fun e => own_ne h4 h3 (by decide) b rfl e
  have hst : Stay (fun k => k = g) w (w.setCell ⟨g, 2, none⟩ (.slice (some ⟨b', 0, none⟩) F.length F.length)) := Stay.setCell (S := fun k => k = g) (Stay.refl _ _) (p := ⟨g, 2, none⟩) (.inr rfl) _
  have key := Lib.hid (RrM.setT (A := A) (F := F) h1 (fun k hk => ⟨(h2 k hk).1, Nat.lt_of_lt_of_le (h2 k hk).2 hst.size⟩) (set_of h3 _) (ownsRow_stay h4 hst (own_ne h4 h3 (by decide))) (h5'.stay hst (h5'.ne h3 (by decide))) (h6 b rfl) (fun k hk => h7 k hk) n true)
  have H1 := Lib.hid h1
  have H4 := Lib.hid (h6 b rfl)
  clear h1 h2 h3 h4 h5 h6 h7 h5' hc0' hc0 hf0 hlen hs hk0 hst hn2
  go_enter Try.func15, Try.ntmps15
  go_wp2_with fail
  go_ret2
  exact ⟨rfl, A, key.out, ((Stay.refl A w).setCell (p := ⟨g, 2, none⟩) (.inr H1.out) _).setCell (p := ⟨b, n, none⟩) (.inr H4.out) _, fun k hk => .inl hk⟩
theorem rtake {base g most : Nat} {A : Nat → Prop} {T : List Bool} {F : List Int} (w : World) (h : RrM base A w g most T F) (hs : Ar.S most T F) :
    Calls Try.prog 15 #[.pointer (some ⟨g, 0, none⟩)] w fun e w' => e = .returned (.tuple #[.int .i64 (Ar.tk most T F).1, .int .i64 (Ar.tk most T F).2.1]) ∧ RTurned base A w w' g most (Ar.tk most T F).2.2.1 (Ar.tk most T F).2.2.2 := by
  by_cases hF : F = []
  · subst hF
    by_cases hl : T.length < most
    · rw [Ar.tk_new _ _ hl]
      exact rtake_new w h hs hl
    · rw [Ar.tk_full _ _ hl]
      refine (rtake_full w h hl).mono ?_
      rintro e w' ⟨he, n, rfl⟩
      exact ⟨he, A, h.drewN n, (Stay.refl _ _).drewN n, fun k hk => .inl hk⟩
  · obtain ⟨G, k, rfl⟩ := Ar.snoc_of hF
    rw [Ar.tk_snoc]
    exact rtake_old w h hs
end Go.Proofs.Ytfecmmnabhlkbaa
