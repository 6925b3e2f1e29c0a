/- Symbols that move, as plain lists: a list's symbols with a path, their places and bits; what goes in and out. No function of the program stands in it. Symbols that move, as plain lists: how many bits each node has, in order; sums of ranks; what is put in and taken out again. No function of the program stands in it. -/
import Derived.Test.YthbbokoeiifjdaaGreatDoorBlo
import Derived.Test.YthbbokoeiifjdaaGreatDoorSy
namespace Go.Proofs.YthbbokoeiifjdaaGreatDoor
namespace Wv

/-- All are symbols. -/
def Good (l : List Int) : Prop := ∀ s ∈ l, 0 ≤ s ∧ s ≤ 256
theorem Good.nil : Good [] := fun s h => by cases h
theorem Good.take {l : List Int} (h : Good l) (k : Nat) : Good (l.take k) := fun s hs => h s (List.mem_of_mem_take hs)
theorem Good.drop {l : List Int} (h : Good l) (k : Nat) : Good (l.drop k) := fun s hs => h s (List.mem_of_mem_drop hs)
theorem Good.app {l m : List Int} (h : Good l) (h' : Good m) : Good (l ++ m) := fun s hs => (List.mem_append.1 hs).elim (h s) (h' s)
theorem Good.one {s : Int} (h : 0 ≤ s ∧ s ≤ 256) : Good [s] := fun x hx => by rw [List.mem_singleton.1 hx]; exact h
theorem Good.at {l : List Int} (h : Good l) {k : Nat} (hk : k < l.length) : 0 ≤ l.getD k 0 ∧ l.getD k 0 ≤ 256 := by
  rw [List.getD_eq_getElem?_getD, List.getElem?_eq_getElem hk]; exact h _ (List.getElem_mem hk)
/-- A list with one more at a place, without the one there. -/
def ins (l : List Int) (k : Nat) (s : Int) : List Int := l.take k ++ s :: l.drop k
def del (l : List Int) (k : Nat) : List Int := l.take k ++ l.drop (k + 1)
theorem ins_len {l : List Int} {k : Nat} {s : Int} (hk : k ≤ l.length) : (ins l k s).length = l.length + 1 := by unfold ins; simp; omega
theorem del_len {l : List Int} {k : Nat} (hk : k < l.length) : (del l k).length = l.length - 1 := by unfold del; simp; omega
theorem Good.ins {l : List Int} (h : Good l) {k : Nat} {s : Int} (hs : 0 ≤ s ∧ s ≤ 256) : Good (ins l k s) := (h.take k).app (fun x hx => by
  rcases List.mem_cons.1 hx with rfl | hx
  · exact hs
  · exact h.drop k x hx)
theorem Good.del {l : List Int} (h : Good l) (k : Nat) : Good (del l k) := (h.take k).app (h.drop (k + 1))
/-- The three parts of a list at a place. -/
theorem parts {l : List Int} {k : Nat} (hk : k < l.length) : l = l.take k ++ l.getD k 0 :: l.drop (k + 1) := by
  rw [List.getD_eq_getElem?_getD, List.getElem?_eq_getElem hk]
  have := List.take_append_drop k l
  rw [List.drop_eq_getElem_cons hk] at this
  exact this.symm

/-- The symbols of l with the path p at the level v; their bits there; how many of the first k are such. -/
def sub (l : List Int) (v : Nat) (p : Int) : List Int := l.filter fun s => Sy.path s v == p
def bits (l : List Int) (v : Nat) (p : Int) : List Bool := (sub l v p).map fun s => Sy.bit s v
def pos (l : List Int) (v : Nat) (p : Int) (k : Nat) : Nat := (sub (l.take k) v p).length
theorem bits_len (l : List Int) (v : Nat) (p : Int) : (bits l v p).length = (sub l v p).length := by unfold bits; exact List.length_map _
theorem sub_app (l m : List Int) (v : Nat) (p : Int) : sub (l ++ m) v p = sub l v p ++ sub m v p := by unfold sub; exact List.filter_append ..
theorem bits_app (l m : List Int) (v : Nat) (p : Int) : bits (l ++ m) v p = bits l v p ++ bits m v p := by unfold bits; rw [sub_app, List.map_append]
theorem sub_cons (s : Int) (l : List Int) (v : Nat) (p : Int) : sub (s :: l) v p = if Sy.path s v = p then s :: sub l v p else sub l v p := by
  unfold sub
  rw [List.filter_cons]
  by_cases h : Sy.path s v = p
  · rw [if_pos h, if_pos (by simpa using h)]
  · rw [if_neg h, if_neg (by simpa using h)]
theorem sub_zero {l : List Int} (h : Good l) : sub l 0 0 = l := by
  unfold sub
  refine List.filter_eq_self.2 fun s hs => ?_
  have : Sy.path s 0 = 0 := Sy.path_zero (h s hs)
  simp [this]
theorem pos_zero {l : List Int} (h : Good l) {k : Nat} (hk : k ≤ l.length) : pos l 0 0 k = k := by
  unfold pos; rw [sub_zero (h.take k), List.length_take]; omega
theorem sub_take (l : List Int) (v : Nat) (p : Int) (k : Nat) : sub (l.take k) v p = (sub l v p).take (pos l v p k) := by
  have h : sub l v p = sub (l.take k) v p ++ sub (l.drop k) v p := by rw [← sub_app, List.take_append_drop]
  unfold pos
  rw [h, List.take_left']
  rfl
theorem sub_drop (l : List Int) (v : Nat) (p : Int) (k : Nat) : sub (l.drop k) v p = (sub l v p).drop (pos l v p k) := by
  have h : sub l v p = sub (l.take k) v p ++ sub (l.drop k) v p := by rw [← sub_app, List.take_append_drop]
  unfold pos
  rw [h, List.drop_left']
  rfl
theorem pos_le (l : List Int) (v : Nat) (p : Int) (k : Nat) : pos l v p k ≤ (sub l v p).length := by
  have h : sub l v p = sub (l.take k) v p ++ sub (l.drop k) v p := by rw [← sub_app, List.take_append_drop]
  unfold pos
  rw [h, List.length_append]
  omega
theorem pos_all (l : List Int) (v : Nat) (p : Int) {k : Nat} (hk : l.length ≤ k) : pos l v p k = (sub l v p).length := by unfold pos; rw [List.take_of_length_le hk]
theorem pos_mono (l : List Int) (v : Nat) (p : Int) {i k : Nat} (h : i ≤ k) : pos l v p i ≤ pos l v p k := by
  unfold pos sub
  exact List.Sublist.length_le (List.Sublist.filter _ (List.take_sublist_take_left h))
theorem pos_succ {l : List Int} {k : Nat} (v : Nat) (p : Int) (hk : k < l.length) : pos l v p (k + 1) = pos l v p k + if Sy.path (l.getD k 0) v = p then 1 else 0 := by
  unfold pos
  rw [List.take_succ_eq_append_getElem hk, sub_app, List.length_append, List.getD_eq_getElem?_getD, List.getElem?_eq_getElem hk]
  show _ + (sub [l[k]] v p).length = _ + if Sy.path l[k] v = p then 1 else 0
  rw [sub_cons]
  split <;> rfl
/-- The symbol at a place is the one at its place among those with its path. -/
theorem sub_at {l : List Int} {k v : Nat} (hk : k < l.length) : pos l v (Sy.path (l.getD k 0) v) k < (sub l v (Sy.path (l.getD k 0) v)).length ∧ (sub l v (Sy.path (l.getD k 0) v)).getD (pos l v (Sy.path (l.getD k 0) v) k) 0 = l.getD k 0 := by
  have h1 := pos_succ v (Sy.path (l.getD k 0) v) hk
  rw [if_pos rfl] at h1
  have h2 := pos_le l v (Sy.path (l.getD k 0) v) (k + 1)
  refine ⟨by omega, ?_⟩
  have h3 := sub_drop l v (Sy.path (l.getD k 0) v) k
  have h4 : l.drop k = l.getD k 0 :: l.drop (k + 1) := by rw [List.drop_eq_getElem_cons hk, List.getD_eq_getElem?_getD, List.getElem?_eq_getElem hk]; rfl
  rw [h4, sub_cons, if_pos rfl] at h3
  have h5 := congrArg (fun m => m[0]?) h3
  simp only [List.getElem?_cons_zero, List.getElem?_drop, Nat.add_zero] at h5
  rw [List.getD_eq_getElem?_getD, ← h5]
  rfl
theorem bits_at {l : List Int} {k v : Nat} (hk : k < l.length) : pos l v (Sy.path (l.getD k 0) v) k < (bits l v (Sy.path (l.getD k 0) v)).length ∧ (bits l v (Sy.path (l.getD k 0) v)).getD (pos l v (Sy.path (l.getD k 0) v) k) false = Sy.bit (l.getD k 0) v := by
  obtain ⟨h1, h2⟩ := sub_at (v := v) hk
  refine ⟨by rw [bits_len]; exact h1, ?_⟩
  unfold bits
  rw [List.getD_eq_getElem?_getD, List.getElem?_map, List.getElem?_eq_getElem h1]
  rw [List.getD_eq_getElem?_getD, List.getElem?_eq_getElem h1] at h2
  have h3 : (sub l v (Sy.path (l.getD k 0) v))[pos l v (Sy.path (l.getD k 0) v) k] = l.getD k 0 := h2
  rw [h3]
  rfl

/-- The path below: those of a path whose bit is b. -/
def nxt (p : Int) (b : Bool) : Int := 2 * p + if b = true then 1 else 0
theorem path_nxt {s : Int} {v : Nat} (hs : 0 ≤ s ∧ s ≤ 256) (hv : v ≤ 8) : Sy.path s (v + 1 : Nat) = nxt (Sy.path s v) (Sy.bit s v) := by
  have := Sy.path_succ (s := s) (l := v) hs (by omega)
  exact this
theorem nxt_inj {p q : Int} {b c : Bool} (h : nxt p b = nxt q c) : p = q ∧ b = c := by
  unfold nxt at h
  cases b <;> cases c <;> simp at h <;> first | exact ⟨by omega, rfl⟩ | omega
theorem sub_nxt {l : List Int} (h : Good l) {v : Nat} (hv : v ≤ 8) (p : Int) (b : Bool) : sub l (v + 1) (nxt p b) = (sub l v p).filter fun s => Sy.bit s v == b := by
  unfold sub
  rw [List.filter_filter]
  refine List.filter_congr fun s hs => ?_
  rw [path_nxt (h s hs) hv]
  by_cases h1 : Sy.path s v = p
  · by_cases h2 : Sy.bit s v = b
    · rw [h1, h2]; simp
    · rw [show (nxt (Sy.path s v) (Sy.bit s v) == nxt p b) = false from beq_eq_false_iff_ne.2 fun e => h2 (nxt_inj e).2, show (Sy.bit s v == b) = false from beq_eq_false_iff_ne.2 h2]
      simp
  · rw [show (nxt (Sy.path s v) (Sy.bit s v) == nxt p b) = false from beq_eq_false_iff_ne.2 fun e => h1 (nxt_inj e).1, show (Sy.path s v == p) = false from beq_eq_false_iff_ne.2 h1]
    simp
theorem count_map_filter (m : List Int) (f : Int → Bool) (b : Bool) : (m.map f).count b = (m.filter fun s => f s == b).length := by
  induction m with
  | nil => rfl
  | cons s m ih =>
    rw [List.map_cons, List.count_cons, List.filter_cons, ih]
    by_cases h : f s = b
    · simp [h]
    · simp [h]
/-- The place below is the number of like bits ahead. -/
theorem rk_pos {l : List Int} (h : Good l) {v : Nat} (hv : v ≤ 8) (p : Int) (b : Bool) (k : Nat) : Blk.rk b (bits l v p) (pos l v p k) = pos l (v + 1) (nxt p b) k := by
  unfold Blk.rk
  have e : (bits l v p).take (pos l v p k) = bits (l.take k) v p := by
    unfold bits
    rw [← List.map_take, ← sub_take]
  rw [e]
  unfold bits
  rw [count_map_filter, ← sub_nxt (h.take k) hv]
  rfl
theorem count_bits {l : List Int} (h : Good l) {v : Nat} (hv : v ≤ 8) (p : Int) (b : Bool) : (bits l v p).count b = (sub l (v + 1) (nxt p b)).length := by
  unfold bits
  rw [count_map_filter, ← sub_nxt h hv]

/-- What goes in goes in at its place, with its own path alone. -/
theorem sub_ins (l : List Int) (k : Nat) (s : Int) (v : Nat) (p : Int) : sub (ins l k s) v p = if Sy.path s v = p then ins (sub l v p) (pos l v p k) s else sub l v p := by
  unfold ins
  rw [sub_app, sub_cons, sub_take, sub_drop]
  by_cases h : Sy.path s v = p
  · rw [if_pos h, if_pos h]
  · rw [if_neg h, if_neg h, List.take_append_drop]
theorem bits_ins (l : List Int) (k : Nat) (s : Int) (v : Nat) (p : Int) : bits (ins l k s) v p = if Sy.path s v = p then Blk.ins (bits l v p) (pos l v p k) (Sy.bit s v) else bits l v p := by
  unfold bits
  rw [sub_ins]
  by_cases h : Sy.path s v = p
  · rw [if_pos h, if_pos h]
    unfold ins Blk.ins
    rw [List.map_append, List.map_cons, List.map_take, List.map_drop]
  · rw [if_neg h, if_neg h]
theorem bits_ins_own (l : List Int) (k : Nat) (s : Int) (v : Nat) : bits (ins l k s) v (Sy.path s v) = Blk.ins (bits l v (Sy.path s v)) (pos l v (Sy.path s v) k) (Sy.bit s v) := by rw [bits_ins, if_pos rfl]
theorem bits_ins_other {l : List Int} {k : Nat} {s : Int} {v : Nat} {p : Int} (h : Sy.path s v ≠ p) : bits (ins l k s) v p = bits l v p := by rw [bits_ins, if_neg h]
theorem bits_del {l : List Int} {k : Nat} (hk : k < l.length) (v : Nat) (p : Int) : bits (del l k) v p = if Sy.path (l.getD k 0) v = p then Blk.del (bits l v p) (pos l v p k) else bits l v p := by
  have hp := pos_succ v p hk
  have e : bits (del l k) v p = (bits l v p).take (pos l v p k) ++ (bits l v p).drop (pos l v p (k + 1)) := by
    unfold bits del
    rw [sub_app, sub_take, sub_drop, List.map_append, List.map_take, List.map_drop]
  rw [e, hp]
  by_cases h : Sy.path (l.getD k 0) v = p
  · rw [if_pos h, if_pos h]; rfl
  · rw [if_neg h, if_neg h, Nat.add_zero, List.take_append_drop]

/-- How many s among the first k; the place of the s with j such ahead. -/
def rk (l : List Int) (k : Nat) (s : Int) : Nat := (l.take k).count s
theorem rk_nine {l : List Int} (h : Good l) (k : Nat) (s : Int) : rk l k s = pos l 9 s k := by
  unfold rk pos sub
  rw [List.count_eq_length_filter]
  congr 1
  refine List.filter_congr fun x hx => ?_
  have : Sy.path x (9 : Nat) = x := Sy.path_nine (h x (List.mem_of_mem_take hx))
  rw [this]
theorem rk_all {l : List Int} {k : Nat} (s : Int) (h : l.length ≤ k) : rk l k s = l.count s := by unfold rk; rw [List.take_of_length_le h]
theorem rk_succ {l : List Int} {k : Nat} (s : Int) (h : k < l.length) : rk l (k + 1) s = rk l k s + if l.getD k 0 = s then 1 else 0 := by
  unfold rk
  rw [List.take_succ_eq_append_getElem h, List.count_append, List.getD_eq_getElem?_getD, List.getElem?_eq_getElem h]
  simp [List.count_cons]
theorem rk_le (l : List Int) (k : Nat) (s : Int) : rk l k s ≤ k := by unfold rk; exact Nat.le_trans List.count_le_length (List.length_take_le _ _)
theorem rk_mono {l : List Int} {i k : Nat} (s : Int) (h : i ≤ k) : rk l i s ≤ rk l k s := by
  unfold rk
  exact List.Sublist.count_le s (List.take_sublist_take_left h)
def pl (s : Int) : List Int → Nat → Nat
  | [], _ => 0
  | x :: r, j => if x = s then (match j with | 0 => 0 | j + 1 => pl s r j + 1) else pl s r j + 1
theorem pl_spec (s : Int) : ∀ (l : List Int) (j : Nat), j < l.count s → pl s l j < l.length ∧ l.getD (pl s l j) 0 = s ∧ rk l (pl s l j) s = j
  | [], j, h => by simp at h
  | x :: r, j, h => by
    by_cases e : x = s
    · subst e
      rw [List.count_cons_self] at h
      match j with
      | 0 => simp [pl, rk]
      | j + 1 =>
        obtain ⟨h1, h2, h3⟩ := pl_spec x r j (by omega)
        refine ⟨by simp [pl]; omega, by simp only [pl, if_true]; exact h2, ?_⟩
        simp only [pl, if_true]
        unfold rk at h3 ⊢
        rw [List.take_succ_cons, List.count_cons_self, h3]
    · rw [List.count_cons_of_ne e] at h
      obtain ⟨h1, h2, h3⟩ := pl_spec s r j h
      refine ⟨by simp [pl, e]; omega, by simp only [pl, if_neg e]; exact h2, ?_⟩
      simp only [pl, if_neg e]
      unfold rk at h3 ⊢
      rw [List.take_succ_cons, List.count_cons_of_ne e, h3]
noncomputable def sl (l : List Int) (j s : Int) : Int := if 0 ≤ j ∧ j < l.count s then (pl s l j.toNat : Int) else -1
theorem sl_none {l : List Int} {j s : Int} (h : j < 0 ∨ (l.count s : Int) ≤ j) : sl l j s = -1 := by unfold sl; rw [if_neg (by omega)]
theorem sl_is {l : List Int} {j : Nat} {s : Int} (h : j < l.count s) : ∃ k : Nat, sl l j s = (k : Int) ∧ k < l.length ∧ l.getD k 0 = s ∧ rk l k s = j := by
  obtain ⟨h1, h2, h3⟩ := pl_spec s l j h
  exact ⟨pl s l j, by unfold sl; rw [if_pos (by omega), Int.toNat_natCast], h1, h2, h3⟩
theorem rk_lt_count {l : List Int} {k : Nat} {s : Int} (hk : k < l.length) (hs : l.getD k 0 = s) : rk l k s < l.count s := by
  have h1 := rk_succ s hk
  rw [if_pos hs] at h1
  have h2 := rk_mono s (l := l) (show k + 1 ≤ l.length by omega)
  rw [rk_all s (Nat.le_refl _)] at h2
  omega
theorem sl_of {l : List Int} {k j : Nat} {s : Int} (hk : k < l.length) (hs : l.getD k 0 = s) (hj : rk l k s = j) : sl l j s = (k : Int) := by
  have hc := rk_lt_count hk hs
  obtain ⟨p, h0, h1, h2, h3⟩ := sl_is (l := l) (j := j) (s := s) (by omega)
  rw [h0]
  have key : ∀ i m, i < m → m < l.length → l.getD i 0 = s → rk l i s < rk l m s := fun i m him hm hi => by
    have e1 := rk_succ s (show i < l.length by omega)
    rw [if_pos hi] at e1
    have e2 := rk_mono s (l := l) (show i + 1 ≤ m by omega)
    omega
  rcases Nat.lt_trichotomy p k with h | h | h
  · have := key _ _ h hk h2; omega
  · rw [h]
  · have := key _ _ h h1 hs; omega
/-- On the way up: the place above is where the bit with so many like it ahead stands. -/
theorem sl_up {l : List Int} (h : Good l) {k v : Nat} (hk : k < l.length) (hv : v ≤ 8) :
    Blk.sl (Sy.bit (l.getD k 0) v) (bits l v (Sy.path (l.getD k 0) v)) (pos l (v + 1) (Sy.path (l.getD k 0) (v + 1 : Nat)) k) = (pos l v (Sy.path (l.getD k 0) v) k : Int) := by
  obtain ⟨h1, h2⟩ := bits_at (v := v) hk
  refine Blk.sl_of h1 h2 ?_
  rw [rk_pos h hv, path_nxt (h.at hk) hv]
/-- Of too many there is none, at the lowest level. -/
theorem sl_low {l : List Int} (h : Good l) {s j : Int} (hs : 0 ≤ s ∧ s ≤ 256) (hj : j < 0 ∨ (l.count s : Int) ≤ j) : Blk.sl (Sy.bit s (8 : Nat)) (bits l 8 (Sy.path s (8 : Nat))) j = -1 := by
  refine Blk.sl_none (hj.imp id fun hj => ?_)
  rw [count_bits h (by omega), ← path_nxt hs (by omega)]
  have := rk_nine h l.length s
  rw [rk_all s (Nat.le_refl _), pos_all l 9 s (Nat.le_refl _)] at this
  have e : Sy.path s (8 + 1 : Nat) = s := Sy.path_nine hs
  rw [e]
  show ((sub l 9 s).length : Int) ≤ j
  omega
/-- All ranks together are the place. -/
theorem rk_other {l : List Int} {k : Nat} (v : Nat) (p : Int) (h : Good l) (hv : v ≤ 8) : pos l (v + 1) (nxt p false) k + pos l (v + 1) (nxt p true) k = pos l v p k := by
  rw [← rk_pos h hv, ← rk_pos h hv]
  unfold Blk.rk
  have h1 := List.length_eq_countP_add_countP (fun b : Bool => b == true) (l := (bits l v p).take (pos l v p k))
  have h2 : ((bits l v p).take (pos l v p k)).length = pos l v p k := by rw [List.length_take, bits_len]; have := pos_le l v p k; omega
  rw [h2] at h1
  have h3 : ((bits l v p).take (pos l v p k)).count false = ((bits l v p).take (pos l v p k)).countP (fun b : Bool => ¬ (b == true) = true) := by
    unfold List.count
    refine List.countP_congr fun b _ => ?_
    cases b <;> simp
  have h4 : ((bits l v p).take (pos l v p k)).count true = ((bits l v p).take (pos l v p k)).countP (fun b : Bool => b == true) := rfl
  omega
end Wv
end Go.Proofs.YthbbokoeiifjdaaGreatDoor
namespace Go.Proofs.YthbbokoeiifjdaaGreatDoor
namespace Wv

/-- How many bits: of the first n paths of a level, those that have any; of all nodes ahead of the path p of the level l; of all. -/
def lvl (m : List Int) (v n : Nat) : List Nat := ((List.range n).map fun p : Nat => (bits m v (p : Int)).length).filter fun x => decide (0 < x)
def pre (m : List Int) (l p : Nat) : List Nat := ((List.range l).flatMap fun v => lvl m v (2 ^ v)) ++ lvl m l p
def lens (m : List Int) : List Nat := pre m 9 0
theorem lvl_succ (m : List Int) (v n : Nat) : lvl m v (n + 1) = lvl m v n ++ if 0 < (bits m v (n : Int)).length then [(bits m v (n : Int)).length] else [] := by
  unfold lvl
  rw [List.range_succ, List.map_append, List.filter_append]
  congr 1
  by_cases h : 0 < (bits m v (n : Int)).length
  · rw [if_pos h]; simp [h]
  · rw [if_neg h]; simp at h; simp [h]
theorem pre_zero (m : List Int) : pre m 0 0 = [] := rfl
theorem pre_has {m : List Int} {l p : Nat} (h : 0 < (bits m l (p : Int)).length) : pre m l (p + 1) = pre m l p ++ [(bits m l (p : Int)).length] := by
  unfold pre; rw [lvl_succ, if_pos h, List.append_assoc]
theorem pre_none {m : List Int} {l p : Nat} (h : ¬ 0 < (bits m l (p : Int)).length) : pre m l (p + 1) = pre m l p := by
  unfold pre; rw [lvl_succ, if_neg h, List.append_nil]
theorem pre_next (m : List Int) (l : Nat) : pre m (l + 1) 0 = pre m l (2 ^ l) := by
  unfold pre
  rw [List.range_succ, List.flatMap_append]
  simp [lvl]
theorem lvl_more (m : List Int) (v : Nat) : ∀ {n k : Nat}, n ≤ k → ∃ t, lvl m v k = lvl m v n ++ t
  | n, 0, h => ⟨[], by have : n = 0 := by omega
                       subst this; simp⟩
  | n, k + 1, h => by
    by_cases e : n = k + 1
    · subst e; exact ⟨[], by simp⟩
    · obtain ⟨t, ht⟩ := lvl_more m v (n := n) (k := k) (by omega)
      rw [lvl_succ, ht, List.append_assoc]
      exact ⟨_, rfl⟩
theorem pre_more (m : List Int) (l : Nat) : ∀ (d : Nat), ∃ t, pre m (l + d) 0 = pre m l 0 ++ t
  | 0 => ⟨[], by simp⟩
  | d + 1 => by
    obtain ⟨t, ht⟩ := pre_more m l d
    obtain ⟨u, hu⟩ : ∃ u, pre m (l + d) (2 ^ (l + d)) = pre m (l + d) 0 ++ u := by
      unfold pre
      obtain ⟨u, hu⟩ := lvl_more m (l + d) (n := 0) (k := 2 ^ (l + d)) (Nat.zero_le _)
      exact ⟨u, by rw [hu, List.append_assoc]⟩
    rw [show l + (d + 1) = (l + d) + 1 from rfl, pre_next, hu, ht, List.append_assoc]
    exact ⟨_, rfl⟩
theorem pre_lens (m : List Int) {l p : Nat} (hl : l < 9) (hp : p ≤ 2 ^ l) : ∃ t, lens m = pre m l p ++ t := by
  obtain ⟨t, ht⟩ := pre_more m (l + 1) (9 - (l + 1))
  rw [show l + 1 + (9 - (l + 1)) = 9 by omega] at ht
  obtain ⟨u, hu⟩ := lvl_more m l hp
  refine ⟨u ++ t, ?_⟩
  unfold lens
  rw [ht, pre_next]
  unfold pre
  rw [hu]
  simp only [List.append_assoc]
/-- The next node that has bits is the next in the list. -/
theorem lens_at {m : List Int} {l p : Nat} (hl : l < 9) (hp : p < 2 ^ l) (h : 0 < (bits m l (p : Int)).length) : (pre m l p).length < (lens m).length ∧ (lens m).getD (pre m l p).length 0 = (bits m l (p : Int)).length := by
  obtain ⟨t, ht⟩ := pre_lens m hl (show p + 1 ≤ 2 ^ l by omega)
  rw [ht, pre_has h]
  refine ⟨by simp, ?_⟩
  rw [List.getD_eq_getElem?_getD, List.append_assoc, List.getElem?_append_right (Nat.le_refl _), Nat.sub_self]
  rfl

/-- The ranks of the symbols below n together. -/
def rsum (m : List Int) (k : Nat) : Nat → Nat
  | 0 => 0
  | n + 1 => rsum m k n + rk m k (n : Int)
theorem rsum_zero (m : List Int) : ∀ n, rsum m 0 n = 0
  | 0 => rfl
  | n + 1 => by show rsum m 0 n + rk m 0 (n : Int) = 0; rw [rsum_zero m n]; simp [rk]
theorem rsum_succ {m : List Int} {k : Nat} (hk : k < m.length) (h0 : 0 ≤ m.getD k 0) : ∀ n : Nat, rsum m (k + 1) n = rsum m k n + if m.getD k 0 < n then 1 else 0
  | 0 => by rw [if_neg (by omega)]; rfl
  | n + 1 => by
    show rsum m (k + 1) n + rk m (k + 1) (n : Int) = rsum m k n + rk m k (n : Int) + _
    rw [rsum_succ hk h0 n, rk_succ (n : Int) hk]
    by_cases h1 : m.getD k 0 < (n : Int)
    · rw [if_pos h1, if_neg (by omega), if_pos (by omega)]; omega
    · by_cases h2 : m.getD k 0 = (n : Int)
      · rw [if_neg h1, if_pos h2, if_pos (by omega)]; omega
      · rw [if_neg h1, if_neg h2, if_neg (by omega)]; omega
theorem rsum_all {m : List Int} (h : Good m) : ∀ {k : Nat}, k ≤ m.length → rsum m k 257 = k
  | 0, _ => rsum_zero m 257
  | k + 1, hk => by
    have hg := h.at (show k < m.length by omega)
    rw [rsum_succ (by omega) hg.1 257, rsum_all h (by omega), if_pos (by omega)]
theorem rsum_le (m : List Int) (k : Nat) : ∀ n, rsum m k n ≤ n * k
  | 0 => Nat.zero_le _
  | n + 1 => by
    show rsum m k n + rk m k (n : Int) ≤ (n + 1) * k
    have h1 := rsum_le m k n
    have h2 := rk_le m k (n : Int)
    rw [Nat.succ_mul]
    omega
/-- The last one ahead of a place is ahead of it; the next one is not. -/
theorem sl_ahead {m : List Int} {k : Nat} {s : Int} (h : 0 < rk m k s) : 0 ≤ sl m ((rk m k s : Int) - 1) s ∧ sl m ((rk m k s : Int) - 1) s < k := by
  have hc : rk m k s ≤ m.count s := by unfold rk; exact List.Sublist.count_le s (List.take_sublist k m)
  obtain ⟨p, h0, h1, h2, h3⟩ := sl_is (l := m) (j := rk m k s - 1) (s := s) (by omega)
  have e : ((rk m k s - 1 : Nat) : Int) = (rk m k s : Int) - 1 := by omega
  rw [e] at h0
  rw [h0]
  refine ⟨by omega, ?_⟩
  by_cases hp : p < k
  · omega
  · have := rk_mono s (l := m) (show k ≤ p by omega)
    omega
theorem sl_behind (m : List Int) (k : Nat) (s : Int) : sl m (rk m k s) s = -1 ∨ (k : Int) ≤ sl m (rk m k s) s := by
  by_cases hc : rk m k s < m.count s
  · obtain ⟨p, h0, h1, h2, h3⟩ := sl_is (l := m) (j := rk m k s) (s := s) hc
    right
    rw [h0]
    by_cases hp : p < k
    · have h4 := rk_succ s h1
      rw [if_pos h2] at h4
      have := rk_mono s (l := m) (show p + 1 ≤ k by omega)
      omega
    · omega
  · exact .inl (sl_none (.inr (by omega)))
/-- In and out again; one by one from the front, from the back. -/
theorem ins_at {m : List Int} {k : Nat} {s : Int} (hk : k ≤ m.length) : (ins m k s).getD k 0 = s := by
  unfold ins
  rw [List.getD_eq_getElem?_getD, List.getElem?_append_right (by rw [List.length_take]; omega), List.length_take, show k - min k m.length = 0 by omega]
  rfl
theorem del_ins {m : List Int} {k : Nat} {s : Int} (hk : k ≤ m.length) : del (ins m k s) k = m := by
  unfold del ins
  have ht : (m.take k).length = k := by rw [List.length_take]; omega
  rw [List.take_left' ht, List.drop_append, ht, List.drop_of_length_le (by omega), show k + 1 - k = 1 by omega, List.drop_one]
  simp
theorem ins_end {m : List Int} {j : Nat} (hj : j < m.length) : ins (m.take j) j (m.getD j 0) = m.take (j + 1) := by
  unfold ins
  rw [List.take_of_length_le (by rw [List.length_take]; omega), List.drop_of_length_le (by rw [List.length_take]; omega), List.take_succ_eq_append_getElem hj, List.getD_eq_getElem?_getD, List.getElem?_eq_getElem hj]
  rfl
theorem ins_front {m : List Int} {j : Nat} (hj : j < m.length) : ins (m.drop (j + 1)) 0 (m.getD j 0) = m.drop j := by
  unfold ins
  rw [List.take_zero, List.drop_zero, List.drop_eq_getElem_cons hj, List.getD_eq_getElem?_getD, List.getElem?_eq_getElem hj]
  rfl
end Wv
end Go.Proofs.YthbbokoeiifjdaaGreatDoor
