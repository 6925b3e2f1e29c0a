/- Level of a wave: down a path. Building a wave's nodes: which keys lie below a key; what is done when one of the two sides is. No function of the program stands in it. Building a wave's nodes: the walk. New of a wave. -/
import Derived.Test.YthbbokoeiifjdaaGreatDoorWac
import Derived.RegionTactic
import Derived.Deep.AppendLies
namespace Go.Proofs.YthbbokoeiifjdaaGreatDoor
open Go Go.RowKit Go.ChangeAt Tr

theorem shr_rng {v p : Int} (hp : -9223372036854775808 ≤ p ∧ p ≤ 9223372036854775807) : -9223372036854775808 ≤ p / 2 ^ v.toNat ∧ p / 2 ^ v.toNat ≤ 9223372036854775807 := by
  have h1 : (1 : Int) ≤ 2 ^ v.toNat := Int.pow_pos (by decide)
  generalize (2 : Int) ^ v.toNat = q at h1
  have h2 := Int.mul_ediv_add_emod p q
  have h3 := Int.emod_nonneg p (show q ≠ 0 by omega)
  have h4 := Int.emod_lt_of_pos p (show 0 < q by omega)
  constructor
  · apply Int.le_ediv_of_mul_le (by omega)
    omega
  · have h5 : p / q < 9223372036854775808 := by
      apply Int.ediv_lt_of_lt_mul (by omega)
      have : 9223372036854775808 * 1 ≤ 9223372036854775808 * q := Int.mul_le_mul_of_nonneg_left h1 (by decide)
      omega
    omega
namespace Wk
/-- The keys above a key. -/
def up2 (k l : Nat) : Nat := k / 2 ^ l
theorem up2_zero (k : Nat) : up2 k 0 = k := by unfold up2; simp
theorem up2_succ (k l : Nat) : up2 k l = 2 * up2 k (l + 1) + up2 k l % 2 := by
  unfold up2
  rw [Nat.pow_succ, ← Nat.div_div_eq_div_mul]
  omega
theorem up2_pos {v p l : Nat} (hl : l ≤ v) : 1 ≤ up2 (2 ^ v + p) l := by
  unfold up2
  have h1 := Nat.pow_le_pow_right (show 0 < 2 by decide) hl
  exact (Nat.le_div_iff_mul_le (Nat.two_pow_pos l)).2 (by omega)
theorem up2_mod {v p l : Nat} (hl : l < v) : up2 (2 ^ v + p) l % 2 = p / 2 ^ l % 2 := by
  unfold up2
  obtain ⟨d, rfl⟩ : ∃ d, v = l + (d + 1) := ⟨v - l - 1, by omega⟩
  rw [Nat.pow_add, Nat.mul_add_div (Nat.two_pow_pos l), Nat.pow_succ]
  omega
theorem up2_top {v p : Nat} (hp : p < 2 ^ v) : up2 (2 ^ v + p) v = 1 := by
  unfold up2
  rw [Nat.add_div_left _ (Nat.two_pow_pos v), Nat.div_eq_of_lt hp]
end Wk
theorem Wav.none_down {w : World} {x : Wx} {m : List Int} (h : Wav w x m) {v p : Nat} : ∀ l : Nat, l ≤ v → x.N (Wk.up2 (2 ^ v + p) l) = none → x.N (2 ^ v + p) = none
  | 0, _, e => by rw [Wk.up2_zero] at e; exact e
  | l + 1, hl, e => by
    refine h.none_down l (by omega) ?_
    have h1 := h.web.nods.dom _ e
    have h2 := h.des (Wk.up2 (2 ^ v + p) (l + 1))
    rw [h1] at h2
    have h3 := fun b => (h.stands_not (Wk.wq_below h.good (Wk.up2_pos hl) h2.symm b)).2
    rw [Wk.up2_succ]
    rcases Nat.mod_two_eq_zero_or_one (Wk.up2 (2 ^ v + p) l) with h4 | h4
    · rw [h4]; exact h3 false
    · rw [h4]; exact h3 true
theorem and_of {q : Nat} (h : q ≤ 256) : Go.bits .and .i64 (q : Int) 1 = (q % 2 : Nat) := by
  have h1 : (BitVec.ofInt 64 (q : Int)).toNat = q := by
    rw [BitVec.ofInt_natCast, BitVec.toNat_ofNat]; exact Nat.mod_eq_of_lt (by omega)
  have h2 : (BitVec.ofInt 64 (1 : Int)).toNat = 1 := rfl
  show IntKind.i64.wrap ((BitVec.ofInt 64 (q : Int) &&& BitVec.ofInt 64 (1 : Int)).toNat : Int) = _
  rw [BitVec.toNat_and, h1, h2, Nat.and_one_is_mod]
  have h3 : q % 2 < 2 := Nat.mod_lt _ (by decide)
  generalize q % 2 = m at h3
  have : m = 0 ∨ m = 1 := by omega
  rcases this with rfl | rfl <;> rfl
theorem bits_none {m : List Int} (h : Wv.Good m) {v : Nat} (hv : v ≤ 8) {p : Int} (hp : p < 0 ∨ (2 : Int) ^ v ≤ p) : Wv.bits m v p = [] := by
  unfold Wv.bits Wv.sub
  rw [List.map_eq_nil_iff, List.filter_eq_nil_iff]
  intro s hs
  have h1 := Wk.path_nn (h s hs) (v := v) (by omega)
  have h2 := Wk.path_lt (h s hs) (v := v) (by omega)
  have h3 : (((2 ^ v : Nat)) : Int) = (2 : Int) ^ v := by norm_cast
  have h4 : ((2 ^ v : Nat) : Int) > Sy.path s v := by omega
  have h5 : ¬ Sy.path s v = p := by
    rcases hp with hp | hp
    · omega
    · rw [← h3] at hp; omega
  simpa using h5
end Go.Proofs.YthbbokoeiifjdaaGreatDoor
namespace Go.Proofs.YthbbokoeiifjdaaGreatDoor
open Go Go.RowKit Go.ChangeAt Tr

namespace Wk
/-- Below a key, or the key itself. -/
def Und (k j : Nat) : Prop := ∃ d, j / 2 ^ d = k
theorem Und.self (k : Nat) : Und k k := ⟨0, by simp⟩
theorem Und.le {k j : Nat} (h : Und k j) : k ≤ j := by obtain ⟨d, rfl⟩ := h; exact Nat.div_le_self _ _
theorem Und.child {k j : Nat} {i : Nat} (hi : i ≤ 1) (h : Und (2 * k + i) j) : Und k j := by
  obtain ⟨d, hd⟩ := h
  refine ⟨d + 1, ?_⟩
  rw [Nat.pow_succ, ← Nat.div_div_eq_div_mul, hd]
  omega
theorem Und.split {k j : Nat} (h : Und k j) : j = k ∨ Und (2 * k) j ∨ Und (2 * k + 1) j := by
  obtain ⟨d, hd⟩ := h
  cases d with
  | zero => left; simpa using hd
  | succ d =>
    right
    rw [Nat.pow_succ, ← Nat.div_div_eq_div_mul] at hd
    rcases Nat.mod_two_eq_zero_or_one (j / 2 ^ d) with h1 | h1
    · exact .inl ⟨d, by omega⟩
    · exact .inr ⟨d, by omega⟩
theorem Und.not_up {k : Nat} (hk : 1 ≤ k) {i : Nat} : ¬ Und (2 * k + i) k := fun h => by have := h.le; omega
theorem Und.apart {k j : Nat} (hk : 1 ≤ k) (h : Und (2 * k) j) (h' : Und (2 * k + 1) j) : False := by
  obtain ⟨d, hd⟩ := h
  obtain ⟨e, he⟩ := h'
  rcases Nat.lt_trichotomy d e with h1 | h1 | h1
  · obtain ⟨c, rfl⟩ : ∃ c, e = d + c := ⟨e - d, by omega⟩
    rw [Nat.pow_add, ← Nat.div_div_eq_div_mul, hd] at he
    have := Nat.div_le_self (2 * k) (2 ^ c)
    omega
  · subst h1; omega
  · obtain ⟨c, rfl⟩ : ∃ c, d = e + (c + 1) := ⟨d - e - 1, by omega⟩
    rw [Nat.pow_add, ← Nat.div_div_eq_div_mul, he] at hd
    have h2 : 2 ≤ 2 ^ (c + 1) := by rw [Nat.pow_succ]; have := Nat.two_pow_pos c; omega
    have := Nat.div_le_div_left (a := 2 * k + 1) h2 (by decide)
    omega
theorem und_none {m : List Int} (h : Wv.Good m) {k j : Nat} (hk : 1 ≤ k) (hn : wq m k = none) (hu : Und k j) : wq m j = none := by
  obtain ⟨d, hd⟩ := hu
  induction d generalizing k with
  | zero =>
    have : j = k := by simpa using hd
    rw [this]; exact hn
  | succ d ih =>
    rw [Nat.pow_succ, ← Nat.div_div_eq_div_mul] at hd
    rcases Nat.mod_two_eq_zero_or_one (j / 2 ^ d) with h1 | h1
    · exact ih (k := 2 * k + bi false) (by show 1 ≤ 2 * k + 0; omega) (wq_below h hk hn false) (by show _ = 2 * k + 0; omega)
    · exact ih (k := 2 * k + bi true) (by show 1 ≤ 2 * k + 1; omega) (wq_below h hk hn true) (by show _ = 2 * k + 1; omega)
end Wk
open Wk
/-- What a build of the node k and all below it did. -/
structure Blt (m : List Int) (w w' : World) (B k : Nat) (N L : Lks) (F : For) (N' L' : Lks) (F' : For) : Prop where
  nods : Nods B w' N' L' F'
  out : ∀ j, ¬ Und k j → N' j = N j ∧ L' j = L j ∧ F' j = F j
  at' : L' k = L k
  lnk : ∀ j, Und k j → j ≠ k → L' j = N' j
  des : ∀ j, Und k j → (F' j).map Ent.m = wq m j
  below : Below w.heap.size w w'
/-- Of no symbols nothing is built. -/
theorem Blt.none {m : List Int} (hg : Wv.Good m) {w : World} {B k : Nat} {N L : Lks} {F : For} (h : Nods B w N L F) (hk : 1 ≤ k) (hu : ∀ j, Und k j → N j = none ∧ L j = none) (hq : wq m k = none) : Blt m w w B k N L F N L F :=
  ⟨h, fun _ _ => ⟨rfl, rfl, rfl⟩, rfl, fun j hj _ => by rw [(hu j hj).1, (hu j hj).2], fun j hj => by rw [h.dom j (hu j hj).1, und_none hg hk hq hj]; rfl, Below.refl _ _⟩
/-- The node k stands; of its two sides the first c are done. -/
structure Stg (m : List Int) (w wr : World) (B k b c : Nat) (N L : Lks) (F : For) (N' L' : Lks) (F' : For) : Prop where
  nods : Nods B wr N' L' F'
  out : ∀ j, ¬ Und k j → N' j = N j ∧ L' j = L j ∧ F' j = F j
  here : N' k = some b
  at' : L' k = L k
  has : (F' k).map Ent.m = wq m k
  done : ∀ i j, i < c → i ≤ 1 → Und (2 * k + i) j → L' j = N' j ∧ (F' j).map Ent.m = wq m j
  todo : ∀ i j, c ≤ i → i ≤ 1 → Und (2 * k + i) j → N' j = none ∧ L' j = none
  below : Below w.heap.size w wr
  new : w.heap.size ≤ b
theorem Stg.start {m : List Int} {w wr w1 : World} {B k b base t : Nat} {N L : Lks} {F : For} {S : St} {l : List Bool} (h : Nods B w N L F) (hk : 1 ≤ k) (hsz : B ≤ w.heap.size) (hu : ∀ j, Und k j → N j = none ∧ L j = none) (hb : Below w.heap.size w wr) (hn : NewNd wr w1 b base t S l) (hl : wq m k = some l) :
    Stg m w w1 B k b 0 N L F (N.put k (some b)) L (F.put k ⟨base, t, S, l⟩) := by
  have hne : ∀ j, ¬ Und k j → j ≠ k := fun j hj e => hj (e ▸ Und.self k)
  have h2 := h.below hb
  have hz := hb.size
  refine ⟨h2.add hk (hu k (Und.self k)).1 (hu _ (Und.child (i := 0) (by omega) (Und.self _))).2 (hu _ (Und.child (i := 1) (by omega) (Und.self _))).2 hn.below hn.node hn.lo hn.tre hn.base hn.nb (by omega), fun j hj => ?_, Lks.put_at _ _ _, rfl, ?_, fun i j hi => absurd hi (Nat.not_lt_zero _), fun i j _ hi hj => ?_, hb.trans (hn.below.mono hz), Nat.le_trans hz hn.lo⟩
  · exact ⟨Lks.put_ne _ _ (hne j hj), rfl, For.put_ne _ _ (hne j hj)⟩
  · rw [For.put_at, hl]; rfl
  · have h3 : j ≠ k := fun e => by subst e; exact Und.not_up hk hj
    rw [Lks.put_ne _ _ h3]
    exact hu j (hj.child hi)
theorem Stg.drewN {m : List Int} {w wr : World} {B k b c : Nat} {N L : Lks} {F : For} {N' L' : Lks} {F' : For} (h : Stg m w wr B k b c N L F N' L' F') (n : Nat) : Stg m w (wr.drewN n) B k b c N L F N' L' F' :=
  ⟨h.nods.drewN n, h.out, h.here, h.at', h.has, h.done, h.todo, h.below.drewN n, h.new⟩
/-- One more side is built, and the pointer to it laid. -/
theorem Stg.next {m : List Int} {w wr w1 : World} {B k b c : Nat} {N L : Lks} {F : For} {N' L' N2 L2 : Lks} {F' F2 : For} (h : Stg m w wr B k b c N L F N' L' F') (hk : 1 ≤ k) (hc : c ≤ 1) (hb : Blt m wr w1 B (2 * k + c) N' L' F' N2 L2 F2) :
    Stg m w (w1.setCell ⟨b, c + 1, none⟩ (pn (N2 (2 * k + c)))) B k b (c + 1) N L F N2 (L2.put (2 * k + c) (N2 (2 * k + c))) F2 := by
  have hok := hb.out k (Und.not_up hk)
  have hbk : N2 k = some b := hok.1.trans h.here
  have hput : ∀ j, j ≠ 2 * k + c → (L2.put (2 * k + c) (N2 (2 * k + c))) j = L2 j := fun j hj => Lks.put_ne _ _ hj
  have hoth : ∀ i j, i ≤ 1 → i ≠ c → Und (2 * k + i) j → ¬ Und (2 * k + c) j := fun i j hi hne hj hj2 => by
    rcases Nat.le_one_iff_eq_zero_or_eq_one.1 hi with rfl | rfl <;> rcases Nat.le_one_iff_eq_zero_or_eq_one.1 hc with rfl | rfl
    · exact hne rfl
    · exact Und.apart hk hj hj2
    · exact Und.apart hk hj2 hj
    · exact hne rfl
  have hst : Stay (· = b) w1 (w1.setCell ⟨b, c + 1, none⟩ (pn (N2 (2 * k + c)))) := Stay.setCell (S := (· = b)) (Stay.refl _ _) (p := ⟨b, c + 1, none⟩) (.inr rfl) _
  refine ⟨hb.nods.link hbk hc _, fun j hj => ?_, hbk, ?_, ?_, fun i j hi hi1 hj => ?_, fun i j hi hi1 hj => ?_, ?_, h.new⟩
  · have h1 : ¬ Und (2 * k + c) j := fun e => hj (e.child hc)
    obtain ⟨q1, q2, q3⟩ := hb.out j h1
    obtain ⟨r1, r2, r3⟩ := h.out j hj
    exact ⟨q1.trans r1, (hput j (fun e => h1 (e ▸ Und.self _))).trans (q2.trans r2), q3.trans r3⟩
  · rw [hput k (by omega)]; exact hok.2.1.trans h.at'
  · rw [hok.2.2]; exact h.has
  · by_cases e : i = c
    · subst e
      refine ⟨?_, hb.des j hj⟩
      by_cases e2 : j = 2 * k + i
      · subst e2; exact Lks.put_at _ _ _
      · rw [hput j e2]; exact hb.lnk j hj e2
    · have h1 := hoth i j hi1 e hj
      obtain ⟨q1, q2, q3⟩ := hb.out j h1
      obtain ⟨r1, r2⟩ := h.done i j (by omega) hi1 hj
      rw [hput j (fun e => h1 (e ▸ Und.self _)), q1, q2, q3]
      exact ⟨r1, r2⟩
  · have h1 := hoth i j hi1 (by omega) hj
    obtain ⟨q1, q2, q3⟩ := hb.out j h1
    obtain ⟨r1, r2⟩ := h.todo i j (by omega) hi1 hj
    rw [hput j (fun e => h1 (e ▸ Und.self _)), q1, q2]
    exact ⟨r1, r2⟩
  · have hz := h.below.size
    have hz1 := hb.below.size
    exact (h.below.trans (hb.below.mono hz)).trans (hst.below (by omega) (fun i _ e => by subst e; exact h.new))
/-- Both sides are done. -/
theorem Stg.done2 {m : List Int} {w wr : World} {B k b : Nat} {N L : Lks} {F : For} {N' L' : Lks} {F' : For} (h : Stg m w wr B k b 2 N L F N' L' F') : Blt m w wr B k N L F N' L' F' := by
  refine ⟨h.nods, h.out, h.at', fun j hj hne => ?_, fun j hj => ?_, h.below⟩
  · rcases hj.split with e | e | e
    · exact absurd e hne
    · exact (h.done 0 j (by omega) (by omega) e).1
    · exact (h.done 1 j (by omega) (by omega) e).1
  · rcases hj.split with e | e | e
    · subst e; exact h.has
    · exact (h.done 0 j (by omega) (by omega) e).2
    · exact (h.done 1 j (by omega) (by omega) e).2
end Go.Proofs.YthbbokoeiifjdaaGreatDoor
namespace Go.Proofs.YthbbokoeiifjdaaGreatDoor
open Go Go.RowKit Go.ChangeAt Tr Wk

theorem wpList_append_lies {P : Program} {w : World} {ops : Array Oper} {rest : List Oper} {o : Oper} {a : Act} {Q : Exit → Act → World → Prop} (hgd : o.guard = none) (s x : Operand) (t : TypeId)
    (ho : o.op = .call { callee := .builtin .append, args := #[s, x], argTypes := #[t, t] })
    (base : Nat) (e : TypeId) (i : TypeInfo) (z : Value) (size bytes : Nat) (ht : P.underlying t = some (.slice e)) (hi : P.info? e = some i) (hz : i.zero = some z)
    (hsize : i.size = size) (hby : i.bytes = bytes) (hzs : z.cells.size = size) (hsz : 0 < size)
    (v : Value) (n : Nat) (xs : List Value) (hs : a.eval s = v) (hown : w.ownsRow base e size v n xs)
    (ad : Addr) (m c : Nat) (news : List Value) (hx : a.eval x = .slice (some ad) m c) (hl : news.length = m * size) (hnews : ∀ j u, news[j]? = some u → w.cell? (ad.add j) = some u) (h1 : ∀ u ∈ news, u.oneCell' = true)
    (hm : 0 < m) (h63 : n + m ≤ maxLen) (hbytes : (n + m) * bytes ≤ 140737488355328) (hbase : base ≤ w.heap.size) (H : Nat) (hH : w.heap.size = H)
    (h : ∀ g cap w', w'.ownsRow base e size (.slice (some ⟨g, 0, none⟩) (n + m) cap) (n + m) (xs ++ news) → w.grownBy w' v.ownBlock → (v.ownBlock = some g ∨ g = H) → g < w'.heap.size → wpList P ops Q rest (a.put o.dst (.slice (some ⟨g, 0, none⟩) (n + m) cap)) w') : wpList P ops Q (o :: rest) a w :=
  wpList_plain hgd fun _ hK => wp_append_lies w s x t ho base e i z size bytes ht hi hz hsize hby hzs hsz v n xs hs hown ad m c news hx hl hnews h1 hm h63 hbytes hbase H hH fun g cap w' h2 h3 h4 h5 => hK _ _ (h g cap w' h2 h3 h4 h5)
theorem OwnI.push' {base : Nat} {w : World} {v : Value} {l : List Int} {k : Int} (h : w.ownsRow base 3 1 v (l.length + 1) (l.map (Value.int .i64) ++ [Value.int .i64 k])) : OwnI base w v (l ++ [k]) := by
  unfold OwnI
  rw [List.length_append, List.map_append]
  exact h
/-- Bits that are laid one by one, and the two lists that are made beside. -/
structure Spl (w wr : World) (BB PB n : Nat) (bits : List Bool) (v0 v1 : Value) (l0 l1 : List Int) : Prop where
  len : bits.length = n
  bits : OwnB w.heap.size wr (.slice (some ⟨BB, 0, none⟩) bits.length n) bits
  parts : wr.heap[PB]? = some (.cells #[v0, v1] 121 (0, 0))
  p0 : OwnI w.heap.size wr v0 l0
  p1 : OwnI w.heap.size wr v1 l1
  dis : ∀ q, v0.ownBlock = some q → v1.ownBlock ≠ some q
  below : Below w.heap.size w wr
  lo : w.heap.size ≤ PB
theorem Spl.bit {w wr : World} {BB PB n : Nat} {bits : List Bool} {v0 v1 : Value} {l0 l1 : List Int} (h : Spl w wr BB PB n bits v0 v1 l0 l1) (j : Nat) (x : Bool) : Spl w (wr.setCell ⟨BB, j, none⟩ (.bool x)) BB PB n (bits.set j x) v0 v1 l0 l1 := by
  have hst : Stay (· = BB) wr (wr.setCell ⟨BB, j, none⟩ (.bool x)) := Stay.setCell (S := (· = BB)) (Stay.refl _ _) (p := ⟨BB, j, none⟩) (.inr rfl) _
  have hlo := (World.ownsRow.lt h.bits BB rfl).1
  have hz := h.below.size
  have hB : ∀ v l, OwnI w.heap.size wr v l → ∀ q, v.ownBlock = some q → ¬ q = BB := fun v l ho q hq e => own_ne2 ho h.bits (by decide) q hq (by rw [e]; rfl)
  refine ⟨by rw [List.length_set]; exact h.len, OwnB.set h.bits j x, hst.kept h.parts (fun e => own_ne h.bits h.parts (by decide) BB rfl e.symm), ownsRow_stay h.p0 hst (fun q hq => hB _ _ h.p0 q hq), ownsRow_stay h.p1 hst (fun q hq => hB _ _ h.p1 q hq), h.dis, h.below.trans (hst.below hz (fun i _ e => by subst e; exact hlo)), h.lo⟩
theorem Spl.more {w wr w2 : World} {BB PB n : Nat} {bits : List Bool} {v0 v1 : Value} {l0 l1 : List Int} (h : Spl w wr BB PB n bits v0 v1 l0 l1) (hb : Below wr.heap.size wr w2) : Spl w w2 BB PB n bits v0 v1 l0 l1 :=
  ⟨h.len, ownsRow_below h.bits hb, Below.keptB hb h.parts (lt_of_block h.parts), ownsRow_below h.p0 hb, ownsRow_below h.p1 hb, h.dis, h.below.trans (hb.mono h.below.size), h.lo⟩
theorem Spl.grown0 {w wr w3 : World} {BB PB n : Nat} {bits : List Bool} {v0 v1 : Value} {l0 l1 : List Int} (h : Spl w wr BB PB n bits v0 v1 l0 l1) (hg : wr.grownBy w3 v0.ownBlock) : w3.heap[PB]? = some (.cells #[v0, v1] 121 (0, 0)) :=
  (grown_stay hg).kept h.parts (fun e => own_ne h.p0 h.parts (by decide) PB e rfl)
theorem Spl.push0 {w wr w3 : World} {BB PB n g cap : Nat} {bits : List Bool} {v0 v1 : Value} {l0 l1 : List Int} {s : Int} (h : Spl w wr BB PB n bits v0 v1 l0 l1) (hown : w3.ownsRow w.heap.size 3 1 (.slice (some ⟨g, 0, none⟩) (l0.length + 1) cap) (l0.length + 1) (l0.map (Value.int .i64) ++ [Value.int .i64 s]))
    (hg : wr.grownBy w3 v0.ownBlock) (hf : v0.ownBlock = some g ∨ g = wr.heap.size) : Spl w (w3.setCell ⟨PB, 0, none⟩ (.slice (some ⟨g, 0, none⟩) (l0.length + 1) cap)) BB PB n bits (.slice (some ⟨g, 0, none⟩) (l0.length + 1) cap) v1 (l0 ++ [s]) l1 := by
  have hst := grown_stay hg
  have hp3 := h.grown0 hg
  have hst2 : Stay (· = PB) w3 (w3.setCell ⟨PB, 0, none⟩ (.slice (some ⟨g, 0, none⟩) (l0.length + 1) cap)) := Stay.setCell (S := (· = PB)) (Stay.refl _ _) (p := ⟨PB, 0, none⟩) (.inr rfl) _
  have hz := h.below.size
  have hz3 := hst.size
  have hb3 := ownsRow_stay h.bits hst (fun q hq e => own_ne2 h.p0 h.bits (by decide) q e hq)
  have ho3 := ownsRow_stay h.p1 hst (fun q hq e => h.dis q e hq)
  have hlt : ∀ q, v1.ownBlock = some q → q < wr.heap.size := fun q hq => (World.ownsRow.lt h.p1 q hq).2
  refine ⟨h.len, ownsRow_stay hb3 hst2 (fun q hq e => own_ne hb3 hp3 (by decide) q hq e), by rw [set_of hp3]; rfl, OwnI.push' (ownsRow_stay hown hst2 (fun q hq e => own_ne hown hp3 (by decide) q hq e)), ownsRow_stay ho3 hst2 (fun q hq e => own_ne ho3 hp3 (by decide) q hq e), fun q hq hq2 => ?_, ?_, h.lo⟩
  · have hq' : g = q := by simpa [Value.ownBlock] using hq
    subst hq'
    rcases hf with hf | hf
    · exact h.dis _ hf hq2
    · have := hlt _ hq2; omega
  · refine h.below.trans ((hst.below hz (fun i _ e => (World.ownsRow.lt h.p0 i e).1)).trans (hst2.below (by omega) (fun i _ e => by subst e; exact h.lo)))
theorem Spl.grown1 {w wr w3 : World} {BB PB n : Nat} {bits : List Bool} {v0 v1 : Value} {l0 l1 : List Int} (h : Spl w wr BB PB n bits v0 v1 l0 l1) (hg : wr.grownBy w3 v1.ownBlock) : w3.heap[PB]? = some (.cells #[v0, v1] 121 (0, 0)) :=
  (grown_stay hg).kept h.parts (fun e => own_ne h.p1 h.parts (by decide) PB e rfl)
theorem Spl.push1 {w wr w3 : World} {BB PB n g cap : Nat} {bits : List Bool} {v0 v1 : Value} {l0 l1 : List Int} {s : Int} (h : Spl w wr BB PB n bits v0 v1 l0 l1) (hown : w3.ownsRow w.heap.size 3 1 (.slice (some ⟨g, 0, none⟩) (l1.length + 1) cap) (l1.length + 1) (l1.map (Value.int .i64) ++ [Value.int .i64 s]))
    (hg : wr.grownBy w3 v1.ownBlock) (hf : v1.ownBlock = some g ∨ g = wr.heap.size) : Spl w (w3.setCell ⟨PB, 1, none⟩ (.slice (some ⟨g, 0, none⟩) (l1.length + 1) cap)) BB PB n bits v0 (.slice (some ⟨g, 0, none⟩) (l1.length + 1) cap) l0 (l1 ++ [s]) := by
  have hst := grown_stay hg
  have hp3 := h.grown1 hg
  have hst2 : Stay (· = PB) w3 (w3.setCell ⟨PB, 1, none⟩ (.slice (some ⟨g, 0, none⟩) (l1.length + 1) cap)) := Stay.setCell (S := (· = PB)) (Stay.refl _ _) (p := ⟨PB, 1, none⟩) (.inr rfl) _
  have hz := h.below.size
  have hz3 := hst.size
  have hb3 := ownsRow_stay h.bits hst (fun q hq e => own_ne2 h.p1 h.bits (by decide) q e hq)
  have ho3 := ownsRow_stay h.p0 hst (fun q hq e => h.dis q hq e)
  have hlt : ∀ q, v0.ownBlock = some q → q < wr.heap.size := fun q hq => (World.ownsRow.lt h.p0 q hq).2
  refine ⟨h.len, ownsRow_stay hb3 hst2 (fun q hq e => own_ne hb3 hp3 (by decide) q hq e), by rw [set_of hp3]; rfl, ownsRow_stay ho3 hst2 (fun q hq e => own_ne ho3 hp3 (by decide) q hq e), OwnI.push' (ownsRow_stay hown hst2 (fun q hq e => own_ne hown hp3 (by decide) q hq e)), fun q hq hq2 => ?_, ?_, h.lo⟩
  · have hq' : g = q := by simpa [Value.ownBlock] using hq2
    subst hq'
    rcases hf with hf | hf
    · exact h.dis _ hq hf
    · have := hlt _ hq; omega
  · refine h.below.trans ((hst.below hz (fun i _ e => (World.ownsRow.lt h.p1 i e).1)).trans (hst2.below (by omega) (fun i _ e => by subst e; exact h.lo)))
theorem bits_step (f : Int → Bool) (l : List Int) {i : Nat} (hi : i < l.length) : ((l.take i).map f ++ List.replicate (l.length - i) false).set i (f (l.getD i 0)) = (l.take (i + 1)).map f ++ List.replicate (l.length - (i + 1)) false := by
  have h1 : ((l.take i).map f).length = i := by rw [List.length_map, List.length_take]; omega
  rw [List.set_append_right _ _ (by omega), h1, Nat.sub_self, show l.length - i = (l.length - (i + 1)) + 1 by omega, List.replicate_succ, List.set_cons_zero, List.take_succ_eq_append_getElem hi, List.map_append, List.append_assoc, List.getD_eq_getElem?_getD, List.getElem?_eq_getElem hi]
  rfl
theorem filt_step (f : Int → Bool) (b : Bool) (l : List Int) {i : Nat} (hi : i < l.length) : (l.take (i + 1)).filter (fun s => f s == b) = (l.take i).filter (fun s => f s == b) ++ if f (l.getD i 0) = b then [l.getD i 0] else [] := by
  rw [List.take_succ_eq_append_getElem hi, List.filter_append, List.getD_eq_getElem?_getD, List.getElem?_eq_getElem hi]
  congr 1
  show List.filter _ [l[i]] = if f l[i] = b then [l[i]] else []
  rw [List.filter_cons]
  by_cases h : f l[i] = b
  · rw [if_pos h, if_pos (by simpa using h)]; rfl
  · rw [if_neg h, if_neg (by simpa using h)]; rfl
set_option maxHeartbeats 6400000 in
set_option maxRecDepth 100000 in
theorem wbuild {m : List Int} (hg : Wv.Good m) (hm : m.length ≤ 1000000) : ∀ (d k : Nat), Wk.lev k + d = 9 → 1 ≤ k → ∀ (lv : Int) (w : World) (B : Nat) (N L : Lks) (F : For) (a : Option Addr) (n cap : Nat), lv = Wk.lev k → Nods B w N L F → B ≤ w.heap.size →
    (∀ j, Und k j → N j = none ∧ L j = none) → RdL w a cap (Wk.ws m k) → (Wk.ws m k).length = n →
    Calls Tryz.prog 62 #[.int .i64 lv, .slice a n cap] w fun e w' => ∃ N' L' F', e = .returned (.pointer (pp (N' k))) ∧ Blt m w w' B k N L F N' L' F'
  | 0, k, he, hk, lv, w, B, N, L, F, a, n, cap, hlv, hN, hB, hu, hrd, hn => by
    have hq : Wk.wq m k = none := Wk.wq_out m (fun h => by have := Wk.lev_le h.1 h.2; omega)
    have hlv9 : lv = 9 := by omega
    have hbl := Lib.hid (Blt.none hg hN hk hu hq)
    have hk0 := Lib.hid (hu k (Und.self k)).1
    subst hlv9
    clear hlv hN hB hu hrd hn hq
    by_cases h0 : (n : Int) = 0
    · go_enter Tryz.func62, Tryz.ntmps62
      go_wp2_with fail
      go_ret
      exact ⟨N, L, F, by rw [hk0.out]; rfl, hbl.out⟩
    · go_enter Tryz.func62, Tryz.ntmps62
      go_wp2_with fail
      go_ret
      exact ⟨N, L, F, by rw [hk0.out]; rfl, hbl.out⟩
  | d + 1, k, he, hk, lv, w, B, N, L, F, a, n, cap, hlv, hN, hB, hu, hrd, hn => by
    have hl8 : Wk.lev k ≤ 8 := by omega
    by_cases hn0 : n = 0
    · have hws : Wk.ws m k = [] := List.eq_nil_of_length_eq_zero (by omega)
      have hq : Wk.wq m k = none := by
        by_cases h1 : 1 ≤ k ∧ k < 512
        · rw [Wk.wq_in m h1, Wk.wb_ws, hws]; rfl
        · exact Wk.wq_out m h1
      have hbl := Lib.hid (Blt.none hg hN hk hu hq)
      have hk0 := Lib.hid (hu k (Und.self k)).1
      subst hn0
      clear hlv hN hB hu hrd hn hq
      go_enter Tryz.func62, Tryz.ntmps62
      go_wp2_with fail
      go_ret
      exact ⟨N, L, F, by rw [hk0.out]; rfl, hbl.out⟩
    · obtain ⟨l, hl⟩ : ∃ l, Wk.ws m k = l := ⟨_, rfl⟩
      have hlm := Wk.ws_len m k
      have hwb : Wk.wq m k = some (l.map fun s => Sy.bit s (Wk.lev k)) := by
        have hk5 : 1 ≤ k ∧ k < 512 := by
          obtain ⟨h1, h2⟩ := Wk.of_lev hk
          have h3 := Nat.pow_le_pow_right (show 0 < 2 by decide) hl8
          have : (2 : Nat) ^ 8 = 256 := by decide
          omega
        rw [Wk.wq_in m hk5, Wk.wb_ws, hl]
        exact Wk.ob_some (fun e => hn0 (by rw [← hn, hl, List.map_eq_nil_iff.1 e]; rfl))
      have hc0 : Wk.ws m (2 * k) = l.filter fun s => Sy.bit s (Wk.lev k) == false := by have := Wk.ws_child hg hk hl8 false; rw [hl] at this; exact this
      have hc1 : Wk.ws m (2 * k + 1) = l.filter fun s => Sy.bit s (Wk.lev k) == true := by have := Wk.ws_child hg hk hl8 true; rw [hl] at this; exact this
      have hcl := Wk.lev_child (i := 0) hk (by omega)
      have hcl1 := Wk.lev_child (i := 1) hk (by omega)
      have ih0 := wbuild hg hm d (2 * k) (by have := hcl.1; simp only [Nat.add_zero] at this; omega) (by omega)
      have ih1 := wbuild hg hm d (2 * k + 1) (by have := hcl1.1; omega) (by omega)
      rw [hc0] at ih0
      rw [hc1] at ih1
      rw [hl] at hrd hn hlm
      rw [← hlv] at hwb ih0 ih1
      have hz0 := hrd.2.2.2 (by omega)
      obtain ⟨pa, off, rfl, hpl, hcell⟩ := hz0
      have hcap := hrd.1
      have hcm := hrd.2.1
      unfold maxLen at hcm
      subst hn
      have hlv8 : lv ≤ 8 := by omega
      have hlv0 : 0 ≤ lv := by omega
      have hlv9 : ¬ lv = 9 := by omega
      have hni : ¬ (l.length : Int) = 0 := by omega
      have hnb : ((l.length : Int) == 0) = false := by rw [beq_eq_false_iff_ne]; omega
      have d9 : (lv == 9) = false := by simp; omega
      have hnm : (l.length : Int) ≤ 1000000 := by omega
      obtain ⟨i0, hi, hz1, hz2, hz3⟩ := info_parts infoB
      obtain ⟨i1, hj, hy1, hy2, hy3⟩ := info_parts infoI
      have hsz := hB
      have HG := Lib.hid hg
      have HU := Lib.hid hu
      have HN := Lib.hid hN
      have HWB := Lib.hid hwb
      have HCELL := Lib.hid hcell
      have HIH0 := Lib.hid ih0
      have HIH1 := Lib.hid ih1
      have HLV := Lib.hid hlv
      have HCL := Lib.hid hcl
      have HCL1 := Lib.hid hcl1
      clear hN hu hwb hcell ih0 ih1 hc0 hc1 hlv hrd hl hg hcl hcl1 hl8 hlm
      go_enter Tryz.func62, Tryz.ntmps62
      go_wp2_with (first | (at_make; refine wpList_make_full _ rfl _ _ 116 rfl w.heap.size 4 i0 (.bool false) 1 Tryz.underlying116 hi hz1 hz2 .i64 .i64 _ _ l.length rfl rfl rfl rfl (by rw [hz3]; omega) (by unfold maxLen; omega) (Nat.le_refl _) ?_; intro w7 hown7 hgrow7))
      have hb7 := (Below.refl _ _).grown (B := w.heap.size) hgrow7 (Nat.le_refl _) (fun q hq => by cases hq)
      have hz7 := hb7.size
      have hbits7 : OwnB w.heap.size w7 (.slice (some ⟨w.heap.size, 0, none⟩) (List.replicate l.length false).length l.length) (List.replicate l.length false) := by
        unfold OwnB
        rw [List.length_replicate, List.map_replicate]
        have := hown7
        rw [show (Value.bool false).cells = #[Value.bool false] from rfl, Nat.mul_one, toList_madeCells_one] at this
        exact this
      have hb8 : Below w7.heap.size w7 (w7.alloc (.cells #[.slice none 0 0, .slice none 0 0] 121)) := Below.allocs (Below.refl _ _) _
      have hst : Spl w (w7.alloc (.cells #[.slice none 0 0, .slice none 0 0] 121)) w.heap.size w7.heap.size l.length (List.replicate l.length false) (.slice none 0 0) (.slice none 0 0) [] [] :=
        ⟨List.length_replicate, ownsRow_below hbits7 hb8, alloc_of, World.ownsRow_nil _ _ _ _, World.ownsRow_nil _ _ _ _, fun q hq => (by cases hq), hb7.trans (hb8.mono hz7), hz7⟩
      have HST := Lib.hid hst
      clear hown7 hgrow7 hbits7 hb7 hb8 hst
      obtain ⟨PB, hPB⟩ : ∃ q, w7.heap.size = q := ⟨_, rfl⟩
      rw [hPB] at HST ⊢
      generalize w7.alloc (.cells #[.slice none 0 0, .slice none 0 0] 121) = w8 at *
      obtain ⟨BB, hBB⟩ : ∃ q, w.heap.size = q := ⟨_, rfl⟩
      rw [hBB] at HST ⊢
      go_loopg [25] l.length (fun g s25 wr => ∃ (i : Nat) (v0 v1 : Value), g = l.length - i ∧ i ≤ l.length ∧ s25 = .int .i64 i ∧ Spl w wr BB PB l.length ((l.take i).map (fun s => Sy.bit s lv) ++ List.replicate (l.length - i) false) v0 v1 ((l.take i).filter fun s => Sy.bit s lv == false) ((l.take i).filter fun s => Sy.bit s lv == true))
      case atStart => exact ⟨0, _, _, rfl, Nat.zero_le _, rfl, HST.out⟩
      case round =>
        clear HST
        obtain ⟨i, v0, v1, rfl, hil, rfl, hS⟩ := hrel
        by_cases hlt : i < l.length
        · have hc := (hS.below.cell (p := ⟨pa, off + i, none⟩) hpl).trans (HCELL.out i hlt)
          have hi1 : (i : Int) < l.length := by omega
          have keyB := sbit (l.getD i 0) lv wr
          have hbs := bits_step (fun s => Sy.bit s lv) l hlt
          have hf0 := filt_step (fun s => Sy.bit s lv) false l hlt
          have hf1 := filt_step (fun s => Sy.bit s lv) true l hlt
          obtain ⟨x, hx⟩ : ∃ x, l.getD i 0 = x := ⟨_, rfl⟩
          rw [hx] at hc keyB hbs hf0 hf1
          obtain ⟨c, hcb⟩ : ∃ c, Sy.bit x lv = c := ⟨_, rfl⟩
          rw [hcb] at keyB hf0 hf1
          replace hbs : ((l.take i).map (fun s => Sy.bit s lv) ++ List.replicate (l.length - i) false).set i c = (l.take (i + 1)).map (fun s => Sy.bit s lv) ++ List.replicate (l.length - (i + 1)) false := by rw [← hcb]; exact hbs
          obtain ⟨bb', hbe, _, _, hbc, hbf⟩ := OwnB.open hS.bits (by rw [hS.len]; omega)
          obtain rfl : bb' = BB := by simpa using hbe.symm
          have hqc := hbc i (by rw [hS.len]; exact hlt)
          have hqf := hbf i
          obtain ⟨f0, hf0e⟩ : ∃ q, ((l.take i).filter fun s => Sy.bit s lv == false) = q := ⟨_, rfl⟩
          obtain ⟨f1, hf1e⟩ : ∃ q, ((l.take i).filter fun s => Sy.bit s lv == true) = q := ⟨_, rfl⟩
          rw [hf0e] at hS hf0
          rw [hf1e] at hS hf1
          have hlf0 : f0.length ≤ l.length := by rw [← hf0e]; exact Nat.le_trans (List.length_filter_le _ _) (List.length_take_le' _ _)
          have hlf1 : f1.length ≤ l.length := by rw [← hf1e]; exact Nat.le_trans (List.length_filter_le _ _) (List.length_take_le' _ _)
          have HS1 := Lib.hid (hS.bit i c)
          rw [hbs] at HS1
          have HF0 := Lib.hid hf0
          have HF1 := Lib.hid hf1
          clear hbs hf0 hf1 hf0e hf1e hx hcb hbc hbf hbe hS
          rcases c with _ | _
          · go_wp2_with fail
            (with_reducible refine keyB.mono ?_); rintro e w1' ⟨rfl, rfl⟩
            clear keyB
            go_wp2_with fail
            generalize wr.setCell ⟨bb', i, none⟩ (.bool false) = w2 at *
            have hp0 : w2.cell? ⟨PB, 0, none⟩ = some v0 := (cell_of HS1.out.parts).trans rfl
            have hmore := HS1.out.more (w2 := w2.alloc (.cells #[.int .i64 x] 3)) (Below.allocs (Below.refl _ _) _)
            have hp1 : (w2.alloc (.cells #[.int .i64 x] 3)).cell? ⟨PB, 0, none⟩ = some v0 := (cell_of hmore.parts).trans rfl
            have hmz := hmore.below.size
            (with_reducible refine (wside_f _).mono ?_); rintro e w2' ⟨rfl, rfl⟩
            go_wp2_with fail
            (with_reducible refine (wside_f _).mono ?_); rintro e w2' ⟨rfl, rfl⟩
            go_wp2_with (first | (at_builtin; (refine wpList_append_lies rfl (.tmp 42) (.tmp 44) 22 rfl w.heap.size 3 i1 (.int .i64 0) 1 8 Tryz.underlying22 hj hy1 hy2 hy3 rfl (by decide) _ _ _ rfl hmore.p0 ⟨w2.heap.size, 0, none⟩ 1 1 [.int .i64 x] rfl rfl (cell_one_new _ _ _) (fun u hu => by simp at hu; subst hu; rfl) (by decide) (by unfold maxLen; omega) (by omega) hmz _ rfl ?_); intro g cap2 w3 ho3 hg3 hf3 hl3; (have hp3 := hmore.grown0 hg3); (have q3 : w3.cell? ⟨PB, 0, none⟩ = some v0 := (cell_of hp3).trans rfl); (have qf3 : w3.frozen? ⟨PB, 0, none⟩ = false := free_of hp3)))
            have HPU := Lib.hid (hmore.push0 ho3 hg3 hf3)
            clear hmore ho3 hg3 hf3 hp3
            go_wp2_with fail
            go_roundg (l.length - (i + 1))
            case measure => omega
            case rel => exact ⟨i + 1, _, _, rfl, by omega, by go_num, by have := HPU.out; rw [HF0.out, HF1.out]; simpa using this⟩
          · go_wp2_with fail
            (with_reducible refine keyB.mono ?_); rintro e w1' ⟨rfl, rfl⟩
            clear keyB
            go_wp2_with fail
            generalize wr.setCell ⟨bb', i, none⟩ (.bool true) = w2 at *
            have hp0 : w2.cell? ⟨PB, 1, none⟩ = some v1 := (cell_of HS1.out.parts).trans rfl
            have hmore := HS1.out.more (w2 := w2.alloc (.cells #[.int .i64 x] 3)) (Below.allocs (Below.refl _ _) _)
            have hp1 : (w2.alloc (.cells #[.int .i64 x] 3)).cell? ⟨PB, 1, none⟩ = some v1 := (cell_of hmore.parts).trans rfl
            have hmz := hmore.below.size
            (with_reducible refine (wside_t _).mono ?_); rintro e w2' ⟨rfl, rfl⟩
            go_wp2_with fail
            (with_reducible refine (wside_t _).mono ?_); rintro e w2' ⟨rfl, rfl⟩
            go_wp2_with (first | (at_builtin; (refine wpList_append_lies rfl (.tmp 42) (.tmp 44) 22 rfl w.heap.size 3 i1 (.int .i64 0) 1 8 Tryz.underlying22 hj hy1 hy2 hy3 rfl (by decide) _ _ _ rfl hmore.p1 ⟨w2.heap.size, 0, none⟩ 1 1 [.int .i64 x] rfl rfl (cell_one_new _ _ _) (fun u hu => by simp at hu; subst hu; rfl) (by decide) (by unfold maxLen; omega) (by omega) hmz _ rfl ?_); intro g cap2 w3 ho3 hg3 hf3 hl3; (have hp3 := hmore.grown1 hg3); (have q3 : w3.cell? ⟨PB, 1, none⟩ = some v1 := (cell_of hp3).trans rfl); (have qf3 : w3.frozen? ⟨PB, 1, none⟩ = false := free_of hp3)))
            have HPU := Lib.hid (hmore.push1 ho3 hg3 hf3)
            clear hmore ho3 hg3 hf3 hp3
            go_wp2_with fail
            go_roundg (l.length - (i + 1))
            case measure => omega
            case rel => exact ⟨i + 1, _, _, rfl, by omega, by go_num, by have := HPU.out; rw [HF0.out, HF1.out]; simpa using this⟩
        · have hie : i = l.length := by omega
          subst hie
          rw [List.take_length, Nat.sub_self, List.replicate_zero, List.append_nil] at hS
          have hi1 : ¬ (l.length : Int) < l.length := by omega
          have hrd9 : RdB wr (.slice (some ⟨BB, 0, none⟩) l.length l.length) (l.map fun s => Sy.bit s lv) := by
            have := OwnB.rd hS.bits
            rwa [List.length_map] at this
          have key := wnode wr hrd9 (by rw [List.length_map]; omega)
          obtain ⟨a0, c0, rfl, _, _⟩ := own_form hS.p0
          obtain ⟨a1, c1, rfl, _, _⟩ := own_form hS.p1
          obtain ⟨f0, hf0⟩ : ∃ q, (l.filter fun s => Sy.bit s lv == false) = q := ⟨_, rfl⟩
          obtain ⟨f1, hf1⟩ : ∃ q, (l.filter fun s => Sy.bit s lv == true) = q := ⟨_, rfl⟩
          rw [hf0] at hS HIH0
          rw [hf1] at hS HIH1
          have HS := Lib.hid hS
          clear hS hrd9 hf0 hf1 hil hlt
          go_wp2_with fail
          (with_reducible refine key.mono ?_); rintro e w9 ⟨b, base, t, S, rfl, hNN⟩
          have hS9 := HS.out.more hNN.below
          have hp0 : w9.cell? ⟨PB, 0, none⟩ = some (.slice a0 f0.length c0) := (cell_of hS9.parts).trans rfl
          have hp1 : w9.cell? ⟨PB, 1, none⟩ = some (.slice a1 f1.length c1) := (cell_of hS9.parts).trans rfl
          have HSG := Lib.hid (Stg.start HN.out hk hsz HU.out HS.out.below hNN HWB.out)
          have HNE0 : Hid (∀ ad, a0 = some ad → ¬ ad.block = b) := Lib.hid (fun ad e e2 => by
            have h1 := (World.ownsRow.lt HS.out.p0 ad.block (by rw [e]; rfl)).2
            have h2 := hNN.lo
            omega)
          have HNE1 : Hid (∀ ad, a1 = some ad → ¬ ad.block = b) := Lib.hid (fun ad e e2 => by
            have h1 := (World.ownsRow.lt HS.out.p1 ad.block (by rw [e]; rfl)).2
            have h2 := hNN.lo
            omega)
          have HR0 := Lib.hid hS9.p0.rd
          have HR1 := Lib.hid hS9.p1.rd
          clear hNN key hS9 HS
          have hz9 : w9.heap.size ≤ w9.heap.size := Nat.le_refl _
          go_wp2_with fail
          go_loopg [51] 2 (fun g s51 wx => ∃ (c : Nat) (N' L' : Lks) (F' : For), g = 2 - c ∧ c ≤ 2 ∧ s51 = .int .i64 c ∧ Stay (· = b) w9 wx ∧ Stg m w wx B k b c N L F N' L' F')
          case atStart => exact ⟨0, _, _, _, rfl, by omega, rfl, Stay.refl _ _, HSG.out⟩
          case round =>
            clear HSG hp0 hp1
            obtain ⟨c, N', L', F', rfl, hc2, rfl, hbx, hSt⟩ := hrel
            match c, hc2 with
            | 0, _ =>
              have key := HIH0.out (IntKind.i64.wrap (lv + 1)) wr.drew B N' L' F' a0 f0.length c0 (by rw [IntWalk.i64_in _ (by omega)]; have h1 := HLV.out; have h2 := HCL.out.1; (try simp only [Nat.add_zero] at h2); omega) (hSt.nods.drewN 1) (by have := hSt.below.size; show B ≤ wr.heap.size; omega) (fun j hj => hSt.todo 0 j (Nat.le_refl _) (by omega) hj) ((HR0.out.stay hbx (fun _ ad e _ => HNE0.out ad e)).below (Below.drews (Below.refl _ _))) rfl
              have HST := Lib.hid (hSt.drewN 1)
              have HBX := Lib.hid (hbx.drewN 1)
              have x0 : ∀ w, (Instr.index 121 (.agg #[.slice a0 f0.length c0, .slice a1 f1.length c1]) (.int .i64 0)).run Tryz.prog w = .ok (.slice a0 f0.length c0) w := fun _ => by kernel_rfl
              clear hSt hbx
              go_wp2_with fail
              go_region_law (first
                | (go_simp; (go_at_call 62; (with_reducible refine key.mono ?_); rintro e w10 ⟨N2, L2, F2, rfl, hB2⟩; (have hk2 := (hB2.out k (Und.not_up (i := 0) hk)).1.trans HST.out.here); (obtain ⟨e9, _, nd9⟩ := hB2.nods.at hk2); (have q9 := nd9.c1); (have qf9 := nd9.fz 1); (have HB2 := Lib.hid hB2); clear hB2 nd9)))
              all_goals
                go_wp2_with fail
                go_roundg (1 - 0)
                case measure => omega
                case rel => exact ⟨0 + 1, _, _, _, rfl, by omega, rfl, Stay.setCell (S := (· = b)) (HBX.out.trans (Stay.of_below (S := fun _ => False) HB2.out.below) (fun _ _ e => e.elim)) (p := ⟨b, 0 + 1, none⟩) (.inr rfl) _, HST.out.next hk (by omega) HB2.out⟩
            | 1, _ =>
              have key := HIH1.out (IntKind.i64.wrap (lv + 1)) wr.drew B N' L' F' a1 f1.length c1 (by rw [IntWalk.i64_in _ (by omega)]; have h1 := HLV.out; have h2 := HCL1.out.1; (try simp only [Nat.add_zero] at h2); omega) (hSt.nods.drewN 1) (by have := hSt.below.size; show B ≤ wr.heap.size; omega) (fun j hj => hSt.todo 1 j (Nat.le_refl _) (by omega) hj) ((HR1.out.stay hbx (fun _ ad e _ => HNE1.out ad e)).below (Below.drews (Below.refl _ _))) rfl
              have HST := Lib.hid (hSt.drewN 1)
              have HBX := Lib.hid (hbx.drewN 1)
              have x0 : ∀ w, (Instr.index 121 (.agg #[.slice a0 f0.length c0, .slice a1 f1.length c1]) (.int .i64 1)).run Tryz.prog w = .ok (.slice a1 f1.length c1) w := fun _ => by kernel_rfl
              clear hSt hbx
              go_wp2_with fail
              go_region_law (first
                | (go_simp; (go_at_call 62; (with_reducible refine key.mono ?_); rintro e w10 ⟨N2, L2, F2, rfl, hB2⟩; (have hk2 := (hB2.out k (Und.not_up (i := 1) hk)).1.trans HST.out.here); (obtain ⟨e9, _, nd9⟩ := hB2.nods.at hk2); (have q9 := nd9.c2); (have qf9 := nd9.fz 2); (have HB2 := Lib.hid hB2); clear hB2 nd9)))
              all_goals
                go_wp2_with fail
                go_roundg (1 - 1)
                case measure => omega
                case rel => exact ⟨1 + 1, _, _, _, rfl, by omega, rfl, Stay.setCell (S := (· = b)) (HBX.out.trans (Stay.of_below (S := fun _ => False) HB2.out.below) (fun _ _ e => e.elim)) (p := ⟨b, 1 + 1, none⟩) (.inr rfl) _, HST.out.next hk (by omega) HB2.out⟩
            | 2, _ =>
              have HST := Lib.hid hSt
              clear hSt
              go_wp2_with fail
              go_ret
              exact ⟨N', L', F', by rw [HST.out.here]; rfl, HST.out.done2⟩
end Go.Proofs.YthbbokoeiifjdaaGreatDoor
namespace Go.Proofs.YthbbokoeiifjdaaGreatDoor
open Go Go.RowKit Go.ChangeAt Tr Wk

theorem Nods.relink {B : Nat} {w : World} {N L L2 : Lks} {F : For} (h : Nods B w N L F) (hL : ∀ j, 2 ≤ j → L j = L2 j) : Nods B w N L2 F :=
  ⟨h.pos, fun k b hk => by
    obtain ⟨e, he, hc⟩ := h.node k b hk
    have := h.one_le hk
    exact ⟨e, he, by rw [← hL _ (by omega), ← hL _ (by omega)]; exact hc⟩, h.dom, h.one, h.inj, h.lo, h.fr, h.nf⟩
set_option maxHeartbeats 1600000 in
theorem wnew {w : World} {a : Option Addr} {cap n : Nat} {l : List Int} (hpos : 0 < w.heap.size) (hr : RdL w a cap l) (hn : l.length = n) (hm : n ≤ 1000000) (hg : Wv.Good l) :
    Calls Tryz.prog 42 #[.slice a n cap] w fun e w' => ∃ x, e = .returned (.tuple #[.pointer (some ⟨x.t, 0, none⟩), .int .i64 0]) ∧ Wav w' x l ∧ x.B = w.heap.size ∧ Below w.heap.size w w' := by
  subst hn
  have hws := Wk.ws_one hg
  have hl1 : Wk.lev 1 = 0 := Wk.lev_of (v := 0) (p := 0) (by decide)
  have key := wbuild hg hm 9 1 (by rw [hl1]) (by decide) 0 w w.heap.size (fun _ => none) (fun _ => none) (fun _ => none) a l.length cap (by rw [hl1]; rfl) (Nods.nil hpos w _) (Nat.le_refl _) (fun _ _ => ⟨rfl, rfl⟩) (by rw [hws]; exact hr) (by rw [hws])
  have hcap := hr.1
  have hcm := hr.2.1
  unfold maxLen at hcm
  have HR := Lib.hid hr.2.2.2
  have HG := Lib.hid hg
  clear hr hg hws
  go_enter Tryz.func42, Tryz.ntmps42
  go_wp2_with fail
  go_loopg [8] l.length (fun g s8 wr => ∃ (i : Nat), g = l.length - i ∧ i ≤ l.length ∧ s8 = .int .i64 i ∧ wr = w)
  case atStart => exact ⟨0, rfl, Nat.zero_le _, rfl, rfl⟩
  case round =>
    obtain ⟨i, rfl, hil, rfl, rfl⟩ := hrel
    by_cases hlt : i < l.length
    · obtain ⟨b, off, rfl, hbb, hc⟩ := HR.out (by omega)
      have hc1 := hc i hlt
      have hgi := HG.out.at hlt
      have hi1 : (i : Int) < l.length := by omega
      obtain ⟨z, hz⟩ : ∃ z, l.getD i 0 = z := ⟨_, rfl⟩
      rw [hz] at hc1 hgi
      have keyS := wsym_yes wr hgi
      clear hz
      clear hc HR
      go_wp2_with fail
      (with_reducible refine keyS.mono ?_); rintro e w1 ⟨rfl, rfl⟩
      go_wp2_with fail
      go_roundg (l.length - (i + 1))
      case measure => omega
      case rel => exact ⟨i + 1, rfl, by omega, by go_num, rfl⟩
    · have hi1 : ¬ (i : Int) < l.length := by omega
      go_wp2_with fail
      (with_reducible refine key.mono ?_); rintro e w1 ⟨N', L', F', rfl, hB⟩
      have HB := Lib.hid hB
      clear hB key
      go_wp2_with fail
      go_ret2
      have hB := HB.out
      have hz := hB.below.size
      have hn2 := hB.nods.below (w' := w1.alloc (topc (N' 1) 0)) (Below.allocs (Below.refl _ _) _)
      have hdes : ∀ k, (F' k).map Ent.m = Wk.wq l k := fun k => by
        by_cases hk : 1 ≤ k
        · exact hB.des k ⟨Nat.log2 k, by
            obtain ⟨h1, h2⟩ := Wk.of_lev hk
            have h3 := Wk.up2_top h2
            unfold Wk.up2 at h3
            rw [← h1] at h3
            exact h3⟩
        · obtain rfl : k = 0 := by omega
          rw [hB.nods.dom 0 hB.nods.one, Wk.wq_out _ (by omega)]; rfl
      have hU : ∀ j, 1 ≤ j → Und 1 j := fun j hj => ⟨Nat.log2 j, by
        obtain ⟨h1, h2⟩ := Wk.of_lev hj
        have h3 := Wk.up2_top h2
        unfold Wk.up2 at h3
        rw [← h1] at h3
        exact h3⟩
      have hn3 := hn2.relink (L2 := N') (fun j hj => hB.lnk j (hU j (by omega)) (by omega))
      refine ⟨⟨wr.heap.size, w1.heap.size, N', F', 0⟩, rfl, ⟨⟨hn3, alloc_of, hz, fun ho => ?_⟩, hdes, HG.out⟩, rfl, Below.allocs hB.below _⟩
      have h9 : w1.heap.size < w1.heap.size := (hB.nods.blocks ho).2
      omega
theorem wnew_bad {w : World} {a : Option Addr} {cap : Nat} {s : Int} (hr : RdL w a cap [s]) (hs : ¬ (0 ≤ s ∧ s ≤ 256)) :
    Calls Tryz.prog 42 #[.slice a 1 cap] w fun e w' => e = .returned (.tuple #[.pointer none, .int .i64 1]) ∧ w = w' := by
  have hcap : 1 ≤ cap := hr.1
  have hcm := hr.2.1
  unfold maxLen at hcm
  obtain ⟨b, off, rfl, hbb, hc⟩ := hr.2.2.2 (by show 0 < 1; decide)
  have hc1 : w.cell? ⟨b, off, none⟩ = some (.int .i64 s) := hc 0 (by show 0 < 1; decide)
  have keyS := wsym_no w hs
  clear hr hc
  go_enter Tryz.func42, Tryz.ntmps42
  go_wp2_with fail
  go_loopg [8] 1 (fun g s8 wr => g = 1 ∧ s8 = .int .i64 0 ∧ wr = w)
  case atStart => exact ⟨rfl, rfl, rfl⟩
  case round =>
    obtain ⟨rfl, rfl, rfl⟩ := hrel
    go_wp2_with fail
    (with_reducible refine keyS.mono ?_); rintro e w1 ⟨rfl, rfl⟩
    go_wp2_with fail
    go_ret2
    exact ⟨rfl, rfl⟩
end Go.Proofs.YthbbokoeiifjdaaGreatDoor
