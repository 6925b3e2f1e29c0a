/- Waves as the statements use them: what is asked of their calls (a record of contracts, to be paid by the code's own); slices of shapes, read. -/
import Derived.Test.YtaglnomjlnlgoaaDoorWvL
import Derived.Test.YtaglnomjlnlgoaaDoorBlo
import Derived.Test.YtaglnomjlnlgoaaDoorAre
import Derived.Test.YtaglnomjlnlgoaaDoorFbm
namespace Go.Proofs.YtaglnomjlnlgoaaDoor
open Go Go.RowKit Go.ChangeAt

abbrev Sh := Int × Int × Int × Int
/-- A slice of shapes, as it is read. -/
def RdS (w : World) (a : Option Addr) (l : List Sh) : Prop :=
  l.length ≤ 1000000 ∧ (0 < l.length → ∃ b off, a = some ⟨b, off, none⟩ ∧ b < w.heap.size ∧ ∀ i, i < l.length →
    ∃ L H V N : Int, l.getD i (0, 0, 0, 0) = (L, H, V, N) ∧ L ≤ 9223372036854775807 ∧ H ≤ 9223372036854775807 ∧ V ≤ 9223372036854775807 ∧
      w.cell? ⟨b, off + i * 4, none⟩ = some (.int .i64 L) ∧ w.cell? ⟨b, off + i * 4 + 1, none⟩ = some (.int .i64 H) ∧
      w.cell? ⟨b, off + i * 4 + 2, none⟩ = some (.int .i64 V) ∧ w.cell? ⟨b, off + i * 4 + 3, none⟩ = some (.int .i64 N))
theorem RdS.nil (w : World) (a : Option Addr) : RdS w a [] := ⟨by decide, fun h => absurd h (by decide)⟩
theorem RdS.below {w w' : World} {a : Option Addr} {l : List Sh} (h : RdS w a l) (hb : Below w.heap.size w w') : RdS w' a l := by
  refine ⟨h.1, fun hp => ?_⟩
  obtain ⟨b, off, ha, hlt, hc⟩ := h.2 hp
  refine ⟨b, off, ha, Nat.lt_of_lt_of_le hlt hb.size, fun i hi => ?_⟩
  obtain ⟨L, H, V, N, h1, h2, h3, h4, c0, c1, c2, c3⟩ := hc i hi
  exact ⟨L, H, V, N, h1, h2, h3, h4, (hb.cell (p := ⟨b, _, none⟩) hlt).trans c0, (hb.cell (p := ⟨b, _, none⟩) hlt).trans c1, (hb.cell (p := ⟨b, _, none⟩) hlt).trans c2, (hb.cell (p := ⟨b, _, none⟩) hlt).trans c3⟩
/-- The greatest height of some shapes, from a least one on. -/
def hiS (h : Int) (l : List Sh) : Int := l.foldl (fun h s => max h s.2.1) h
theorem hiS_succ {l : List Sh} {k : Nat} (h0 : Int) (h : k < l.length) {L H V N : Int} (hs : l.getD k (0, 0, 0, 0) = (L, H, V, N)) : hiS h0 (l.take (k + 1)) = max (hiS h0 (l.take k)) H := by
  have e : l[k] = (L, H, V, N) := by rw [← hs, List.getD_eq_getElem?_getD, List.getElem?_eq_getElem h]; rfl
  unfold hiS
  rw [List.take_succ_eq_append_getElem h, List.foldl_append, e]
  rfl
theorem hiS_ge (l : List Sh) : ∀ h0 : Int, h0 ≤ hiS h0 l := by
  induction l with
  | nil => intro h0; exact Int.le_refl _
  | cons s l ih => intro h0; have := ih (max h0 s.2.1); show h0 ≤ hiS (max h0 s.2.1) l; omega
theorem hiS_max (l : List Sh) : ∀ h0 : Int, 0 ≤ h0 → hiS h0 l = max h0 (hiS 0 l) := by
  induction l with
  | nil => intro h0 hp; show h0 = max h0 0; omega
  | cons s l ih =>
    intro h0 hp
    show hiS (max h0 s.2.1) l = max h0 (hiS (max 0 s.2.1) l)
    rw [ih (max h0 s.2.1) (by omega), ih (max 0 s.2.1) (by omega)]
    omega
theorem hiS_le (l : List Sh) (B : Int) : (∀ s ∈ l, s.2.1 ≤ B) → ∀ h0 : Int, h0 ≤ B → hiS h0 l ≤ B := by
  induction l with
  | nil => intro _ h0 h; exact h
  | cons s l ih =>
    intro hl h0 h
    have h1 := hl s (List.mem_cons_self ..)
    exact ih (fun x hx => hl x (List.mem_cons_of_mem _ hx)) (max h0 s.2.1) (by omega)

/-- Waves: what a call finds and leaves. X: what is known of one (its blocks, its shapes, how many nodes the last call looked at). -/
structure WOps where
  X : Type
  own : X → Nat → Prop
  shp : X → List Sh
  vis : X → Int
  E : World → Prop
  wav : World → Nat → X → List Int → Prop
  E_below : ∀ {w w' : World} {B : Nat}, E w → 0 < B → Below B w w' → E w'
  lt : ∀ {w : World} {t : Nat} {x : X} {m : List Int}, wav w t x m → ∀ i, own x i → i < w.heap.size
  stay : ∀ {w w' : World} {t : Nat} {x : X} {m : List Int} {S : Nat → Prop}, wav w t x m → Stay S w w' → (∀ i, own x i → ¬ S i) → wav w' t x m
  good : ∀ {w : World} {t : Nat} {x : X} {m : List Int}, wav w t x m → Wv.Good m
  shapes_are : ∀ {w : World} {t : Nat} {x : X} {m : List Int}, wav w t x m → m.length ≤ 1000000 → (shp x).map (fun s => s.1) = (Wv.lens m).map (fun n : Nat => (n : Int)) ∧ ∀ s ∈ shp x, mayS s = true ∧ 1 ≤ s.1 ∧ 0 ≤ s.2.1 ∧ s.2.1 ≤ 100
  new : ∀ {w : World} {a : Option Addr} {cap n : Nat} {l : List Int}, E w → 0 < w.heap.size → RdL w a cap l → l.length = n → n ≤ 1000000 → Wv.Good l →
    Calls Tryd.prog 9 #[.slice a n cap] w fun e w' => ∃ t x, e = .returned (.tuple #[.pointer (some ⟨t, 0, none⟩), .int .i64 0]) ∧ wav w' t x l ∧ (∀ i, own x i → w.heap.size ≤ i) ∧ Below w.heap.size w w'
  insert : ∀ {w : World} {t : Nat} {x : X} {m : List Int} (k s : Int) (n : Nat), E w → wav w t x m → k = n → n ≤ m.length → m.length ≤ 1000000 → 0 ≤ s ∧ s ≤ 256 →
    Calls Tryd.prog 18 #[.pointer (some ⟨t, 0, none⟩), .int .i64 k, .int .i64 s] w fun e w' => e = .returned (.int .i64 0) ∧ ∃ x', wav w' t x' (Wv.ins m n s) ∧ Stay (own x) w w' ∧ (∀ i, own x' i → own x i ∨ w.heap.size ≤ i) ∧ vis x' ≤ 72 * (max (hiS 0 (shp x)) (hiS 0 (shp x')) + 2)
  insert_arg : ∀ {w : World} {t : Nat} {x : X} {m : List Int} (k s : Int), E w → wav w t x m → m.length ≤ 1000000 → ¬ (0 ≤ s ∧ s ≤ 256) →
    Calls Tryd.prog 18 #[.pointer (some ⟨t, 0, none⟩), .int .i64 k, .int .i64 s] w fun e w' => e = .returned (.int .i64 1) ∧ ∃ x', wav w' t x' m ∧ Stay (own x) w w' ∧ (∀ i, own x' i → own x i ∨ w.heap.size ≤ i) ∧ shp x' = shp x ∧ vis x' ≤ 72 * (hiS 0 (shp x) + 2)
  insert_out : ∀ {w : World} {t : Nat} {x : X} {m : List Int} (k s : Int), E w → wav w t x m → m.length ≤ 1000000 → 0 ≤ s ∧ s ≤ 256 → k < 0 ∨ (m.length : Int) < k →
    Calls Tryd.prog 18 #[.pointer (some ⟨t, 0, none⟩), .int .i64 k, .int .i64 s] w fun e w' => e = .returned (.int .i64 2) ∧ ∃ x', wav w' t x' m ∧ Stay (own x) w w' ∧ (∀ i, own x' i → own x i ∨ w.heap.size ≤ i) ∧ shp x' = shp x ∧ vis x' ≤ 72 * (hiS 0 (shp x) + 2)
  delete : ∀ {w : World} {t : Nat} {x : X} {m : List Int} (k : Int) (n : Nat), E w → wav w t x m → k = n → n < m.length → m.length ≤ 1000000 →
    Calls Tryd.prog 19 #[.pointer (some ⟨t, 0, none⟩), .int .i64 k] w fun e w' => e = .returned (.tuple #[.int .i64 (m.getD n 0), .int .i64 0]) ∧ ∃ x', wav w' t x' (Wv.del m n) ∧ Stay (own x) w w' ∧ (∀ i, own x' i → own x i ∨ w.heap.size ≤ i) ∧ vis x' ≤ 72 * (max (hiS 0 (shp x)) (hiS 0 (shp x')) + 2)
  delete_out : ∀ {w : World} {t : Nat} {x : X} {m : List Int} (k : Int), E w → wav w t x m → m.length ≤ 1000000 → k < 0 ∨ (m.length : Int) ≤ k →
    Calls Tryd.prog 19 #[.pointer (some ⟨t, 0, none⟩), .int .i64 k] w fun e w' => e = .returned (.tuple #[.int .i64 (-1), .int .i64 2]) ∧ ∃ x', wav w' t x' m ∧ Stay (own x) w w' ∧ (∀ i, own x' i → own x i ∨ w.heap.size ≤ i) ∧ shp x' = shp x ∧ vis x' ≤ 72 * (hiS 0 (shp x) + 2)
  get : ∀ {w : World} {t : Nat} {x : X} {m : List Int} (k : Int) (n : Nat), E w → wav w t x m → k = n → n < m.length → m.length ≤ 1000000 →
    Calls Tryd.prog 15 #[.pointer (some ⟨t, 0, none⟩), .int .i64 k] w fun e w' => e = .returned (.tuple #[.int .i64 (m.getD n 0), .int .i64 0]) ∧ ∃ x', wav w' t x' m ∧ Stay (own x) w w' ∧ (∀ i, own x' i → own x i ∨ w.heap.size ≤ i) ∧ shp x' = shp x ∧ vis x' ≤ 72 * (hiS 0 (shp x) + 2)
  get_out : ∀ {w : World} {t : Nat} {x : X} {m : List Int} (k : Int), E w → wav w t x m → m.length ≤ 1000000 → k < 0 ∨ (m.length : Int) ≤ k →
    Calls Tryd.prog 15 #[.pointer (some ⟨t, 0, none⟩), .int .i64 k] w fun e w' => e = .returned (.tuple #[.int .i64 (-1), .int .i64 2]) ∧ ∃ x', wav w' t x' m ∧ Stay (own x) w w' ∧ (∀ i, own x' i → own x i ∨ w.heap.size ≤ i) ∧ shp x' = shp x ∧ vis x' ≤ 72 * (hiS 0 (shp x) + 2)
  rank : ∀ {w : World} {t : Nat} {x : X} {m : List Int} (k s : Int), E w → wav w t x m → m.length ≤ 1000000 →
    Calls Tryd.prog 16 #[.pointer (some ⟨t, 0, none⟩), .int .i64 k, .int .i64 s] w fun e w' => e = .returned (.int .i64 (Wv.rk m k.toNat s)) ∧ ∃ x', wav w' t x' m ∧ Stay (own x) w w' ∧ (∀ i, own x' i → own x i ∨ w.heap.size ≤ i) ∧ shp x' = shp x
  select : ∀ {w : World} {t : Nat} {x : X} {m : List Int} (j s : Int), E w → wav w t x m → m.length ≤ 1000000 →
    Calls Tryd.prog 17 #[.pointer (some ⟨t, 0, none⟩), .int .i64 j, .int .i64 s] w fun e w' => e = .returned (.int .i64 (Wv.sl m j s)) ∧ ∃ x', wav w' t x' m ∧ Stay (own x) w w' ∧ (∀ i, own x' i → own x i ∨ w.heap.size ≤ i) ∧ shp x' = shp x
  len : ∀ {w : World} {t : Nat} {x : X} {m : List Int}, wav w t x m →
    Calls Tryd.prog 30 #[.pointer (some ⟨t, 0, none⟩)] w fun e w' => e = .returned (.int .i64 m.length) ∧ w = w'
  all : ∀ {w : World} {t : Nat} {x : X} {m : List Int}, E w → wav w t x m → m.length ≤ 1000000 →
    Calls Tryd.prog 21 #[.pointer (some ⟨t, 0, none⟩)] w fun e w' => ∃ v x', e = .returned v ∧ OwnI w.heap.size w' v m ∧ wav w' t x' m ∧ Stay (own x) w w' ∧ (∀ i, own x' i → own x i ∨ w.heap.size ≤ i) ∧ (∀ b, v.ownBlock = some b → ¬ own x' b) ∧ shp x' = shp x
  level : ∀ {w : World} {t : Nat} {x : X} {m : List Int} (l p : Int), E w → wav w t x m → m.length ≤ 1000000 → (-9223372036854775808 ≤ p ∧ p ≤ 9223372036854775807) →
    Calls Tryd.prog 13 #[.pointer (some ⟨t, 0, none⟩), .int .i64 l, .int .i64 p] w fun e w' => ∃ v x', e = .returned v ∧ RdB w' v (if 0 ≤ l ∧ l ≤ 8 then Wv.bits m l.toNat p else []) ∧ wav w' t x' m ∧ Stay (own x) w w' ∧ (∀ i, own x' i → own x i ∨ w.heap.size ≤ i) ∧ shp x' = shp x
  shapes : ∀ {w : World} {t : Nat} {x : X} {m : List Int}, E w → wav w t x m → m.length ≤ 1000000 →
    Calls Tryd.prog 10 #[.pointer (some ⟨t, 0, none⟩)] w fun e w' => ∃ a cap x', e = .returned (.slice a (shp x).length cap) ∧ RdS w' a (shp x) ∧ wav w' t x' m ∧ Stay (own x) w w' ∧ (∀ i, own x' i → own x i ∨ w.heap.size ≤ i) ∧ (∀ ad, a = some ad → ¬ own x' ad.block) ∧ shp x' = shp x ∧ ∀ h : Int, 0 ≤ h → vis x ≤ 72 * (h + 2) → vis x' ≤ 72 * (h + 2)
  vis_pos : ∀ {w : World} {t : Nat} {x : X} {m : List Int}, wav w t x m → 0 ≤ vis x
  told : ∀ {w : World}, E w → 0 < w.heap.size → Calls Tryd.prog 14 #[] w fun e w' => e = .returned (.bool true) ∧ Below w.heap.size w w'
end Go.Proofs.YtaglnomjlnlgoaaDoor
