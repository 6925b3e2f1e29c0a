/- Walks from row to row of a text of bytes, as plain facts. No function of the program stands in it. -/
import Derived.Test.YthbbokoeiifjdaaGreatDoorBwg
import Derived.Test.YthbbokoeiifjdaaGreatDoorTyg
import Derived.Test.YthbbokoeiifjdaaGreatDoorWvg
import Derived.Test.YthbbokoeiifjdaaGreatDoorSoh
namespace Go.Proofs.YthbbokoeiifjdaaGreatDoor

/-- A text's symbols with its end. -/
abbrev Tx (t : List UInt8) : List Int := Bw.sy (ub t)
theorem Tx_len (t : List UInt8) : (Tx t).length = t.length + 1 := by rw [Bw.sy_len, ub_len]
theorem Tx_good (t : List UInt8) : ∀ s ∈ Tx t, 0 ≤ s ∧ s ≤ 256 := Bw.sy_good (ub_byt t)
theorem Tx_txt (t : List UInt8) : Bw.IsTxt (Tx t) := Bw.sy_txt (ub_byt t)
theorem Tx_perm (t : List UInt8) : (Lx t).Perm (Tx t) := Bw.lastT_perm _
theorem Tx_sx (t : List UInt8) : Tx t = Bw.sx t := by
  show (ub t).map (fun b => b + 1) ++ [0] = Bw.sb t ++ [0]
  unfold ub Bw.sb
  rw [List.map_map]
  rfl
/-- What a row begins with; the row of the suffix one ahead; that of the one behind. -/
def fsx (t : List UInt8) (r : Nat) : Int := (Tx t).getD ((Rx t).getD r 0) 0
def bkx (t : List UInt8) (r : Nat) : Nat := Bw.bk (Lx t) r
def onx (t : List UInt8) (r : Nat) : Nat := Bw.onr (Tx t) (Rx t) r
theorem of_perm {l m : List Int} (h : l.Perm m) : Ty.of l = Ty.of m := funext fun s => h.count_eq (s : Int)
theorem fsx_good {t : List UInt8} {r : Nat} (hr : r < t.length + 1) : 0 ≤ fsx t r ∧ fsx t r ≤ 256 := by
  have h1 := Rx_lt hr
  refine Tx_good t _ ?_
  unfold fsx
  rw [List.getD_eq_getElem?_getD, List.getElem?_eq_getElem (by rw [Tx_len]; exact h1)]
  exact List.getElem_mem _
theorem wh_fsx {t : List UInt8} {r : Nat} (hr : r < t.length + 1) : Ty.wh (Ty.of (Lx t)) r = fsx t r := by
  have h1 := Rx_lt hr
  have h2 := Bw.wh_first (Tx_good t) (p := (Rx t).getD r 0) (by rw [Tx_len]; exact h1)
  rw [Rx_row hr] at h2
  rw [of_perm (Tx_perm t)]
  exact h2
theorem wh_not {t : List UInt8} {k : Int} (hk : k < 0 ∨ (t.length : Int) + 1 ≤ k) : Ty.wh (Ty.of (Lx t)) k = -1 := by
  refine Ty.wh_none ?_
  rw [Bw.all_low (Lx_good t), Lx_len]
  omega
theorem onx_lt {t : List UInt8} {r : Nat} (hr : r < t.length + 1) : onx t r < t.length + 1 := by
  have h := (Rx_is t).on_lt (r := r) (by rw [Tx_len]; exact hr)
  rwa [Tx_len] at h
theorem bkx_lt {t : List UInt8} {r : Nat} (hr : r < t.length + 1) : bkx t r < t.length + 1 := by
  have h1 := Bw.IsRows.bk_at (Rx_is t) (Tx_txt t) (r := r) (by rw [Tx_len]; exact hr)
  show Bw.bk (Bw.lst (Tx t) (Rx t)) r < _
  rw [h1]
  have h3 := Bw.row_lt (T := Tx t) (p := Bw.prd (Tx t).length ((Rx t).getD r 0)) (Bw.prd_lt (by rw [Tx_len]; exact Rx_lt hr))
  rwa [Tx_len] at h3 ⊢
theorem on_bkx {t : List UInt8} {r : Nat} (hr : r < t.length + 1) : onx t (bkx t r) = r := Bw.IsRows.on_back (Rx_is t) (Tx_txt t) (r := r) (by rw [Tx_len]; exact hr)
theorem bk_onx {t : List UInt8} {r : Nat} (hr : r < t.length + 1) : bkx t (onx t r) = r := Bw.IsRows.back_on (Rx_is t) (Tx_txt t) (r := r) (by rw [Tx_len]; exact hr)
theorem fs_onx {t : List UInt8} {r : Nat} (hr : r < t.length + 1) : (Lx t).getD (onx t r) 0 = fsx t r := Bw.IsRows.first_on (Rx_is t) (r := r) (by rw [Tx_len]; exact hr)
theorem bk_sum {t : List UInt8} (r : Nat) : bkx t r = Bw.low (Lx t) ((Lx t).getD r 0) + Wv.rk (Lx t) r ((Lx t).getD r 0) := rfl
theorem bel_fs {t : List UInt8} {s : Int} (hs : 0 ≤ s ∧ s ≤ 256) : Ty.bel (Ty.of (Lx t)) (Ty.clamp s) = Bw.low (Lx t) s := by
  rw [Bw.bel_low fun s hs => (Lx_good t s hs).1]
  congr 1
  unfold Ty.clamp
  split
  · omega
  · rw [if_neg (by omega)]; omega
theorem sl_onx {t : List UInt8} {r : Nat} (hr : r < t.length + 1) : Wv.sl (Lx t) ((r : Int) - Bw.low (Lx t) (fsx t r)) (fsx t r) = onx t r := by
  have h1 := onx_lt hr
  have h2 := bk_sum (t := t) (onx t r)
  rw [bk_onx hr, fs_onx hr] at h2
  have h3 := Wv.sl_of (l := Lx t) (k := onx t r) (by rw [Lx_len]; exact h1) (fs_onx hr) rfl
  rw [show (r : Int) - Bw.low (Lx t) (fsx t r) = (Wv.rk (Lx t) (onx t r) (fsx t r) : Nat) by omega]
  exact h3
/-- Narrowed rows. -/
abbrev nrx (t : List UInt8) (k : Nat) (s : Int) : Nat := Bw.nar (Lx t) k s
theorem nrx_sum (t : List UInt8) (k : Nat) (s : Int) : nrx t k s = Bw.low (Lx t) s + Wv.rk (Lx t) k s := rfl
theorem nrx_le (t : List UInt8) (k : Nat) (s : Int) : nrx t k s ≤ t.length + 1 := by
  have := Bw.nar_le (Lx t) k s
  rwa [Lx_len] at this
theorem nrx_far {t : List UInt8} {k : Nat} (s : Int) (hk : t.length + 1 ≤ k) : nrx t k s = nrx t (t.length + 1) s := by
  rw [nrx_sum, nrx_sum, Wv.rk_all s (by rw [Lx_len]; exact hk), Wv.rk_all s (by rw [Lx_len]; exact Nat.le_refl _)]
/-- Row 0 begins with the end. -/
theorem fsx_zero (t : List UInt8) : fsx t 0 = 0 := by
  unfold fsx
  rw [Rx_zero]
  have := Bw.sy_end (ub t)
  rwa [ub_len] at this
theorem fsx_rises {t : List UInt8} {r : Nat} (hr : r + 1 < t.length + 1) : fsx t r ≤ fsx t (r + 1) := Bw.IsRows.rises (Rx_is t) (r := r) (by rw [Tx_len]; exact hr)
/-- Steps back from row 0. -/
def stx (t : List UInt8) (k : Nat) : Nat := Bw.stp (Lx t) k
theorem stx_zero (t : List UInt8) : stx t 0 = 0 := rfl
theorem stx_succ (t : List UInt8) (k : Nat) : stx t (k + 1) = bkx t (stx t k) := rfl
theorem stx_lt {t : List UInt8} (k : Nat) : stx t k < t.length + 1 := by
  induction k with
  | zero => rw [stx_zero]; omega
  | succ k ih => rw [stx_succ]; exact bkx_lt ih
theorem stx_read {t : List UInt8} {k i : Nat} (h : i + 1 + k = t.length) : (Lx t).getD (stx t k) 0 = ((t.getD i 0).toNat : Int) + 1 := by
  have h1 := Lx_read (t := t) (i := i) (by omega)
  rwa [show t.length - 1 - i = k by omega] at h1
theorem stx_end (t : List UInt8) : (Lx t).getD (stx t t.length) 0 = 0 := by
  have h1 := Bw.IsRows.stp (Rx_is t) (Tx_txt t) t.length (by rw [Tx_len]; omega)
  rw [Tx_len] at h1
  have h2 : (Rx t).getD (Bw.row (Tx t) 0) 0 = 0 := Bw.IsRows.at_place (Rx_is t) (p := 0) (by rw [Tx_len]; omega)
  have h3 : stx t t.length = Bw.row (Tx t) 0 := by
    show Bw.stp (Bw.lst (Tx t) (Rx t)) t.length = _
    rw [h1]
    congr 1
    omega
  rw [h3, Lx_at (by have h4 := Bw.row_lt (T := Tx t) (p := 0) (by rw [Tx_len]; omega); rwa [Tx_len] at h4), h2]
  unfold Bw.prd
  rw [if_pos rfl, ← sy_ub]
  have := Bw.sy_end (ub t)
  rwa [ub_len] at this
/-- Round: steps back from a row. -/
def rnd (t : List UInt8) (r i : Nat) : Nat := Bw.bks (Lx t) r i
theorem rnd_zero (t : List UInt8) (r : Nat) : rnd t r 0 = r := rfl
theorem rnd_succ (t : List UInt8) (r i : Nat) : rnd t r (i + 1) = bkx t (rnd t r i) := rfl
theorem rnd_lt {t : List UInt8} {r : Nat} (hr : r < t.length + 1) (i : Nat) : rnd t r i < t.length + 1 := by
  have h := Bw.IsRows.bks_lt (Rx_is t) (Tx_txt t) (r := r) (by rw [Tx_len]; exact hr) i
  rwa [Tx_len] at h
theorem rnd_inj {t : List UInt8} {r i j : Nat} (hr : r < t.length + 1) (hi : i < t.length + 1) (hj : j < t.length + 1) (e : rnd t r i = rnd t r j) : i = j :=
  Bw.IsRows.bks_inj (Rx_is t) (Tx_txt t) (r := r) (by rw [Tx_len]; exact hr) (by rw [Tx_len]; exact hi) (by rw [Tx_len]; exact hj) e
theorem rnd_round {t : List UInt8} {r : Nat} (hr : r < t.length + 1) : rnd t r (t.length + 1) = r := by
  have h := Bw.IsRows.bks_round (Rx_is t) (Tx_txt t) (r := r) (by rw [Tx_len]; exact hr)
  rwa [Tx_len] at h
/-- Patterns: narrowed from the last byte on. -/
def fnl (t : List UInt8) (q : List UInt8) : Nat × Nat := q.foldr (fun b x => (nrx t x.1 ((b.toNat : Int) + 1), nrx t x.2 ((b.toNat : Int) + 1))) (0, t.length + 1)
theorem fnl_spans (t : List UInt8) : ∀ q : List UInt8, Bw.Spans (Bw.sx t) (Bw.sb q) (fnl t q).1 (fnl t q).2
  | [] => by
    have := Bw.spans_nil (Bw.sx t)
    rwa [Bw.sx_len] at this
  | b :: q => Bw.spans_nar b (fnl_spans t q) (by rw [← Tx_sx]; rfl)
theorem fnl_le (t : List UInt8) : ∀ q : List UInt8, (fnl t q).1 ≤ (fnl t q).2 ∧ (fnl t q).2 ≤ t.length + 1
  | [] => ⟨Nat.zero_le _, Nat.le_refl _⟩
  | _ :: q => ⟨Bw.nar_mono _ (fnl_le t q).1 _, nrx_le _ _ _⟩
theorem fnl_many (t q : List UInt8) : (fnl t q).2 - (fnl t q).1 = (Bw.plcs t q).length := Bw.spans_plcs (fnl_spans t q) (fnl_le t q).2
/-- Rows that are narrowed by each symbol in turn. -/
def nsm (t : List UInt8) (a b : Nat) (s : Int) : Int := (Bw.low ((Lx t).take b) s : Int) - Bw.low ((Lx t).take a) s
theorem nsm_zero (t : List UInt8) (a b : Nat) : nsm t a b 0 = 0 := by
  unfold nsm
  rw [Bw.low_bot fun s hs => (Lx_good t s (List.mem_of_mem_take hs)).1, Bw.low_bot fun s hs => (Lx_good t s (List.mem_of_mem_take hs)).1]
  omega
theorem nsm_next (t : List UInt8) (a b : Nat) (s : Int) : nsm t a b (s + 1) = nsm t a b s + ((nrx t b s : Int) - nrx t a s) := Bw.nar_sum (Lx t) a b s
theorem nsm_top {t : List UInt8} {a b : Nat} (ha : a ≤ t.length + 1) (hb : b ≤ t.length + 1) : nsm t a b 257 = (b : Int) - a := by
  unfold nsm
  rw [Bw.low_top fun s hs => (by have := Lx_good t s (List.mem_of_mem_take hs); omega), Bw.low_top fun s hs => (by have := Lx_good t s (List.mem_of_mem_take hs); omega)]
  rw [List.length_take, List.length_take, Lx_len]
  omega
theorem nsm_le {t : List UInt8} {a b : Nat} (s : Int) (hb : b ≤ t.length + 1) : nsm t a b s ≤ 1000000 + t.length ∧ - (1000000 + (t.length : Int)) ≤ nsm t a b s ∨ 1000000 < a := by
  unfold nsm
  have h1 : Bw.low ((Lx t).take b) s ≤ b := Nat.le_trans List.countP_le_length (List.length_take_le _ _)
  have h2 : Bw.low ((Lx t).take a) s ≤ a := Nat.le_trans List.countP_le_length (List.length_take_le _ _)
  omega
/-- The document's rows to narrow by. -/
theorem nrx_doc {t : List UInt8} (lo : Int) (s : Int) : nrx t (min (max lo 0) ((t.length : Int) + 1)).toNat s = nrx t lo.toNat s := by
  by_cases h : (t.length : Int) + 1 ≤ lo
  · rw [show (min (max lo 0) ((t.length : Int) + 1)).toNat = t.length + 1 by omega]
    exact (nrx_far s (by omega)).symm
  · rw [show (min (max lo 0) ((t.length : Int) + 1)).toNat = lo.toNat by omega]
theorem nrx_doc2 {t : List UInt8} (lo hi : Int) (s : Int) : nrx t (min (max hi (min (max lo 0) ((t.length : Int) + 1))) ((t.length : Int) + 1)).toNat s = nrx t (max lo hi).toNat s := by
  by_cases h : (t.length : Int) + 1 ≤ max lo hi
  · rw [show (min (max hi (min (max lo 0) ((t.length : Int) + 1))) ((t.length : Int) + 1)).toNat = t.length + 1 by omega]
    exact (nrx_far s (by omega)).symm
  · rw [show (min (max hi (min (max lo 0) ((t.length : Int) + 1))) ((t.length : Int) + 1)).toNat = (max lo hi).toNat by omega]
end Go.Proofs.YthbbokoeiifjdaaGreatDoor
