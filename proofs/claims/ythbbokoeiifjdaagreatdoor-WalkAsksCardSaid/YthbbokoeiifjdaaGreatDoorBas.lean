/- Plain facts on 64-bit words as natural numbers: how many bits are 1, and the shift-and-add sum that math/bits uses for it. No program stands in it. Answers that are equal. No function of the program stands in it. Frames: which blocks a call may have turned, and which cells of a block it finds. No function of the program stands in it. Lists of bools of the call's own. No function of the program stands in it. What every row of this seat leans on: two closed facts of the program, and what a slice of integers that came in reads as. -/
import Derived.Laws.BitsAllLaws
import Derived.Lib.TrailingZeros
import Derived.WalkKit
import Derived.Test.YthbbokoeiifjdaaGreatDoorChecked
import Derived.Deep.QuietTactic
import Derived.Below
import Derived.OneCell
import Derived.Laws.OwnMore
import Derived.ProofKit
import Derived.OpenShut
namespace Go.Proofs.YthbbokoeiifjdaaGreatDoor
namespace Wd

/-- How many of f 0 .. f (n-1) are true. -/
def cnt (f : Nat → Bool) : Nat → Nat
  | 0 => 0
  | n + 1 => cnt f n + (f n).toNat

theorem cnt_le (f : Nat → Bool) : ∀ n, cnt f n ≤ n
  | 0 => Nat.le_refl _
  | n + 1 => by have := cnt_le f n; have := Bool.toNat_le (f n); simp only [cnt]; omega

theorem cnt_congr {f g : Nat → Bool} : ∀ {n : Nat}, (∀ i, i < n → f i = g i) → cnt f n = cnt g n
  | 0, _ => rfl
  | n + 1, h => by
    simp only [cnt]
    rw [cnt_congr (fun i hi => h i (by omega)), h n (by omega)]

theorem cnt_add (f : Nat → Bool) (a : Nat) : ∀ b, cnt f (a + b) = cnt f a + cnt (fun i => f (a + i)) b
  | 0 => rfl
  | b + 1 => by
    show cnt f (a + b) + (f (a + b)).toNat = _
    rw [cnt_add f a b]
    simp only [cnt]
    omega

theorem cnt_mono (f : Nat → Bool) {a b : Nat} (h : a ≤ b) : cnt f a ≤ cnt f b := by
  obtain ⟨d, rfl⟩ := Nat.le.dest h
  rw [cnt_add]; omega

theorem cnt_false : ∀ n, cnt (fun _ => false) n = 0
  | 0 => rfl
  | n + 1 => by simp [cnt, cnt_false n]

theorem cnt_not (f : Nat → Bool) : ∀ n, cnt f n + cnt (fun i => !f i) n = n
  | 0 => rfl
  | n + 1 => by
    have := cnt_not f n
    simp only [cnt]
    cases f n <;> simp <;> omega

/-- Above 64 no bit of a word is 1. -/
theorem testBit_hi {x i : Nat} (hx : x < 18446744073709551616) (hi : 64 ≤ i) : x.testBit i = false :=
  Nat.testBit_lt_two_pow (Nat.lt_of_lt_of_le hx (Nat.pow_le_pow_right (n := 2) (by decide) hi))

/- Bytes: f is done to each of the k lowest bytes of n. -/
def comb (f : Nat → Nat) : Nat → Nat → Nat
  | 0, _ => 0
  | k + 1, n => f (n % 256) + 256 * comb f k (n / 256)
def rep (m : Nat) : Nat → Nat
  | 0 => 0
  | k + 1 => m + 256 * rep m k

theorem and_split (a m A M : Nat) (ha : a < 256) (hm : m < 256) : (a + 256 * A) &&& (m + 256 * M) = (a &&& m) + 256 * (A &&& M) := by
  have h1 := Nat.and_div_two_pow (a := a + 256 * A) (b := m + 256 * M) (n := 8)
  have h2 := Nat.and_mod_two_pow (a := a + 256 * A) (b := m + 256 * M) (n := 8)
  have e1 : (a + 256 * A) / 2 ^ 8 = A := by omega
  have e2 : (m + 256 * M) / 2 ^ 8 = M := by omega
  have e3 : (a + 256 * A) % 2 ^ 8 = a := by omega
  have e4 : (m + 256 * M) % 2 ^ 8 = m := by omega
  rw [e1, e2] at h1
  rw [e3, e4] at h2
  omega

theorem and_rep (m : Nat) (hm : m < 256) : ∀ k n, n &&& rep m k = comb (fun b => b &&& m) k n
  | 0, n => by simp [rep, comb]
  | k + 1, n => by
    have e : n = n % 256 + 256 * (n / 256) := by omega
    have := and_split (n % 256) m (n / 256) (rep m k) (by omega) hm
    rw [← e] at this
    simp only [rep, comb]
    rw [this, and_rep m hm k]

theorem comb_congr {f g : Nat → Nat} (h : ∀ b, b < 256 → f b = g b) : ∀ k n, comb f k n = comb g k n
  | 0, _ => rfl
  | k + 1, n => by simp only [comb]; rw [h _ (by omega), comb_congr h k]

theorem comb_add (f g : Nat → Nat) : ∀ k n, comb f k n + comb g k n = comb (fun b => f b + g b) k n
  | 0, _ => rfl
  | k + 1, n => by simp only [comb]; have := comb_add f g k (n / 256); omega

theorem comb_comb (f g : Nat → Nat) (hg : ∀ b, b < 256 → g b < 256) : ∀ k n, comb f k (comb g k n) = comb (fun b => f (g b)) k n
  | 0, _ => rfl
  | k + 1, n => by
    have := hg (n % 256) (by omega)
    simp only [comb]
    have e1 : (g (n % 256) + 256 * comb g k (n / 256)) % 256 = g (n % 256) := by omega
    have e2 : (g (n % 256) + 256 * comb g k (n / 256)) / 256 = comb g k (n / 256) := by omega
    rw [e1, e2, comb_comb f g hg k]

theorem comb_lt (f : Nat → Nat) (hf : ∀ b, b < 256 → f b < 256) : ∀ k n, comb f k n < 256 ^ k
  | 0, _ => by simp [comb]
  | k + 1, n => by
    have := hf (n % 256) (by omega)
    have := comb_lt f hf k (n / 256)
    simp only [comb, Nat.pow_succ]
    omega

/-- A shift by s, and a mask: byte by byte, where the mask drops what came from the byte above. -/
theorem shift_rep (s m d : Nat) (hm : m < 256) (hd : d * s = 256) (hs : 0 < s) (hmask : ∀ b c, b < 256 → c < s → (b / s + d * c) &&& m = b / s &&& m) :
    ∀ k n, n / s &&& rep m k = comb (fun b => b / s &&& m) k n
  | 0, n => by simp [rep, comb]
  | k + 1, n => by
    have hdpos : 0 < d := by
      rcases Nat.eq_zero_or_pos d with h | h
      · subst h; omega
      · exact h
    have hq : n / s = n % 256 / s + d * (n / 256) := by
      have e0 : n = n % 256 + (d * (n / 256)) * s := by
        have : d * (n / 256) * s = 256 * (n / 256) := by rw [Nat.mul_right_comm, hd]
        omega
      conv => lhs; rw [e0]
      rw [Nat.add_mul_div_right _ _ hs]
    have hlow : n % 256 / s < d := by rw [Nat.div_lt_iff_lt_mul hs, hd]; omega
    have hr : n / 256 = s * (n / 256 / s) + n / 256 % s := (Nat.div_add_mod _ _).symm
    have hc : n / 256 % s < s := Nat.mod_lt _ hs
    have hq2 : n / s = (n % 256 / s + d * (n / 256 % s)) + 256 * (n / 256 / s) := by
      rw [hq]
      have : d * (n / 256) = d * (n / 256 % s) + 256 * (n / 256 / s) := by
        conv => lhs; rw [hr]
        rw [Nat.mul_add, ← Nat.mul_assoc, hd, Nat.add_comm]
      omega
    have hb : n % 256 / s + d * (n / 256 % s) < 256 := by
      have h1 : d * (n / 256 % s) + d ≤ d * s := by
        rw [← Nat.mul_succ]; exact Nat.mul_le_mul_left _ hc
      omega
    have := and_split (n % 256 / s + d * (n / 256 % s)) m (n / 256 / s) (rep m k) hb hm
    rw [hq2]
    simp only [rep, comb]
    rw [this, hmask _ _ (by omega) hc, shift_rep s m d hm hd hs hmask k]

def g1 (b : Nat) : Nat := (b / 2 &&& 85) + (b &&& 85)
def g2 (b : Nat) : Nat := (b / 4 &&& 51) + (b &&& 51)
def g3 (b : Nat) : Nat := (b / 16 + b) &&& 15

theorem mask1 : ∀ b, b < 256 → ∀ c, c < 2 → (b / 2 + 128 * c) &&& 85 = b / 2 &&& 85 := by decide +kernel
theorem mask2 : ∀ b, b < 256 → ∀ c, c < 4 → (b / 4 + 64 * c) &&& 51 = b / 4 &&& 51 := by decide +kernel
theorem step1 (n : Nat) : (n / 2 &&& 6148914691236517205) + (n &&& 6148914691236517205) = comb g1 8 n := by
  have e : 6148914691236517205 = rep 85 8 := by decide
  rw [e, shift_rep 2 85 128 (by decide) (by decide) (by decide) (fun b c hb hc => mask1 b hb c hc), and_rep 85 (by decide), comb_add]
  rfl
theorem step2 (n : Nat) : (n / 4 &&& 3689348814741910323) + (n &&& 3689348814741910323) = comb g2 8 n := by
  have e : 3689348814741910323 = rep 51 8 := by decide
  rw [e, shift_rep 4 51 64 (by decide) (by decide) (by decide) (fun b c hb hc => mask2 b hb c hc), and_rep 51 (by decide), comb_add]
  rfl
theorem comb_low (h : Nat → Nat) (hh : ∀ b, b < 256 → h b % 16 ≤ 4) : ∀ k n, comb h k n % 16 ≤ 4
  | 0, _ => by simp [comb]
  | k + 1, n => by have := hh (n % 256) (by omega); simp only [comb]; omega
/-- The third step: each byte's halves are at most 4, so their sum stays within. -/
theorem step3' (h : Nat → Nat) (hh : ∀ b, b < 256 → h b % 16 ≤ 4 ∧ h b / 16 ≤ 4) : ∀ k n, (comb h k n / 16 + comb h k n) &&& rep 15 k = comb (fun b => g3 (h b)) k n
  | 0, n => by simp [rep, comb]
  | k + 1, n => by
    have hb := hh (n % 256) (by omega)
    have hc := comb_low h (fun b hb => (hh b hb).1) k (n / 256)
    have ih := step3' h hh k (n / 256)
    simp only [comb, rep]
    generalize hB : h (n % 256) = B at *
    generalize comb h k (n / 256) = C at *
    have e1 : (B + 256 * C) / 16 + (B + 256 * C) = (B / 16 + B + 16 * (C % 16)) + 256 * (C / 16 + C) := by omega
    rw [e1, and_split _ 15 _ _ (by omega) (by decide), ih]
    have e15 : ∀ a, a &&& 15 = a % 16 := fun a => Nat.and_two_pow_sub_one_eq_mod a 4
    unfold g3
    rw [e15, e15]
    omega
/-- How many bits of a byte are 1, as the three steps make it. -/
def pb (b : Nat) : Nat := g3 (g2 (g1 b))
theorem pb_cnt : ∀ b, b < 256 → pb b = cnt b.testBit 8 := by decide +kernel
theorem pb_le (b : Nat) (h : b < 256) : pb b ≤ 8 := by rw [pb_cnt b h]; exact cnt_le _ _
theorem three (n : Nat) : (comb g2 8 (comb g1 8 n) / 16 + comb g2 8 (comb g1 8 n)) &&& 1085102592571150095 = comb pb 8 n := by
  have e : 1085102592571150095 = rep 15 8 := by decide
  rw [e, comb_comb g2 g1 (by decide +kernel), step3' _ (by decide +kernel)]
  rfl
/-- The bits of all bytes, added up. -/
def tot (f : Nat → Nat) : Nat → Nat → Nat
  | 0, _ => 0
  | k + 1, n => f (n % 256) + tot f k (n / 256)
theorem tot_cnt : ∀ k n, tot pb k n = cnt n.testBit (8 * k)
  | 0, _ => rfl
  | k + 1, n => by
    rw [show 8 * (k + 1) = 8 + 8 * k from by omega, cnt_add]
    simp only [tot]
    rw [tot_cnt k, pb_cnt _ (by omega)]
    have e1 : cnt (n % 256).testBit 8 = cnt n.testBit 8 := cnt_congr fun i hi => by
      have := Nat.testBit_mod_two_pow n 8 i
      rw [show (256 : Nat) = 2 ^ 8 from rfl, this]
      simp [hi]
    have e2 : cnt (n / 256).testBit (8 * k) = cnt (fun i => n.testBit (8 + i)) (8 * k) := cnt_congr fun i _ => by
      rw [show (256 : Nat) = 2 ^ 8 from rfl, Nat.testBit_div_two_pow, Nat.add_comm]
    rw [e1, e2]
theorem cut_div (L H n : Nat) (d : Nat) (hd : L < d) (h : n = L + d * H) : n / d = H := by
  subst h
  rw [Nat.add_mul_div_left _ _ (by omega), Nat.div_eq_of_lt hd, Nat.zero_add]
theorem fold8 (b0 b1 b2 b3 b4 b5 b6 b7 : Nat) (a0 : b0 ≤ 8) (a1 : b1 ≤ 8) (a2 : b2 ≤ 8) (a3 : b3 ≤ 8) (a4 : b4 ≤ 8) (a5 : b5 ≤ 8) (a6 : b6 ≤ 8) (a7 : b7 ≤ 8) (x4 x5 x6 : Nat)
    (h4 : x4 = b0 + 256 * (b1 + 256 * (b2 + 256 * (b3 + 256 * (b4 + 256 * (b5 + 256 * (b6 + 256 * (b7 + 256 * 0))))))) + (b0 + 256 * (b1 + 256 * (b2 + 256 * (b3 + 256 * (b4 + 256 * (b5 + 256 * (b6 + 256 * (b7 + 256 * 0)))))))) / 256)
    (h5 : x5 = x4 + x4 / 65536) (h6 : x6 = x5 + x5 / 4294967296) :
    x4 < 18446744073709551616 ∧ x5 < 18446744073709551616 ∧ x6 < 18446744073709551616 ∧ x6 % 128 = b0 + (b1 + (b2 + (b3 + (b4 + (b5 + (b6 + (b7 + 0))))))) := by
  rw [cut_div b0 (b1 + 256 * (b2 + 256 * (b3 + 256 * (b4 + 256 * (b5 + 256 * (b6 + 256 * (b7 + 256 * 0))))))) _ 256 (by omega) rfl] at h4
  have r4 : x4 = (b0 + b1 + 256 * (b1 + b2)) + 65536 * ((b2 + b3) + 256 * ((b3 + b4) + 256 * ((b4 + b5) + 256 * ((b5 + b6) + 256 * ((b6 + b7) + 256 * b7))))) := by omega
  clear h4
  rw [cut_div _ _ _ 65536 (by omega) r4] at h5
  have r5 : x5 = (b0 + b1 + b2 + b3 + 256 * (b1 + b2 + b3 + b4) + 65536 * (b2 + b3 + b4 + b5) + 16777216 * (b3 + b4 + b5 + b6)) + 4294967296 * ((b4 + b5 + b6 + b7) + 256 * ((b5 + b6 + b7) + 256 * ((b6 + b7) + 256 * b7))) := by omega
  clear h5
  rw [cut_div _ _ _ 4294967296 (by omega) r5] at h6
  have r6 : x6 = (b0 + b1 + b2 + b3 + b4 + b5 + b6 + b7) + 128 * (2 * (b1 + b2 + b3 + b4 + (b5 + b6 + b7) + 256 * (b2 + b3 + b4 + b5 + (b6 + b7)) + 65536 * (b3 + b4 + b5 + b6 + b7)) + 33554432 * ((b4 + b5 + b6 + b7) + 256 * ((b5 + b6 + b7) + 256 * ((b6 + b7) + 256 * b7)))) := by omega
  clear h6
  have c4 : x4 ≤ 16 * 72340172838076673 := by clear r5 r6; omega
  have c5 : x5 ≤ 32 * 72340172838076673 := by clear r4 r6 c4; omega
  have c6 : x6 ≤ 64 * 72340172838076673 := by clear r4 r5 c4 c5; omega
  clear r4 r5
  refine ⟨by omega, by omega, by omega, ?_⟩
  rw [r6, Nat.add_mul_mod_self_left, Nat.mod_eq_of_lt (by omega)]
  omega
theorem fold_bytes (x : Nat) (hx : ∀ b, b < 256 → pb b ≤ 8) (x4 x5 x6 : Nat) (h4 : x4 = comb pb 8 x + comb pb 8 x / 256) (h5 : x5 = x4 + x4 / 65536) (h6 : x6 = x5 + x5 / 4294967296) :
    x4 < 18446744073709551616 ∧ x5 < 18446744073709551616 ∧ x6 < 18446744073709551616 ∧ x6 % 128 = tot pb 8 x := by
  have a0 := hx (x % 256) (by omega)
  have a1 := hx (x / 256 % 256) (by omega)
  have a2 := hx (x / 256 / 256 % 256) (by omega)
  have a3 := hx (x / 256 / 256 / 256 % 256) (by omega)
  have a4 := hx (x / 256 / 256 / 256 / 256 % 256) (by omega)
  have a5 := hx (x / 256 / 256 / 256 / 256 / 256 % 256) (by omega)
  have a6 := hx (x / 256 / 256 / 256 / 256 / 256 / 256 % 256) (by omega)
  have a7 := hx (x / 256 / 256 / 256 / 256 / 256 / 256 / 256 % 256) (by omega)
  simp only [comb, tot] at h4 ⊢
  generalize pb (x % 256) = b0 at *
  generalize pb (x / 256 % 256) = b1 at *
  generalize pb (x / 256 / 256 % 256) = b2 at *
  generalize pb (x / 256 / 256 / 256 % 256) = b3 at *
  generalize pb (x / 256 / 256 / 256 / 256 % 256) = b4 at *
  generalize pb (x / 256 / 256 / 256 / 256 / 256 % 256) = b5 at *
  generalize pb (x / 256 / 256 / 256 / 256 / 256 / 256 % 256) = b6 at *
  generalize pb (x / 256 / 256 / 256 / 256 / 256 / 256 / 256 % 256) = b7 at *
  clear hx
  exact fold8 b0 b1 b2 b3 b4 b5 b6 b7 a0 a1 a2 a3 a4 a5 a6 a7 x4 x5 x6 h4 h5 h6

/- The same in the spelling that a walk leaves. -/
theorem and64 (a : Nat) (ha : a < 18446744073709551616) (b : Nat) (hb : b < 18446744073709551616) : bits .and .u64 (a : Int) (b : Int) = ((a &&& b : Nat) : Int) := u64_and_nat a b ha hb
theorem wrap64u (a : Nat) (ha : a < 18446744073709551616) : IntKind.u64.wrap (a : Int) = a := by rw [IntKind.wrap_u64]; omega
theorem w1 (x : Nat) (hx : x < 18446744073709551616) :
    IntKind.u64.wrap (bits .and .u64 ((x : Int) / 2) 6148914691236517205 + bits .and .u64 (x : Int) 6148914691236517205) = ((comb g1 8 x : Nat) : Int) := by
  have e1 := and64 (x / 2) (by omega) 6148914691236517205 (by decide)
  have e2 := and64 x hx 6148914691236517205 (by decide)
  have hlt : comb g1 8 x < 256 ^ 8 := comb_lt g1 (by decide +kernel) 8 x
  have e3 : ((x : Int) / 2) = ((x / 2 : Nat) : Int) := by omega
  have s := step1 x
  rw [e3]
  erw [e1, e2]
  rw [← Int.natCast_add, s, wrap64u _ (by simpa using hlt)]
theorem g1_lt : ∀ b, b < 256 → g1 b < 256 := by decide +kernel
theorem g2_lt : ∀ b, b < 256 → g2 b < 256 := by decide +kernel
theorem g21_le : ∀ b, b < 256 → g2 (g1 b) ≤ 68 := by decide +kernel
theorem comb_le (f : Nat → Nat) (c : Nat) (hf : ∀ b, b < 256 → f b ≤ c) : ∀ k n, comb f k n ≤ c * rep 1 k
  | 0, _ => by simp [comb]
  | k + 1, n => by
    have h1 := hf (n % 256) (by omega)
    have h2 := comb_le f c hf k (n / 256)
    have h3 : c * (1 + 256 * rep 1 k) = c + 256 * (c * rep 1 k) := by
      rw [Nat.mul_add, Nat.mul_one, Nat.mul_left_comm]
    simp only [comb, rep]
    omega
theorem comb64 (f : Nat → Nat) (hf : ∀ b, b < 256 → f b < 256) (n : Nat) : comb f 8 n < 18446744073709551616 := by
  have := comb_lt f hf 8 n
  simpa using this
theorem w2 (n : Nat) (hn : n < 18446744073709551616) :
    IntKind.u64.wrap (bits .and .u64 ((n : Int) / 4) 3689348814741910323 + bits .and .u64 (n : Int) 3689348814741910323) = ((comb g2 8 n : Nat) : Int) := by
  have e1 := and64 (n / 4) (by omega) 3689348814741910323 (by decide)
  have e2 := and64 n hn 3689348814741910323 (by decide)
  have e3 : ((n : Int) / 4) = ((n / 4 : Nat) : Int) := by omega
  have s := step2 n
  rw [e3]
  erw [e1, e2]
  rw [← Int.natCast_add, s, wrap64u _ (comb64 g2 g2_lt n)]
theorem w3 (x : Nat) :
    bits .and .u64 (IntKind.u64.wrap (((comb g2 8 (comb g1 8 x) : Nat) : Int) / 16 + ((comb g2 8 (comb g1 8 x) : Nat) : Int))) 1085102592571150095 = ((comb pb 8 x : Nat) : Int) := by
  have s := three x
  have hle : comb g2 8 (comb g1 8 x) ≤ 68 * 72340172838076673 := by
    rw [comb_comb g2 g1 g1_lt]
    exact comb_le _ 68 g21_le 8 x
  generalize comb g2 8 (comb g1 8 x) = n at *
  have e1 : IntKind.u64.wrap ((n : Int) / 16 + (n : Int)) = ((n / 16 + n : Nat) : Int) := by rw [IntKind.wrap_u64]; omega
  rw [e1]
  exact (and64 (n / 16 + n) (by omega) 1085102592571150095 (by decide)).trans (by rw [s])
/-- How many bits of a word are 1. -/
def pop (x : Nat) : Nat := cnt x.testBit 64
theorem pop_le (x : Nat) : pop x ≤ 64 := cnt_le _ _
/-- What the last three sums leave. -/
theorem w456 (x : Nat) : ∃ x4 x5 x6 : Nat, x6 < 18446744073709551616 ∧ x6 % 128 = pop x ∧
    IntKind.u64.wrap (((comb pb 8 x : Nat) : Int) + ((comb pb 8 x : Nat) : Int) / 256) = (x4 : Int) ∧ IntKind.u64.wrap ((x4 : Int) + (x4 : Int) / 65536) = (x5 : Int) ∧ IntKind.u64.wrap ((x5 : Int) + (x5 : Int) / 4294967296) = (x6 : Int) := by
  have ht := tot_cnt 8 x
  generalize hC : comb pb 8 x = C
  obtain ⟨x4, hx4⟩ : ∃ x4, x4 = C + C / 256 := ⟨_, rfl⟩
  obtain ⟨x5, hx5⟩ : ∃ x5, x5 = x4 + x4 / 65536 := ⟨_, rfl⟩
  obtain ⟨x6, hx6⟩ : ∃ x6, x6 = x5 + x5 / 4294967296 := ⟨_, rfl⟩
  obtain ⟨h4, h5, h6, h⟩ := fold_bytes x pb_le x4 x5 x6 (by rw [hC]; exact hx4) hx5 hx6
  refine ⟨x4, x5, x6, h6, by rw [h, ht]; rfl, ?_, ?_, ?_⟩
  · rw [IntKind.wrap_u64]; omega
  · rw [IntKind.wrap_u64]; omega
  · rw [IntKind.wrap_u64]; omega

open Go.RowKit in
theorem ofInt_wrap64 (n : Int) : BitVec.ofInt 64 (wrap64 n) = BitVec.ofInt 64 n := by
  apply BitVec.eq_of_toNat_eq
  rw [BitVec.toNat_ofInt, BitVec.toNat_ofInt]
  unfold wrap64
  congr 1
  simp
open Go.RowKit in
theorem and127 (x : Nat) (hx : x < 18446744073709551616) : bits .and .i64 (wrap64 (x : Int)) 127 = ((x % 128 : Nat) : Int) := by
  show IntKind.i64.wrap ((BitVec.ofInt 64 (wrap64 (x : Int)) &&& BitVec.ofInt 64 ((127 : Nat) : Int)).toNat : Int) = _
  rw [ofInt_wrap64, BitVec.toNat_and, ofInt_u64 x hx, ofInt_u64 127 (by decide), Nat.and_two_pow_sub_one_eq_mod x 7]
  have : x % 2 ^ 7 < 128 := Nat.mod_lt _ (by decide)
  simp only [IntKind.wrap, IntKind.bits, IntKind.signed]
  simp
  omega

/- The lowest k bits, all 1. -/
def low (k : Nat) : Nat := 2 ^ (min k 64) - 1
theorem low_lt (k : Nat) : low k < 18446744073709551616 := by
  have : 2 ^ (min k 64) ≤ 2 ^ 64 := Nat.pow_le_pow_right (by decide) (by omega)
  unfold low; omega
theorem testBit_low (k i : Nat) : (low k).testBit i = decide (i < min k 64) := Nat.testBit_two_pow_sub_one ..
/-- All bits of a word turned. -/
def neg (x : Nat) : Nat := 18446744073709551615 - x
theorem neg_lt (x : Nat) : neg x < 18446744073709551616 := by unfold neg; omega
theorem testBit_neg {x : Nat} (hx : x < 18446744073709551616) (i : Nat) : (neg x).testBit i = (decide (i < 64) && !x.testBit i) := by
  have := Nat.testBit_two_pow_sub_succ (x := x) (n := 64) hx i
  rw [← this]
  congr 1
  unfold neg
  omega
theorem testBit_neg_lt {x : Nat} (hx : x < 18446744073709551616) {i : Nat} (hi : i < 64) : (neg x).testBit i = !x.testBit i := by
  rw [testBit_neg hx]; simp [hi]

theorem ext64 {x y : Nat} (hx : x < 18446744073709551616) (hy : y < 18446744073709551616) (h : ∀ i, i < 64 → x.testBit i = y.testBit i) : x = y := by
  apply Nat.eq_of_testBit_eq
  intro i
  by_cases hi : i < 64
  · exact h i hi
  · rw [testBit_hi hx (by omega), testBit_hi hy (by omega)]

/-- A bit goes in at k. -/
def put (x k : Nat) (b : Bool) : Nat := ((x &&& low k) ||| ((x &&& neg (low k)) * 2 % 18446744073709551616)) ||| (b.toNat * 2 ^ k % 18446744073709551616)
theorem or_lt {a b : Nat} (ha : a < 18446744073709551616) (hb : b < 18446744073709551616) : a ||| b < 18446744073709551616 := Nat.or_lt_two_pow (n := 64) ha hb
theorem and_lt (a : Nat) {b : Nat} (hb : b < 18446744073709551616) : a &&& b < 18446744073709551616 := Nat.and_lt_two_pow (n := 64) a hb
theorem put_lt (x k : Nat) (b : Bool) : put x k b < 18446744073709551616 :=
  or_lt (or_lt (and_lt _ (low_lt k)) (Nat.mod_lt _ (by decide))) (Nat.mod_lt _ (by decide))
theorem mod64_bit (n i : Nat) : (n % 18446744073709551616).testBit i = (decide (i < 64) && n.testBit i) := Nat.testBit_mod_two_pow n 64 i
theorem one_bit (b : Bool) (k i : Nat) : (b.toNat * 2 ^ k).testBit i = (decide (i = k) && b) := by
  cases b
  · simp
  · simp only [Bool.toNat_true, Nat.one_mul, Nat.testBit_two_pow, Bool.and_true]
    exact decide_eq_decide.2 eq_comm
theorem testBit_double (n i : Nat) : (n * 2).testBit i = (decide (1 ≤ i) && n.testBit (i - 1)) := by
  have := Nat.testBit_mul_two_pow n i 1
  simpa using this
theorem testBit_put {x k : Nat} (hk : k < 64) (b : Bool) (i : Nat) (hi : i < 64) :
    (put x k b).testBit i = if i < k then x.testBit i else if i = k then b else x.testBit (i - 1) := by
  unfold put
  simp only [Nat.testBit_or, Nat.testBit_and, mod64_bit, one_bit, testBit_double, testBit_neg (low_lt k), testBit_low]
  have hm : min k 64 = k := by omega
  rw [hm]
  by_cases h1 : i < k
  · have : ¬ i = k := by omega
    have h3 : i - 1 < k := by omega
    simp [h1, this, h3]
  · by_cases h2 : i = k
    · subst h2
      by_cases h0 : 1 ≤ i
      · have h3 : i - 1 < i := by omega
        simp [h3, hi]
      · have h3 : i = 0 := by omega
        subst h3
        simp
    · have h3 : ¬ i - 1 < k := by omega
      have h4 : 1 ≤ i := by omega
      have h5 : i - 1 < 64 := by omega
      simp [h1, h2, h3, h4, h5, hi]

/-- A bit goes out at k, and one comes in as the highest. -/
def cut (x k : Nat) (b : Bool) : Nat := ((x &&& low k) ||| (x / 2 &&& neg (low k))) ||| (b.toNat * 9223372036854775808)
theorem cut_lt (x k : Nat) (b : Bool) : cut x k b < 18446744073709551616 :=
  or_lt (or_lt (and_lt _ (low_lt k)) (and_lt _ (neg_lt _))) (by have := Bool.toNat_le b; omega)
theorem testBit_cut {x k : Nat} (hx : x < 18446744073709551616) (hk : k < 64) (b : Bool) (i : Nat) (hi : i < 64) :
    (cut x k b).testBit i = if i < k then x.testBit i else if i = 63 then b else x.testBit (i + 1) := by
  have h63 : (b.toNat * 9223372036854775808).testBit i = (decide (i = 63) && b) := one_bit b 63 i
  have hdiv : (x / 2).testBit i = x.testBit (i + 1) := by rw [Nat.testBit_succ]
  unfold cut
  simp only [Nat.testBit_or, Nat.testBit_and, h63, hdiv, testBit_neg (low_lt k), testBit_low]
  have hm : min k 64 = k := by omega
  rw [hm]
  by_cases h1 : i < k
  · have h2 : ¬ i = 63 := by omega
    simp [h1, h2]
  · by_cases h2 : i = 63
    · subst h2
      have := testBit_hi hx (i := 64) (by omega)
      simp [h1, this]
    · simp [h1, h2, hi]

/- In the spelling that a walk leaves. -/
theorem or64 (a : Nat) (ha : a < 18446744073709551616) (b : Nat) (hb : b < 18446744073709551616) : bits .or .u64 (a : Int) (b : Int) = ((a ||| b : Nat) : Int) := u64_or_nat a b ha hb
theorem andNot64 (a : Nat) (ha : a < 18446744073709551616) (b : Nat) (hb : b < 18446744073709551616) : bits .andNot .u64 (a : Int) (b : Int) = ((a &&& neg b : Nat) : Int) := u64_andNot_nat a b ha hb
theorem wrapMod (a : Nat) : IntKind.u64.wrap (a : Int) = ((a % 18446744073709551616 : Nat) : Int) := by rw [IntKind.wrap_u64]; omega
theorem bit_at (x k : Nat) (hx : x < 18446744073709551616) : (bits .and .u64 ((x : Int) / 2 ^ k) 1 == 1) = x.testBit k := by
  have e : ((x : Int) / 2 ^ k) = ((x / 2 ^ k : Nat) : Int) := by simp
  have hlt : x / 2 ^ k < 18446744073709551616 := Nat.lt_of_le_of_lt (Nat.div_le_self _ _) hx
  have h1 := and64 (x / 2 ^ k) hlt 1 (by decide)
  rw [e]
  rw [show ((1 : Nat) : Int) = 1 from rfl] at h1
  rw [h1, Nat.testBit_eq_decide_div_mod_eq, Nat.and_one_is_mod]
  rw [Bool.eq_iff_iff]
  simp only [beq_iff_eq, decide_eq_true_eq]
  omega

theorem put_key (x k : Nat) (b : Bool) (hx : x < 18446744073709551616) :
    bits .or .u64 (bits .or .u64 (bits .and .u64 (x : Int) (low k : Int)) (IntKind.u64.wrap (bits .andNot .u64 (x : Int) (low k : Int) * 2))) (IntKind.u64.wrap ((b.toNat : Int) * 2 ^ k)) = ((put x k b : Nat) : Int) := by
  have e1 := and64 x hx (low k) (low_lt k)
  have e2 := andNot64 x hx (low k) (low_lt k)
  have e3 : (((x &&& neg (low k) : Nat) : Int) * 2) = (((x &&& neg (low k)) * 2 : Nat) : Int) := by simp
  have e4 : ((b.toNat : Int) * 2 ^ k) = ((b.toNat * 2 ^ k : Nat) : Int) := by simp
  rw [e1, e2, e3, e4, wrapMod, wrapMod, or64 _ (and_lt _ (low_lt k)) _ (Nat.mod_lt _ (by decide)), or64 _ (or_lt (and_lt _ (low_lt k)) (Nat.mod_lt _ (by decide))) _ (Nat.mod_lt _ (by decide))]
  rfl
/-- A bit as the highest of a word. -/
def hib (b : Bool) : Nat := b.toNat * 9223372036854775808
theorem hib_key (b : Bool) : IntKind.u64.wrap ((b.toNat : Int) * 9223372036854775808) = ((hib b : Nat) : Int) := by
  have hb := Bool.toNat_le b
  unfold hib
  rw [IntKind.wrap_u64]; omega
theorem cut_key (x k : Nat) (b : Bool) (hx : x < 18446744073709551616) :
    bits .or .u64 (bits .or .u64 (bits .and .u64 (x : Int) (low k : Int)) (bits .andNot .u64 ((x : Int) / 2) (low k : Int))) (hib b : Int) = ((cut x k b : Nat) : Int) := by
  have hb := Bool.toNat_le b
  have e0 : ((x : Int) / 2) = ((x / 2 : Nat) : Int) := by omega
  have e1 := and64 x hx (low k) (low_lt k)
  have e2 := andNot64 (x / 2) (by omega) (low k) (low_lt k)
  rw [e0, e1, e2, or64 _ (and_lt _ (low_lt k)) _ (and_lt _ (neg_lt _)), or64 _ (or_lt (and_lt _ (low_lt k)) (and_lt _ (neg_lt _))) _ (by unfold hib; omega)]
  rfl

/- The lowest 1 of a word, and the word without it. -/
theorem ctz_bits (x : Nat) (h0 : x ≠ 0) (hx : x < 18446744073709551616) : Lib.ctz 64 x < 64 ∧ ∀ i,
    x.testBit i = (decide (Lib.ctz 64 x ≤ i) && x.testBit i) ∧ x.testBit (Lib.ctz 64 x) = true ∧ (x &&& (x - 1)).testBit i = (x.testBit i && !decide (i = Lib.ctz 64 x)) := by
  obtain ⟨m, hm, hc⟩ := Lib.ctzFrom_spec 64 x (by omega) hx
  have e : Lib.ctz 64 x = Lib.ctzFrom 64 x := by simp [Lib.ctz, h0]
  rw [e]
  generalize Lib.ctzFrom 64 x = c at *
  refine ⟨hc, fun i => ?_⟩
  have b1 : ∀ j, x.testBit j = (decide (c ≤ j) && (2 * m + 1).testBit (j - c)) := fun j => by
    have := Nat.testBit_mul_two_pow (2 * m + 1) j c
    rw [hm, Nat.mul_comm, this]
  have hp : 0 < 2 ^ c := Nat.pow_pos (by decide)
  have hx1 : x - 1 = 2 ^ c * (2 * m) + (2 ^ c - 1) := by
    rw [hm, Nat.mul_add]
    omega
  have b2 : ∀ j, (x - 1).testBit j = if j < c then true else (2 * m).testBit (j - c) := fun j => by
    rw [hx1, Nat.testBit_two_pow_mul_add _ (by omega)]
    by_cases hj : j < c
    · simp [hj]
    · simp [hj]
  refine ⟨?_, ?_, ?_⟩
  · rw [b1 i]; cases decide (c ≤ i) <;> simp
  · rw [b1 c]; simp
  · rw [Nat.testBit_and, b1 i, b2 i]
    by_cases h : i < c
    · have : ¬ c ≤ i := by omega
      simp [h, this]
    · have h' : c ≤ i := by omega
      by_cases h2 : i = c
      · subst h2; simp
      · obtain ⟨d, rfl⟩ : ∃ d, i = c + (d + 1) := ⟨i - c - 1, by omega⟩
        have e1 : c + (d + 1) - c = d + 1 := by omega
        simp only [h, if_false, e1, Nat.testBit_succ, h2, decide_false, Bool.not_false, Bool.and_true]
        have d1 : (2 * m + 1) / 2 = m := by omega
        have d2 : 2 * m / 2 = m := by omega
        rw [d1, d2]
        cases decide (c ≤ c + (d + 1)) <;> simp
def clr (x : Nat) : Nat := x &&& (x - 1)
theorem clr_lt {x : Nat} (hx : x < 18446744073709551616) : clr x < 18446744073709551616 := and_lt _ (by omega)
def sel : Nat → Nat → Nat
  | 0, x => Lib.ctz 64 x
  | j + 1, x => sel j (clr x)
theorem cnt_one_less {f g : Nat → Bool} {c : Nat} (hf : f c = true) (hg : ∀ i, g i = (f i && !decide (i = c))) : ∀ n, cnt f n = cnt g n + if c < n then 1 else 0
  | 0 => rfl
  | n + 1 => by
    have ih := cnt_one_less hf hg n
    simp only [cnt]
    rw [ih, hg n]
    by_cases h : n = c
    · subst h; simp [hf]
    · by_cases h2 : c < n
      · have : c < n + 1 := by omega
        simp [h, h2, this]; omega
      · have : ¬ c < n + 1 := by omega
        simp [h, h2, this]
theorem cnt_zero {f : Nat → Bool} : ∀ {n}, (∀ i, i < n → f i = false) → cnt f n = 0
  | 0, _ => rfl
  | n + 1, h => by simp only [cnt]; rw [cnt_zero (fun i hi => h i (by omega)), h n (by omega)]; rfl
theorem sel_spec : ∀ j x, x < 18446744073709551616 → j < pop x → sel j x < 64 ∧ x.testBit (sel j x) = true ∧ cnt x.testBit (sel j x) = j
  | 0, x, hx, hj => by
    have h0 : x ≠ 0 := by
      rintro rfl
      have : pop 0 = 0 := cnt_zero (fun i _ => Nat.zero_testBit i)
      omega
    have hc := (ctz_bits x h0 hx).1
    have hb := fun i => (ctz_bits x h0 hx).2 i
    refine ⟨hc, (hb 0).2.1, cnt_zero fun i hi => ?_⟩
    rw [(hb i).1]
    have : ¬ Lib.ctz 64 x ≤ i := by simp only [sel] at hi; omega
    simp [this]
  | j + 1, x, hx, hj => by
    have h0 : x ≠ 0 := by
      rintro rfl
      have : pop 0 = 0 := cnt_zero (fun i _ => Nat.zero_testBit i)
      omega
    have hc := (ctz_bits x h0 hx).1
    have hb := fun i => (ctz_bits x h0 hx).2 i
    have one := cnt_one_less (f := x.testBit) (g := (clr x).testBit) (c := Lib.ctz 64 x) (hb 0).2.1 (fun i => (hb i).2.2)
    have hp : pop x = pop (clr x) + 1 := by have := one 64; simp only [hc, if_true] at this; exact this
    obtain ⟨i1, i2, i3⟩ := sel_spec j (clr x) (clr_lt hx) (by omega)
    have e2 := (hb (sel j (clr x))).2.2
    change (clr x).testBit _ = _ at e2
    rw [i2] at e2
    have hx1 : x.testBit (sel j (clr x)) = true := by cases h : x.testBit (sel j (clr x)) <;> simp [h] at e2 ⊢
    have hne : sel j (clr x) ≠ Lib.ctz 64 x := by intro h; simp [h] at e2
    have hge : Lib.ctz 64 x ≤ sel j (clr x) := by
      have := (hb (sel j (clr x))).1
      rw [hx1] at this
      simp at this
      exact this
    refine ⟨i1, hx1, ?_⟩
    show cnt x.testBit (sel j (clr x)) = j + 1
    have := one (sel j (clr x))
    have hlt : Lib.ctz 64 x < sel j (clr x) := by omega
    simp only [hlt, if_true] at this
    omega
theorem pop_pos {x : Nat} (h : 0 < pop x) : x ≠ 0 := by
  rintro rfl
  have : pop 0 = 0 := cnt_zero (fun i _ => Nat.zero_testBit i)
  omega
theorem pop_clr {x : Nat} (hx : x < 18446744073709551616) (h : 0 < pop x) : pop x = pop (clr x) + 1 := by
  have h0 := pop_pos h
  have hc := (ctz_bits x h0 hx).1
  have hb := fun i => (ctz_bits x h0 hx).2 i
  have one := cnt_one_less (f := x.testBit) (g := (clr x).testBit) (c := Lib.ctz 64 x) (hb 0).2.1 (fun i => (hb i).2.2) 64
  simp only [hc, if_true] at one
  exact one
theorem clr_key (x : Nat) (hx : x < 18446744073709551616) : bits .and .u64 (x : Int) (IntKind.u64.wrap ((x : Int) - 1)) = ((clr x : Nat) : Int) := by
  by_cases h0 : x = 0
  · subst h0; decide
  · have e : IntKind.u64.wrap ((x : Int) - 1) = ((x - 1 : Nat) : Int) := by rw [IntKind.wrap_u64]; omega
    rw [e, and64 x hx (x - 1) (by omega)]
    rfl
theorem tz_key (x : Nat) (hx : x < 18446744073709551616) (h0 : x ≠ 0) :
    IntKind.u64.wrap (bits .and .u64 (x : Int) (IntKind.u64.wrap (-(x : Int))) * 285870213051353865) / 288230376151711744 = ((2 ^ Lib.ctz 64 x * 285870213051353865 % 18446744073709551616 / 288230376151711744 : Nat) : Int) := by
  obtain ⟨hlow, _⟩ := Lib.lowest_bit 64 x h0 hx
  have e1 : IntKind.u64.wrap (-(x : Int)) = ((18446744073709551616 - x : Nat) : Int) := by rw [IntKind.wrap_u64]; omega
  have hl : x &&& (18446744073709551616 - x) = 2 ^ Lib.ctz 64 x := hlow
  rw [e1, and64 x hx _ (by omega), hl, IntKind.wrap_u64]
  generalize 2 ^ Lib.ctz 64 x = a
  omega
/-- What Select tells. -/
def selI (x : Nat) (j : Int) : Int := if 0 ≤ j ∧ j < pop x then (sel j.toNat x : Int) else -1

/- What goes in comes out again. -/
theorem bit_put {x k : Nat} (hk : k < 64) (b : Bool) : (put x k b).testBit k = b := by
  rw [testBit_put hk b k hk]; simp
theorem bit_cut {x k : Nat} (hx : x < 18446744073709551616) (hk : k < 64) (b : Bool) : (cut x k b).testBit 63 = b := by
  rw [testBit_cut hx hk b 63 (by decide)]
  have : ¬ 63 < k := by omega
  simp [this]
theorem cut_put {x k : Nat} (hx : x < 18446744073709551616) (hk : k < 64) (b : Bool) : cut (put x k b) k (x.testBit 63) = x := by
  refine ext64 (cut_lt _ _ _) hx fun i hi => ?_
  rw [testBit_cut (put_lt _ _ _) hk _ i hi]
  by_cases h1 : i < k
  · rw [if_pos h1, testBit_put hk b i hi, if_pos h1]
  · rw [if_neg h1]
    by_cases h2 : i = 63
    · rw [if_pos h2, h2]
    · rw [if_neg h2, testBit_put hk b (i + 1) (by omega), if_neg (by omega), if_neg (by omega), Nat.add_sub_cancel]
theorem put_cut {x k : Nat} (hx : x < 18446744073709551616) (hk : k < 64) (b : Bool) : put (cut x k b) k (x.testBit k) = x := by
  refine ext64 (put_lt _ _ _) hx fun i hi => ?_
  rw [testBit_put hk _ i hi]
  by_cases h1 : i < k
  · rw [if_pos h1, testBit_cut hx hk b i hi, if_pos h1]
  · rw [if_neg h1]
    by_cases h2 : i = k
    · rw [if_pos h2, h2]
    · rw [if_neg h2, testBit_cut hx hk b (i - 1) (by omega), if_neg (by omega), if_neg (by omega), Nat.sub_add_cancel (by omega)]
theorem pop_put {x k : Nat} (hk : k < 64) (b : Bool) : pop (put x k b) + (x.testBit 63).toNat = pop x + b.toNat := by
  have e64 : (64 : Nat) = k + (1 + (63 - k)) := by omega
  have ex : (64 : Nat) = k + ((63 - k) + 1) := by omega
  unfold pop
  conv => lhs; arg 1; rw [e64]
  conv => rhs; arg 1; rw [ex]
  rw [cnt_add, cnt_add (fun i => (put x k b).testBit (k + i)) 1, cnt_add x.testBit k]
  have c1 : cnt (put x k b).testBit k = cnt x.testBit k := cnt_congr fun i hi => by rw [testBit_put hk b i (by omega), if_pos hi]
  have c2 : cnt (fun i => (put x k b).testBit (k + i)) 1 = b.toNat := by
    simp [cnt, bit_put hk]
  have c3 : cnt (fun i => (put x k b).testBit (k + (1 + i))) (63 - k) = cnt (fun i => x.testBit (k + i)) (63 - k) := cnt_congr fun i hi => by
    rw [testBit_put hk b _ (by omega), if_neg (by omega), if_neg (by omega)]
    congr 1
    omega
  have c4 : cnt (fun i => x.testBit (k + i)) (63 - k + 1) = cnt (fun i => x.testBit (k + i)) (63 - k) + (x.testBit 63).toNat := by
    simp only [cnt]
    rw [show k + (63 - k) = 63 from by omega]
  rw [c1, c2, c3, c4]
  omega
theorem pop_neg {x : Nat} (hx : x < 18446744073709551616) : pop x + pop (neg x) = 64 := by
  have := cnt_not x.testBit 64
  have h2 : pop (neg x) = cnt (fun i => !x.testBit i) 64 := cnt_congr fun i hi => testBit_neg_lt hx hi
  unfold pop at *
  omega
/-- The 1s among the first k. -/
theorem pop_low {x k : Nat} : pop (x &&& low k) = cnt x.testBit (min k 64) := by
  have e : (64 : Nat) = min k 64 + (64 - min k 64) := by omega
  unfold pop
  conv => lhs; rw [e]
  rw [cnt_add]
  have c1 : cnt (x &&& low k).testBit (min k 64) = cnt x.testBit (min k 64) := cnt_congr fun i hi => by rw [Nat.testBit_and, testBit_low]; simp [hi]
  have c2 : cnt (fun i => (x &&& low k).testBit (min k 64 + i)) (64 - min k 64) = 0 := cnt_zero fun i _ => by rw [Nat.testBit_and, testBit_low]; simp
  rw [c1, c2, Nat.add_zero]
theorem pop_shift {x k : Nat} (hx : x < 18446744073709551616) (hk : k ≤ 64) : pop x = cnt x.testBit k + pop (x / 2 ^ k) := by
  have e : (64 : Nat) = k + (64 - k) := by omega
  have c1 : pop (x / 2 ^ k) = cnt (fun i => x.testBit (k + i)) (64 - k) := by
    have e2 : (64 : Nat) = (64 - k) + k := by omega
    unfold pop
    conv => lhs; rw [e2]
    rw [cnt_add]
    have z : cnt (fun i => (x / 2 ^ k).testBit (64 - k + i)) k = 0 := cnt_zero fun i _ => by rw [Nat.testBit_div_two_pow]; exact testBit_hi hx (by omega)
    rw [z, Nat.add_zero]
    exact cnt_congr fun i _ => by rw [Nat.testBit_div_two_pow, Nat.add_comm]
  rw [c1]
  unfold pop
  conv => lhs; rw [e]
  rw [cnt_add]
theorem xor_neg (x : Nat) (hx : x < 18446744073709551616) : bits .xor .u64 IntKind.u64.max (x : Int) = ((neg x : Nat) : Int) := by
  have e : IntKind.u64.max = ((18446744073709551615 : Nat) : Int) := by decide
  rw [e, u64_xor_nat _ x (by decide) hx]
  congr 1
  refine ext64 (Nat.xor_lt_two_pow (n := 64) (by decide) hx) (neg_lt x) fun i hi => ?_
  have h1 : Nat.testBit 18446744073709551615 i = decide (i < 64) := Nat.testBit_two_pow_sub_one 64 i
  rw [Nat.testBit_xor, testBit_neg_lt hx hi, h1]
  simp [hi]
theorem mod_key (k : Int) (m : Nat) (hm : m = 64 ∨ m = 65) : ∃ n : Nat, n < m ∧ RowKit.wrap64 ((IntKind.u64.wrap k).tmod m) = (n : Int) := by
  rw [IntKind.wrap_u64]
  refine ⟨(k % 18446744073709551616 % m).toNat, ?_, ?_⟩
  · rcases hm with rfl | rfl <;> omega
  · have h0 : 0 ≤ k % 18446744073709551616 := Int.emod_nonneg _ (by decide)
    rw [Int.tmod_eq_emod_of_nonneg h0]
    unfold RowKit.wrap64
    rcases hm with rfl | rfl <;> omega

theorem cnt_succ (f : Nat → Bool) (k : Nat) : cnt f (k + 1) = cnt f k + (f k).toNat := rfl
theorem sel_step {x j : Nat} (hx : x < 18446744073709551616) (hj : j + 1 < pop x) : sel j x < sel (j + 1) x := by
  obtain ⟨a1, a2, a3⟩ := sel_spec j x hx (by omega)
  obtain ⟨b1, b2, b3⟩ := sel_spec (j + 1) x hx hj
  apply Nat.lt_of_not_le
  intro h
  have := cnt_mono x.testBit h
  omega
theorem sel_inj {x i j : Nat} (hx : x < 18446744073709551616) (hi : i < pop x) (hj : j < pop x) (h : sel i x = sel j x) : i = j := by
  have a := (sel_spec i x hx hi).2.2
  have b := (sel_spec j x hx hj).2.2
  rw [h] at a
  omega
/-- The place of the 1 ahead of the j-th; -1 of none. -/
def selP (x : Nat) : Nat → Int
  | 0 => -1
  | j + 1 => (sel j x : Int)
theorem selP_lt {x j : Nat} (hx : x < 18446744073709551616) (hj : j < pop x) : selP x j < (sel j x : Int) := by
  cases j with
  | zero => simp only [selP]; omega
  | succ j => have := sel_step hx hj; simp only [selP]; omega
theorem selI_of {x j : Nat} (hj : j < pop x) : selI x (j : Int) = (sel j x : Int) := by
  unfold selI
  rw [if_pos ⟨by omega, by omega⟩, Int.toNat_natCast]

/-- The places of a word's 1s, and behind them those of its 0s. -/
def place (x j : Nat) : Nat := if j < pop x then sel j x else sel (j - pop x) (neg x)
theorem place_spec {x j : Nat} (hx : x < 18446744073709551616) (hj : j < 64) : place x j < 64 ∧ x.testBit (place x j) = decide (j < pop x) := by
  have hn := pop_neg hx
  unfold place
  by_cases h : j < pop x
  · rw [if_pos h]
    obtain ⟨a1, a2, _⟩ := sel_spec j x hx h
    exact ⟨a1, by simp [a2, h]⟩
  · rw [if_neg h]
    obtain ⟨a1, a2, _⟩ := sel_spec (j - pop x) (neg x) (neg_lt x) (by omega)
    rw [testBit_neg_lt hx a1] at a2
    refine ⟨a1, ?_⟩
    simp only [h, decide_false]
    simpa using a2
theorem place_inj {x i j : Nat} (hx : x < 18446744073709551616) (hi : i < 64) (hj : j < 64) (h : place x i = place x j) : i = j := by
  have hn := pop_neg hx
  have a := (place_spec hx hi).2
  have b := (place_spec hx hj).2
  rw [h, b] at a
  have a' := decide_eq_decide.1 a
  unfold place at h
  by_cases h1 : i < pop x
  · have h2 : j < pop x := a'.2 h1
    rw [if_pos h1, if_pos h2] at h
    exact sel_inj hx h1 h2 h
  · have h2 : ¬ j < pop x := fun h3 => h1 (a'.1 h3)
    rw [if_neg h1, if_neg h2] at h
    have := sel_inj (neg_lt x) (by omega) (by omega) h
    omega
/-- Has a place been met among the first j? -/
def seen (x : Nat) : Nat → Nat → Bool
  | 0, _ => false
  | j + 1, i => seen x j i || place x j == i
theorem seen_not {x : Nat} (hx : x < 18446744073709551616) {k : Nat} (hk : k < 64) : ∀ j, j ≤ k → seen x j (place x k) = false
  | 0, _ => rfl
  | j + 1, h => by
    have h1 := seen_not hx hk j (by omega)
    have h2 : (place x j == place x k) = false := by
      rw [beq_eq_false_iff_ne]
      intro e
      have := place_inj hx (by omega) hk e
      omega
    simp only [seen, h1, h2, Bool.or_false]
end Wd
end Go.Proofs.YthbbokoeiifjdaaGreatDoor
namespace Go.Proofs.YthbbokoeiifjdaaGreatDoor
open Go Go.RowKit

theorem ret_int {k : IntKind} {a b : Int} (h : a = b) : Ending.returned (.int k a) = .returned (.int k b) := by rw [h]
theorem ret_bool {a b : Bool} (h : a = b) : Ending.returned (.bool a) = .returned (.bool b) := by rw [h]
end Go.Proofs.YthbbokoeiifjdaaGreatDoor
namespace Go.Proofs.YthbbokoeiifjdaaGreatDoor
open Go Go.RowKit

theorem _root_.Go.RowKit.Below.drewN {B : Nat} {a w : World} (h : Below B a w) (n : Nat) : Below B a (w.drewN n) := h.trans ⟨rfl, rfl, rfl, Nat.le_refl _, fun _ _ => rfl⟩
theorem new_cell {w : World} {c : Array Value} {t : TypeId} {n i : Nat} {v : Value} (hn : n = w.heap.size) (h : c[i]? = some v) : (w.alloc (.cells c t)).cell? ⟨n, i, none⟩ = some v :=
  (World.cell?_alloc_at _ _ _ _ hn).trans h

/-- Of the blocks that were there, those outside S are as they were. -/
structure Stay (S : Nat → Prop) (w w' : World) : Prop where
  os : w'.os = w.os
  tape : w'.tape = w.tape
  output : w'.output = w.output
  size : w.heap.size ≤ w'.heap.size
  block : ∀ k, k < w.heap.size → ¬ S k → w'.heap[k]? = w.heap[k]?
theorem Stay.refl (S : Nat → Prop) (w : World) : Stay S w w := ⟨rfl, rfl, rfl, Nat.le_refl _, fun _ _ _ => rfl⟩
theorem Stay.trans {S T : Nat → Prop} {a b c : World} (h : Stay S a b) (k : Stay T b c) (hT : ∀ i, i < a.heap.size → T i → S i) : Stay S a c :=
  ⟨k.os.trans h.os, k.tape.trans h.tape, k.output.trans h.output, Nat.le_trans h.size k.size, fun i hi hs => (k.block i (Nat.lt_of_lt_of_le hi h.size) (fun ht => hs (hT i hi ht))).trans (h.block i hi hs)⟩
theorem Stay.mono {S T : Nat → Prop} {a b : World} (h : Stay S a b) (hT : ∀ i, i < a.heap.size → S i → T i) : Stay T a b :=
  ⟨h.os, h.tape, h.output, h.size, fun i hi hs => h.block i hi (fun k => hs (hT i hi k))⟩
theorem Stay.of_below {S : Nat → Prop} {a b : World} (h : Below a.heap.size a b) : Stay S a b := ⟨h.os, h.tape, h.output, h.size, fun i hi _ => h.block i hi⟩
theorem Stay.below {S : Nat → Prop} {a b : World} {B : Nat} (h : Stay S a b) (hB : B ≤ a.heap.size) (hS : ∀ i, i < a.heap.size → S i → B ≤ i) : Below B a b :=
  ⟨h.os, h.tape, h.output, h.size, fun k hk => h.block k (Nat.lt_of_lt_of_le hk hB) (fun hs => by have := hS k (Nat.lt_of_lt_of_le hk hB) hs; omega)⟩
theorem Stay.drewN {S : Nat → Prop} {a w : World} (h : Stay S a w) (n : Nat) : Stay S a (w.drewN n) := ⟨h.os, h.tape, h.output, h.size, h.block⟩
theorem Stay.drew {S : Nat → Prop} {a w : World} (h : Stay S a w) : Stay S a w.drew := ⟨h.os, h.tape, h.output, h.size, h.block⟩
theorem Stay.alloc {S : Nat → Prop} {a w : World} (h : Stay S a w) (o : Obj) : Stay S a (w.alloc o) :=
  ⟨h.os, h.tape, h.output, Nat.le_trans h.size (by simp), fun i hi hs => (Below.heap_alloc _ _ _ (Nat.lt_of_lt_of_le hi h.size)).trans (h.block i hi hs)⟩
theorem Stay.setCell {S : Nat → Prop} {a w : World} (h : Stay S a w) {p : Addr} (hp : a.heap.size ≤ p.block ∨ S p.block) (u : Value) : Stay S a (w.setCell p u) :=
  ⟨h.os, h.tape, h.output, by have := h.size; simpa [World.setCell] using this, fun i hi hs => (Below.heap_setCell _ _ _ _ (fun e => by subst e; rcases hp with hp | hp; omega; exact hs hp)).trans (h.block i hi hs)⟩
/-- A block that stays. -/
theorem Stay.kept {S : Nat → Prop} {a b : World} (h : Stay S a b) {k : Nat} {o : Obj} (hk : a.heap[k]? = some o) (hs : ¬ S k) : b.heap[k]? = some o :=
  (h.block k (lt_of_block hk) hs).trans hk
theorem Below.keptB {B : Nat} {a b : World} (h : Below B a b) {k : Nat} {o : Obj} (hk : a.heap[k]? = some o) (hs : k < B) : b.heap[k]? = some o :=
  (h.block k hs).trans hk

theorem cell_of {w : World} {g i : Nat} {c : Array Value} {t : TypeId} {f : Nat × Nat} (h : w.heap[g]? = some (.cells c t f)) : w.cell? ⟨g, i, none⟩ = c[i]? := by simp [World.cell?, h]
theorem free_of {w : World} {g i : Nat} {c : Array Value} {t : TypeId} (h : w.heap[g]? = some (.cells c t (0, 0))) : w.frozen? ⟨g, i, none⟩ = false := by simp [World.frozen?, h]
theorem set_of {w : World} {g i : Nat} {c : Array Value} {t : TypeId} {f : Nat × Nat} (h : w.heap[g]? = some (.cells c t f)) (u : Value) : (w.setCell ⟨g, i, none⟩ u).heap[g]? = some (.cells (c.setIfInBounds i u) t f) := by
  have hlt := lt_of_block h
  have h' : w.heap[g] = .cells c t f := by simpa [Array.getElem?_eq_getElem hlt] using h
  show (w.heap.modify g _)[g]? = _
  rw [Array.getElem?_eq_getElem (by simpa using hlt), Array.getElem_modify_self, h']
  rfl
theorem alloc_of {w : World} {o : Obj} : (w.alloc o).heap[w.heap.size]? = some o := by
  show (w.heap.push o)[w.heap.size]? = _
  simp
theorem ownsRow_stay {w w' : World} {S : Nat → Prop} {base : Nat} {e : TypeId} {size : Nat} {v : Value} {n : Nat} {xs : List Value} (h : w.ownsRow base e size v n xs) (hb : Stay S w w') (hs : ∀ k, v.ownBlock = some k → ¬ S k) : w'.ownsRow base e size v n xs := by
  have hlt := World.ownsRow.lt h
  obtain ⟨h1, h2⟩ := h
  refine ⟨h1, ?_⟩
  rcases h2 with h2 | ⟨g, cap, cur, hv, hg, hh, r⟩
  · exact .inl h2
  · have hg' := hlt g (by rw [hv]; rfl)
    exact .inr ⟨g, cap, cur, hv, hg, (hb.block g hg'.2 (hs g (by rw [hv]; rfl))).trans hh, r⟩
theorem ownsRow_below {w w' : World} {base : Nat} {e : TypeId} {size : Nat} {v : Value} {n : Nat} {xs : List Value} (h : w.ownsRow base e size v n xs) (hb : Below w.heap.size w w') : w'.ownsRow base e size v n xs :=
  ownsRow_stay h (Stay.of_below (S := fun _ => False) hb) (fun _ _ h => h)
theorem ownsRow_base {w : World} {base base' : Nat} {e : TypeId} {size : Nat} {v : Value} {n : Nat} {xs : List Value} (h : w.ownsRow base e size v n xs) (hb : base' ≤ base) : w.ownsRow base' e size v n xs := by
  obtain ⟨h1, h2⟩ := h
  refine ⟨h1, ?_⟩
  rcases h2 with h2 | ⟨g, cap, cur, hv, hg, hh, r⟩
  · exact .inl h2
  · exact .inr ⟨g, cap, cur, hv, Nat.le_trans hb hg, hh, r⟩
end Go.Proofs.YthbbokoeiifjdaaGreatDoor
namespace Go.Proofs.YthbbokoeiifjdaaGreatDoor
open Go Go.RowKit

theorem infoB : (Tryz.prog.info? 4).map (fun i => (i.zero, i.size, i.bytes)) = some (some (.bool false), 1, 1) := by kernel_rfl
/-- A slice of bools of the call's own. -/
abbrev OwnB (base : Nat) (w : World) (v : Value) (l : List Bool) : Prop := w.ownsRow base 4 1 v l.length (l.map Value.bool)
theorem OwnB.push {base : Nat} {w : World} {v : Value} {l : List Bool} {b : Bool} (h : w.ownsRow base 4 1 v (l.length + 1) (l.map Value.bool ++ [Value.bool b])) : OwnB base w v (l ++ [b]) := by
  unfold OwnB
  rw [List.length_append, List.map_append]
  exact h
end Go.Proofs.YthbbokoeiifjdaaGreatDoor
namespace Go.Proofs.YthbbokoeiifjdaaGreatDoor
open Go Go.ChangeShapes Go.WideShapes Go.ChangeAt Go.RowKit

theorem own : ownKnob Tryz.prog.godebug = none := by kernel_rfl
theorem laidOut : laidOutB Tryz.prog = true := by kernel_rfl

/-- A slice of integers that came in: nil; or a row of 'cap' cells, the numbers zs (the first 'len' are its elements). -/
def IsRow (k : IntKind) (w : World) (a : Option Addr) (len cap : Nat) (zs : List Int) : Prop :=
  (a = none ∧ len = 0 ∧ cap = 0 ∧ zs = []) ∨
  ∃ x, a = some x ∧ len ≤ cap ∧ cap ≤ maxLen ∧ zs.length = cap ∧ (∀ i, i < zs.length → w.cell? (x.add i) = some (.int k (zs.getD i 0))) ∧ ∀ n ∈ zs, (Lit.int k n).wf = true
theorem wf_u64 {x : Int} (h : (Lit.int .u64 x).wf = true) : ∃ n : Nat, x = n ∧ n < 18446744073709551616 := by
  have hb := bounds_u64 h
  exact ⟨x.toNat, by omega, by omega⟩
end Go.Proofs.YthbbokoeiifjdaaGreatDoor
