/- How far riffles are from even chances: mathematics. -/
import Derived.Test.YtjbojamhnapkpabS7N
import Derived.Test.YtjbojamhnapkpabChoose
import Derived.Test.YtjbojamhnapkpabMake
import Derived.Test.YtjbojamhnapkpabFrMul
namespace Go.Proofs.Ytjbojamhnapkpab
set_option synthInstance.maxHeartbeats 400000
set_option synthInstance.maxSize 4096

/-- binomials by products -/
def cF (n : Nat) : Nat → Nat
  | 0 => 1
  | k + 1 => cF n k * (n - k) / (k + 1)
theorem cF_eq (n : Nat) : ∀ k, k ≤ n → Choose.ch n k = cF n k := by
  intro k
  induction k with
  | zero => intro _; rw [Choose.ch_zero]; rfl
  | succ k ih =>
    intro h
    rw [cF, ← ih (by omega), Choose.absorb_sub n k (by omega), Nat.mul_div_cancel _ (Nat.succ_pos k)]
/-- the ways that lead to an order with r rising sequences, of n things, by t riffles; all the ways -/
def rfW (n t r : Nat) : Nat := if r ≤ 2 ^ t then cF (2 ^ t + n - r) n else 0
def rfA (n t : Nat) : Nat := 2 ^ (n * t)
/-- the sum in whole numbers -/
def rfD (n t r : Nat) : Int := (rfW n t r : Int) * fac n - rfA n t
def rfS (n t : Nat) : Nat → Int
  | 0 => 0
  | k + 1 => rfS n t k + (cnRow kpR n).getD k 0 * ((rfD n t k).natAbs : Nat)
/-- the sum in fractions -/
def rfC (n t r : Nat) : Int × Int := if r ≤ 2 ^ t then (mkN (rfW n t r) (rfA n t), mkD (rfW n t r) (rfA n t)) else (0, 1)
def rfE (n t r : Nat) : Int × Int := (addN (rfC n t r).1 (rfC n t r).2 (-1) (fac n), addD (rfC n t r).1 (rfC n t r).2 (-1) (fac n))
def rfH (n r : Nat) : Int × Int := (mkN ((cnRow kpR n).getD r 0) 2, mkD ((cnRow kpR n).getD r 0) 2)
def rfP (n t r : Nat) : Int × Int := (mulN ((rfE n t r).1.natAbs : Nat) (rfE n t r).2 (rfH n r).1 (rfH n r).2, mulD ((rfE n t r).1.natAbs : Nat) (rfE n t r).2 (rfH n r).1 (rfH n r).2)
def rfT (n t : Nat) : Nat → Int × Int
  | 0 => (0, 1)
  | k + 1 => (addN (rfT n t k).1 (rfT n t k).2 (rfP n t (k + 1)).1 (rfP n t (k + 1)).2, addD (rfT n t k).1 (rfT n t k).2 (rfP n t (k + 1)).1 (rfP n t (k + 1)).2)
/-- what is told -/
def rfR (n t : Nat) : Int × Int := (mkN (rfS n t 13) (2 * fac n * rfA n t : Nat), mkD (rfS n t 13) (2 * fac n * rfA n t : Nat))
theorem rf_same : ∀ n, n < 9 → ∀ t, t < 6 → 1 ≤ n → rfT n t n = rfR n t := by decide +kernel
theorem rf_all : ∀ n, n < 9 → ∀ t, t < 6 → 1 ≤ n → 1 ≤ fac n ∧ fac n ≤ 40320 ∧ 1 ≤ rfA n t ∧ rfA n t ≤ 1099511627776 ∧ 2 * fac n * rfA n t ≤ 1000000000000000000 ∧ 0 ≤ rfS n t 13 ∧ rfS n t 13 ≤ 1000000000000000000 := by decide +kernel
theorem rf_in : ∀ n, n < 9 → ∀ t, t < 6 → 1 ≤ n → ∀ k, k < 13 → rfW n t k ≤ 1000000000000 ∧ rfW n t k * fac n ≤ 100000000000000000 ∧ (rfD n t k).natAbs ≤ 100000000000000000 ∧ 0 ≤ (cnRow kpR n).getD k 0 ∧ 0 ≤ (cnRow kpR n).getD k 0 * ((rfD n t k).natAbs : Nat) ∧ (cnRow kpR n).getD k 0 * ((rfD n t k).natAbs : Nat) ≤ 500000000000000000 ∧ 0 ≤ rfS n t k ∧ rfS n t k ≤ 500000000000000000 := by decide +kernel
instance (n d : Int) : Decidable (VF n d) := by unfold VF; infer_instance
instance (z : Int) : Decidable (Small z) := by unfold Small; infer_instance
instance (a b c d : Int) : Decidable (addOk a b c d) := by unfold addOk; infer_instance
instance (a b c d : Int) : Decidable (mulOk a b c d) := by unfold mulOk; infer_instance
theorem rf_frac : ∀ n, n < 9 → ∀ t, t < 6 → 1 ≤ n → ∀ r, r < n + 1 → 1 ≤ r → VF (rfC n t r).1 (rfC n t r).2 ∧ addOk (rfC n t r).1 (rfC n t r).2 (-1) (fac n) ∧ VF (rfE n t r).1 (rfE n t r).2 ∧ VF ((rfE n t r).1.natAbs : Nat) (rfE n t r).2 ∧ VF (rfH n r).1 (rfH n r).2 ∧ mulOk ((rfE n t r).1.natAbs : Nat) (rfE n t r).2 (rfH n r).1 (rfH n r).2 ∧ VF (rfP n t r).1 (rfP n t r).2 := by decide +kernel
theorem rf_sum : ∀ n, n < 9 → ∀ t, t < 6 → 1 ≤ n → ∀ k, k < n → VF (rfT n t k).1 (rfT n t k).2 ∧ addOk (rfT n t k).1 (rfT n t k).2 (rfP n t (k + 1)).1 (rfP n t (k + 1)).2 := by decide +kernel
theorem rf_even : ∀ n, n < 9 → 1 ≤ n → mkN 1 (fac n) = 1 ∧ mkD 1 (fac n) = fac n ∧ VF (-1) (fac n) := by decide +kernel
end Go.Proofs.Ytjbojamhnapkpab
