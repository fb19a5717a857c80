/- Plain facts: congruences: steps, powers, steps back. No program here. -/
import Derived.WalkKit
namespace Go.Proofs.YtciofobedgmbjabDoor

/-- the state after a step -/
def nx (m a c x : Nat) : Nat := (a * x + c) % m
theorem nx_lt {m : Nat} (hm : 0 < m) (a c x : Nat) : nx m a c x < m := Nat.mod_lt _ hm
/-- the state after n steps -/
def itc (m a c x : Nat) : Nat → Nat
  | 0 => x
  | n + 1 => nx m a c (itc m a c x n)
theorem itc_lt {m a c x : Nat} (hx : x < m) : ∀ n, itc m a c x n < m
  | 0 => hx
  | _ + 1 => nx_lt (by omega) _ _ _
theorem itc_succ (m a c x n : Nat) : itc m a c x (n + 1) = nx m a c (itc m a c x n) := rfl
theorem itc_add (m a c x n : Nat) : ∀ k, itc m a c x (n + k) = itc m a c (itc m a c x n) k
  | 0 => rfl
  | k + 1 => by rw [← Nat.add_assoc, itc_succ, itc_add m a c x n k, itc_succ]
/-- 1 + a + .. -/
def geo (a : Nat) : Nat → Nat
  | 0 => 0
  | n + 1 => a * geo a n + 1
theorem geo_add (a n : Nat) : ∀ k, geo a (n + k) = a ^ k * geo a n + geo a k
  | 0 => by simp [geo]
  | k + 1 => by
    rw [← Nat.add_assoc, geo, geo_add a n k, geo, Nat.mul_add, Nat.pow_succ, ← Nat.mul_assoc, Nat.mul_comm a (a ^ k), Nat.add_assoc]
/-- the factor and the addend of n steps -/
def pA (m a n : Nat) : Nat := a ^ n % m
def pC (m a c n : Nat) : Nat := geo a n * c % m
theorem pA_lt {m : Nat} (hm : 0 < m) (a n : Nat) : pA m a n < m := Nat.mod_lt _ hm
theorem pC_lt {m : Nat} (hm : 0 < m) (a c n : Nat) : pC m a c n < m := Nat.mod_lt _ hm
theorem pA_then (m a n k : Nat) : pA m a n * pA m a k % m = pA m a (n + k) := by
  unfold pA
  rw [← Nat.mul_mod, ← Nat.pow_add]
theorem lin_mod (m a x c : Nat) : (a % m * (x % m) + c % m) % m = (a * x + c) % m := by
  rw [Nat.add_mod, ← Nat.mul_mod, Nat.mod_mod, ← Nat.add_mod]
theorem pC_then (m a c n k : Nat) : nx m (pA m a k) (pC m a c k) (pC m a c n) = pC m a c (n + k) := by
  unfold nx pA pC
  rw [lin_mod, geo_add, Nat.add_mul, Nat.mul_assoc]
theorem itc_eq {m x : Nat} (a c : Nat) (hx : x < m) : ∀ n, itc m a c x n = nx m (pA m a n) (pC m a c n) x
  | 0 => by
    unfold nx pA pC
    simp only [itc, Nat.pow_zero, geo, Nat.zero_mul, Nat.zero_mod, Nat.add_zero]
    have h := lin_mod m 1 x 0
    rw [Nat.mod_eq_of_lt hx, Nat.zero_mod, Nat.one_mul, Nat.add_zero, Nat.add_zero, Nat.mod_eq_of_lt hx] at h
    exact h.symm
  | n + 1 => by
    rw [itc_succ, itc_eq a c hx n]
    unfold nx pA pC
    have h1 : (a ^ n % m * x + geo a n * c % m) % m = (a ^ n * x + geo a n * c) % m := by
      have := lin_mod m (a ^ n) x (geo a n * c)
      rwa [Nat.mod_eq_of_lt hx] at this
    have h2 : (a ^ (n + 1) % m * x + geo a (n + 1) * c % m) % m = (a ^ (n + 1) * x + geo a (n + 1) * c) % m := by
      have := lin_mod m (a ^ (n + 1)) x (geo a (n + 1) * c)
      rwa [Nat.mod_eq_of_lt hx] at this
    have e : a ^ (n + 1) * x + geo a (n + 1) * c = a * (a ^ n * x + geo a n * c) + c := by
      rw [geo, Nat.pow_succ, Nat.add_mul, Nat.one_mul, Nat.mul_add, Nat.mul_comm (a ^ n) a, Nat.mul_assoc, Nat.mul_assoc, Nat.add_assoc]
    rw [h1, h2, e, Nat.add_mod (a * _), Nat.mul_mod a, Nat.mod_mod, ← Nat.mul_mod, ← Nat.add_mod]
theorem pA_zero {m : Nat} (hm : 2 ≤ m) (a : Nat) : pA m a 0 = 1 := by unfold pA; rw [Nat.pow_zero]; exact Nat.mod_eq_of_lt (by omega)
theorem pC_zero (m a c : Nat) : pC m a c 0 = 0 := by unfold pC; rw [geo, Nat.zero_mul, Nat.zero_mod]
theorem pA_one {m a : Nat} (ha : a < m) : pA m a 1 = a := by unfold pA; rw [Nat.pow_one]; exact Nat.mod_eq_of_lt ha
theorem pC_one {m a c : Nat} (hc : c < m) : pC m a c 1 = c := by unfold pC; simp only [geo, Nat.mul_zero, Nat.zero_add, Nat.one_mul]; exact Nat.mod_eq_of_lt hc
theorem nx_mod (m a c x : Nat) : nx m a c (x % m) = nx m a c x := by
  unfold nx
  rw [Nat.add_mod, Nat.mul_mod a, Nat.mod_mod, ← Nat.mul_mod, ← Nat.add_mod]
/-- the product of numbers of a congruence is small -/
theorem small_mul {a b : Nat} (ha : a ≤ 100000) (hb : b ≤ 100000) : a * b ≤ 10000000000 :=
  Nat.le_trans (Nat.mul_le_mul ha hb) (by decide)
end Go.Proofs.YtciofobedgmbjabDoor
