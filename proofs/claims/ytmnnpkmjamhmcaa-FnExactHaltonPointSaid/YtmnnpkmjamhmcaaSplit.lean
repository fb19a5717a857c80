/- Numbers of two words in the specification: spec.l01Plus, l01Minus, l01Split. -/
import Derived.Test.YtmnnpkmjamhmcaaCmp
import Derived.Test.YtmnnpkmjamhmcaaOver
namespace Go.Proofs.Ytmnnpkmjamhmcaa
open Go.RowKit Go.PlainAid
set_option maxHeartbeats 800000

theorem and_one (x : Nat) (hx : x < 18446744073709551616) : bits .and .u64 (x : Int) 1 = ((x % 2 : Nat) : Int) := by
  show IntKind.u64.wrap ((BitVec.ofInt 64 (x : Int) &&& BitVec.ofInt 64 (1 : Int)).toNat : Nat) = _
  rw [BitVec.toNat_and, BitVec.ofInt_natCast, BitVec.toNat_ofNat, Nat.mod_eq_of_lt (by omega), show (BitVec.ofInt 64 (1 : Int)).toNat = 1 by decide, Nat.and_one_is_mod, IntKind.wrap_u64]
  omega
/-- a digit of a number of two words -/
theorem digit_hi (N k : Nat) (hk : 64 ≤ k) : N / 18446744073709551616 / 2 ^ (k - 64) = N / 2 ^ k := by
  rw [Nat.div_div_eq_div_mul, show 18446744073709551616 * 2 ^ (k - 64) = 2 ^ k by rw [show 18446744073709551616 = 2 ^ 64 by decide, ← Nat.pow_add]; congr 1; omega]
theorem digit_lo (N k : Nat) (hk : k < 64) : N % 18446744073709551616 / 2 ^ k % 2 = N / 2 ^ k % 2 := by
  have h1 : 18446744073709551616 = 2 ^ k * (2 * 2 ^ (63 - k)) := by
    rw [← Nat.pow_succ', ← Nat.pow_add, show k + (63 - k + 1) = 64 by omega]
  obtain ⟨q, hq⟩ : ∃ q, N / 18446744073709551616 = q := ⟨_, rfl⟩
  obtain ⟨m, hm⟩ : ∃ q, N % 18446744073709551616 = q := ⟨_, rfl⟩
  have h2 : N = m + 2 ^ k * (2 * 2 ^ (63 - k) * q) := by
    rw [← Nat.mul_assoc, ← h1]
    have := Nat.div_add_mod N 18446744073709551616
    rw [hq, hm] at this
    omega
  rw [hm, h2, Nat.add_mul_div_left _ _ (Nat.two_pow_pos k), Nat.mul_assoc 2, Nat.add_mul_mod_self_left]
theorem digit_step (N k : Nat) : N / 2 ^ k = 2 * (N / 2 ^ (k + 1)) + N / 2 ^ k % 2 := by
  rw [Nat.pow_succ, ← Nat.div_div_eq_div_mul]
  omega
/-- one digit more -/
theorem split_step (M D b : Nat) (hD : 0 < D) (hb : b ≤ 1) : ((2 * M + b) % D = if 2 * (M % D) + b < D then 2 * (M % D) + b else 2 * (M % D) + b - D) ∧ ((2 * M + b) / D = if 2 * (M % D) + b < D then 2 * (M / D) else 2 * (M / D) + 1) := by
  have h1 := Nat.div_add_mod M D
  have h2 := Nat.mod_lt M hD
  obtain ⟨q, hq⟩ : ∃ q, M / D = q := ⟨_, rfl⟩
  obtain ⟨r, hr⟩ : ∃ r, M % D = r := ⟨_, rfl⟩
  rw [hq, hr] at h1
  rw [hr] at h2
  rw [hq, hr]
  have h3 : 2 * M + b = (2 * r + b) + D * (2 * q) := by
    have : D * (2 * q) = 2 * (D * q) := by rw [Nat.mul_left_comm]
    omega
  rw [h3, Nat.add_mul_div_left _ _ hD, Nat.add_mul_mod_self_left]
  by_cases c : 2 * r + b < D
  · rw [if_pos c, if_pos c, Nat.mod_eq_of_lt c, Nat.div_eq_of_lt c]
    exact ⟨rfl, by omega⟩
  · rw [if_neg c, if_neg c, Nat.mod_eq_sub_mod (by omega), Nat.mod_eq_of_lt (by omega), Nat.div_eq_sub_div hD (by omega), Nat.div_eq_of_lt (by omega)]
    exact ⟨rfl, by omega⟩

end Go.Proofs.Ytmnnpkmjamhmcaa
