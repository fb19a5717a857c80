/- The numbers of bits: impl.NumberOfBits, spec.l01Number, spec.NumberOfBits. -/
import Derived.Test.YtamedggnkbhgeaaBits
namespace Go.Proofs.Ytamedggnkbhgeaa
open Go.RowKit Go.PlainAid
set_option maxHeartbeats 400000

/-- the number of the first k bytes as bits -/
def numTo (s : ByteArray) : Nat → Int
  | 0 => 0
  | k + 1 => 2 * numTo s k + (bt s k - 48)

theorem numTo_le (s : ByteArray) (h : AllIn 48 49 s) : ∀ k, k ≤ s.size → k ≤ 60 → 0 ≤ numTo s k ∧ numTo s k + 1 ≤ 2 ^ k := by
  intro k
  induction k with
  | zero => exact fun _ _ => ⟨by simp [numTo], by simp [numTo]⟩
  | succ k ih =>
    intro h1 h2
    obtain ⟨g1, g2⟩ := ih (by omega) (by omega)
    obtain ⟨b1, b2⟩ := h k (by omega)
    rw [get_bt s k (by omega)] at b1 b2
    have hp : (2 : Int) ^ (k + 1) = 2 * 2 ^ k := by rw [Int.pow_succ]; omega
    unfold numTo
    omega

theorem pow_le_60 : ∀ k : Nat, k ≤ 60 → (2 : Int) ^ k ≤ 1152921504606846976 := by
  intro k hk
  have h : (2 : Nat) ^ k ≤ 2 ^ 60 := Nat.pow_le_pow_right (by omega) hk
  have e : ((2 ^ k : Nat) : Int) = (2 : Int) ^ k := by simp
  rw [← e]
  have : (2 : Nat) ^ 60 = 1152921504606846976 := by decide
  omega

theorem numTo_in (s : ByteArray) (h : AllIn 48 49 s) (k : Nat) (h1 : k ≤ s.size) (h2 : k ≤ 60) : 0 ≤ numTo s k ∧ numTo s k < 1152921504606846976 := by
  have := numTo_le s h k h1 h2
  have := pow_le_60 k h2
  omega

end Go.Proofs.Ytamedggnkbhgeaa
