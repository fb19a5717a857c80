/- Products of two words: spec.l01Times, math/bits.Mul64. -/
import Derived.Test.YtmnnpkmjamhmcaaFrac
import Derived.Laws.MathBits
import Derived.RegionTactic
import Derived.ChangeAlike
namespace Go.Proofs.Ytmnnpkmjamhmcaa
open Go.RowKit Go.PlainAid
set_option maxHeartbeats 400000

/-- the words of a number -/
def hiU (z : Int) : Int := z / 18446744073709551616 % 18446744073709551616
def loU (z : Int) : Int := z % 18446744073709551616

theorem loU_in (z : Int) : 0 ≤ loU z ∧ loU z ≤ 18446744073709551615 := by unfold loU; omega
theorem hiU_in (z : Int) : 0 ≤ hiU z ∧ hiU z ≤ 18446744073709551615 := by unfold hiU; omega

theorem or_high (m r : Int) (_h0 : 0 ≤ m) (r0 : 0 ≤ r) (r1 : r < 4294967296) : bits .or .u64 (IntKind.u64.wrap (m * 4294967296)) r = m % 4294967296 * 4294967296 + r := by
  obtain ⟨X, hX⟩ : ∃ X : Nat, m % 4294967296 = X := ⟨(m % 4294967296).toNat, by omega⟩
  obtain ⟨R, rfl⟩ := Int.eq_ofNat_of_zero_le r0
  have e : IntKind.u64.wrap (m * 4294967296) = ((2 ^ 32 * X : Nat) : Int) := by rw [IntKind.wrap_u64]; omega
  rw [e, hX]
  have hR : R < 2 ^ 32 := by omega
  have hX2 : X < 4294967296 := by omega
  show IntKind.u64.wrap ((BitVec.ofInt 64 ((2 ^ 32 * X : Nat) : Int) ||| BitVec.ofInt 64 (R : Int)).toNat : Nat) = _
  rw [BitVec.toNat_or, BitVec.ofInt_natCast, BitVec.ofInt_natCast, BitVec.toNat_ofNat, BitVec.toNat_ofNat, Nat.mod_eq_of_lt (by omega), Nat.mod_eq_of_lt (by omega), ← Nat.two_pow_add_eq_or_of_lt hR, IntKind.wrap_u64]
  omega

end Go.Proofs.Ytmnnpkmjamhmcaa
