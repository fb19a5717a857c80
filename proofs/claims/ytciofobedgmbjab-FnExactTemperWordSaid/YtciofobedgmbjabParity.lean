/- math/bits.OnesCount64, and the parity of some bits: impl.ParityOf, spec.l01Parity, spec.ParityOf, the law FnExactParityOf. -/
import Derived.Test.YtciofobedgmbjabRows
import Derived.Test.YtciofobedgmbjabPop
import Derived.WalkKit
import Derived.WalkSpells
import Derived.WalkLawsBesides
import Derived.ProofKit
import Derived.Handy
import Derived.PlainAid
import Derived.Lib.Hide
import Derived.Laws.Bits128
import Derived.OpenShut
namespace Go.Proofs.Ytciofobedgmbjab
open Go.RowKit Go.PlainAid
set_option maxHeartbeats 400000

theorem u64_andN (a b : Nat) (ha : a < 18446744073709551616) (hb : b < 18446744073709551616) : bits .and .u64 (a : Int) (b : Int) = ((a &&& b : Nat) : Int) := by
  have h : a &&& b ≤ a := Nat.and_le_left
  show IntKind.u64.wrap ((BitVec.ofInt 64 (a : Int) &&& BitVec.ofInt 64 (b : Int)).toNat : Int) = _
  rw [BitVec.toNat_and, BitVec.ofInt_natCast, BitVec.ofInt_natCast, BitVec.toNat_ofNat, BitVec.toNat_ofNat, Nat.mod_eq_of_lt (by omega), Nat.mod_eq_of_lt (by omega), IntKind.wrap_u64]
  omega
theorem u64_andI (A M : Int) (a m p : Nat) (hA : A = a) (hM : M = m) (h : a &&& m = p) (ha : a < 18446744073709551616) (hm : m < 18446744073709551616) : bits .and .u64 A M = (p : Int) := by
  subst hA; subst hM; subst h
  exact u64_andN a m ha hm
theorem i64_andN (a b : Nat) (ha : a < 9223372036854775808) (hb : b < 9223372036854775808) : bits .and .i64 (a : Int) (b : Int) = ((a &&& b : Nat) : Int) := by
  have h : a &&& b ≤ a := Nat.and_le_left
  show IntKind.i64.wrap ((BitVec.ofInt 64 (a : Int) &&& BitVec.ofInt 64 (b : Int)).toNat : Int) = _
  rw [BitVec.toNat_and, BitVec.ofInt_natCast, BitVec.ofInt_natCast, BitVec.toNat_ofNat, BitVec.toNat_ofNat, Nat.mod_eq_of_lt (by omega), Nat.mod_eq_of_lt (by omega), IntKind.wrap_i64]
  omega

theorem m85 : Pop.mask 85 8 = 6148914691236517205 := by decide +kernel
theorem m51 : Pop.mask 51 8 = 3689348814741910323 := by decide +kernel
theorem m15 : Pop.mask 15 8 = 1085102592571150095 := by decide +kernel

theorem i64_andI (A M : Int) (a m p : Nat) (hA : A = a) (hM : M = m) (h : a &&& m = p) (ha : a < 9223372036854775808) (hm : m < 9223372036854775808) : bits .and .i64 A M = (p : Int) := by
  subst hA; subst hM; subst h
  exact i64_andN a m ha hm

end Go.Proofs.Ytciofobedgmbjab
