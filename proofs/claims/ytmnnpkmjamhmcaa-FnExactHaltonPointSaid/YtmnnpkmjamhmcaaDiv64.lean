/- Contracts: math/bits.LeadingZeros64, Div64, Rem64. -/
import Derived.Test.YtmnnpkmjamhmcaaLen
import Derived.Test.YtmnnpkmjamhmcaaDivMath
import Derived.Test.YtmnnpkmjamhmcaaFrac
import Derived.Test.YtmnnpkmjamhmcaaGT
import Derived.RegionTactic
import Derived.ChangeAlike
import Derived.BigQuiet
import Derived.Deep.CutBlock
import Derived.Deep.DeepCutAuto
import Derived.Deep.LoopGhost
namespace Go.Proofs.Ytmnnpkmjamhmcaa
open Go.RowKit Go.PlainAid
set_option maxHeartbeats 800000

theorem or_u64 (a b s : Nat) (hb : b < 2 ^ s) (h : a * 2 ^ s + b < 18446744073709551616) : bits .or .u64 ((a * 2 ^ s : Nat) : Int) (b : Int) = ((a * 2 ^ s + b : Nat) : Int) := by
  show IntKind.u64.wrap ((BitVec.ofInt 64 ((a * 2 ^ s : Nat) : Int) ||| BitVec.ofInt 64 (b : Int)).toNat : Nat) = _
  rw [BitVec.toNat_or, BitVec.ofInt_natCast, BitVec.ofInt_natCast, BitVec.toNat_ofNat, BitVec.toNat_ofNat, Nat.mod_eq_of_lt (by omega), Nat.mod_eq_of_lt (by omega), or_parts a b s hb, IntKind.wrap_u64]
  omega

end Go.Proofs.Ytmnnpkmjamhmcaa
