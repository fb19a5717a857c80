/- Contract: math/bits.Len64, in the library's own words (a module apart: the walk's further laws read its table otherwise). -/
import Derived.Test.YtmnnpkmjamhmcaaRows
import Derived.Lib.Strings
import Derived.Lib.Slices
import Derived.Lib.Small
import Derived.Lib.Walk
import Derived.Lib.BitFns
namespace Go.Proofs.Ytmnnpkmjamhmcaa

theorem len8_part (v : Int) (s x y : Nat) (h0 : 0 ≤ v) (h1 : v ≤ 255) (he : Lib.bitLen x = s + Lib.bitLen y) (hy : v.toNat = y) : Lib.len8 v = (Lib.bitLen x : Int) - s ∧ 0 ≤ Lib.len8 v ∧ Lib.len8 v ≤ 8 := by
  subst hy
  have l := Lib.bitLen_le8' v h0 h1
  have e := Lib.len8_of v h0 h1
  omega
end Go.Proofs.Ytmnnpkmjamhmcaa
