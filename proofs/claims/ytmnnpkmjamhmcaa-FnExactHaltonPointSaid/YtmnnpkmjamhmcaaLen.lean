/- Contract: math/bits.Len64: how many binary digits a number has. -/
import Derived.Test.YtmnnpkmjamhmcaaLenA
import Derived.Test.YtmnnpkmjamhmcaaPoly
namespace Go.Proofs.Ytmnnpkmjamhmcaa

theorem len_lib (x : Nat) (h : x < 2 ^ 64) : Lib.bitLen x = Pl.len x := by
  induction x using Nat.strongRecOn with
  | _ x ih =>
    by_cases h0 : x = 0
    · subst h0; decide +kernel
    · rw [Lib.bitLen_half x h0 h, ih (x / 2) (by omega) (by omega), Pl.len_half x (by omega), Nat.add_comm]
end Go.Proofs.Ytmnnpkmjamhmcaa
