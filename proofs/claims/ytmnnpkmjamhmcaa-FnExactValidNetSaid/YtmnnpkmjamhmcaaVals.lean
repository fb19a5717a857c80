/- Numbers that a list may hold. Of no program. -/
import Derived.Test.YtmnnpkmjamhmcaaBtw
namespace Go.Proofs.Ytmnnpkmjamhmcaa
/-- a number that a list may hold -/
def Val (n : Int) : Prop := -1000000000000000 ≤ n ∧ n ≤ 1000000000000000
end Go.Proofs.Ytmnnpkmjamhmcaa
