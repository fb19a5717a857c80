/- Lists that are short and whose numbers are small: impl.isList, spec.l01List. -/
import Derived.Test.YtmnnpkmjamhmcaaAreB
import Derived.Test.YtmnnpkmjamhmcaaVals
namespace Go.Proofs.Ytmnnpkmjamhmcaa
open Go.RowKit Go.PlainAid
set_option maxHeartbeats 800000

/-- the first k numbers are small -/
def InV (xs : List Int) (k : Nat) : Prop := ∀ i x, i < k → xs[i]? = some x → Val x
theorem InV.next {xs : List Int} {x : Int} {k : Nat} (h : InV xs k) (hx : xs[k]? = some x) (h0 : Val x) : InV xs (k + 1) := fun i y hi hy => by
  by_cases e : i = k
  · subst e
    rw [hx] at hy
    cases hy
    exact h0
  · exact h i y (by omega) hy
def ListP (xs : List Int) : Prop := xs.length ≤ 64 ∧ InV xs xs.length
theorem ListP.get {xs : List Int} (h : ListP xs) {i : Nat} {x : Int} (hx : xs[i]? = some x) : Val x := h.2 i x (List.getElem?_eq_some_iff.1 hx).1 hx

end Go.Proofs.Ytmnnpkmjamhmcaa
