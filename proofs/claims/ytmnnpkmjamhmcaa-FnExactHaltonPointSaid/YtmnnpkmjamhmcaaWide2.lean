/- Parts of fractions out of numbers of two words: (impl.wide).part, impl.fractionOf, spec.l01Small. -/
import Derived.Test.YtmnnpkmjamhmcaaWide
namespace Go.Proofs.Ytmnnpkmjamhmcaa
open Go.RowKit Go.PlainAid
set_option maxHeartbeats 400000

/-- small enough for a part of a fraction -/
def Small (z : Int) : Prop := -1000000000000000000 ≤ z ∧ z ≤ 1000000000000000000
/-- within two words -/
def In128 (z : Int) : Prop := -170141183460469231731687303715884105728 < z ∧ z < 170141183460469231731687303715884105728

theorem Small.out {z : Int} (h : Small z) : -1000000000000000000 ≤ z ∧ z ≤ 1000000000000000000 := h
theorem In128.of (z : Int) (h1 : -170141183460469231731687303715884105728 < z) (h2 : z < 170141183460469231731687303715884105728) : In128 z := ⟨h1, h2⟩

/-- part, whatever the number -/
def partV (z : Int) (v : Int) (ok : Bool) : Prop := (Small z ∧ v = z ∧ ok = true) ∨ (¬ Small z ∧ v = 0 ∧ ok = false)
end Go.Proofs.Ytmnnpkmjamhmcaa
