/- Sums of fractions in the specification: spec.l01FAdd. -/
import Derived.Test.YtmnnpkmjamhmcaaSplit
import Derived.Test.YtmnnpkmjamhmcaaAddFr
import Derived.Deep.CutBlock
import Derived.Deep.DeepCutAuto
namespace Go.Proofs.Ytmnnpkmjamhmcaa
open Go.RowKit Go.PlainAid
set_option maxHeartbeats 1600000

theorem abs_mul (f b : Int) (_hb : 1 ≤ b) : (f < 0 → f * b = -((f.natAbs : Nat) * b)) ∧ (¬ f < 0 → f * b = (f.natAbs : Nat) * b) := by
  constructor
  · intro h
    rw [show f = -((f.natAbs : Nat) : Int) by omega, Int.neg_mul, Int.natAbs_neg, Int.natAbs_natCast]
  · intro h
    rw [show ((f.natAbs : Nat) : Int) = f by omega]

/-- the size of a sum, and its sign -/
def Sized (S T : Int) (m : Bool) : Prop := 0 ≤ T ∧ (m = true → S = -T) ∧ (m = false → S = T)

theorem small_abs (N : Int) : Small ((N.natAbs : Nat) : Int) ↔ Small N := by unfold Small; omega

end Go.Proofs.Ytmnnpkmjamhmcaa
