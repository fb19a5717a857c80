/- The laws FnExactMulPolys, FnExactDividePolys, FnExactGcdPolys, FnExactPowerOfX. -/
import Derived.Test.YtciofobedgmbjabDoorPolyMul
import Derived.OwnWalk
namespace Go.Proofs.YtciofobedgmbjabDoor
open Go.RowKit Go.PlainAid
set_option maxHeartbeats 400000


/-- the greatest common divisor, by remainders -/
def gcdP (a b : Nat) : Nat := if _ : b = 0 then a else gcdP b (Pl.rem b a)
termination_by Pl.len b
decreasing_by
  have h : ¬ b = 0 := ‹_›
  have h1 := Pl.rem_lt (Nat.pos_of_ne_zero h) a
  have h2 := Pl.len_of_lt _ _ h1
  have h3 := Pl.len_pos (Nat.pos_of_ne_zero h)
  omega
theorem gcdP_zero (a : Nat) : gcdP a 0 = a := by rw [gcdP]; simp
theorem gcdP_step (a b : Nat) (h : 0 < b) : gcdP a b = gcdP b (Pl.rem b a) := by
  rw [gcdP, dif_neg (by omega)]
theorem rem_less {b : Nat} (h : 0 < b) (a : Nat) : Pl.len (Pl.rem b a) < Pl.len b ∧ Pl.rem b a < b := by
  have h1 := Pl.rem_lt h a
  have h2 := Pl.len_of_lt _ _ h1
  have h3 := Pl.len_pos h
  have h4 := Pl.len_ge b h
  omega
end Go.Proofs.YtciofobedgmbjabDoor
