/- Powers of x: spec.l02Power, (impl.poly).timesX, (impl.poly).powerOfX, and the law FnExactPowerOfX. -/
import Derived.Test.YtciofobedgmbjabDoorLawPolys
namespace Go.Proofs.YtciofobedgmbjabDoor
open Go.RowKit Go.PlainAid
set_option maxHeartbeats 400000

theorem pw_lt {p : Nat} (h0 : 0 < p) (hp : p < 4294967296) (n : Nat) : Pl.pw p n < 2147483648 := by
  have h1 := Pl.rem_lt h0 (2 ^ n)
  have h2 := Pl.len_of_lt 32 p hp
  have h3 : 2 ^ (Pl.len p - 1) ≤ 2 ^ 31 := Nat.pow_le_pow_right (by omega) (by omega)
  have h4 : Pl.pw p n = Pl.rem p (2 ^ n) := rfl
  omega
theorem pw_mul {p : Nat} (h0 : 0 < p) (hp : p < 4294967296) (a b : Nat) : Pl.rem p (Pl.mulTo (Pl.pw p a) (Pl.pw p b) 32) = Pl.pw p (a + b) :=
  Pl.pw_add h0 a b 32 (by have := pw_lt h0 hp b; omega)
end Go.Proofs.YtciofobedgmbjabDoor
