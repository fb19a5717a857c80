/- Matrices: sixteen numbers as one value; what they make of a state. -/
import Derived.Test.YtciofobedgmbjabDoorLinA
import Derived.Test.YtciofobedgmbjabDoorLM
import Derived.Test.YtciofobedgmbjabDoorPolyMul
import Derived.Test.YtciofobedgmbjabDoorVA
import Derived.Deep.CutBlock
import Derived.Deep.Cut
namespace Go.Proofs.YtciofobedgmbjabDoor
open Go.RowKit Go.PlainAid
set_option maxHeartbeats 800000

theorem mp_or (f : Nat → Nat) (s k c : Nat) (hk : k < 16) (hc : G2.pv (f k) s = c) : bits .or .i64 (G2.mpL f s k : Int) (wrap64 ((c : Int) * 2 ^ k)) = (G2.mpL f s (k + 1) : Int) := by
  have h0 := G2.pv_le (f k) s
  have h1 := G2.mpL_lt f s k
  have h2 := shl_in (a := c) (k := k) (A := 1) (by omega) (by omega)
  have h3 : 2 ^ k ≤ 2 ^ 16 := Nat.pow_le_pow_right (by omega) (by omega)
  rw [cast_shl, wrap64_nat _ h2, i64_orN _ _ (by omega) h2, G2.mpL_succ, hc]
theorem mat_info : (Tryd.prog.info? 40).map (·.size) = some 16 := by kernel_rfl
theorem mat_under : Tryd.prog.underlying 40 = some (.array 16 2) := by kernel_rfl
theorem mat_index (f : Nat → Nat) (k : Nat) (W : World) (hk : k < 16) : (Instr.index 40 (.agg (vs 16 f).toArray) (.int .i64 (k : Int))).run Tryd.prog W = .ok (.int .i64 (f k)) W :=
  run_vs_index f hk mat_under (by kernel_rfl) (by kernel_rfl) W
theorem lt16 {j : Nat} (h : j < 16) : j = 0 ∨ j = 1 ∨ j = 2 ∨ j = 3 ∨ j = 4 ∨ j = 5 ∨ j = 6 ∨ j = 7 ∨ j = 8 ∨ j = 9 ∨ j = 10 ∨ j = 11 ∨ j = 12 ∨ j = 13 ∨ j = 14 ∨ j = 15 := by omega
theorem zero16 {j : Nat} (h : j < 16) : (#[.int .i64 0, .int .i64 0, .int .i64 0, .int .i64 0, .int .i64 0, .int .i64 0, .int .i64 0, .int .i64 0, .int .i64 0, .int .i64 0, .int .i64 0, .int .i64 0, .int .i64 0, .int .i64 0, .int .i64 0, .int .i64 0] : Array Value)[0 + j]? = some (.int .i64 ((0 : Nat) : Int)) := by
  rcases lt16 h with rfl | rfl | rfl | rfl | rfl | rfl | rfl | rfl | rfl | rfl | rfl | rfl | rfl | rfl | rfl | rfl <;> rfl
end Go.Proofs.YtciofobedgmbjabDoor
