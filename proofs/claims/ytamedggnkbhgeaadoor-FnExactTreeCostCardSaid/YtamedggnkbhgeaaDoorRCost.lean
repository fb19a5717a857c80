/- The cost of rejection: impl.RejectCost, spec.RejectCost, and the law. -/
import Derived.Test.YtamedggnkbhgeaaDoorWidth
import Derived.Test.YtamedggnkbhgeaaDoorMake
import Derived.Test.YtamedggnkbhgeaaDoorMix
namespace Go.Proofs.YtamedggnkbhgeaaDoor
open Go.RowKit Go.PlainAid
set_option maxHeartbeats 800000

theorem shl_in (L : Nat) (hle : L ≤ 20) : 0 ≤ (L : Int) * 2 ^ L ∧ (L : Int) * 2 ^ L ≤ 20971520 := by
  have h : (2 : Nat) ^ L ≤ 2 ^ 20 := Nat.pow_le_pow_right (by omega) hle
  have h2 : L * 2 ^ L ≤ 20 * 2 ^ 20 := Nat.mul_le_mul hle h
  have e : ((L * 2 ^ L : Nat) : Int) = (L : Int) * 2 ^ L := by simp
  rw [← e]
  omega
theorem make_wrap (f : FuncId) (L n : Nat) (hle : L ≤ 20) (X : Ending → World → World → Prop) (H : ∀ W : World, Calls Tryd.prog f #[.int .i64 ((L : Int) * 2 ^ L), .int .i64 n] W (fun e w' => X e W w')) :
    ∀ W : World, Calls Tryd.prog f #[.int .i64 (wrap64 ((L : Int) * 2 ^ L)), .int .i64 n] W (fun e w' => X e W w') := by
  have := shl_in L hle
  rw [IntWalk.wrap64_in _ (by omega)]
  exact H
end Go.Proofs.YtamedggnkbhgeaaDoor
