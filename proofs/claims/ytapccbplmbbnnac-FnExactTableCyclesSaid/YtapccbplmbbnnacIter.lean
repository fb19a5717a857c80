/- The iterator impl.statesFrom over polynomials: its contract. -/
import Derived.Test.YtapccbplmbbnnacUntil
import Derived.RangeFuncNested
import Derived.RangeFuncBound
import Derived.RangeFuncCalls
import Derived.RangeFuncLeaves
import Derived.Shelf.Abstract
import Derived.Shelf.RegionOpen
import Derived.WalkKit
import Derived.OwnWalkIn
import Derived.TacticsInMore
import Derived.LoopNIn
import Derived.LoopIn
import Derived.Lib.Hide
import Derived.Test.YtapccbplmbbnnacRows
namespace Go.Proofs.Ytapccbplmbbnnac
open Go.RowKit Go.Shelf
attribute [local go_sem] Oper.semAt_some

/-- what a world must hold while the iterator runs -/
def StatesIn (x : Nat → Value) (nf : Nat) (m : Value) (b5 b3 b4 : Nat) (μ : World → Nat) (N : Nat) (k : Nat) (V : World) : Prop :=
  μ V + k = N ∧ V.cell? ⟨b5, 0, none⟩ = some (x 0) ∧ V.cell? ⟨b3, 0, none⟩ = some (.func (.func nf) #[] #[]) ∧ V.cell? ⟨b4, 0, none⟩ = some m

set_option maxHeartbeats 1000000 in
theorem polyStates (x : Nat → Value) (m : Value) (b5 b3 b4 : Nat) (μ : World → Nat) (N n : Nat) (w : World) (hn : 1 ≤ n)
    (HN : Hid (∀ (k : Nat) (W : World), Calls Try.prog 41 #[m, x k] W fun e w' => e = .returned (x (k + 1)) ∧ W = w')) :
    Endless Fence.wide n Try.prog 59 #[.pointer (some ⟨b5, 0, none⟩), .pointer (some ⟨b3, 0, none⟩), .pointer (some ⟨b4, 0, none⟩)] x
      (StatesIn x 41 m b5 b3 b4 μ N) w := by
  intro l J Jx W hW hJ hJx hK hY h0
  have hc5 := (hK 0 W h0).2.1
  refine callsIn_of_wp Try.func59 rfl trivial ?_ rfl
  simp only [Try.ntmps59, List.size_toArray, List.length_cons, List.length_nil, Nat.reduceAdd, Nat.reduceSub, Array.replicate_succ, Array.replicate_zero, List.push_toArray, List.append_toArray, List.nil_append, List.cons_append]
  gi_wp2
  gi_loopw [5] (fun v wr => ∃ k, v = x k ∧ J k wr) (fun _ wr => μ wr)
  case atStart => exact ⟨0, rfl, h0⟩
  case round =>
    obtain ⟨k, rfl, hj⟩ := hrel
    obtain ⟨hm, _, hc3, hc4⟩ := hK k wr hj
    obtain ⟨fn, tmps, assign, body, hy, hR⟩ := hY k wr hj
    gi_wp2
    refine hR.mono ?_
    rintro e W3 (⟨rfl, hJ3⟩ | ⟨rfl, hJx3⟩)
    · obtain ⟨hm3, _, hd3, hd4⟩ := hK (k + 1) W3 hJ3
      gi_wp2
      refine ⟨trivial, (callsIn_wide.2 (HN.out k W3)).mono ?_⟩
      rintro e W4 ⟨rfl, rfl⟩
      gi_wp2
      go_roundw
      case rel => exact ⟨k + 1, rfl, hJ3⟩
      case measure => omega
    · gi_wp2
      go_end0
      exact ⟨⟨_, rfl⟩, _, hJx3⟩
end Go.Proofs.Ytapccbplmbbnnac
