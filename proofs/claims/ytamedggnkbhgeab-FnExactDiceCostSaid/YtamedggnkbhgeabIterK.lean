/- The iterator impl.statesFrom over congruences: its contract, where the step may make memory. -/
import Derived.Test.YtamedggnkbhgeabCycA
import Derived.Test.YtamedggnkbhgeabCon
namespace Go.Proofs.Ytamedggnkbhgeab
open Go.RowKit Go.Shelf
attribute [local go_sem] Oper.semAt_some

/-- what a world must hold while the iterator runs: the machine has three fields -/
def StatesIn3 (x : Nat → Value) (nf : Nat) (m1 m2 m3 : Value) (b5 b3 b4 : Nat) (μ : World → Nat) (N : Nat) (k : Nat) (V : World) : Prop :=
  μ V + k = N ∧ V.cell? ⟨b5, 0, none⟩ = some (x 0) ∧ V.cell? ⟨b3, 0, none⟩ = some (.func (.func nf) #[] #[]) ∧ V.cell? ⟨b4, 0, none⟩ = some m1 ∧ V.cell? ⟨b4, 1, none⟩ = some m2 ∧ V.cell? ⟨b4, 2, none⟩ = some m3
set_option maxHeartbeats 1000000 in
theorem conStates (x : Nat → Value) (m1 m2 m3 : Value) (b5 b3 b4 : Nat) (μ : World → Nat) (N n : Nat) (w : World) (hn : 1 ≤ n)
    (HN : Hid (∀ (k : Nat) (W : World), Calls Try.prog 42 #[.agg #[m1, m2, m3], x k] W fun e w' => e = .returned (x (k + 1)) ∧ Below W.heap.size W w')) :
    Endless Fence.wide n Try.prog 81 #[.pointer (some ⟨b5, 0, none⟩), .pointer (some ⟨b3, 0, none⟩), .pointer (some ⟨b4, 0, none⟩)] x
      (StatesIn3 x 42 m1 m2 m3 b5 b3 b4 μ N) w := by
  intro l J Jx W hW hJ hJx hK hY h0
  have hc5 := (hK 0 W h0).2.1
  refine callsIn_of_wp Try.func81 rfl trivial ?_ rfl
  simp only [Try.ntmps81, List.size_toArray, List.length_cons, List.length_nil, Nat.reduceAdd, Nat.reduceSub, Array.replicate_succ, Array.replicate_zero, List.push_toArray, List.append_toArray, List.nil_append, List.cons_append]
  gi_wp2
  gi_loopw [5] (fun v wr => ∃ k, v = x k ∧ J k wr) (fun _ wr => μ wr)
  case atStart => exact ⟨0, rfl, h0⟩
  case round =>
    obtain ⟨k, rfl, hj⟩ := hrel
    obtain ⟨hm, _, hc3, hc4, hc4b, hc4c⟩ := hK k wr hj
    obtain ⟨fn, tmps, assign, body, hy, hR⟩ := hY k wr hj
    gi_wp2
    refine hR.mono ?_
    rintro e W3 (⟨rfl, hJ3⟩ | ⟨rfl, hJx3⟩)
    · obtain ⟨hm3, _, hd3, hd4, hd4b, hd4c⟩ := hK (k + 1) W3 hJ3
      gi_wp2
      refine ⟨trivial, (callsIn_wide.2 (HN.out k W3)).mono ?_⟩
      rintro e W4 ⟨rfl, hb4⟩
      have hJ4 : J (k + 1) W4 := hJ (k + 1) W3 W4 none hJ3 (grown_below hb4) (fun r e => by cases e)
      have hm4 := (hK (k + 1) W4 hJ4).1
      gi_wp2
      go_roundw
      case rel => exact ⟨k + 1, rfl, hJ4⟩
      case measure => omega
    · gi_wp2
      go_end0
      exact ⟨⟨_, rfl⟩, _, hJx3⟩
end Go.Proofs.Ytamedggnkbhgeab
