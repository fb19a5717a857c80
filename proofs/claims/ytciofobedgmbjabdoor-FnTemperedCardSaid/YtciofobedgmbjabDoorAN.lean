/- Matrices: masks before a step, one step after another, powers: impl. -/
import Derived.Test.YtciofobedgmbjabDoorLinC
namespace Go.Proofs.YtciofobedgmbjabDoor
open Go.RowKit Go.PlainAid
set_option maxHeartbeats 800000

theorem MA.c16 {W : World} {b : Nat} {f : Nat → Nat} (h : MA W b 0 16 f) : W.cell? ⟨b, 0, none⟩ = some (.int .i64 (f 0)) ∧ W.cell? ⟨b, 1, none⟩ = some (.int .i64 (f 1)) ∧ W.cell? ⟨b, 2, none⟩ = some (.int .i64 (f 2)) ∧ W.cell? ⟨b, 3, none⟩ = some (.int .i64 (f 3)) ∧ W.cell? ⟨b, 4, none⟩ = some (.int .i64 (f 4)) ∧ W.cell? ⟨b, 5, none⟩ = some (.int .i64 (f 5)) ∧ W.cell? ⟨b, 6, none⟩ = some (.int .i64 (f 6)) ∧ W.cell? ⟨b, 7, none⟩ = some (.int .i64 (f 7)) ∧ W.cell? ⟨b, 8, none⟩ = some (.int .i64 (f 8)) ∧ W.cell? ⟨b, 9, none⟩ = some (.int .i64 (f 9)) ∧ W.cell? ⟨b, 10, none⟩ = some (.int .i64 (f 10)) ∧ W.cell? ⟨b, 11, none⟩ = some (.int .i64 (f 11)) ∧ W.cell? ⟨b, 12, none⟩ = some (.int .i64 (f 12)) ∧ W.cell? ⟨b, 13, none⟩ = some (.int .i64 (f 13)) ∧ W.cell? ⟨b, 14, none⟩ = some (.int .i64 (f 14)) ∧ W.cell? ⟨b, 15, none⟩ = some (.int .i64 (f 15)) :=
  ⟨by have := (h 0 (by omega)).1; rwa [Nat.zero_add] at this, by have := (h 1 (by omega)).1; rwa [Nat.zero_add] at this, by have := (h 2 (by omega)).1; rwa [Nat.zero_add] at this, by have := (h 3 (by omega)).1; rwa [Nat.zero_add] at this, by have := (h 4 (by omega)).1; rwa [Nat.zero_add] at this, by have := (h 5 (by omega)).1; rwa [Nat.zero_add] at this, by have := (h 6 (by omega)).1; rwa [Nat.zero_add] at this, by have := (h 7 (by omega)).1; rwa [Nat.zero_add] at this, by have := (h 8 (by omega)).1; rwa [Nat.zero_add] at this, by have := (h 9 (by omega)).1; rwa [Nat.zero_add] at this, by have := (h 10 (by omega)).1; rwa [Nat.zero_add] at this, by have := (h 11 (by omega)).1; rwa [Nat.zero_add] at this, by have := (h 12 (by omega)).1; rwa [Nat.zero_add] at this, by have := (h 13 (by omega)).1; rwa [Nat.zero_add] at this, by have := (h 14 (by omega)).1; rwa [Nat.zero_add] at this, by have := (h 15 (by omega)).1; rwa [Nat.zero_add] at this⟩
theorem xr_and (m k : Nat) : bits .and .i64 ((m : Int) / 2 ^ k) 1 = (((m.testBit k).toNat : Nat) : Int) := by
  have e : (m : Int) / 2 ^ k = ((m / 2 ^ k : Nat) : Int) := by simp
  rw [e, and_one_i64', Nat.testBit_eq_decide_div_mod_eq]
  rcases (show m / 2 ^ k % 2 = 0 ∨ m / 2 ^ k % 2 = 1 by omega) with h | h
  · rw [h]; simp; omega
  · rw [h]; simp; omega
theorem pow_wrap {k : Nat} (hk : k < 16) : wrap64 ((2 : Int) ^ k) = ((2 ^ k : Nat) : Int) ∧ IntKind.i64.wrap ((2 : Int) ^ k) = ((2 ^ k : Nat) : Int) ∧ 2 ^ k < 65536 := by
  have h1 : 2 ^ k ≤ 2 ^ 15 := Nat.pow_le_pow_right (by omega) (by omega)
  have h2 : ((2 : Int) ^ k) = ((2 ^ k : Nat) : Int) := by simp
  rw [h2]
  generalize 2 ^ k = p at h1 ⊢
  exact ⟨wrap64_nat _ (by omega), IntWalk.i64_in _ (by omega), by omega⟩
end Go.Proofs.YtciofobedgmbjabDoor
