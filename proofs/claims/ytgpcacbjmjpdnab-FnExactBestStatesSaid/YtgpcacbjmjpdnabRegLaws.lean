/- The laws FnExactValidRegister, FnExactStepRegister, FnExactPolyOf; the polynomial of a register. -/
import Derived.Test.YtgpcacbjmjpdnabReg
namespace Go.Proofs.Ytgpcacbjmjpdnab
open Go.RowKit Go.PlainAid
set_option maxHeartbeats 400000

/-- the polynomial of a register -/
def polyN2 (W t : Nat) : Nat := t + 2 ^ W
theorem or_poly {W t : Nat} (hW : W ≤ 16) (ht : t < 2 ^ W) : bits .or .i64 (2 ^ W) (t : Int) = (polyN2 W t : Nat) := by
  have h2 : 2 ^ W ≤ 2 ^ 16 := Nat.pow_le_pow_right (by omega) hW
  have e : (2 : Int) ^ W = ((2 ^ W : Nat) : Int) := by simp
  have h3 := or_above ht 1
  rw [e, i64_orN _ _ (by omega) (by omega), Nat.or_comm]
  unfold polyN2
  rw [Nat.mul_one] at h3
  rw [h3]
theorem poly_any (W t : Nat) (w : World) (hW : W ≤ 16) (ht : t < 2 ^ W) :
    Calls Try.prog 84 #[.agg #[.int .i64 W, .int .i64 t]] w fun e w' => e = .returned (.int .i64 (polyN2 W t)) ∧ Below w.heap.size w w' := by
  have E := or_poly hW ht
  obtain ⟨P, hP⟩ : ∃ P : Int, 2 ^ W = P := ⟨_, rfl⟩
  obtain ⟨p1, p2⟩ := pow62 W (by omega)
  rw [hP] at p1 p2 E
  clear ht
  go_enter Try.func84, Try.ntmps84
  go_wp2
  go_quiet (fail)
  go_wp2
  go_ret
  exact ⟨rfl, below_drewN ((Below.refl _ _).alloc (Nat.le_refl _) _) _⟩
end Go.Proofs.Ytgpcacbjmjpdnab
