/- Jumps of registers: impl.JumpRegister, spec.JumpRegister, the law FnExactJumpRegister. -/
import Derived.Test.YtgpcacbjmjpdnabRegLaws
namespace Go.Proofs.Ytgpcacbjmjpdnab
open Go.RowKit Go.PlainAid
set_option maxHeartbeats 400000

/-- the first k bits of the state after n steps -/
def jmp (p s n : Nat) : Nat → Nat
  | 0 => 0
  | k + 1 => jmp p s n k + Pop.pcF 64 (Pl.pw p (n + k) &&& s) % 2 * 2 ^ k
theorem jmp_lt (p s n : Nat) : ∀ k, jmp p s n k < 2 ^ k := by
  intro k
  induction k with
  | zero => simp [jmp]
  | succ k ih =>
    rw [jmp, Nat.pow_succ]
    have h : Pop.pcF 64 (Pl.pw p (n + k) &&& s) % 2 * 2 ^ k ≤ 1 * 2 ^ k := Nat.mul_le_mul_right _ (by omega)
    omega
theorem jmp_step {p s n k c : Nat} (hk : k ≤ 16) (hc : Pop.pcF 64 (Pl.pw p (n + k) &&& s) % 2 = c) : bits .or .i64 (jmp p s n k : Int) (wrap64 ((c : Int) * 2 ^ k)) = (jmp p s n (k + 1) : Nat) := by
  rw [or_shl hk (jmp_lt p s n k) (by omega), jmp, hc]
theorem poly_pos (W t : Nat) : 0 < polyN2 W t := by
  have : 0 < 2 ^ W := Nat.pow_pos (by omega)
  unfold polyN2
  omega
theorem poly_lt {W t : Nat} (hW : W ≤ 16) (ht : t < 2 ^ W) : polyN2 W t < 4294967296 := by
  have : 2 ^ W ≤ 2 ^ 16 := Nat.pow_le_pow_right (by omega) hW
  unfold polyN2
  omega

end Go.Proofs.Ytgpcacbjmjpdnab
