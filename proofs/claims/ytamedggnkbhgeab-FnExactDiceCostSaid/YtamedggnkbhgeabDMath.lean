/- The sums of remainders of powers of 2. Of no program. -/
import Derived.Test.YtamedggnkbhgeabAddFr
import Derived.Test.YtamedggnkbhgeabCycVis
namespace Go.Proofs.Ytamedggnkbhgeab

/-- the remainder of a power of 2 -/
def pw2 (n k : Nat) : Nat := 2 ^ k % n
theorem pw2_next (n k : Nat) : pw2 n (k + 1) = (2 * pw2 n k) % n := by
  unfold pw2
  rw [Nat.pow_succ, Nat.mul_comm, Nat.mul_mod_mod]
theorem pw2_steps (n : Nat) : Steps (pw2 n) := fun i j h => by rw [pw2_next, pw2_next, h]
theorem pw2_lt {n : Nat} (h : 1 ≤ n) (k : Nat) : pw2 n k < n := Nat.mod_lt _ (by omega)
/-- the sum of the first k remainders, each divided by its power, times 2 to the power of k -/
def rsum (n : Nat) : Nat → Nat
  | 0 => 0
  | k + 1 => 2 * (rsum n k + pw2 n k)
/-- the same, term by term -/
def tsum (s : Nat → Nat) (b : Nat) : Nat → Nat
  | 0 => 0
  | i + 1 => tsum s b i + s i * 2 ^ (b - i)
theorem rsum_le {n : Nat} (h : 1 ≤ n) (h2 : n ≤ 32) : ∀ k, rsum n k ≤ 64 * (2 ^ k - 1) := by
  intro k
  induction k with
  | zero => simp [rsum]
  | succ k ih =>
    have := pw2_lt h k
    have hp : 1 ≤ 2 ^ k := Nat.one_le_two_pow
    unfold rsum
    rw [Nat.pow_succ]
    omega
/-- what both ways must agree in -/
def dieOk (n b c : Nat) : Bool :=
  let cy : Int := (rsum n (b + c) : Int) - rsum n b
  let de : Int := (2 ^ c - 1) * 2 ^ b
  let tp : Int := tsum (pw2 n) b b
  let pe : Int := tsum (fun i => pw2 n (b + i)) c c
  let fn := mkN tp (2 ^ b); let fd := mkD tp (2 ^ b)
  let gn := mkN pe de; let gd := mkD pe de
  decide (1 ≤ fd ∧ fd ≤ 1000000000000000000 ∧ -1000000000000000000 ≤ fn ∧ fn ≤ 1000000000000000000 ∧ gcdI fn fd = 1) &&
  decide (1 ≤ gd ∧ gd ≤ 1000000000000000000 ∧ -1000000000000000000 ≤ gn ∧ gn ≤ 1000000000000000000 ∧ gcdI gn gd = 1) &&
  decide (addN fn fd gn gd = mkN cy de ∧ addD fn fd gn gd = mkD cy de) &&
  decide (-1000000000000000000 ≤ addN fn fd gn gd ∧ addN fn fd gn gd ≤ 1000000000000000000 ∧ -1000000000000000000 ≤ addD fn fd gn gd ∧ addD fn fd gn gd ≤ 1000000000000000000)
def allDice (N : Nat) : Bool := (List.range N).all fun n => (List.range (n + 2)).all fun b => (List.range (n + 2 - b)).all fun c => c == 0 || !(pw2 (n + 1) (b + c) == pw2 (n + 1) b) || dieOk (n + 1) b c
theorem allDice_32 : allDice 32 = true := by decide +kernel
theorem dieOk_of {n b c : Nat} (h1 : 1 ≤ n) (h2 : n ≤ 32) (hc : 0 < c) (hbc : b + c ≤ n) (he : pw2 n (b + c) = pw2 n b) : dieOk n b c = true := by
  have h := allDice_32
  unfold allDice at h
  rw [List.all_eq_true] at h
  have h3 := h (n - 1) (by rw [List.mem_range]; omega)
  rw [List.all_eq_true] at h3
  have h4 := h3 b (by rw [List.mem_range]; omega)
  rw [List.all_eq_true] at h4
  have h5 := h4 c (by rw [List.mem_range]; omega)
  rw [Nat.sub_add_cancel h1] at h5
  simp only [Bool.or_eq_true, beq_iff_eq, Bool.not_eq_true', beq_eq_false_iff_ne, ne_eq] at h5
  rcases h5 with (h5 | h5) | h5
  · omega
  · exact absurd he h5
  · exact h5
theorem cyc_small {n b c : Nat} (h1 : 1 ≤ n) (h : CycP (pw2 n) b c) : b + c ≤ n := by
  obtain ⟨b', c', g1, g2, g3⟩ := comes_again (fun i => pw2_lt h1 i)
  have := h.2.2.2 b' c' g1 g3
  omega
end Go.Proofs.Ytamedggnkbhgeab
