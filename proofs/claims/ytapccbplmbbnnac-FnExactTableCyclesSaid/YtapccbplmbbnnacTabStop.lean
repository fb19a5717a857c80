/- Plain facts on the model's search for cycles: where it stops, and what it has counted. No program here. -/
import Derived.Test.YtapccbplmbbnnacTabMath
namespace Go.Proofs.Ytapccbplmbbnnac

/-- the search from x stops at x only at the cycle's length, and only if x is the least state -/
theorem stop_least {f : Nat → Nat} {x n : Nat} (h0 : 0 < n) (hgt : ∀ i, 0 < i → i < n → x < orb f x i) (e : orb f x n = x) : Least f n x := by
  refine ⟨⟨h0, by rw [Nat.zero_add]; exact e, fun i hi => by omega, fun b' c' hc' e2 => ⟨?_, Nat.zero_le _⟩⟩, fun i hi => ?_⟩
  · apply Nat.le_of_not_lt
    intro hlt
    -- both come again behind b' rounds of n: at x itself
    have h1 : ∀ q, orb f x (q * n) = x := by
      intro q
      induction q with
      | zero => simp [orb]
      | succ q ih => rw [Nat.succ_mul, orb_add, ih, e]
    have h2 : orb f x (b' * n + c') = orb f x (b' * n) := by
      have hle : b' ≤ b' * n := by
        have : b' * 1 ≤ b' * n := Nat.mul_le_mul_left _ h0
        omega
      have := (orb_steps f x).add e2 (b' * n - b')
      rwa [show b' + c' + (b' * n - b') = b' * n + c' by omega, show b' + (b' * n - b') = b' * n by omega] at this
    rw [orb_add, h1] at h2
    have := hgt c' hc' hlt
    omega
  · cases i with
    | zero => exact Nat.le_refl _
    | succ i => exact Nat.le_of_lt (hgt (i + 1) (by omega) hi)
theorem least_gt {f : Nat → Nat} {c x : Nat} (h : Least f c x) : ∀ i, 0 < i → i < c → x < orb f x i := by
  intro i h0 hi
  apply Nat.lt_of_le_of_ne (h.2 i hi)
  intro e
  have := (h.1.2.2.2 0 i h0 (by rw [Nat.zero_add]; exact e.symm)).1
  omega
theorem least_stop {f : Nat → Nat} {c x n N : Nat} (h : Least f c x) (hcN : c ≤ N) (h0 : 0 < n) (hgt : ∀ i, 0 < i → i < n → x < orb f x i) (hend : orb f x n ≤ x ∨ n = N) : n = c := by
  have hc := h.1.1
  have hback : orb f x c = x := by
    have := h.1.2.1
    rwa [Nat.zero_add] at this
  have h1 : n ≤ c := by
    apply Nat.le_of_not_lt
    intro hlt
    have := hgt c hc hlt
    omega
  apply Nat.le_antisymm h1
  apply Nat.le_of_not_lt
  intro hlt
  have := least_gt h n h0 hlt
  omega
theorem Least.unique {f : Nat → Nat} {c d x : Nat} (h : Least f c x) (g : Least f d x) : c = d := (CycP.unique h.1 g.1).2

open Classical in
/-- the lengths of the cycles of the least states below x, in their order -/
noncomputable def outL (f : Nat → Nat) : Nat → List Int
  | 0 => []
  | x + 1 => if h : ∃ c, Least f c x then outL f x ++ [((Classical.choose h : Nat) : Int)] else outL f x
theorem outL_on {f : Nat → Nat} {c x : Nat} (h : Least f c x) : outL f (x + 1) = outL f x ++ [(c : Int)] := by
  have hx : ∃ c, Least f c x := ⟨c, h⟩
  simp only [outL]
  rw [dif_pos hx, (Classical.choose_spec hx).unique h]
theorem outL_off {f : Nat → Nat} {x : Nat} (h : ¬ ∃ c, Least f c x) : outL f (x + 1) = outL f x := by
  simp only [outL]
  rw [dif_neg h]
theorem outL_length (f : Nat → Nat) : ∀ x, (outL f x).length ≤ x := by
  intro x
  induction x with
  | zero => simp [outL]
  | succ x ih =>
    by_cases h : ∃ c, Least f c x
    · obtain ⟨c, hc⟩ := h
      rw [outL_on hc]
      simp
      omega
    · rw [outL_off h]
      omega
open Classical in
theorem outL_count (f : Nat → Nat) (L : Nat) : ∀ x, (outL f x).countP (fun y => y == (L : Int)) = cntN (fun y => decide (Least f L y)) x := by
  intro x
  induction x with
  | zero => simp [outL, cntN, sumN]
  | succ x ih =>
    have hs : cntN (fun y => decide (Least f L y)) (x + 1) = cntN (fun y => decide (Least f L y)) x + one (decide (Least f L x)) := rfl
    rw [hs, ← ih]
    by_cases h : ∃ c, Least f c x
    · obtain ⟨c, hc⟩ := h
      rw [outL_on hc, List.countP_append]
      by_cases e : c = L
      · subst e
        simp [hc, one]
      · have hno : ¬ Least f L x := fun g => e (hc.unique g)
        have : ((c : Int) == (L : Int)) = false := by rw [beq_eq_false_iff_ne]; omega
        simp [hno, one, this]
    · rw [outL_off h]
      have hno : ¬ Least f L x := fun g => h ⟨L, g⟩
      simp [hno, one]
end Go.Proofs.Ytapccbplmbbnnac
