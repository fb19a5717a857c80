/- Plain facts: states one after another come again; the least period and what comes before it. No program here. -/
import Derived.WalkKit
namespace Go.Proofs.Ytmnnpkmjamhmcab

/-- each state tells the next one -/
def Steps (s : Nat → Nat) : Prop := ∀ i j, s i = s j → s (i + 1) = s (j + 1)
theorem Steps.add {s : Nat → Nat} (h : Steps s) {i j : Nat} (e : s i = s j) : ∀ k, s (i + k) = s (j + k) := by
  intro k
  induction k with
  | zero => exact e
  | succ k ih => exact h _ _ ih
theorem Steps.mul {s : Nat → Nat} (h : Steps s) {b c : Nat} (e : s (b + c) = s b) : ∀ n, s (b + n * c) = s b := by
  intro n
  induction n with
  | zero => simp
  | succ n ih =>
    have := h.add ih c
    rw [Nat.succ_mul, ← Nat.add_assoc, this, e]
theorem Steps.from {s : Nat → Nat} (h : Steps s) {b c : Nat} (e : s (b + c) = s b) {i : Nat} (hi : b ≤ i) : s (i + c) = s i := by
  have := h.add e (i - b)
  rw [show b + c + (i - b) = i + c by omega, show b + (i - b) = i by omega] at this
  exact this

/-- the states come again after c, first at b, and not sooner -/
def CycP (s : Nat → Nat) (b c : Nat) : Prop := 0 < c ∧ s (b + c) = s b ∧ (∀ i, i < b → ¬ s (i + c) = s i) ∧ ∀ b' c', 0 < c' → s (b' + c') = s b' → c ≤ c' ∧ b ≤ b'
theorem cycP_of {s : Nat → Nat} (h : Steps s) {M b c : Nat} (h0 : 0 < c) (hM : s (M + c) = s M) (hmin : ∀ i, 0 < i → i < c → ¬ s (M + i) = s M) (hb : s (b + c) = s b) (hbm : ∀ i, i < b → ¬ s (i + c) = s i) : CycP s b c := by
  refine ⟨h0, hb, hbm, fun b' c' hc' e => ⟨?_, ?_⟩⟩
  · -- a later place at which both come again
    have e1 := h.mul hM b'
    have hbig : b' ≤ M + b' * c := by
      have : b' * 1 ≤ b' * c := Nat.mul_le_mul_left _ h0
      omega
    have e2 := h.from e hbig
    have e3 := h.add e1 c'
    rw [e2, e1] at e3
    apply Nat.le_of_not_lt
    intro hlt
    exact hmin c' hc' hlt e3.symm
  · have e1 := h.mul e M
    have hbig : M ≤ b' + M * c' := by
      have : M * 1 ≤ M * c' := Nat.mul_le_mul_left _ hc'
      omega
    have e2 := h.from hM hbig
    have e3 := h.add e1 c
    rw [e2, e1] at e3
    apply Nat.le_of_not_lt
    intro hlt
    exact hbm b' hlt e3.symm

/-- pigeons: of N + 1 values below N, two are equal -/
theorem pigeon : ∀ (N : Nat) (f : Nat → Nat), (∀ i, i ≤ N → f i < N) → ∃ i j, i < j ∧ j ≤ N ∧ f i = f j := by
  intro N
  induction N with
  | zero => intro f h; have := h 0 (Nat.le_refl _); omega
  | succ N ih =>
    intro f h
    by_cases hk : ∃ i, i ≤ N ∧ f i = f (N + 1)
    · obtain ⟨i, hi, e⟩ := hk
      exact ⟨i, N + 1, by omega, Nat.le_refl _, e⟩
    · -- the value N is renamed to that of the last one
      let g : Nat → Nat := fun i => if f i = N then f (N + 1) else f i
      have hg : ∀ i, i ≤ N → g i < N := by
        intro i hi
        have h1 := h i (by omega)
        have h2 := h (N + 1) (Nat.le_refl _)
        have h3 : ¬ f i = f (N + 1) := fun e => hk ⟨i, hi, e⟩
        show (if f i = N then f (N + 1) else f i) < N
        split <;> omega
      obtain ⟨i, j, hij, hj, e⟩ := ih g hg
      refine ⟨i, j, hij, by omega, ?_⟩
      have hi' : ¬ f i = f (N + 1) := fun e => hk ⟨i, by omega, e⟩
      have hj' : ¬ f j = f (N + 1) := fun e => hk ⟨j, hj, e⟩
      have e' : (if f i = N then f (N + 1) else f i) = (if f j = N then f (N + 1) else f j) := e
      split at e' <;> split at e' <;> omega
theorem comes_again {s : Nat → Nat} {N : Nat} (h : ∀ i, s i < N) : ∃ b c, 0 < c ∧ b + c ≤ N ∧ s (b + c) = s b := by
  obtain ⟨i, j, hij, hj, e⟩ := pigeon N s (fun i _ => h i)
  exact ⟨i, j - i, by omega, by omega, by rw [show i + (j - i) = j by omega]; exact e.symm⟩

/-- what the first search keeps: the state M is marked, and L later ones are others -/
def Mark (s : Nat → Nat) (B k j L : Nat) : Prop := k + 1 = 2 ^ j + L ∧ L < 2 ^ j ∧ 2 ^ j ≤ 2 * B ∧ ∀ i, 0 < i → i ≤ L → ¬ s (2 ^ j - 1 + i) = s (2 ^ j - 1)
theorem Mark.start {s : Nat → Nat} {B : Nat} (hB : 0 < B) : Mark s B 0 0 0 := ⟨by simp, by simp, by simp; omega, fun i h0 h1 => by omega⟩
theorem Mark.small {s : Nat → Nat} {B k j L : Nat} (h : Mark s B k j L) : k < 4 * B := by obtain ⟨a, b, c, d⟩ := h; omega
theorem Mark.next {s : Nat → Nat} {B k j L : Nat} (h : Mark s B k j L) (hne : ¬ s (k + 1) = s (2 ^ j - 1)) (hlt : ¬ L + 1 = 2 ^ j) : Mark s B (k + 1) j (L + 1) := by
  obtain ⟨a, b, c, d⟩ := h
  refine ⟨by omega, by omega, c, fun i h0 h1 => ?_⟩
  by_cases hi : i ≤ L
  · exact d i h0 hi
  · rw [show 2 ^ j - 1 + i = k + 1 by omega]; exact hne
theorem Mark.double {s : Nat → Nat} {B k j L b c : Nat} (hs : Steps s) (hc : 0 < c) (hbc : b + c ≤ B) (e : s (b + c) = s b) (h : Mark s B k j L) (hne : ¬ s (k + 1) = s (2 ^ j - 1)) (hlt : L + 1 = 2 ^ j) : Mark s B (k + 1) (j + 1) 0 := by
  have h1 := h
  obtain ⟨a, b1, c1, d⟩ := h
  have hall : ∀ i, 0 < i → i ≤ 2 ^ j → ¬ s (2 ^ j - 1 + i) = s (2 ^ j - 1) := by
    intro i h0 hi
    by_cases hL : i ≤ L
    · exact d i h0 hL
    · rw [show 2 ^ j - 1 + i = k + 1 by omega]; exact hne
  have hsmall : 2 ^ j ≤ B := by
    apply Nat.le_of_not_lt
    intro hbig
    have := hs.from e (show b ≤ 2 ^ j - 1 by omega)
    exact hall c hc (by omega) this
  refine ⟨by rw [Nat.pow_succ]; omega, Nat.pow_pos (by omega), by rw [Nat.pow_succ]; omega, fun i h0 h1 => by omega⟩
end Go.Proofs.Ytmnnpkmjamhmcab
