/- Plain facts on counting: members of fibres of equal size. No program here. -/
import Derived.Test.YtapccbplmbbnnacRegCyc
namespace Go.Proofs.Ytapccbplmbbnnac

def sumN (g : Nat → Nat) : Nat → Nat
  | 0 => 0
  | n + 1 => sumN g n + g n
def one (b : Bool) : Nat := if b then 1 else 0
/-- how many numbers below n have the property -/
def cntN (P : Nat → Bool) (n : Nat) : Nat := sumN (fun x => one (P x)) n
theorem sumN_same {g h : Nat → Nat} : ∀ n, (∀ x, x < n → g x = h x) → sumN g n = sumN h n := by
  intro n
  induction n with
  | zero => intro _; rfl
  | succ n ih => intro e; simp only [sumN]; rw [ih (fun x hx => e x (by omega)), e n (by omega)]
theorem sumN_add (g h : Nat → Nat) : ∀ n, sumN (fun x => g x + h x) n = sumN g n + sumN h n := by
  intro n
  induction n with
  | zero => rfl
  | succ n ih => simp only [sumN]; rw [ih]; omega
theorem sumN_zero : ∀ n, sumN (fun _ => 0) n = 0 := by
  intro n
  induction n with
  | zero => rfl
  | succ n ih => simp only [sumN]; rw [ih]
theorem sumN_mul (L : Nat) (g : Nat → Nat) : ∀ n, sumN (fun x => L * g x) n = L * sumN g n := by
  intro n
  induction n with
  | zero => rfl
  | succ n ih => simp only [sumN]; rw [ih, Nat.mul_add]
theorem sumN_swap (g : Nat → Nat → Nat) (k : Nat) : ∀ n, sumN (fun x => sumN (fun m => g x m) k) n = sumN (fun m => sumN (fun x => g x m) n) k := by
  intro n
  induction n with
  | zero => simp only [sumN]; exact (sumN_zero k).symm
  | succ n ih => simp only [sumN]; rw [ih, sumN_add]
theorem sumN_at (v : Nat) : ∀ n, v < n → sumN (fun m => one (v == m)) n = 1 := by
  intro n
  induction n with
  | zero => intro h; omega
  | succ n ih =>
    intro h
    simp only [sumN]
    by_cases e : v = n
    · subst e
      have : sumN (fun m => one (v == m)) v = 0 := by
        rw [← sumN_zero v]
        exact sumN_same v fun x hx => by
          show one (v == x) = 0
          rw [show (v == x) = false by rw [beq_eq_false_iff_ne]; omega]
          rfl
      rw [this, show (v == v) = true by simp]
      rfl
    · rw [ih (by omega), show (v == n) = false by rw [beq_eq_false_iff_ne]; exact e]
      rfl
theorem one_and (a b : Bool) : one (a && b) = one a * one b := by cases a <;> cases b <;> rfl
theorem cntN_none {P : Nat → Bool} {n : Nat} (h : ∀ x, x < n → P x = false) : cntN P n = 0 := by
  unfold cntN
  rw [← sumN_zero n]
  exact sumN_same n fun x hx => by rw [h x hx]; rfl
/-- fibres of equal size -/
theorem cnt_fibres {P Q : Nat → Bool} {mm : Nat → Nat} {N L : Nat} (h1 : ∀ x, x < N → P x = true → mm x < N ∧ Q (mm x) = true) (h2 : ∀ m, m < N → Q m = true → cntN (fun x => P x && mm x == m) N = L) :
    cntN P N = L * cntN Q N := by
  have e1 : cntN P N = sumN (fun x => sumN (fun m => one (P x && mm x == m)) N) N := by
    refine sumN_same N fun x hx => ?_
    cases hp : P x with
    | false =>
      have : (fun m => one (false && mm x == m)) = fun _ => 0 := by funext m; rfl
      rw [this, sumN_zero]
      rfl
    | true =>
      have : (fun m => one (true && mm x == m)) = fun m => one (mm x == m) := by funext m; simp
      rw [this, sumN_at _ _ (h1 x hx hp).1]
      rfl
  rw [e1, sumN_swap]
  have e2 : ∀ m, m < N → sumN (fun x => one (P x && mm x == m)) N = L * one (Q m) := fun m hm => by
    cases hq : Q m with
    | true =>
      have := h2 m hm hq
      unfold cntN at this
      rw [this]
      simp [one]
    | false =>
      have : cntN (fun x => P x && mm x == m) N = 0 := cntN_none fun x hx => by
        cases hp : P x with
        | false => rfl
        | true =>
          have h3 := (h1 x hx hp).2
          rw [Bool.true_and, beq_eq_false_iff_ne]
          intro e
          rw [e, hq] at h3
          cases h3
      unfold cntN at this
      rw [this]
      simp [one]
  rw [sumN_same N e2, sumN_mul]
  rfl
/-- as many members as a row of different ones has -/
theorem cnt_row {s : Nat → Nat} {N : Nat} {P : Nat → Bool} : ∀ L, Unlike s L → (∀ i, i < L → s i < N) → (∀ x, x < N → (P x = true ↔ ∃ i, i < L ∧ s i = x)) → cntN P N = L := by
  intro L
  induction L generalizing P with
  | zero =>
    intro _ _ h
    exact cntN_none fun x hx => by
      cases hp : P x with
      | false => rfl
      | true =>
        obtain ⟨i, hi, _⟩ := (h x hx).1 hp
        omega
  | succ L ih =>
    intro hu hs h
    have h2 := ih (P := fun x => P x && !(s L == x)) (fun i j hij hj => hu i j hij (by omega)) (fun i hi => hs i (by omega)) (fun x hx => by
      constructor
      · intro hp
        have hp' : P x = true ∧ ¬ s L = x := by simpa using hp
        obtain ⟨i, hi, e⟩ := (h x hx).1 hp'.1
        refine ⟨i, ?_, e⟩
        by_cases ei : i = L
        · subst ei; exact absurd e hp'.2
        · omega
      · intro ⟨i, hi, e⟩
        have hp : P x = true := (h x hx).2 ⟨i, by omega, e⟩
        have hne : ¬ s L = x := fun e2 => hu i L hi (by omega) (e.trans e2.symm)
        simp [hp, hne])
    have h3 : cntN P N = cntN (fun x => P x && !(s L == x)) N + sumN (fun x => one (s L == x)) N := by
      unfold cntN
      rw [← sumN_add]
      refine sumN_same N fun x hx => ?_
      show one (P x) = one (P x && !(s L == x)) + one (s L == x)
      by_cases e : s L = x
      · have hp : P x = true := (h x hx).2 ⟨L, by omega, e⟩
        have : (s L == x) = true := by rw [beq_iff_eq]; exact e
        rw [hp, this]
        rfl
      · have : (s L == x) = false := by rw [beq_eq_false_iff_ne]; exact e
        rw [this]
        cases P x <;> rfl
    rw [h3, h2, sumN_at _ _ (hs L (by omega))]
end Go.Proofs.Ytapccbplmbbnnac
