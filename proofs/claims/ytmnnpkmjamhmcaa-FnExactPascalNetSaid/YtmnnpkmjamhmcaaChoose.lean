/- Plain facts: Pascal's rows. No program here. -/
import Derived.WalkKit
namespace Go.Proofs.Ytmnnpkmjamhmcaa.Choose
set_option maxRecDepth 100000

def ch : Nat → Nat → Nat
  | _, 0 => 1
  | 0, _ + 1 => 0
  | n + 1, k + 1 => ch n k + ch n (k + 1)

theorem ch_zero (n : Nat) : ch n 0 = 1 := by cases n <;> rfl
theorem ch_succ (n k : Nat) : ch (n + 1) (k + 1) = ch n k + ch n (k + 1) := rfl
theorem ch_out : ∀ n k, n < k → ch n k = 0 := by
  intro n
  induction n with
  | zero => intro k h; cases k with
    | zero => omega
    | succ k => rfl
  | succ n ih => intro k h; cases k with
    | zero => omega
    | succ k => rw [ch_succ, ih k (by omega), ih (k + 1) (by omega)]
theorem ch_self : ∀ n, ch n n = 1 := by
  intro n
  induction n with
  | zero => rfl
  | succ n ih => rw [ch_succ, ih, ch_out n (n + 1) (by omega)]

theorem absorb : ∀ n k, (k + 1) * ch n (k + 1) + k * ch n k = n * ch n k := by
  intro n
  induction n with
  | zero => intro k; cases k with
    | zero => rfl
    | succ k => simp [ch]
  | succ n ih => intro k; cases k with
    | zero =>
      have h := ih 0
      rw [ch_zero] at h ⊢
      rw [ch_succ, ch_zero]
      omega
    | succ k =>
      have h1 := ih (k + 1)
      have h2 := ih k
      rw [ch_succ, ch_succ]
      generalize ch n k = Z at *
      generalize ch n (k + 1) = A at *
      generalize ch n (k + 1 + 1) = B at *
      simp only [Nat.add_mul, Nat.mul_add, Nat.one_mul] at *
      omega
theorem absorb_sub (n k : Nat) (h : k ≤ n) : ch n k * (n - k) = ch n (k + 1) * (k + 1) := by
  have h1 := absorb n k
  obtain ⟨d, rfl⟩ := Nat.exists_eq_add_of_le h
  rw [show k + d - k = d by omega]
  have h2 : (k + d) * ch (k + d) k = k * ch (k + d) k + d * ch (k + d) k := Nat.add_mul _ _ _
  rw [Nat.mul_comm (ch (k + d) k) d, Nat.mul_comm (ch (k + d) (k + 1)) (k + 1)]
  omega

/-- the next row -/
def nextRow (l : List Nat) : List Nat := List.zipWith (· + ·) (0 :: l) (l ++ [0])
def row : Nat → List Nat
  | 0 => [1]
  | n + 1 => nextRow (row n)
theorem row_length : ∀ n, (row n).length = n + 1 := by
  intro n
  induction n with
  | zero => rfl
  | succ n ih => simp [row, nextRow, ih]
theorem row_get : ∀ n k, k ≤ n → (row n)[k]? = some (ch n k) := by
  intro n
  induction n with
  | zero => intro k h; obtain rfl : k = 0 := by omega
            rfl
  | succ n ih =>
    intro k h
    unfold row nextRow
    rw [List.getElem?_zipWith]
    have hl := row_length n
    cases k with
    | zero =>
      rw [List.getElem?_cons_zero, List.getElem?_append_left (by omega), ih 0 (by omega), ch_zero, ch_zero]
    | succ k =>
      rw [List.getElem?_cons_succ, ih k (by omega), ch_succ]
      by_cases e : k = n
      · subst e
        rw [List.getElem?_append_right (by omega), hl, Nat.sub_self, ch_out k (k + 1) (by omega)]
        rfl
      · rw [List.getElem?_append_left (by omega), ih (k + 1) (by omega)]

def chk (n : Nat) : Nat → List Nat → Bool
  | _, [] => true
  | k, x :: l => decide (x * (n - k) ≤ 4000000000000000000) && decide (x ≤ 200000000000000000) && chk n (k + 1) l
theorem chk_all : ∀ n, n < 61 → chk n 0 (row n) = true := by decide +kernel
theorem chk_get (n : Nat) : ∀ (l : List Nat) (k i x : Nat), chk n k l = true → l[i]? = some x → x * (n - (k + i)) ≤ 4000000000000000000 ∧ x ≤ 200000000000000000 := by
  intro l
  induction l with
  | nil => intro k i x _ h; simp at h
  | cons y l ih =>
    intro k i x h hx
    simp only [chk, Bool.and_eq_true, decide_eq_true_eq] at h
    cases i with
    | zero => simp at hx; subst hx; exact ⟨h.1.1, h.1.2⟩
    | succ i =>
      have := ih (k + 1) i x h.2 (by simpa using hx)
      rwa [show k + 1 + i = k + (i + 1) by omega] at this
theorem ch_in (n k : Nat) (hn : n ≤ 60) (hk : k ≤ n) : ch n k * (n - k) ≤ 4000000000000000000 ∧ ch n k ≤ 200000000000000000 := by
  have := chk_get n (row n) 0 k (ch n k) (chk_all n (by omega)) (row_get n k hk)
  rwa [Nat.zero_add] at this

/-- the first j numbers of row n added up -/
def sm (n : Nat) : Nat → Nat
  | 0 => 0
  | j + 1 => sm n j + ch n j
theorem sm_step (n : Nat) : ∀ j, sm (n + 1) (j + 1) = sm n j + sm n (j + 1) := by
  intro j
  induction j with
  | zero => simp [sm, ch_zero]
  | succ j ih =>
    rw [show sm (n + 1) (j + 1 + 1) = sm (n + 1) (j + 1) + ch (n + 1) (j + 1) from rfl, ih, ch_succ]
    simp only [sm]
    omega
theorem sm_all : ∀ n, sm n (n + 1) = 2 ^ n := by
  intro n
  induction n with
  | zero => rfl
  | succ n ih =>
    rw [sm_step, show sm n (n + 1 + 1) = sm n (n + 1) + ch n (n + 1) from rfl, ih, ch_out n (n + 1) (by omega), Nat.pow_succ]
    omega
theorem sm_mono (n : Nat) : ∀ d j, sm n j ≤ sm n (j + d) := by
  intro d
  induction d with
  | zero => intro j; exact Nat.le_refl _
  | succ d ih => intro j; have := ih j; rw [show j + (d + 1) = (j + d) + 1 by omega]; simp only [sm]; omega
theorem sm_le (n j : Nat) (h : j ≤ n + 1) : sm n j ≤ 2 ^ n := by
  have := sm_mono n (n + 1 - j) j
  rwa [show j + (n + 1 - j) = n + 1 by omega, sm_all] at this
theorem ch_pos : ∀ n k, k ≤ n → 1 ≤ ch n k := by
  intro n
  induction n with
  | zero => intro k h; obtain rfl : k = 0 := by omega
            exact Nat.le_refl _
  | succ n ih => intro k h; cases k with
    | zero => rw [ch_zero]; exact Nat.le_refl _
    | succ k => have := ih k (by omega); rw [ch_succ]; omega
end Go.Proofs.Ytmnnpkmjamhmcaa.Choose
