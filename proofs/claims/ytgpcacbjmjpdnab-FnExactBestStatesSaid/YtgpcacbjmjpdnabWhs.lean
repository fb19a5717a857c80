/- Plain facts: sums with the signs of parities, their transform by passes, the sum of squares. No program here. -/
import Derived.Test.YtgpcacbjmjpdnabWh
namespace Go.Proofs.Ytgpcacbjmjpdnab.Wh

def sm (f : Nat → Int) : Nat → Int
  | 0 => 0
  | k + 1 => sm f k + f k
theorem sm_congr {f g : Nat → Int} : ∀ k, (∀ y, y < k → f y = g y) → sm f k = sm g k := by
  intro k
  induction k with
  | zero => intro _; rfl
  | succ k ih => intro h; simp only [sm]; rw [ih (fun y hy => h y (by omega)), h k (by omega)]
theorem sm_add (f : Nat → Int) (a : Nat) : ∀ b, sm f (a + b) = sm f a + sm (fun y => f (a + y)) b := by
  intro b
  induction b with
  | zero => simp [sm]
  | succ b ih => rw [← Nat.add_assoc]; simp only [sm]; rw [ih, Int.add_assoc]
theorem sm_plus (f g : Nat → Int) : ∀ k, sm (fun y => f y + g y) k = sm f k + sm g k := by
  intro k
  induction k with
  | zero => rfl
  | succ k ih => simp only [sm]; rw [ih]; omega
theorem sm_minus (f g : Nat → Int) : ∀ k, sm (fun y => f y - g y) k = sm f k - sm g k := by
  intro k
  induction k with
  | zero => rfl
  | succ k ih => simp only [sm]; rw [ih]; omega
theorem sm_mul (c : Int) (f : Nat → Int) : ∀ k, sm (fun y => c * f y) k = c * sm f k := by
  intro k
  induction k with
  | zero => simp [sm]
  | succ k ih => simp only [sm]; rw [ih, Int.mul_add]
theorem sm_zero : ∀ k, sm (fun _ => 0) k = 0 := by
  intro k
  induction k with
  | zero => rfl
  | succ k ih => simp only [sm]; rw [ih]; rfl
theorem sm_le (f : Nat → Int) (b : Int) : ∀ k, (∀ y, y < k → -b ≤ f y ∧ f y ≤ b) → -((k : Int) * b) ≤ sm f k ∧ sm f k ≤ k * b := by
  intro k
  induction k with
  | zero => intro _; simp [sm]
  | succ k ih =>
    intro h
    have h1 := ih fun y hy => h y (by omega)
    have h2 := h k (by omega)
    have e : ((k + 1 : Nat) : Int) * b = k * b + b := by rw [Int.natCast_add, Int.add_mul]; simp
    rw [e]
    simp only [sm]
    omega

/-- the sign of the parity of the lowest i bits that are 1 in both -/
def sg : Nat → Nat → Nat → Int
  | 0, _, _ => 1
  | i + 1, a, x => if a.testBit i && x.testBit i then -sg i a x else sg i a x
theorem sg_one (a x : Nat) : ∀ i, sg i a x = 1 ∨ sg i a x = -1 := by
  intro i
  induction i with
  | zero => exact .inl rfl
  | succ i ih =>
    simp only [sg]
    split
    · rcases ih with h | h <;> rw [h] <;> simp
    · exact ih
theorem sg_congr {a x a' x' : Nat} : ∀ i, (∀ j, j < i → (a.testBit j && x.testBit j) = (a'.testBit j && x'.testBit j)) → sg i a x = sg i a' x' := by
  intro i
  induction i with
  | zero => intro _; rfl
  | succ i ih =>
    intro h
    simp only [sg]
    rw [ih (fun j hj => h j (by omega)), h i (by omega)]
theorem sg_comm (a x i : Nat) : sg i a x = sg i x a := sg_congr i fun _j _ => Bool.and_comm _ _
theorem sg_and (a x i : Nat) : sg i a x = sg i (a &&& x) (a &&& x) := sg_congr i fun j _ => by rw [Nat.testBit_and]; cases a.testBit j <;> cases x.testBit j <;> rfl
theorem sg_low {i y : Nat} (a : Nat) (hy : y < 2 ^ i) : sg (i + 1) a y = sg i a y := by simp [sg, Nat.testBit_lt_two_pow hy]
theorem sg_high {i y : Nat} (a : Nat) (hy : y < 2 ^ i) : sg (i + 1) a (2 ^ i + y) = if a.testBit i then -sg i a y else sg i a y := by
  simp only [sg, add_bit_top hy, Bool.and_true]
  rw [sg_congr (a := a) (x := 2 ^ i + y) (a' := a) (x' := y) i fun j hj => by rw [add_bit_low hj]]
theorem sg_flip (i a y : Nat) : sg i (a ^^^ 2 ^ i) y = sg i a y := sg_congr i fun j hj => by
  rw [flip_bit]
  have : ¬ i = j := by omega
  simp [this]
/-- signs multiply -/
theorem sg_xor (a b x : Nat) : ∀ i, sg i (a ^^^ b) x = sg i a x * sg i b x := by
  intro i
  induction i with
  | zero => rfl
  | succ i ih =>
    simp only [sg, Nat.testBit_xor]
    rw [ih]
    cases a.testBit i <;> cases b.testBit i <;> cases x.testBit i <;> simp [Int.neg_mul, Int.mul_neg]

/-- the passes -/
def tr (g : Nat → Int) : Nat → Nat → Int
  | 0, a => g a
  | i + 1, a => if a.testBit i then tr g i (a ^^^ 2 ^ i) - tr g i a else tr g i a + tr g i (a ^^^ 2 ^ i)
theorem tr_off {g : Nat → Int} {i a : Nat} (h : a.testBit i = false) : tr g (i + 1) a = tr g i a + tr g i (a ^^^ 2 ^ i) := by simp [tr, h]
theorem tr_on {g : Nat → Int} {i a : Nat} (h : a.testBit i = true) : tr g (i + 1) a = tr g i (a ^^^ 2 ^ i) - tr g i a := by simp [tr, h]
theorem tr_le (g : Nat → Int) (b : Int) (hb : ∀ x, -b ≤ g x ∧ g x ≤ b) : ∀ i a, -(((2 ^ i : Nat) : Int) * b) ≤ tr g i a ∧ tr g i a ≤ ((2 ^ i : Nat) : Int) * b := by
  intro i
  induction i with
  | zero => intro a; have := hb a; simpa [tr] using this
  | succ i ih =>
    intro a
    have h1 := ih a
    have h2 := ih (a ^^^ 2 ^ i)
    have e : ((2 ^ (i + 1) : Nat) : Int) * b = ((2 ^ i : Nat) : Int) * b + ((2 ^ i : Nat) : Int) * b := by
      rw [Nat.pow_succ, show (2 ^ i * 2 : Nat) = 2 ^ i + 2 ^ i by omega, Int.natCast_add, Int.add_mul]
    rw [e]
    simp only [tr]
    split <;> omega
theorem tr_sum (g : Nat → Int) : ∀ i a, tr g i a = sm (fun y => sg i a y * g (hi i a + y)) (2 ^ i) := by
  intro i
  induction i with
  | zero =>
    intro a
    show g a = 0 + 1 * g (hi 0 a + 0)
    have : hi 0 a = a := by simp [hi]
    rw [this]
    simp
  | succ i ih =>
    intro a
    have e : 2 ^ (i + 1) = 2 ^ i + 2 ^ i := by rw [Nat.pow_succ]; omega
    rw [e, sm_add]
    have p1 : sm (fun y => sg (i + 1) a y * g (hi (i + 1) a + y)) (2 ^ i) = sm (fun y => sg i a y * g (hi (i + 1) a + y)) (2 ^ i) := sm_congr _ fun y hy => by rw [sg_low a hy]
    rw [p1]
    cases h : a.testBit i with
    | false =>
      have h1 : (a ^^^ 2 ^ i).testBit i = true := by rw [flip_bit, h]; simp
      have p2 : sm (fun y => sg (i + 1) a (2 ^ i + y) * g (hi (i + 1) a + (2 ^ i + y))) (2 ^ i) = tr g i (a ^^^ 2 ^ i) := by
        rw [ih]
        apply sm_congr
        intro y hy
        rw [sg_high a hy, h, hi_top i _ y h1 hy, hi_flip, sg_flip]
        simp
      rw [p2, tr_off h, ih a, hi_next i a h]
    | true =>
      have h1 : (a ^^^ 2 ^ i).testBit i = false := by rw [flip_bit, h]; simp
      have p2 : sm (fun y => sg (i + 1) a (2 ^ i + y) * g (hi (i + 1) a + (2 ^ i + y))) (2 ^ i) = -tr g i a := by
        rw [ih, show -sm (fun y => sg i a y * g (hi i a + y)) (2 ^ i) = (-1) * sm (fun y => sg i a y * g (hi i a + y)) (2 ^ i) by omega, ← sm_mul]
        apply sm_congr
        intro y hy
        rw [sg_high a hy, h, hi_top i _ y h hy]
        simp [Int.neg_mul]
      have p3 : sm (fun y => sg i a y * g (hi (i + 1) a + y)) (2 ^ i) = tr g i (a ^^^ 2 ^ i) := by
        rw [ih, hi_next i _ h1, hi_flip]
        exact sm_congr _ fun y _ => by rw [sg_flip]
      rw [p2, p3, tr_on h]
      omega
/-- the spectrum of numbers -/
def wh (n : Nat) (g : Nat → Int) (a : Nat) : Int := sm (fun y => sg n a y * g y) (2 ^ n)
theorem tr_top {n a : Nat} (g : Nat → Int) (ha : a < 2 ^ n) : tr g n a = wh n g a := by
  rw [tr_sum, hi_zero ha]
  exact sm_congr _ fun y _ => by rw [Nat.zero_add]
theorem tr_congr {n : Nat} {g g' : Nat → Int} (h : ∀ y, y < 2 ^ n → g y = g' y) : ∀ i, i ≤ n → ∀ u, u < 2 ^ n → tr g i u = tr g' i u := by
  intro i
  induction i with
  | zero => intro _ u hu; exact h u hu
  | succ i ih =>
    intro hi u hu
    simp only [tr]
    rw [ih (by omega) u hu, ih (by omega) _ (flip_lt hu (by omega))]
/-- the numbers in the middle of a pass: below x, and with bit i flipped -/
def mid (g : Nat → Int) (i x p : Nat) : Int := if (if p.testBit i then p ^^^ 2 ^ i else p) < x then tr g (i + 1) p else tr g i p
theorem mid_start (g : Nat → Int) (i p : Nat) : mid g i 0 p = tr g i p := by simp [mid]
theorem mid_end {g : Nat → Int} {i n p : Nat} (hp : p < 2 ^ n) : mid g i (2 ^ n) p = tr g (i + 1) p := by
  unfold mid
  rw [if_pos]
  split
  · next h => exact Nat.lt_trans (flip_down h) hp
  · exact hp
theorem mid_skip {g : Nat → Int} {i x : Nat} (h : x.testBit i = true) (p : Nat) : mid g i (x + 1) p = mid g i x p := by
  unfold mid
  have : ∀ q, q.testBit i = false → (q < x + 1 ↔ q < x) := fun q hq => by
    have : q ≠ x := fun e => by rw [e, h] at hq; cases hq
    omega
  cases hp : p.testBit i with
  | false => simp only [Bool.false_eq_true, if_false]; simp only [this p hp]
  | true =>
    have h1 : (p ^^^ 2 ^ i).testBit i = false := by rw [flip_bit, hp]; simp
    simp only [if_true]
    simp only [this _ h1]
theorem mid_step {g : Nat → Int} {i x : Nat} (h : x.testBit i = false) (p : Nat) : mid g i (x + 1) p = if p = x ^^^ 2 ^ i then mid g i x x - mid g i x (x ^^^ 2 ^ i) else if p = x then mid g i x x + mid g i x (x ^^^ 2 ^ i) else mid g i x p := by
  have h1 : (x ^^^ 2 ^ i).testBit i = true := by rw [flip_bit, h]; simp
  have m1 : mid g i x x = tr g i x := by unfold mid; simp [h]
  have m2 : mid g i x (x ^^^ 2 ^ i) = tr g i (x ^^^ 2 ^ i) := by unfold mid; simp [h1, flip_flip]
  by_cases e1 : p = x ^^^ 2 ^ i
  · rw [if_pos e1, m1, m2, e1]
    unfold mid
    simp only [h1, if_true, flip_flip]
    rw [if_pos (by omega), tr_on h1, flip_flip]
  · rw [if_neg e1]
    by_cases e2 : p = x
    · rw [if_pos e2, m1, m2, e2]
      unfold mid
      simp only [h, Bool.false_eq_true, if_false]
      rw [if_pos (by omega), tr_off h]
    · rw [if_neg e2]
      unfold mid
      cases hp : p.testBit i with
      | false =>
        simp only [Bool.false_eq_true, if_false]
        have : p < x + 1 ↔ p < x := by omega
        simp only [this]
      | true =>
        simp only [if_true]
        have : p ^^^ 2 ^ i ≠ x := fun e => e1 (by rw [← e, flip_flip])
        have : p ^^^ 2 ^ i < x + 1 ↔ p ^^^ 2 ^ i < x := by omega
        simp only [this]
end Go.Proofs.Ytgpcacbjmjpdnab.Wh
