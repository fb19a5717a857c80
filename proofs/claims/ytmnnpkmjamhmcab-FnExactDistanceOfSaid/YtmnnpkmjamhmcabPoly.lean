/- Plain facts: polynomials over 0 and 1 as numbers: lengths, quotients, remainders, products, powers of x. No program here. -/
import Derived.WalkKit
namespace Go.Proofs.Ytmnnpkmjamhmcab.Pl

/-- how many binary digits -/
def len (n : Nat) : Nat := if n = 0 then 0 else Nat.log2 n + 1
theorem len_zero : len 0 = 0 := rfl
theorem len_half (n : Nat) (h : 0 < n) : len n = len (n / 2) + 1 := by
  unfold len
  rw [if_neg (by omega), Nat.log2_def]
  by_cases h2 : 2 ≤ n
  · rw [if_pos h2, if_neg (by omega)]
  · have : n = 1 := by omega
    subst this
    rfl
theorem lt_len : ∀ n, n < 2 ^ len n := by
  intro n
  induction n using Nat.strongRecOn with
  | _ n ih =>
    by_cases h : n = 0
    · subst h; decide
    · rw [len_half n (by omega), Nat.pow_succ]
      have := ih (n / 2) (by omega)
      omega
theorem len_pos {n : Nat} (h : 0 < n) : 1 ≤ len n := by rw [len_half n h]; omega
theorem len_ge : ∀ n, 0 < n → 2 ^ (len n - 1) ≤ n := by
  intro n
  induction n using Nat.strongRecOn with
  | _ n ih =>
    intro h
    rw [len_half n h, Nat.add_sub_cancel]
    by_cases h2 : n / 2 = 0
    · rw [h2, len_zero]; simp; omega
    · have h3 := ih (n / 2) (by omega) (by omega)
      have h4 := len_pos (show 0 < n / 2 by omega)
      obtain ⟨m, hm⟩ : ∃ m, len (n / 2) = m + 1 := ⟨len (n / 2) - 1, by omega⟩
      rw [hm, Nat.add_sub_cancel] at h3
      rw [hm, Nat.pow_succ]
      omega
theorem len_of_lt : ∀ k n, n < 2 ^ k → len n ≤ k := by
  intro k
  induction k with
  | zero => intro n h; have : n = 0 := by simpa using h
            subst this; exact Nat.le_refl _
  | succ k ih =>
    intro n h
    by_cases h0 : n = 0
    · subst h0; rw [len_zero]; omega
    · rw [len_half n (by omega)]
      rw [Nat.pow_succ] at h
      have := ih (n / 2) (by omega)
      omega
theorem lt_of_len {n k : Nat} (h : len n ≤ k) : n < 2 ^ k := Nat.lt_of_lt_of_le (lt_len n) (Nat.pow_le_pow_right (by omega) h)
theorem len_split : ∀ k n, 2 ^ k ≤ n → len n = k + len (n / 2 ^ k) := by
  intro k
  induction k with
  | zero => intro n _; simp
  | succ k ih =>
    intro n h
    have hp : 0 < 2 ^ k := Nat.pow_pos (by omega)
    rw [Nat.pow_succ] at h
    rw [len_half n (by omega), ih (n / 2) (by omega), Nat.div_div_eq_div_mul, Nat.pow_succ, Nat.mul_comm 2]
    omega
theorem len_eq {n k : Nat} (h1 : 2 ^ k ≤ n) (h2 : n < 2 ^ (k + 1)) : len n = k + 1 := by
  have a := len_of_lt _ _ h2
  have b : ¬ len n ≤ k := fun x => by have := lt_of_len x; omega
  omega

theorem bit_top {x k : Nat} (h1 : 2 ^ k ≤ x) (h2 : x < 2 ^ (k + 1)) : x.testBit k = true := by
  have hp : 0 < 2 ^ k := Nat.pow_pos (by omega)
  rw [Nat.testBit_eq_decide_div_mod_eq]
  have : x / 2 ^ k = 1 := by
    apply Nat.div_eq_of_lt_le
    · omega
    · rw [Nat.pow_succ] at h2; omega
  rw [this]
  rfl
theorem bit_ge {x k : Nat} (h : x.testBit k = true) : 2 ^ k ≤ x := Nat.ge_two_pow_of_testBit h
theorem bit_lt {x k : Nat} (h2 : x < 2 ^ (k + 1)) (h : x.testBit k = false) : x < 2 ^ k := by
  by_cases h1 : 2 ^ k ≤ x
  · rw [bit_top h1 h2] at h; cases h
  · omega
theorem bit_no {x k : Nat} (h : x < 2 ^ k) : x.testBit k = false := Nat.testBit_lt_two_pow h
theorem xor_cut {x y k : Nat} (hx : x < 2 ^ (k + 1)) (hy : y < 2 ^ (k + 1)) (bx : x.testBit k = true) (hb : y.testBit k = true) : x ^^^ y < 2 ^ k :=
  bit_lt (Nat.xor_lt_two_pow hx hy) (by rw [Nat.testBit_xor, bx, hb]; rfl)
theorem bit_len {p : Nat} (h : 0 < p) : p.testBit (len p - 1) = true := by
  obtain ⟨m, hm⟩ : ∃ m, len p = m + 1 := ⟨len p - 1, by have := len_pos h; omega⟩
  have h1 := len_ge p h
  have h2 := lt_len p
  rw [hm, Nat.add_sub_cancel] at h1
  rw [hm] at h2
  rw [hm, Nat.add_sub_cancel]
  exact bit_top h1 h2

theorem mod2_xor (x y : Nat) : (x ^^^ y) % 2 = x % 2 ^^^ y % 2 := by
  have := Nat.xor_mod_two_pow (a := x) (b := y) (n := 1)
  rwa [Nat.pow_one] at this
theorem div2_xor (x y : Nat) : (x ^^^ y) / 2 = x / 2 ^^^ y / 2 := by
  have := Nat.xor_div_two_pow (a := x) (b := y) (n := 1)
  rwa [Nat.pow_one] at this
theorem two_xor (x y : Nat) : 2 * (x ^^^ y) = 2 * x ^^^ 2 * y := by
  have h1 := div2_xor (2 * x) (2 * y)
  have h2 := mod2_xor (2 * x) (2 * y)
  rw [Nat.mul_div_cancel_left _ (by omega), Nat.mul_div_cancel_left _ (by omega)] at h1
  rw [Nat.mul_mod_right, Nat.mul_mod_right, Nat.xor_self] at h2
  omega
theorem bit_eq (a : Nat) : 2 * (a / 2) ^^^ a % 2 = a := by
  have h1 := div2_xor (2 * (a / 2)) (a % 2)
  have h2 := mod2_xor (2 * (a / 2)) (a % 2)
  rw [Nat.mul_div_cancel_left _ (by omega), show a % 2 / 2 = 0 by omega, Nat.xor_zero] at h1
  rw [Nat.mul_mod_right, Nat.zero_xor, Nat.mod_mod] at h2
  omega
theorem xor_swap (a b x y : Nat) : (a ^^^ b) ^^^ (x ^^^ y) = (a ^^^ x) ^^^ (b ^^^ y) := by
  rw [Nat.xor_assoc, Nat.xor_assoc, ← Nat.xor_assoc b x y, Nat.xor_comm b x, Nat.xor_assoc x b y]
theorem xor_twice (x p : Nat) : (x ^^^ p) ^^^ p = x := by rw [Nat.xor_assoc, Nat.xor_self, Nat.xor_zero]
theorem xor_both (x y p : Nat) : (x ^^^ p) ^^^ (y ^^^ p) = x ^^^ y := by rw [xor_swap, Nat.xor_self, Nat.xor_zero]

/-- one step of a reduction modulo p -/
def red (p y : Nat) : Nat := if y.testBit (len p - 1) = true then y ^^^ p else y
theorem red_xor (p x y : Nat) : red p (x ^^^ y) = red p x ^^^ red p y := by
  unfold red
  rw [Nat.testBit_xor]
  cases x.testBit (len p - 1) <;> cases y.testBit (len p - 1) <;> simp
  · rw [Nat.xor_assoc]
  · rw [Nat.xor_assoc, Nat.xor_assoc, Nat.xor_comm y p]
  · rw [xor_both]

/-- the remainder of a modulo p, bit after bit -/
def rem (p a : Nat) : Nat := if a = 0 then 0 else red p (2 * rem p (a / 2) ^^^ a % 2)
termination_by a
decreasing_by omega
theorem rem_zero (p : Nat) : rem p 0 = 0 := by rw [rem]; simp
theorem red_zero (p : Nat) : red p 0 = 0 := by simp [red]
theorem rem_step (p a : Nat) : rem p a = red p (2 * rem p (a / 2) ^^^ a % 2) := by
  by_cases h : a = 0
  · subst h
    simp [rem_zero, red_zero]
  · conv => lhs; rw [rem]
    rw [if_neg h]
theorem rem_double (p a : Nat) : rem p (2 * a) = red p (2 * rem p a) := by
  rw [rem_step, Nat.mul_div_cancel_left _ (by omega), Nat.mul_mod_right, Nat.xor_zero]
theorem rem_xor (p : Nat) : ∀ a b, rem p (a ^^^ b) = rem p a ^^^ rem p b := by
  intro a
  induction a using Nat.strongRecOn with
  | _ a ih =>
    intro b
    by_cases h : a = 0
    · subst h; rw [Nat.zero_xor, rem_zero, Nat.zero_xor]
    · rw [rem_step p (a ^^^ b), div2_xor, mod2_xor, ih (a / 2) (by omega), two_xor, xor_swap, red_xor, ← rem_step, ← rem_step]
theorem rem_small {p : Nat} : ∀ a, a < 2 ^ (len p - 1) → rem p a = a := by
  intro a
  induction a using Nat.strongRecOn with
  | _ a ih =>
    intro h
    by_cases h0 : a = 0
    · subst h0; exact rem_zero p
    · rw [rem_step, ih (a / 2) (by omega) (by omega), bit_eq]
      unfold red
      rw [bit_no h]
      rfl
theorem red_lt {p y : Nat} (hp : 0 < p) (h : y < 2 ^ len p) : red p y < 2 ^ (len p - 1) := by
  have h1 := bit_len hp
  have h2 := lt_len p
  obtain ⟨m, hm⟩ : ∃ m, len p = m + 1 := ⟨len p - 1, by have := len_pos hp; omega⟩
  unfold red
  rw [hm, Nat.add_sub_cancel] at h1 ⊢
  rw [hm] at h h2
  cases hb : y.testBit m
  · simpa using bit_lt h hb
  · simpa using xor_cut h h2 hb h1
theorem rem_lt {p : Nat} (hp : 0 < p) : ∀ a, rem p a < 2 ^ (len p - 1) := by
  intro a
  induction a using Nat.strongRecOn with
  | _ a ih =>
    by_cases h0 : a = 0
    · subst h0; rw [rem_zero]; exact Nat.pow_pos (by omega)
    · rw [rem_step]
      apply red_lt hp
      have h1 := ih (a / 2) (by omega)
      obtain ⟨m, hm⟩ : ∃ m, len p = m + 1 := ⟨len p - 1, by have := len_pos hp; omega⟩
      rw [hm, Nat.add_sub_cancel] at h1
      rw [hm]
      have h3 : 0 < 2 ^ m := Nat.pow_pos (by omega)
      apply Nat.xor_lt_two_pow
      · rw [Nat.pow_succ]; omega
      · rw [Nat.pow_succ]; omega
theorem rem_self {p : Nat} (hp : 0 < p) : rem p p = 0 := by
  have h2 := lt_len p
  obtain ⟨m, hm⟩ : ∃ m, len p = m + 1 := ⟨len p - 1, by have := len_pos hp; omega⟩
  rw [hm, Nat.pow_succ] at h2
  rw [rem_step, rem_small (p / 2) (by rw [hm, Nat.add_sub_cancel]; omega), bit_eq]
  unfold red
  rw [bit_len hp]
  simp
theorem rem_shl0 {p a : Nat} (h : rem p a = 0) : ∀ s, rem p (a * 2 ^ s) = 0 := by
  intro s
  induction s with
  | zero => simpa using h
  | succ s ih => rw [Nat.pow_succ, ← Nat.mul_assoc, Nat.mul_comm, rem_double, ih, Nat.mul_zero, red_zero]
theorem rem_shl {p : Nat} (hp : 0 < p) (a : Nat) : ∀ s, rem p (rem p a * 2 ^ s) = rem p (a * 2 ^ s) := by
  intro s
  induction s with
  | zero => simpa using rem_small _ (rem_lt hp a)
  | succ s ih => rw [Nat.pow_succ, ← Nat.mul_assoc, ← Nat.mul_assoc, Nat.mul_comm _ 2, Nat.mul_comm (a * 2 ^ s) 2, rem_double, rem_double, ih]

/-- a difference of lengths put down -/
theorem len_cut {a d : Nat} (hd : 0 < d) (h : len d ≤ len a) : len (a ^^^ d * 2 ^ (len a - len d)) < len a := by
  obtain ⟨m, hm⟩ : ∃ m, len d = m + 1 := ⟨len d - 1, by have := len_pos hd; omega⟩
  obtain ⟨s, hs⟩ : ∃ s, len a = m + s + 1 := ⟨len a - m - 1, by omega⟩
  have ha : 0 < a := by
    apply Nat.pos_of_ne_zero
    intro x; subst x; rw [len_zero] at hs; omega
  have h1 := len_ge d hd
  have h2 := lt_len d
  have h3 := len_ge a ha
  have h4 := lt_len a
  rw [hm, Nat.add_sub_cancel] at h1
  rw [hm] at h2
  rw [hs, Nat.add_sub_cancel] at h3
  rw [hs] at h4
  rw [hs, hm, show m + s + 1 - (m + 1) = s by omega]
  have hp : 0 < 2 ^ s := Nat.pow_pos (by omega)
  have h5 : 2 ^ (m + s) ≤ d * 2 ^ s := by rw [Nat.pow_add]; exact Nat.mul_le_mul_right _ h1
  have h6 : d * 2 ^ s < 2 ^ (m + s + 1) := by rw [show m + s + 1 = (m + 1) + s by omega, Nat.pow_add]; exact Nat.mul_lt_mul_of_pos_right h2 hp
  have := len_of_lt _ _ (xor_cut h4 h6 (bit_top h3 h4) (bit_top h5 h6))
  omega

/-- the loop of a division -/
def divF : Nat → Nat → Nat → Nat → Nat × Nat
  | 0, q, a, _ => (q, a)
  | f + 1, q, a, d => if len a < len d then (q, a) else divF f (q ||| 2 ^ (len a - len d)) (a ^^^ d * 2 ^ (len a - len d)) d
theorem divF_end {a d : Nat} (h : len a < len d) (f q : Nat) : divF f q a d = (q, a) := by
  cases f with
  | zero => rfl
  | succ f => rw [divF, if_pos h]
theorem divF_next {a d : Nat} (h : ¬ len a < len d) (f q : Nat) : divF (f + 1) q a d = divF f (q ||| 2 ^ (len a - len d)) (a ^^^ d * 2 ^ (len a - len d)) d := by
  rw [divF, if_neg h]
theorem divF_rem {d : Nat} (hd : 0 < d) : ∀ f q a, len a ≤ f → (divF f q a d).2 = rem d a := by
  intro f
  induction f with
  | zero =>
    intro q a h
    have h0 : a < 2 ^ 0 := lt_of_len h
    have : a = 0 := by simpa using h0
    subst this
    rw [rem_zero]
    rfl
  | succ f ih =>
    intro q a h
    by_cases hlt : len a < len d
    · rw [divF_end hlt]
      exact (rem_small a (lt_of_len (by omega))).symm
    · have h2 := len_cut hd (show len d ≤ len a by omega)
      rw [divF_next hlt, ih _ _ (by omega), rem_xor, rem_shl0 (rem_self hd), Nat.xor_zero]
/-- the quotient -/
def quo (d a : Nat) : Nat := (divF 64 0 a d).1

/-- the sum of the products with the first k bits of b -/
def mulTo (a b : Nat) : Nat → Nat
  | 0 => 0
  | k + 1 => mulTo a b k ^^^ (if b.testBit k = true then a * 2 ^ k else 0)
theorem mulTo_ge {a b K : Nat} (h : b < 2 ^ K) : ∀ j, mulTo a b (K + j) = mulTo a b K := by
  intro j
  induction j with
  | zero => rfl
  | succ j ih =>
    rw [← Nat.add_assoc, mulTo, bit_no (Nat.lt_of_lt_of_le h (Nat.pow_le_pow_right (by omega) (by omega))), ih]
    simp
theorem mulTo_lt {a b A : Nat} (h : a < 2 ^ A) : ∀ k, mulTo a b k < 2 ^ (A + k) := by
  intro k
  induction k with
  | zero => exact Nat.pow_pos (by omega)
  | succ k ih =>
    rw [mulTo, ← Nat.add_assoc, Nat.pow_succ]
    rw [← Nat.pow_succ]
    apply Nat.xor_lt_two_pow
    · rw [Nat.pow_succ]; omega
    · split
      · have : a * 2 ^ k < 2 ^ A * 2 ^ k := Nat.mul_lt_mul_of_pos_right h (Nat.pow_pos (by omega))
        rw [Nat.pow_succ, Nat.pow_add]; omega
      · exact Nat.pow_pos (by omega)
theorem rem_mul {p : Nat} (hp : 0 < p) (a b : Nat) : ∀ k, rem p (mulTo (rem p a) b k) = rem p (mulTo a b k) := by
  intro k
  induction k with
  | zero => rfl
  | succ k ih =>
    rw [mulTo, mulTo, rem_xor, rem_xor, ih]
    split
    · rw [rem_shl hp]
    · rfl
theorem xor_above {x k : Nat} (h : x < 2 ^ k) : x ^^^ 2 ^ k = x + 2 ^ k := by
  have hp : 0 < 2 ^ k := Nat.pow_pos (by omega)
  have h1 := Nat.xor_mod_two_pow (a := x) (b := 2 ^ k) (n := k)
  have h2 := Nat.xor_div_two_pow (a := x) (b := 2 ^ k) (n := k)
  rw [Nat.mod_self, Nat.xor_zero, Nat.mod_eq_of_lt h] at h1
  rw [Nat.div_self hp, Nat.div_eq_of_lt h, Nat.zero_xor] at h2
  have := Nat.div_add_mod (x ^^^ 2 ^ k) (2 ^ k)
  rw [h1, h2] at this
  omega
theorem mulTo_one (b : Nat) : ∀ k, mulTo 1 b k = b % 2 ^ k := by
  intro k
  induction k with
  | zero => simp [mulTo, Nat.mod_one]
  | succ k ih =>
    have hp : 0 < 2 ^ k := Nat.pow_pos (by omega)
    rw [mulTo, ih, Nat.mod_pow_succ]
    by_cases hb : b.testBit k = true
    · rw [if_pos hb, Nat.one_mul, xor_above (Nat.mod_lt _ hp)]
      rw [Nat.testBit_eq_decide_div_mod_eq] at hb
      rw [of_decide_eq_true hb, Nat.mul_one]
    · rw [if_neg hb, Nat.xor_zero]
      rw [Nat.testBit_eq_decide_div_mod_eq] at hb
      have : b / 2 ^ k % 2 = 0 := by
        have h1 : ¬ b / 2 ^ k % 2 = 1 := fun x => hb (decide_eq_true x)
        omega
      rw [this, Nat.mul_zero, Nat.add_zero]
theorem xor_shl (x y e : Nat) : (x ^^^ y) * 2 ^ e = x * 2 ^ e ^^^ y * 2 ^ e := by
  induction e with
  | zero => simp
  | succ e ih => rw [Nat.pow_succ, ← Nat.mul_assoc, ← Nat.mul_assoc, ← Nat.mul_assoc, ih, Nat.mul_comm _ 2, Nat.mul_comm _ 2, Nat.mul_comm _ 2, two_xor]
theorem mulTo_shl (e a b : Nat) : ∀ k, mulTo (a * 2 ^ e) b k = mulTo a b k * 2 ^ e := by
  intro k
  induction k with
  | zero => simp [mulTo]
  | succ k ih =>
    rw [mulTo, mulTo, ih, xor_shl]
    split
    · rw [Nat.mul_assoc, Nat.mul_assoc, Nat.mul_comm (2 ^ e)]
    · rw [Nat.zero_mul]

/-- the remainder of a power of x -/
def pw (p n : Nat) : Nat := rem p (2 ^ n)
theorem pw_add {p : Nat} (hp : 0 < p) (a b K : Nat) (hK : pw p b < 2 ^ K) : rem p (mulTo (pw p a) (pw p b) K) = pw p (a + b) := by
  have h : mulTo (2 ^ a) (pw p b) K = pw p b * 2 ^ a := by
    have := mulTo_shl a 1 (pw p b) K
    rw [Nat.one_mul, mulTo_one, Nat.mod_eq_of_lt hK] at this
    exact this
  unfold pw at h ⊢
  rw [rem_mul hp, h, rem_shl hp, ← Nat.pow_add, Nat.add_comm b a]
theorem pw_succ (p n : Nat) : pw p (n + 1) = red p (2 * pw p n) := by
  unfold pw
  rw [Nat.pow_succ, Nat.mul_comm, rem_double]
end Go.Proofs.Ytmnnpkmjamhmcab.Pl
