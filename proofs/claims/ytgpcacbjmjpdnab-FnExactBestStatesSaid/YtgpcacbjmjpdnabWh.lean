/- Plain facts: bits of numbers, numbers made of bits, normal forms, transforms with the signs of parities. No program here. -/
import Derived.WalkKit
namespace Go.Proofs.Ytgpcacbjmjpdnab.Wh

/-- the number whose bit y is f y, for y below k -/
def ob (f : Nat → Bool) : Nat → Nat
  | 0 => 0
  | k + 1 => ob f k + (f k).toNat * 2 ^ k
theorem ob_lt (f : Nat → Bool) : ∀ k, ob f k < 2 ^ k := by
  intro k
  induction k with
  | zero => simp [ob]
  | succ k ih =>
    have h : (f k).toNat ≤ 1 := Bool.toNat_le _
    have h2 : (f k).toNat * 2 ^ k ≤ 1 * 2 ^ k := Nat.mul_le_mul_right _ h
    rw [Nat.pow_succ]
    simp only [ob]
    omega
theorem ob_bit (f : Nat → Bool) (y : Nat) : ∀ k, (ob f k).testBit y = (decide (y < k) && f y) := by
  intro k
  induction k with
  | zero => simp [ob]
  | succ k ih =>
    have hl := ob_lt f k
    simp only [ob]
    cases hf : f k with
    | false =>
      rw [show (false.toNat * 2 ^ k) = 0 by simp, Nat.add_zero, ih]
      by_cases e : y = k
      · subst e; simp [hf]
      · have : (y < k + 1) ↔ (y < k) := by omega
        simp [this]
    | true =>
      rw [show (true.toNat * 2 ^ k) = 2 ^ k by simp, Nat.add_comm]
      by_cases e : y = k
      · subst e
        rw [Nat.testBit_two_pow_add_eq, Nat.testBit_lt_two_pow hl]
        simp [hf]
      · by_cases h : y < k
        · rw [Nat.testBit_two_pow_add_gt h, ih]
          have : y < k + 1 := by omega
          simp [h, this]
        · have h1 : 2 ^ k + ob f k < 2 ^ y := by
            have : 2 ^ (k + 1) ≤ 2 ^ y := Nat.pow_le_pow_right (by omega) (by omega)
            rw [Nat.pow_succ] at this
            omega
          rw [Nat.testBit_lt_two_pow h1]
          have h2 : ¬ y < k + 1 := by omega
          simp [h2]
/-- a number below 2 ^ k is made of its bits -/
theorem ob_self {V k : Nat} (h : V < 2 ^ k) : ob (fun y => V.testBit y) k = V := by
  apply Nat.eq_of_testBit_eq
  intro y
  rw [ob_bit]
  by_cases hy : y < k
  · simp [hy]
  · have : V < 2 ^ y := Nat.lt_of_lt_of_le h (Nat.pow_le_pow_right (by omega) (by omega))
    rw [Nat.testBit_lt_two_pow this]
    simp [hy]
theorem ob_eq {V k : Nat} {f : Nat → Bool} (h : V < 2 ^ k) (hf : ∀ y, y < k → V.testBit y = f y) : V = ob f k := by
  apply Nat.eq_of_testBit_eq
  intro y
  rw [ob_bit]
  by_cases hy : y < k
  · simp [hy, hf y hy]
  · have : V < 2 ^ y := Nat.lt_of_lt_of_le h (Nat.pow_le_pow_right (by omega) (by omega))
    rw [Nat.testBit_lt_two_pow this]
    simp [hy]
theorem ob_congr {k : Nat} {f g : Nat → Bool} (hf : ∀ y, y < k → f y = g y) : ob f k = ob g k := ob_eq (ob_lt f k) fun y hy => by rw [ob_bit]; simp [hy, hf y hy]
theorem bit_div (V x : Nat) : V / 2 ^ x % 2 = (V.testBit x).toNat := by
  rw [Nat.testBit_eq_decide_div_mod_eq]
  have : V / 2 ^ x % 2 = 0 ∨ V / 2 ^ x % 2 = 1 := by omega
  rcases this with h | h <;> simp [h]
theorem bitmul_bit (b : Bool) (x y : Nat) : (b.toNat * 2 ^ x).testBit y = (decide (y = x) && b) := by
  cases b with
  | false => simp
  | true =>
    simp only [Bool.toNat_true, Nat.one_mul, Bool.and_true]
    rw [Nat.testBit_two_pow]
    simp [eq_comm]
theorem xor_lt {a b k : Nat} (ha : a < 2 ^ k) (hb : b < 2 ^ k) : a ^^^ b < 2 ^ k := Nat.xor_lt_two_pow ha hb

/- exclusive or of many -/
def xo (f : Nat → Bool) : Nat → Bool
  | 0 => false
  | k + 1 => xo f k ^^ f k
theorem xo_congr {f g : Nat → Bool} : ∀ k, (∀ y, y < k → f y = g y) → xo f k = xo g k := by
  intro k
  induction k with
  | zero => intro _; rfl
  | succ k ih => intro h; simp only [xo]; rw [ih (fun y hy => h y (by omega)), h k (by omega)]
theorem xo_add (f : Nat → Bool) (a : Nat) : ∀ b, xo f (a + b) = (xo f a ^^ xo (fun y => f (a + y)) b) := by
  intro b
  induction b with
  | zero => simp [xo]
  | succ b ih => rw [← Nat.add_assoc]; simp only [xo]; rw [ih, Bool.xor_assoc]
theorem xo_none {f : Nat → Bool} : ∀ k, (∀ y, y < k → f y = false) → xo f k = false := by
  intro k
  induction k with
  | zero => intro _; rfl
  | succ k ih => intro h; simp only [xo]; rw [ih (fun y hy => h y (by omega)), h k (by omega)]; rfl
theorem xo_xor (f g : Nat → Bool) : ∀ k, xo (fun y => f y ^^ g y) k = (xo f k ^^ xo g k) := by
  intro k
  induction k with
  | zero => rfl
  | succ k ih =>
    simp only [xo]
    rw [ih]
    cases xo f k <;> cases xo g k <;> cases f k <;> cases g k <;> rfl

/-- the bits of y are 1 only where those of u are, the lowest i ones -/
def sub : Nat → Nat → Nat → Bool
  | 0, _, _ => true
  | i + 1, y, u => sub i y u && (!y.testBit i || u.testBit i)
theorem sub_iff (y u : Nat) : ∀ i, sub i y u = true ↔ ∀ j, j < i → y.testBit j = true → u.testBit j = true := by
  intro i
  induction i with
  | zero => simp [sub]
  | succ i ih =>
    simp only [sub, Bool.and_eq_true, ih]
    constructor
    · rintro ⟨h1, h2⟩ j hj hy
      by_cases e : j = i
      · subst e; simpa [hy] using h2
      · exact h1 j (by omega) hy
    · intro h
      refine ⟨fun j hj hy => h j (by omega) hy, ?_⟩
      have := h i (by omega)
      cases hy : y.testBit i with
      | false => simp
      | true => simp [this hy]
theorem sub_congr {i y u y' u' : Nat} (h : ∀ j, j < i → y.testBit j = y'.testBit j ∧ u.testBit j = u'.testBit j) : sub i y u = sub i y' u' := by
  rw [Bool.eq_iff_iff, sub_iff, sub_iff]
  constructor
  · intro g j hj hy
    rw [← (h j hj).2]
    exact g j hj (by rw [(h j hj).1]; exact hy)
  · intro g j hj hy
    rw [(h j hj).2]
    exact g j hj (by rw [← (h j hj).1]; exact hy)
theorem and_iff (y u : Nat) : y &&& u = y ↔ ∀ j, y.testBit j = true → u.testBit j = true := by
  constructor
  · intro h j hy
    have : (y &&& u).testBit j = true := by rw [h]; exact hy
    rw [Nat.testBit_and, hy] at this
    simpa using this
  · intro h
    apply Nat.eq_of_testBit_eq
    intro j
    rw [Nat.testBit_and]
    cases hy : y.testBit j with
    | false => rfl
    | true => simp [h j hy]
theorem sub_and {i y u : Nat} (hy : y < 2 ^ i) : sub i y u = decide (y &&& u = y) := by
  rw [Bool.eq_iff_iff, sub_iff, decide_eq_true_iff, and_iff]
  constructor
  · intro h j hj
    by_cases e : j < i
    · exact h j e hj
    · have : y < 2 ^ j := Nat.lt_of_lt_of_le hy (Nat.pow_le_pow_right (by omega) (by omega))
      rw [Nat.testBit_lt_two_pow this] at hj
      cases hj
  · intro h j _ hj
    exact h j hj
theorem add_bit_low {i j y : Nat} (h : j < i) : (2 ^ i + y).testBit j = y.testBit j := Nat.testBit_two_pow_add_gt h y
theorem add_bit_top {i y : Nat} (h : y < 2 ^ i) : (2 ^ i + y).testBit i = true := by
  rw [Nat.testBit_two_pow_add_eq, Nat.testBit_lt_two_pow h]; rfl
/-- the number without its bits below i -/
def hi (i u : Nat) : Nat := (u >>> i) <<< i
theorem hi_bit (i u j : Nat) : (hi i u).testBit j = (decide (i ≤ j) && u.testBit j) := by
  unfold hi
  rw [Nat.testBit_shiftLeft, Nat.testBit_shiftRight]
  by_cases h : i ≤ j
  · have e : i + (j - i) = j := by omega
    simp [h, e]
  · simp [h]
theorem hi_zero {i u : Nat} (h : u < 2 ^ i) : hi i u = 0 := by
  unfold hi
  rw [Nat.shiftRight_eq_div_pow, Nat.div_eq_of_lt h, Nat.zero_shiftLeft]
theorem flip_bit (u i j : Nat) : (u ^^^ 2 ^ i).testBit j = (u.testBit j ^^ decide (i = j)) := by
  rw [Nat.testBit_xor, Nat.testBit_two_pow]
theorem flip_flip (u i : Nat) : u ^^^ 2 ^ i ^^^ 2 ^ i = u := by rw [Nat.xor_assoc, Nat.xor_self, Nat.xor_zero]
theorem or_flip {u i : Nat} (h : u.testBit i = false) : u ||| 2 ^ i = u ^^^ 2 ^ i := by
  apply Nat.eq_of_testBit_eq
  intro j
  rw [flip_bit, Nat.testBit_or, Nat.testBit_two_pow]
  by_cases e : i = j
  · subst e; simp [h]
  · simp [e]
theorem flip_lt {u i n : Nat} (h : u < 2 ^ n) (hi : i < n) : u ^^^ 2 ^ i < 2 ^ n := Nat.xor_lt_two_pow h (Nat.pow_lt_pow_right (by omega) hi)
theorem flip_up {u i : Nat} (h : u.testBit i = false) : u < u ^^^ 2 ^ i := by
  rw [← or_flip h]
  have h1 : u ≤ u ||| 2 ^ i := Nat.left_le_or
  have h2 : u ≠ u ||| 2 ^ i := fun e => by
    have : (u ||| 2 ^ i).testBit i = true := by rw [Nat.testBit_or, Nat.testBit_two_pow]; simp
    rw [← e, h] at this
    cases this
  omega
theorem flip_down {u i : Nat} (h : u.testBit i = true) : u ^^^ 2 ^ i < u := by
  have h1 : (u ^^^ 2 ^ i).testBit i = false := by rw [flip_bit, h]; simp
  have h2 := flip_up h1
  rwa [flip_flip] at h2
theorem hi_next (i u : Nat) (h : u.testBit i = false) : hi i u = hi (i + 1) u := by
  apply Nat.eq_of_testBit_eq
  intro j
  rw [hi_bit, hi_bit]
  by_cases e : i = j
  · subst e; simp [h]
  · have : i ≤ j ↔ i + 1 ≤ j := by omega
    simp [this]
theorem hi_flip (i u : Nat) : hi (i + 1) (u ^^^ 2 ^ i) = hi (i + 1) u := by
  apply Nat.eq_of_testBit_eq
  intro j
  rw [hi_bit, hi_bit, flip_bit]
  by_cases e : i + 1 ≤ j
  · have : ¬ i = j := by omega
    simp [this]
  · simp [e]
theorem hi_top (i u y : Nat) (h : u.testBit i = true) (_hy : y < 2 ^ i) : hi i u + y = hi (i + 1) u + (2 ^ i + y) := by
  have h1 : hi i u = hi (i + 1) u ^^^ 2 ^ i := by
    apply Nat.eq_of_testBit_eq
    intro j
    rw [flip_bit, hi_bit, hi_bit]
    by_cases e : i = j
    · subst e; simp [h]
    · have : i ≤ j ↔ i + 1 ≤ j := by omega
      simp [this, e]
  have h2 : (hi (i + 1) u).testBit i = false := by rw [hi_bit]; simp; omega
  have h3 : hi (i + 1) u % 2 ^ (i + 1) = 0 := by unfold hi; rw [Nat.shiftLeft_eq]; exact Nat.mul_mod_left _ _
  have h4 : hi (i + 1) u ^^^ 2 ^ i = hi (i + 1) u + 2 ^ i := by
    rw [← or_flip h2]
    have h5 : hi (i + 1) u = 2 ^ (i + 1) * (u >>> (i + 1)) := by unfold hi; rw [Nat.shiftLeft_eq, Nat.mul_comm]
    rw [h5]
    exact (Nat.two_pow_add_eq_or_of_lt (Nat.pow_lt_pow_right (by omega) (by omega)) _).symm
  omega

/-- one pass of the normal form -/
def pass (i : Nat) (g : Nat → Bool) (u : Nat) : Bool := if u.testBit i then g u ^^ g (u ^^^ 2 ^ i) else g u
def mob (g : Nat → Bool) : Nat → Nat → Bool
  | 0 => g
  | i + 1 => pass i (mob g i)
theorem pass_off {i u : Nat} (g : Nat → Bool) (h : u.testBit i = false) : pass i g u = g u := by simp [pass, h]
theorem pass_on {i u : Nat} (g : Nat → Bool) (h : u.testBit i = true) : pass i g u = (g u ^^ g (u ^^^ 2 ^ i)) := by simp [pass, h]
theorem pass_pass (i : Nat) (g : Nat → Bool) (u : Nat) : pass i (pass i g) u = g u := by
  cases h : u.testBit i with
  | false => rw [pass_off _ h, pass_off _ h]
  | true =>
    have h1 : (u ^^^ 2 ^ i).testBit i = false := by rw [flip_bit, h]; simp
    rw [pass_on _ h, pass_on _ h, pass_off _ h1]
    cases g u <;> cases g (u ^^^ 2 ^ i) <;> rfl
theorem pass_comm (i k : Nat) (g : Nat → Bool) (u : Nat) : pass i (pass k g) u = pass k (pass i g) u := by
  by_cases e : i = k
  · subst e; rfl
  · have e2 : ¬ k = i := fun x => e x.symm
    have f1 : (u ^^^ 2 ^ i).testBit k = u.testBit k := by rw [flip_bit]; simp [e]
    have f2 : (u ^^^ 2 ^ k).testBit i = u.testBit i := by rw [flip_bit]; simp [e2]
    have f3 : u ^^^ 2 ^ i ^^^ 2 ^ k = u ^^^ 2 ^ k ^^^ 2 ^ i := by rw [Nat.xor_assoc, Nat.xor_assoc, Nat.xor_comm (2 ^ i)]
    cases h1 : u.testBit i <;> cases h2 : u.testBit k
    · rw [pass_off _ h1, pass_off _ h2, pass_off _ h2, pass_off _ h1]
    · rw [pass_off _ h1, pass_on _ h2, pass_on _ h2, pass_off _ h1, pass_off _ (f2.trans h1)]
    · rw [pass_on _ h1, pass_off _ h2, pass_off _ h2, pass_on _ h1, pass_off _ (f1.trans h2)]
    · rw [pass_on _ h1, pass_on _ h2, pass_on _ h2, pass_on _ h1, pass_on _ (f1.trans h2), pass_on _ (f2.trans h1), f3]
      cases g u <;> cases g (u ^^^ 2 ^ i) <;> cases g (u ^^^ 2 ^ k) <;> cases g (u ^^^ 2 ^ k ^^^ 2 ^ i) <;> rfl
theorem pass_ext {i : Nat} {g g' : Nat → Bool} (h : ∀ u, g u = g' u) (u : Nat) : pass i g u = pass i g' u := by unfold pass; rw [h, h]
theorem mob_pass (k : Nat) (g : Nat → Bool) : ∀ i u, mob (pass k g) i u = pass k (mob g i) u := by
  intro i
  induction i with
  | zero => intro u; rfl
  | succ i ih =>
    intro u
    show pass i (mob (pass k g) i) u = pass k (pass i (mob g i)) u
    rw [pass_ext ih, pass_comm]
theorem mob_ext {g g' : Nat → Bool} (h : ∀ u, g u = g' u) : ∀ i u, mob g i u = mob g' i u := by
  intro i
  induction i with
  | zero => exact h
  | succ i ih => intro u; exact pass_ext ih u
theorem mob_mob (g : Nat → Bool) : ∀ n u, mob (mob g n) n u = g u := by
  intro n
  induction n with
  | zero => intro u; rfl
  | succ n ih =>
    intro u
    show pass n (mob (pass n (mob g n)) n) u = g u
    rw [pass_ext (mob_pass n (mob g n) n), pass_pass, ih]
theorem mob_congr {n : Nat} {g g' : Nat → Bool} (h : ∀ y, y < 2 ^ n → g y = g' y) : ∀ i, i ≤ n → ∀ u, u < 2 ^ n → mob g i u = mob g' i u := by
  intro i
  induction i with
  | zero => intro _ u hu; exact h u hu
  | succ i ih =>
    intro hi u hu
    show pass i (mob g i) u = pass i (mob g' i) u
    unfold pass
    rw [ih (by omega) u hu, ih (by omega) _ (flip_lt hu (by omega))]
theorem mob_sum (g : Nat → Bool) : ∀ i u, mob g i u = xo (fun y => sub i y u && g (hi i u + y)) (2 ^ i) := by
  intro i
  induction i with
  | zero =>
    intro u
    show g u = (false ^^ (true && g (hi 0 u + 0)))
    have : hi 0 u = u := by simp [hi]
    rw [this]
    simp
  | succ i ih =>
    intro u
    have e : 2 ^ (i + 1) = 2 ^ i + 2 ^ i := by rw [Nat.pow_succ]; omega
    rw [e, xo_add]
    have p1 : xo (fun y => sub (i + 1) y u && g (hi (i + 1) u + y)) (2 ^ i) = xo (fun y => sub i y u && g (hi (i + 1) u + y)) (2 ^ i) := by
      apply xo_congr
      intro y hy
      simp [sub, Nat.testBit_lt_two_pow hy]
    rw [p1]
    cases h : u.testBit i with
    | false =>
      have p2 : xo (fun y => sub (i + 1) (2 ^ i + y) u && g (hi (i + 1) u + (2 ^ i + y))) (2 ^ i) = false := by
        apply xo_none
        intro y hy
        simp [sub, add_bit_top hy, h]
      rw [p2, Bool.xor_false, ← hi_next i u h]
      show pass i (mob g i) u = _
      rw [pass_off _ h, ih]
    | true =>
      have h1 : (u ^^^ 2 ^ i).testBit i = false := by rw [flip_bit, h]; simp
      have p2 : xo (fun y => sub (i + 1) (2 ^ i + y) u && g (hi (i + 1) u + (2 ^ i + y))) (2 ^ i) = mob g i u := by
        rw [ih]
        apply xo_congr
        intro y hy
        rw [hi_top i u y h hy]
        have : sub i (2 ^ i + y) u = sub i y u := sub_congr fun j hj => ⟨add_bit_low hj, rfl⟩
        simp [sub, this, add_bit_top hy, h]
      have p3 : xo (fun y => sub i y u && g (hi (i + 1) u + y)) (2 ^ i) = mob g i (u ^^^ 2 ^ i) := by
        rw [ih]
        apply xo_congr
        intro y hy
        rw [hi_next i _ h1, hi_flip]
        have : sub i y (u ^^^ 2 ^ i) = sub i y u := by
          apply sub_congr
          intro j hj
          refine ⟨rfl, ?_⟩
          rw [flip_bit]
          have : ¬ i = j := by omega
          simp [this]
        rw [this]
      rw [p2, p3, Bool.xor_comm]
      show pass i (mob g i) u = _
      rw [pass_on _ h]
theorem mob_top {n u : Nat} (g : Nat → Bool) (hu : u < 2 ^ n) : mob g n u = xo (fun y => sub n y u && g y) (2 ^ n) := by
  rw [mob_sum, hi_zero hu]
  apply xo_congr
  intro y _
  rw [Nat.zero_add]

/-- the sum of the products below u, up to k -/
def nfTo (g : Nat → Bool) (u : Nat) : Nat → Bool := xo fun y => decide (y &&& u = y) && g y
theorem nfTo_succ (g : Nat → Bool) (u k : Nat) : nfTo g u (k + 1) = (nfTo g u k ^^ (decide (k &&& u = k) && g k)) := rfl
theorem nfTo_far (g : Nat → Bool) (u : Nat) : ∀ k, nfTo g u (u + 1 + k) = nfTo g u (u + 1) := by
  intro k
  unfold nfTo
  rw [xo_add]
  rw [show xo (fun y => decide (u + 1 + y &&& u = u + 1 + y) && g (u + 1 + y)) k = false from xo_none k fun y hy => by
    have : ¬ (u + 1 + y &&& u = u + 1 + y) := fun x => by
      have := Nat.and_le_right (n := u + 1 + y) (m := u)
      omega
    simp [this]]
  simp
theorem mob_nf {n u : Nat} (g : Nat → Bool) (hu : u < 2 ^ n) : mob g n u = nfTo g u (u + 1) := by
  rw [mob_top g hu]
  have h := nfTo_far g u (2 ^ n - (u + 1))
  rw [show u + 1 + (2 ^ n - (u + 1)) = 2 ^ n by omega] at h
  rw [← h]
  unfold nfTo
  apply xo_congr
  intro y hy
  rw [sub_and hy]
end Go.Proofs.Ytgpcacbjmjpdnab.Wh
