/- Plain facts: the squares of a spectrum add up; how far a sum of inputs is. No program here. -/
import Derived.Test.YtgpcacbjmjpdnaaWsp
namespace Go.Proofs.Ytgpcacbjmjpdnaa.Wt
open Wh Pop

theorem sm_flip (F : Nat → Int) : ∀ n i, i < n → sm (fun a => F (a ^^^ 2 ^ i)) (2 ^ n) = sm F (2 ^ n) := by
  intro n
  induction n generalizing F with
  | zero => intro i h; omega
  | succ n ih =>
    intro i h
    have e : 2 ^ (n + 1) = 2 ^ n + 2 ^ n := by rw [Nat.pow_succ]; omega
    rw [e, sm_add, sm_add]
    by_cases hi : i = n
    · subst hi
      have p1 : sm (fun a => F (a ^^^ 2 ^ i)) (2 ^ i) = sm (fun y => F (2 ^ i + y)) (2 ^ i) := sm_congr _ fun y hy => by
        have : y ^^^ 2 ^ i = 2 ^ i + y := by
          rw [← or_flip (Nat.testBit_lt_two_pow hy), Nat.or_comm]
          have := Nat.two_pow_add_eq_or_of_lt hy 1
          rw [Nat.mul_one] at this
          exact this.symm
        rw [this]
      have p2 : sm (fun y => F ((2 ^ i + y) ^^^ 2 ^ i)) (2 ^ i) = sm F (2 ^ i) := sm_congr _ fun y hy => by
        have : (2 ^ i + y) ^^^ 2 ^ i = y := by
          have h2 := Nat.two_pow_add_eq_or_of_lt hy 1
          rw [Nat.mul_one] at h2
          rw [h2, Nat.or_comm, or_flip (Nat.testBit_lt_two_pow hy), Wh.flip_flip]
        rw [this]
      rw [p1, p2, Int.add_comm]
    · rw [ih F i (by omega)]
      have p2 : sm (fun y => F ((2 ^ n + y) ^^^ 2 ^ i)) (2 ^ n) = sm (fun y => (fun z => F (2 ^ n + z)) (y ^^^ 2 ^ i)) (2 ^ n) := sm_congr _ fun y hy => by
        have hy2 := flip_lt hy (show i < n by omega)
        have e1 : 2 ^ n + y = y ^^^ 2 ^ n := by
          rw [← or_flip (Nat.testBit_lt_two_pow hy), Nat.or_comm]
          have := Nat.two_pow_add_eq_or_of_lt hy 1
          rwa [Nat.mul_one] at this
        have e2 : 2 ^ n + (y ^^^ 2 ^ i) = (y ^^^ 2 ^ i) ^^^ 2 ^ n := by
          rw [← or_flip (Nat.testBit_lt_two_pow hy2), Nat.or_comm]
          have := Nat.two_pow_add_eq_or_of_lt hy2 1
          rwa [Nat.mul_one] at this
        show F ((2 ^ n + y) ^^^ 2 ^ i) = F (2 ^ n + (y ^^^ 2 ^ i))
        rw [e1, e2, Nat.xor_assoc, Nat.xor_assoc, Nat.xor_comm (2 ^ n)]
      rw [p2, ih (fun z => F (2 ^ n + z)) i (by omega)]
theorem tr_pair (g : Nat → Int) (i a : Nat) : tr g (i + 1) a * tr g (i + 1) a + tr g (i + 1) (a ^^^ 2 ^ i) * tr g (i + 1) (a ^^^ 2 ^ i) = 2 * (tr g i a * tr g i a + tr g i (a ^^^ 2 ^ i) * tr g i (a ^^^ 2 ^ i)) := by
  have key : ∀ u v : Int, (u + v) * (u + v) + (u - v) * (u - v) = 2 * (u * u + v * v) := fun u v => by
    rw [Int.add_mul, Int.mul_add, Int.mul_add, Int.sub_mul, Int.mul_sub, Int.mul_sub, Int.mul_comm v u]
    omega
  cases h : a.testBit i with
  | false =>
    have h1 : (a ^^^ 2 ^ i).testBit i = true := by rw [flip_bit, h]; simp
    rw [tr_off h, tr_on h1, Wh.flip_flip]
    exact key _ _
  | true =>
    have h1 : (a ^^^ 2 ^ i).testBit i = false := by rw [flip_bit, h]; simp
    rw [tr_on h, tr_off h1, Wh.flip_flip, Int.add_comm ((tr g i (a ^^^ 2 ^ i) - tr g i a) * _), key, Int.add_comm (tr g i a * _)]
theorem tr_squares (g : Nat → Int) (n : Nat) : ∀ i, i ≤ n → sm (fun a => tr g i a * tr g i a) (2 ^ n) = ((2 ^ i : Nat) : Int) * sm (fun a => g a * g a) (2 ^ n) := by
  intro i
  induction i with
  | zero => intro _; simp [tr]
  | succ i ih =>
    intro hi
    have h1 := sm_flip (fun a => tr g (i + 1) a * tr g (i + 1) a) n i (by omega)
    have h2 := sm_flip (fun a => tr g i a * tr g i a) n i (by omega)
    have h3 : sm (fun a => tr g (i + 1) a * tr g (i + 1) a + tr g (i + 1) (a ^^^ 2 ^ i) * tr g (i + 1) (a ^^^ 2 ^ i)) (2 ^ n) = sm (fun a => 2 * (tr g i a * tr g i a + tr g i (a ^^^ 2 ^ i) * tr g i (a ^^^ 2 ^ i))) (2 ^ n) := sm_congr _ fun a _ => tr_pair g i a
    rw [sm_mul, sm_plus, sm_plus, h1, h2] at h3
    have e : ((2 ^ (i + 1) : Nat) : Int) = 2 * ((2 ^ i : Nat) : Int) := by rw [Nat.pow_succ]; omega
    rw [e, Int.mul_assoc, ← ih (by omega)]
    omega
theorem sm_const (k : Nat) : sm (fun _ => 1) k = k := by
  induction k with
  | zero => rfl
  | succ k ih => simp only [sm]; rw [ih]; omega
/-- what Parseval tells -/
theorem parseval (n : Nat) (g : Nat → Bool) : sm (fun a => wh n (sv g) a * wh n (sv g) a) (2 ^ n) = ((2 ^ n : Nat) : Int) * ((2 ^ n : Nat) : Int) := by
  have h := tr_squares (sv g) n n (Nat.le_refl _)
  rw [sm_congr _ (fun a ha => by rw [← tr_top (sv g) ha])]
  rw [h]
  congr 1
  rw [sm_congr (g := fun _ => 1) _ (fun a _ => by rcases sv_one g a with h | h <;> rw [h] <;> rfl), sm_const]
/-- at how many places below k a sum of inputs, and c besides, is another one -/
def off (g : Nat → Bool) (a : Nat) (c : Bool) : Nat → Nat
  | 0 => 0
  | k + 1 => if ((g k).toNat = (pcF 64 (a &&& k) + c.toNat) % 2) then off g a c k else off g a c k + 1
theorem off_le (g : Nat → Bool) (a : Nat) (c : Bool) : ∀ k, off g a c k ≤ k := by
  intro k
  induction k with
  | zero => exact Nat.le_refl _
  | succ k ih => unfold off; split <;> omega
theorem off_spe {n a : Nat} (g : Nat → Bool) (c : Bool) (ha : a < 2 ^ n) (hn : n ≤ 64) : ∀ k, (if c then -spe n g a k else spe n g a k) = (k : Int) - 2 * (off g a c k : Int) := by
  intro k
  induction k with
  | zero => cases c <;> rfl
  | succ k ih =>
    have h1 : (g k).toNat ≤ 1 := Bool.toNat_le _
    by_cases h : (g k).toNat = pcF 64 (a &&& k) % 2
    · rw [spe_yes ha hn h]
      cases c with
      | false =>
        simp only [Bool.false_eq_true, if_false] at ih ⊢
        rw [off, if_pos (by simp; exact h)]
        omega
      | true =>
        simp only [if_true] at ih ⊢
        rw [off, if_neg (by simp; omega)]
        omega
    · rw [spe_no ha hn h]
      cases c with
      | false =>
        simp only [Bool.false_eq_true, if_false] at ih ⊢
        rw [off, if_neg (by simp; exact h)]
        omega
      | true =>
        simp only [if_true] at ih ⊢
        rw [off, if_pos (by simp; omega)]
        omega
end Go.Proofs.Ytgpcacbjmjpdnaa.Wt
