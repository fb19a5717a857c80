/- A coin over all strings of a length: how often it is 1, and how often it decides nothing. Of no program. -/
import Derived.Test.YtamedggnkbhgeaaRollMath
namespace Go.Proofs.Ytamedggnkbhgeaa

/-- a sum over the first numbers -/
def sumF (g : Nat → Int) : Nat → Int
  | 0 => 0
  | n + 1 => sumF g n + g n
theorem sumF_congr {g h : Nat → Int} : ∀ n, (∀ x, x < n → g x = h x) → sumF g n = sumF h n := by
  intro n
  induction n with
  | zero => intro _; rfl
  | succ n ih => intro e; simp only [sumF]; rw [ih fun x hx => e x (by omega), e n (by omega)]
theorem sumF_add (g : Nat → Int) (a : Nat) : ∀ b, sumF g (a + b) = sumF g a + sumF (fun x => g (a + x)) b := by
  intro b
  induction b with
  | zero => simp [sumF]
  | succ b ih => rw [show a + (b + 1) = (a + b) + 1 by omega]; simp only [sumF]; rw [ih]; omega
theorem sumF_const (c : Int) : ∀ n : Nat, sumF (fun _ => c) n = n * c := by
  intro n
  induction n with
  | zero => simp [sumF]
  | succ n ih => simp only [sumF]; rw [ih, show ((n + 1 : Nat) : Int) = n + 1 by omega, Int.add_mul]; omega
/-- the face by f bits of a number, from the remainder r on: 1, 0, or -1 where nothing is decided -/
def cn (den : Int) : Nat → Int → Nat → Int
  | 0, _, _ => -1
  | f + 1, r, x =>
    if r * 2 < den then (if x / 2 ^ f % 2 = 0 then cn den f (r * 2) x else 0)
    else (if x / 2 ^ f % 2 = 1 then cn den f (r * 2 - den) x else 1)
def isV (c v : Int) : Int := if v = c then 1 else 0
def cF (den : Int) (f : Nat) (r : Int) (x : Nat) : Int := isV 1 (cn den f r x)
def cO (den : Int) (f : Nat) (r : Int) (x : Nat) : Int := isV (-1) (cn den f r x)
theorem cn_mod (den : Int) : ∀ (f : Nat) (r : Int) (g x : Nat), f ≤ g → cn den f r (2 ^ g + x) = cn den f r x := by
  intro f
  induction f with
  | zero => intro r g x _; rfl
  | succ f ih =>
    intro r g x hg
    obtain ⟨e, rfl⟩ : ∃ e, g = f + 1 + e := ⟨g - (f + 1), by omega⟩
    have h1 : (2 ^ (f + 1 + e) + x) / 2 ^ f % 2 = x / 2 ^ f % 2 := by
      have h2 : 2 ^ (f + 1 + e) = 2 ^ f * (2 * 2 ^ e) := by rw [Nat.pow_add, Nat.pow_succ]; rw [Nat.mul_assoc]
      rw [h2, Nat.mul_add_div (Nat.two_pow_pos f)]
      omega
    simp only [cn]
    rw [h1, ih _ _ _ (by omega), ih _ _ _ (by omega)]
theorem bit_low {f x : Nat} (h : x < 2 ^ f) : x / 2 ^ f % 2 = 0 := by rw [Nat.div_eq_of_lt h]
theorem bit_high {f x : Nat} (h : x < 2 ^ f) : (2 ^ f + x) / 2 ^ f % 2 = 1 := by
  have : (2 ^ f + x) / 2 ^ f = 1 + x / 2 ^ f := by
    rw [show 2 ^ f + x = 2 ^ f * 1 + x by omega, Nat.mul_add_div (Nat.two_pow_pos f)]
  rw [this, Nat.div_eq_of_lt h]
theorem cn_l {den r : Int} {f x : Nat} (h : r * 2 < den) (hx : x < 2 ^ f) : cn den (f + 1) r x = cn den f (r * 2) x ∧ cn den (f + 1) r (2 ^ f + x) = 0 := by
  simp only [cn]
  rw [if_pos h, if_pos (bit_low hx), if_pos h, if_neg (by rw [bit_high hx]; decide)]
  exact ⟨rfl, rfl⟩
theorem cn_h {den r : Int} {f x : Nat} (h : ¬ r * 2 < den) (hx : x < 2 ^ f) : cn den (f + 1) r x = 1 ∧ cn den (f + 1) r (2 ^ f + x) = cn den f (r * 2 - den) x := by
  simp only [cn]
  rw [if_neg h, if_neg (by rw [bit_low hx]; decide), if_neg h, if_pos (bit_high hx), cn_mod den f _ f x (Nat.le_refl _)]
  exact ⟨rfl, rfl⟩
theorem half_sum (g : Nat → Int) (f : Nat) : sumF g (2 ^ (f + 1)) = sumF g (2 ^ f) + sumF (fun x => g (2 ^ f + x)) (2 ^ f) := by
  rw [show 2 ^ (f + 1) = 2 ^ f + 2 ^ f by rw [Nat.pow_succ]; omega, sumF_add]
theorem v_step (c den : Int) (f : Nat) (r : Int) : sumF (fun x => isV c (cn den (f + 1) r x)) (2 ^ (f + 1)) = if r * 2 < den then sumF (fun x => isV c (cn den f (r * 2) x)) (2 ^ f) + (2 ^ f : Nat) * isV c 0 else (2 ^ f : Nat) * isV c 1 + sumF (fun x => isV c (cn den f (r * 2 - den) x)) (2 ^ f) := by
  rw [half_sum]
  by_cases h : r * 2 < den
  · have e1 : sumF (fun x => isV c (cn den (f + 1) r x)) (2 ^ f) = sumF (fun x => isV c (cn den f (r * 2) x)) (2 ^ f) := sumF_congr _ fun x hx => by show isV c _ = isV c _; rw [(cn_l h hx).1]
    have e2 : sumF (fun x => isV c (cn den (f + 1) r (2 ^ f + x))) (2 ^ f) = sumF (fun _ => isV c 0) (2 ^ f) := sumF_congr _ fun x hx => by show isV c _ = isV c _; rw [(cn_l h hx).2]
    rw [if_pos h, e1, e2, sumF_const]
  · have e1 : sumF (fun x => isV c (cn den (f + 1) r x)) (2 ^ f) = sumF (fun _ => isV c 1) (2 ^ f) := sumF_congr _ fun x hx => by show isV c _ = isV c _; rw [(cn_h h hx).1]
    have e2 : sumF (fun x => isV c (cn den (f + 1) r (2 ^ f + x))) (2 ^ f) = sumF (fun x => isV c (cn den f (r * 2 - den) x)) (2 ^ f) := sumF_congr _ fun x hx => by show isV c _ = isV c _; rw [(cn_h h hx).2]
    rw [if_neg h, e1, e2, sumF_const]
theorem cF_step (den : Int) (f : Nat) (r : Int) : sumF (cF den (f + 1) r) (2 ^ (f + 1)) = if r * 2 < den then sumF (cF den f (r * 2)) (2 ^ f) else (2 ^ f : Nat) + sumF (cF den f (r * 2 - den)) (2 ^ f) := by
  have h := v_step 1 den f r
  rw [show isV 1 0 = 0 by decide, show isV 1 1 = 1 by decide, Int.mul_zero, Int.mul_one, Int.add_zero] at h
  exact h
theorem cO_step (den : Int) (f : Nat) (r : Int) : sumF (cO den (f + 1) r) (2 ^ (f + 1)) = if r * 2 < den then sumF (cO den f (r * 2)) (2 ^ f) else sumF (cO den f (r * 2 - den)) (2 ^ f) := by
  have h := v_step (-1) den f r
  rw [show isV (-1) 0 = 0 by decide, show isV (-1) 1 = 0 by decide, Int.mul_zero, Int.add_zero, Int.zero_add] at h
  exact h
/-- one string decides nothing, and the ones are the part -/
theorem coin_sum (den : Int) : ∀ (f : Nat) (r : Int), 0 ≤ r → r ≤ den → sumF (cO den f r) (2 ^ f) = 1 ∧ sumF (cF den f r) (2 ^ f) * den ≤ r * (2 ^ f : Nat) ∧ r * (2 ^ f : Nat) ≤ (sumF (cF den f r) (2 ^ f) + 1) * den := by
  intro f
  induction f with
  | zero =>
    intro r h0 h1
    simp [sumF, cO, cF, cn, isV]
    omega
  | succ f ih =>
    intro r h0 h1
    rw [cF_step, cO_step]
    have hp : ((2 ^ (f + 1) : Nat) : Int) = 2 * (2 ^ f : Nat) := by rw [Nat.pow_succ]; omega
    by_cases h : r * 2 < den
    · rw [if_pos h, if_pos h, hp]
      obtain ⟨g1, g2, g3⟩ := ih (r * 2) (by omega) (by omega)
      rw [show r * (2 * ((2 ^ f : Nat) : Int)) = r * 2 * (2 ^ f : Nat) by rw [Int.mul_assoc]]
      exact ⟨g1, g2, g3⟩
    · rw [if_neg h, if_neg h, hp]
      obtain ⟨g1, g2, g3⟩ := ih (r * 2 - den) (by omega) (by omega)
      have e : r * (2 * ((2 ^ f : Nat) : Int)) = (r * 2 - den) * (2 ^ f : Nat) + (2 ^ f : Nat) * den := by
        rw [Int.sub_mul, Int.mul_assoc, Int.mul_comm ((2 ^ f : Nat) : Int) den]
        omega
      refine ⟨g1, ?_, ?_⟩
      · rw [e, Int.add_mul]
        omega
      · rw [e, show ((2 ^ f : Nat) : Int) + sumF (cF den f (r * 2 - den)) (2 ^ f) + 1 = (sumF (cF den f (r * 2 - den)) (2 ^ f) + 1) + (2 ^ f : Nat) by omega, Int.add_mul]
        omega
end Go.Proofs.Ytamedggnkbhgeaa
