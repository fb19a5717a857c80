/- Plain facts: a jump is as many steps. -/
import Derived.Test.YtgpcacbjmjpdnabJump
import Derived.Test.YtgpcacbjmjpdnabRegBits
namespace Go.Proofs.Ytgpcacbjmjpdnab
set_option maxHeartbeats 400000

theorem pc_xor : ∀ f x y, Pop.pcF f (x ^^^ y) % 2 = (Pop.pcF f x + Pop.pcF f y) % 2 := by
  intro f
  induction f with
  | zero => intro x y; rfl
  | succ f ih =>
    intro x y
    have h1 := ih (x / 2) (y / 2)
    have h2 := Pl.div2_xor x y
    have h3 : (x ^^^ y) % 2 = (x % 2 + y % 2) % 2 := by
      rw [Pl.mod2_xor]
      rcases (show x % 2 = 0 ∨ x % 2 = 1 by omega) with a | a <;> rcases (show y % 2 = 0 ∨ y % 2 = 1 by omega) with b | b <;> rw [a, b] <;> rfl
    rw [← h2] at h1
    simp only [Pop.pcF]
    omega
theorem and_pow2 (x k : Nat) : x &&& 2 ^ k = 2 ^ k * (x / 2 ^ k % 2) := by
  have hp : 0 < 2 ^ k := Nat.pow_pos (by omega)
  have h1 := Nat.and_mod_two_pow (a := x) (b := 2 ^ k) (n := k)
  have h2 := Nat.and_div_two_pow (a := x) (b := 2 ^ k) (n := k)
  rw [Nat.mod_self, Nat.and_zero] at h1
  rw [Nat.div_self hp, Nat.and_one_is_mod] at h2
  have := Nat.div_add_mod (x &&& 2 ^ k) (2 ^ k)
  rw [h1, h2] at this
  omega
theorem and_low {x k : Nat} (h : x < 2 ^ k) : x &&& 2 ^ k = 0 := by
  rw [and_pow2, Nat.div_eq_of_lt h]
  simp
theorem pc_pow : ∀ f k, k < f → Pop.pcF f (2 ^ k) = 1 := by
  intro f
  induction f with
  | zero => intro k h; omega
  | succ f ih =>
    intro k h
    cases k with
    | zero =>
      simp only [Pop.pcF]
      have : ∀ g, Pop.pcF g 0 = 0 := by
        intro g
        induction g with
        | zero => rfl
        | succ g ih => simp only [Pop.pcF]; simpa using ih
      simpa using this f
    | succ k =>
      simp only [Pop.pcF]
      rw [Nat.pow_succ, Nat.mul_mod_left, Nat.mul_div_cancel _ (by omega), ih k (by omega)]
/-- the parity of the bits that two numbers share -/
def pr (x s : Nat) : Nat := Pop.pcF 64 (x &&& s) % 2
theorem pr_xor (x y s : Nat) : pr (x ^^^ y) s = (pr x s + pr y s) % 2 := by
  unfold pr
  rw [Nat.and_xor_distrib_right, pc_xor]
  omega
theorem pr_zero (s : Nat) : pr 0 s = 0 := by unfold pr; rw [Nat.zero_and, pc_zero]
theorem pr_lt (x s : Nat) : pr x s = 0 ∨ pr x s = 1 := by unfold pr; omega
theorem split_low {t K : Nat} (h : t < 2 ^ (K + 1)) : ∃ t' , t' < 2 ^ K ∧ (t = t' ∨ t = t' ^^^ 2 ^ K) := by
  by_cases hb : t < 2 ^ K
  · exact ⟨t, hb, .inl rfl⟩
  · rw [Nat.pow_succ] at h
    have h1 : t - 2 ^ K < 2 ^ K := by omega
    refine ⟨t - 2 ^ K, h1, .inr ?_⟩
    rw [Pl.xor_above h1]
    omega
theorem pr_self (K : Nat) (hK : K < 64) : pr (2 ^ K) (2 ^ K) = 1 := by unfold pr; rw [Nat.and_self, pc_pow 64 K hK]

theorem jmp_succ_xor (p s n K : Nat) : jmp p s n (K + 1) = jmp p s n K ^^^ (if pr (Pl.pw p (n + K)) s = 1 then 2 ^ K else 0) := by
  have h : jmp p s n (K + 1) = jmp p s n K + pr (Pl.pw p (n + K)) s * 2 ^ K := rfl
  rw [h]
  rcases pr_lt (Pl.pw p (n + K)) s with e | e <;> rw [e]
  · simp
  · rw [if_pos rfl, Pl.xor_above (jmp_lt p s n K), Nat.one_mul]
theorem pr_comm (x y : Nat) : pr x y = pr y x := by unfold pr; rw [Nat.and_comm]
theorem pr_low {t K : Nat} (h : t < 2 ^ K) : pr t (2 ^ K) = 0 := by unfold pr; rw [and_low h, pc_zero]

/-- a sum of the bits of a jump is a product's bit -/
theorem pr_jmp (p s n : Nat) : ∀ K t, K ≤ 60 → t < 2 ^ K → pr t (jmp p s n K) = pr (Pl.rem p (t * 2 ^ n)) s := by
  intro K
  induction K with
  | zero =>
    intro t _ h
    have : t = 0 := by simpa using h
    subst this
    rw [Nat.zero_mul, Pl.rem_zero, pr_zero, pr_zero]
  | succ K ih =>
    intro t hK h
    obtain ⟨t', h1, h2⟩ := split_low h
    have hI := ih t' (by omega) h1
    have hJ := jmp_lt p s n K
    have hA : pr t' (jmp p s n (K + 1)) = pr t' (jmp p s n K) := by
      rw [jmp_succ_xor, pr_comm, pr_xor, pr_comm (jmp p s n K)]
      have : pr (if pr (Pl.pw p (n + K)) s = 1 then 2 ^ K else 0) t' = 0 := by
        split
        · rw [pr_comm]; exact pr_low h1
        · exact pr_zero _
      rw [this]
      rcases pr_lt t' (jmp p s n K) with e | e <;> rw [e]
    rcases h2 with rfl | rfl
    · rw [hA, hI]
    · have hB : pr (2 ^ K) (jmp p s n (K + 1)) = pr (Pl.pw p (n + K)) s := by
        rw [jmp_succ_xor, pr_comm, pr_xor, pr_low hJ]
        rcases pr_lt (Pl.pw p (n + K)) s with e | e <;> rw [e]
        · simp [pr_zero]
        · rw [if_pos rfl, pr_self K (by omega)]
      rw [pr_xor, hA, hI, hB, Pl.xor_shl, Pl.rem_xor, pr_xor, ← Nat.pow_add, Nat.add_comm K n]
      rfl

theorem polyN2_xor {W t : Nat} (ht : t < 2 ^ W) : polyN2 W t = t ^^^ 2 ^ W := by rw [Pl.xor_above ht]; rfl
theorem polyN2_len {W t : Nat} (ht : t < 2 ^ W) : Pl.len (polyN2 W t) = W + 1 := by
  apply Pl.len_eq
  · unfold polyN2; omega
  · unfold polyN2; rw [Nat.pow_succ]; omega
/-- the taps give the next bit -/
theorem tap_rem {W t : Nat} (ht : t < 2 ^ W) (n : Nat) : Pl.rem (polyN2 W t) (t * 2 ^ n) = Pl.pw (polyN2 W t) (n + W) := by
  have h0 : Pl.rem (polyN2 W t) (polyN2 W t * 2 ^ n) = 0 := Pl.rem_shl0 (Pl.rem_self (poly_pos W t)) n
  rw [polyN2_xor ht, Pl.xor_shl, Pl.rem_xor, ← polyN2_xor ht, ← Nat.pow_add, Nat.add_comm W n] at h0
  have h1 : Pl.rem (polyN2 W t) (t * 2 ^ n) ^^^ Pl.rem (polyN2 W t) (2 ^ (n + W)) = 0 := h0
  have h2 := Pl.xor_twice (Pl.rem (polyN2 W t) (t * 2 ^ n)) (Pl.rem (polyN2 W t) (2 ^ (n + W)))
  rw [h1, Nat.zero_xor] at h2
  exact h2.symm

theorem jmp_front (p s n : Nat) : ∀ k, jmp p s n (k + 1) = pr (Pl.pw p n) s + 2 * jmp p s (n + 1) k := by
  intro k
  induction k with
  | zero => simp [jmp, pr]
  | succ k ih =>
    rw [jmp, ih]
    have : jmp p s (n + 1) (k + 1) = jmp p s (n + 1) k + Pop.pcF 64 (Pl.pw p (n + 1 + k) &&& s) % 2 * 2 ^ k := rfl
    rw [this, Nat.mul_add, show n + (k + 1) = n + 1 + k by omega, Nat.pow_succ, Nat.mul_left_comm 2, Nat.mul_comm 2 (2 ^ k)]
    omega
theorem jmp_next {W t s : Nat} (hW : W ≤ 16) (ht : t < 2 ^ W) (n : Nat) : nxt W t (jmp (polyN2 W t) s n W) = jmp (polyN2 W t) s (n + 1) W := by
  have hp := pr_jmp (polyN2 W t) s n W t (by omega) ht
  rw [tap_rem ht] at hp
  have hn : nxt W t (jmp (polyN2 W t) s n W) = jmp (polyN2 W t) s n W / 2 + pr t (jmp (polyN2 W t) s n W) * 2 ^ (W - 1) := rfl
  rw [hn, hp]
  cases W with
  | zero =>
    have h0 : t = 0 := by simpa using ht
    subst h0
    have h1 : pr 0 (jmp (polyN2 0 0) s n 0) = 0 := pr_zero _
    have h2 := pr_jmp (polyN2 0 0) s n 0 0 (by omega) (by simp)
    rw [tap_rem (by simp)] at h2
    rw [← h2, h1]
    simp [jmp]
  | succ V =>
    rw [jmp_front, Nat.add_sub_cancel]
    have h3 : jmp (polyN2 (V + 1) t) s (n + 1) (V + 1) = jmp (polyN2 (V + 1) t) s (n + 1) V + pr (Pl.pw (polyN2 (V + 1) t) (n + 1 + V)) s * 2 ^ V := rfl
    rw [h3, show n + (V + 1) = n + 1 + V by omega]
    rcases pr_lt (Pl.pw (polyN2 (V + 1) t) n) s with e | e <;> rw [e] <;> omega
theorem jmp_zero {W t s : Nat} (hW : W ≤ 16) (ht : t < 2 ^ W) (hs : s < 2 ^ W) : jmp (polyN2 W t) s 0 W = s := by
  have key : ∀ k, k ≤ W → jmp (polyN2 W t) s 0 k = s % 2 ^ k := by
    intro k
    induction k with
    | zero => intro _; simp [jmp, Nat.mod_one]
    | succ k ih =>
      intro hk
      have e : jmp (polyN2 W t) s 0 (k + 1) = jmp (polyN2 W t) s 0 k + pr (Pl.pw (polyN2 W t) (0 + k)) s * 2 ^ k := rfl
      have h1 : Pl.pw (polyN2 W t) (0 + k) = 2 ^ k := by
        unfold Pl.pw
        rw [Nat.zero_add]
        apply Pl.rem_small
        rw [polyN2_len ht, Nat.add_sub_cancel]
        exact Nat.pow_lt_pow_right (by omega) (by omega)
      have h2 : pr (2 ^ k) s = s / 2 ^ k % 2 := by
        unfold pr
        rw [Nat.and_comm, and_pow2]
        rcases (show s / 2 ^ k % 2 = 0 ∨ s / 2 ^ k % 2 = 1 by omega) with a | a <;> rw [a]
        · simp [pc_zero]
        · have := pc_pow 64 k (by omega)
          simp [this]
      rw [e, ih (by omega), h1, h2, Nat.mod_pow_succ, Nat.mul_comm]
  rw [key W (Nat.le_refl _), Nat.mod_eq_of_lt hs]
theorem jmp_itr {W t s : Nat} (hW : W ≤ 16) (ht : t < 2 ^ W) (hs : s < 2 ^ W) : ∀ n, jmp (polyN2 W t) s n W = itr W t s n := by
  intro n
  induction n with
  | zero => exact jmp_zero hW ht hs
  | succ n ih => rw [← jmp_next hW ht, ih]; rfl
theorem itr_add (W t s n : Nat) : ∀ m, itr W t s (n + m) = itr W t (itr W t s n) m := by
  intro m
  induction m with
  | zero => rfl
  | succ m ih => show nxt W t (itr W t s (n + m)) = nxt W t (itr W t (itr W t s n) m); rw [ih]
end Go.Proofs.Ytgpcacbjmjpdnab
