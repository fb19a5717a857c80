/- One digit of a long division by two digits. Of no program. -/
namespace Go.Proofs.Ytmnnpkmjamhmcab

section
variable {B u un y a b q rh : Nat}

theorem kd_small (hun : un < B) (hu : u < y) : (u * B + un) / y < B := by
  have hy : 0 < y := by omega
  rw [Nat.div_lt_iff_lt_mul hy]
  have h1 : (u + 1) * B ≤ y * B := Nat.mul_le_mul_right B hu
  rw [Nat.succ_mul] at h1
  rw [Nat.mul_comm B y]
  omega

theorem kd_start (hb : b < B) (hun : un < B) (hy : y = a * B + b) (hu : u < y) (ha : B ≤ 2 * a) (ha2 : a < B) :
    (u * B + un) / y ≤ u / a ∧ u / a ≤ B + 1 ∧ u / a * a + u % a = u ∧ u % a < B := by
  have ha0 : 0 < a := by omega
  have hB : 0 < B := by omega
  refine ⟨?_, ?_, ?_, ?_⟩
  · rw [Nat.le_div_iff_mul_le ha0]
    have h1 : (u * B + un) / y * y ≤ u * B + un := Nat.div_mul_le_self _ _
    generalize (u * B + un) / y = t at h1 ⊢
    have h2 : t * y = t * a * B + t * b := by rw [hy, Nat.mul_add, Nat.mul_assoc]
    have h3 : t * a * B < (u + 1) * B := by rw [Nat.succ_mul]; omega
    have := Nat.lt_of_mul_lt_mul_right h3
    omega
  · have h1 : u < a * (B + 2) := by
      have : a * (B + 2) = a * B + 2 * a := by rw [Nat.mul_add, Nat.mul_comm a 2]
      omega
    have := (Nat.div_lt_iff_lt_mul ha0).2 (by rw [Nat.mul_comm] at h1; exact h1)
    omega
  · rw [Nat.mul_comm]; exact Nat.div_add_mod u a
  · have := Nat.mod_lt u ha0
    omega

/-- the guess is too great -/
theorem kd_step (_hb : b < B) (hun : un < B) (hy : y = a * B + b) (hu : u < y) (_hq : (u * B + un) / y ≤ q) (hr : q * a + rh = u)
    (hc : B ≤ q ∨ B * rh + un < q * b) : 0 < q ∧ (u * B + un) / y ≤ q - 1 ∧ (q - 1) * a + (rh + a) = u := by
  have h0 : (u * B + un) / y < q := by
    rcases hc with hc | hc
    · exact Nat.lt_of_lt_of_le (kd_small hun hu) hc
    · have hy0 : 0 < y := by omega
      rw [Nat.div_lt_iff_lt_mul hy0]
      have h2 : q * y = q * a * B + q * b := by rw [hy, Nat.mul_add, Nat.mul_assoc]
      have h3 : u * B = q * a * B + rh * B := by rw [← hr, Nat.add_mul]
      rw [Nat.mul_comm B rh] at hc
      omega
  generalize (u * B + un) / y = t at h0 ⊢
  have h1 : 0 < q := by omega
  refine ⟨h1, by omega, ?_⟩
  have : (q - 1) * a + a = q * a := by
    rw [← Nat.succ_mul]
    congr 1
    omega
  omega

/-- the guess is right: its product with both digits is not too great -/
theorem kd_done (hy : y = a * B + b) (hy0 : 0 < y) (hq : (u * B + un) / y ≤ q) (hr : q * a + rh = u) (hc : q * b ≤ B * rh + un) : q = (u * B + un) / y := by
  refine Nat.le_antisymm ?_ hq
  rw [Nat.le_div_iff_mul_le hy0]
  have h2 : q * y = q * a * B + q * b := by rw [hy, Nat.mul_add, Nat.mul_assoc]
  have h3 : u * B = q * a * B + rh * B := by rw [← hr, Nat.add_mul]
  rw [Nat.mul_comm B rh] at hc
  omega

theorem kd_break (hb : b < B) (hy : y = a * B + b) (hy0 : 0 < y) (hq : (u * B + un) / y ≤ q) (hr : q * a + rh = u) (hq2 : q ≤ B) (hrh : B ≤ rh) : q = (u * B + un) / y := by
  refine kd_done hy hy0 hq hr ?_
  have h1 : q * b ≤ B * B := Nat.mul_le_mul hq2 (by omega)
  have h2 : B * B ≤ B * rh := Nat.mul_le_mul_left B hrh
  omega

/-- what is left -/
theorem kd_rest (_hy0 : 0 < y) (h : q = (u * B + un) / y) : u * B + un - q * y = (u * B + un) % y ∧ q * y ≤ u * B + un := by
  subst h
  have h1 := Nat.div_mul_le_self (u * B + un) y
  have h2 := Nat.div_add_mod (u * B + un) y
  rw [Nat.mul_comm] at h2
  exact ⟨by omega, h1⟩

/-- two digits of a quotient -/
theorem kd_two (hy0 : 0 < y) (v w : Nat) : ((u * B + v) / y) * B + (((u * B + v) % y) * B + w) / y = ((u * B + v) * B + w) / y ∧ (((u * B + v) % y) * B + w) % y = ((u * B + v) * B + w) % y := by
  obtain ⟨n, hn⟩ : ∃ n, u * B + v = n := ⟨_, rfl⟩
  rw [hn]
  have h : n * B + w = (n % y * B + w) + y * (n / y * B) := by
    have h1 := Nat.div_add_mod n y
    have h2 : n * B = y * (n / y * B) + n % y * B := by
      calc n * B = (y * (n / y) + n % y) * B := by rw [h1]
        _ = y * (n / y * B) + n % y * B := by rw [Nat.add_mul, Nat.mul_assoc]
    omega
  rw [h, Nat.add_mul_div_left _ _ hy0, Nat.add_mul_mod_self_left]
  exact ⟨by omega, rfl⟩

/-- the divisor and the number, shifted -/
theorem kd_shift (n : Nat) {p : Nat} (hp : 0 < p) : n * p / (y * p) = n / y ∧ n * p % (y * p) / p = n % y := by
  refine ⟨Nat.mul_div_mul_right _ _ hp, ?_⟩
  rw [Nat.mul_mod_mul_right, Nat.mul_div_cancel _ hp]
end
end Go.Proofs.Ytmnnpkmjamhmcab
