/- Plain facts: when all states of a congruence are one cycle (Hull and Dobell). No program here. -/
import Derived.Test.YtmapbaomfaplmaaInvMath
namespace Go.Proofs.Ytmapbaomfaplmaa

/-- a prime number -/
def IsP (p : Nat) : Prop := 2 ≤ p ∧ ∀ d, d ∣ p → d = 1 ∨ d = p
theorem prime_in {n : Nat} (h : 2 ≤ n) : ∃ p, IsP p ∧ p ∣ n := by
  have key : ∀ k, (∃ d, 2 ≤ d ∧ d ≤ k ∧ d ∣ n) → ∃ p, IsP p ∧ p ∣ n := by
    intro k
    induction k with
    | zero => rintro ⟨d, a, b, _⟩; omega
    | succ k ih =>
      intro ⟨d, a, b, e⟩
      by_cases hx : ∃ d, 2 ≤ d ∧ d ≤ k ∧ d ∣ n
      · exact ih hx
      · refine ⟨d, ⟨a, fun f hf => ?_⟩, e⟩
        have hf0 : 0 < f := Nat.pos_of_dvd_of_pos hf (by omega)
        have hfd : f ≤ d := Nat.le_of_dvd (by omega) hf
        by_cases h1 : f = 1
        · exact .inl h1
        · by_cases h2 : f = d
          · exact .inr h2
          · exact absurd ⟨f, by omega, by omega, Nat.dvd_trans hf e⟩ hx
  exact key n ⟨n, h, Nat.le_refl _, Nat.dvd_refl _⟩
theorem coprime_of {m n : Nat} (hm : 0 < m) (h : ∀ q, IsP q → q ∣ m → q ∣ n → False) : Nat.Coprime m n := by
  have hg : 0 < Nat.gcd m n := Nat.gcd_pos_of_pos_left _ hm
  rcases Nat.lt_or_ge (Nat.gcd m n) 2 with h1 | h1
  · show Nat.gcd m n = 1
    omega
  · obtain ⟨q, hq, hd⟩ := prime_in h1
    exact (h q hq (Nat.dvd_trans hd (Nat.gcd_dvd_left _ _)) (Nat.dvd_trans hd (Nat.gcd_dvd_right _ _))).elim
theorem pow_mod_one {a q : Nat} (hq : 2 ≤ q) (h : a % q = 1) (n : Nat) : a ^ n % q = 1 := by
  rw [Nat.pow_mod, h, Nat.one_pow]
  exact Nat.mod_eq_of_lt (by omega)
theorem geo_mod {a q : Nat} (hq : 2 ≤ q) (h : a % q = 1) : ∀ n, geo a n % q = n % q
  | 0 => rfl
  | n + 1 => by
    rw [geo, Nat.add_mod, Nat.mul_mod, h, geo_mod hq h n, Nat.one_mul, Nat.mod_mod, ← Nat.add_mod]
theorem geo_mul (a k : Nat) : ∀ n, geo a (k * n) = geo a k * geo (a ^ k) n
  | 0 => by simp [geo]
  | n + 1 => by
    rw [Nat.mul_succ, geo_add, geo_mul a k n, geo, Nat.mul_add, Nat.mul_one, ← Nat.mul_assoc, ← Nat.mul_assoc, Nat.mul_comm (a ^ k)]
/-- 0 + 1 + .. + (n - 1) -/
def tri : Nat → Nat
  | 0 => 0
  | n + 1 => tri n + n
theorem tri_two : ∀ n, 2 * tri (n + 1) = (n + 1) * n
  | 0 => rfl
  | n + 1 => by
    have h := tri_two n
    rw [tri, Nat.mul_add, h, Nat.add_mul (n + 1) 1, Nat.mul_add (n + 1) n 1, Nat.add_mul n 1 n] 
    omega
theorem geo_taylor (x : Nat) : ∀ n, ∃ k, geo (1 + x) n = n + x * tri n + x * x * k
  | 0 => ⟨0, by simp [geo, tri]⟩
  | n + 1 => by
    obtain ⟨k, h⟩ := geo_taylor x n
    refine ⟨k + tri n + x * k, ?_⟩
    rw [geo, h, tri]
    simp only [Nat.add_mul, Nat.mul_add, Nat.one_mul, Nat.mul_assoc]
    generalize x * (x * tri n) = t
    generalize x * (x * k) = s
    generalize x * (x * (x * k)) = r
    generalize x * tri n = q
    omega
theorem odd_part {a p : Nat} (hp : IsP p) (h2 : p ≠ 2) (ha : a % p = 1) : ∃ v, geo a p = p * (1 + p * v) := by
  have hp2 := hp.1
  obtain ⟨t, ht⟩ : ∃ t, a = 1 + p * t := ⟨a / p, by have := Nat.div_add_mod a p; omega⟩
  obtain ⟨k, hk⟩ := geo_taylor (p * t) p
  rw [← ht] at hk
  -- p divides 0 + 1 + .. + (p - 1), as it is odd
  have htri : p ∣ tri p := by
    obtain ⟨r, rfl⟩ : ∃ r, p = r + 1 := ⟨p - 1, by omega⟩
    have h3 := tri_two r
    have hc : Nat.Coprime (r + 1) 2 := by
      refine coprime_of (by omega) fun q hq hq1 hq2 => ?_
      have hq3 : q ≤ 2 := Nat.le_of_dvd (by omega) hq2
      have hq4 : q = 2 := by have := hq.1; omega
      subst hq4
      rcases hp.2 2 hq1 with h | h
      · omega
      · exact h2 h.symm
    exact hc.dvd_of_dvd_mul_left (Nat.dvd_trans (Nat.dvd_mul_right _ r) (by rw [← h3]; exact Nat.dvd_refl _))
  obtain ⟨d, hd⟩ := htri
  refine ⟨t * d + t * t * k, ?_⟩
  rw [hk, hd]
  simp only [Nat.mul_add, Nat.mul_one, Nat.mul_assoc, Nat.mul_left_comm t p]
  omega
theorem prime_eq {p q : Nat} (hp : IsP p) (hq : IsP q) (h : q ∣ p) : q = p := by
  rcases hp.2 q h with h1 | h1
  · have := hq.1; omega
  · exact h1
/-- a geometric sum is a multiple of m only for multiples of m -/
theorem geo_dvd : ∀ (m a n : Nat), 0 < m → (∀ q, IsP q → q ∣ m → a % q = 1) → (4 ∣ m → a % 4 = 1) → m ∣ geo a n → m ∣ n := by
  intro m
  induction m using Nat.strongRecOn with
  | _ m ih =>
    intro a n hm hP h4 hd
    rcases Nat.lt_or_ge m 2 with h1 | h1
    · have : m = 1 := by omega
      rw [this]; exact Nat.one_dvd _
    · obtain ⟨p, hp, hpm⟩ := prime_in h1
      have ha := hP p hp hpm
      have hp2 := hp.1
      have hpn : p ∣ n := by
        have h2 := geo_mod hp2 ha n
        have h3 := Nat.mod_eq_zero_of_dvd (Nat.dvd_trans hpm hd)
        exact Nat.dvd_of_mod_eq_zero (by rw [← h2, h3])
      obtain ⟨n', rfl⟩ := hpn
      obtain ⟨m', rfl⟩ := hpm
      have hm' : 0 < m' := Nat.pos_of_mul_pos_left hm |> fun _ => by
        rcases Nat.eq_zero_or_pos m' with h | h
        · subst h; omega
        · exact h
      obtain ⟨u, hu⟩ : p ∣ geo a p := by
        have h2 := geo_mod hp2 ha p
        rw [Nat.mod_self] at h2
        exact Nat.dvd_of_mod_eq_zero h2
      rw [geo_mul, hu, Nat.mul_assoc] at hd
      have hd2 : m' ∣ u * geo (a ^ p) n' := Nat.dvd_of_mul_dvd_mul_left (by omega) hd
      have hcop : Nat.Coprime m' u := by
        refine coprime_of hm' fun q hq hq1 hq2 => ?_
        have hqm : q ∣ p * m' := Nat.dvd_trans hq1 (Nat.dvd_mul_left _ _)
        have hqa := hP q hq hqm
        have hqp : q ∣ p := by
          have h2 := geo_mod hq.1 hqa p
          have h3 := Nat.mod_eq_zero_of_dvd (Nat.dvd_trans hq2 (show u ∣ geo a p by rw [hu]; exact Nat.dvd_mul_left _ _))
          exact Nat.dvd_of_mod_eq_zero (by rw [← h2, h3])
        have e := prime_eq hp hq hqp
        subst e
        by_cases h2 : q = 2
        · subst h2
          have h44 : 4 ∣ 2 * m' := by obtain ⟨x, rfl⟩ := hq1; exact ⟨x, by omega⟩
          have ha4 := h4 h44
          have hg : geo a 2 = a + 1 := by simp [geo]
          obtain ⟨x, rfl⟩ := hq2
          omega
        · obtain ⟨v, hv⟩ := odd_part hp h2 ha
          have e2 : u = 1 + q * v := Nat.eq_of_mul_eq_mul_left (show 0 < q by omega) (by rw [← hu, hv])
          have h5 : q ∣ 1 := (Nat.dvd_add_left (Nat.dvd_mul_right q v)).1 (by rw [← e2]; exact hq2)
          have := Nat.le_of_dvd (by omega) h5
          omega
      have hd3 : m' ∣ geo (a ^ p) n' := hcop.dvd_of_dvd_mul_left hd2
      have hlt : m' < p * m' := by
        have : 2 * m' ≤ p * m' := Nat.mul_le_mul_right _ hp2
        omega
      have h6 : m' ∣ n' := ih m' hlt (a ^ p) n' hm'
        (fun q hq hqm => pow_mod_one hq.1 (hP q hq (Nat.dvd_trans hqm (Nat.dvd_mul_left _ _))) p)
        (fun h => pow_mod_one (by omega) (h4 (Nat.dvd_trans h (Nat.dvd_mul_left _ _))) p) hd3
      exact Nat.mul_dvd_mul_left p h6
end Go.Proofs.Ytmapbaomfaplmaa
