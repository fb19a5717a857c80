/- Plain facts: inverses modulo m, Euclid's method with multiples, orders of factors. No program here. -/
import Derived.Test.YtmapbaomfaplmaaConMath
import Derived.Test.YtmapbaomfaplmaaCycMath
namespace Go.Proofs.Ytmapbaomfaplmaa

/-- what Euclid's method keeps: divisors as multiples of a, less ones of m -/
def Euc (m a : Nat) (d e : Nat) (i j : Int) : Prop :=
  e < d ∧ Nat.gcd d e = Nat.gcd m a ∧ (∃ p : Int, i * a - d = p * m) ∧ (∃ q : Int, j * a - e = q * m) ∧
  ∃ u v : Nat, u * e + v * d = m ∧ u ≤ v ∧ 1 ≤ v ∧ ((i = -(u : Int) ∧ j = v) ∨ (i = u ∧ j = -(v : Int)))
theorem Euc.start {m a : Nat} (ha : a < m) : Euc m a m a 0 1 :=
  ⟨ha, rfl, ⟨-1, by omega⟩, ⟨0, by omega⟩, 0, 1, by omega, by omega, by omega, .inl ⟨by omega, by omega⟩⟩
theorem Euc.bound {m a d e : Nat} {i j : Int} (h : Euc m a d e i j) : d ≤ m ∧ -(m : Int) ≤ i ∧ i ≤ m ∧ -(m : Int) ≤ j ∧ j ≤ m := by
  obtain ⟨h1, _, _, _, u, v, h2, h3, h3b, h4⟩ := h
  have hd : 1 ≤ d := by omega
  have hv : v * 1 ≤ v * d := Nat.mul_le_mul_left _ hd
  have h0 : d ≤ m := by
    have : 1 * d ≤ v * d := Nat.mul_le_mul_right _ h3b
    omega
  omega
theorem Euc.quo {m a d e : Nat} {i j : Int} (h : Euc m a d e i j) (_he : 0 < e) : ((d / e : Nat) : Int) * e ≤ d ∧ -(m : Int) ≤ ((d / e : Nat) : Int) * j ∧ ((d / e : Nat) : Int) * j ≤ m := by
  obtain ⟨h1, _, _, _, u, v, h2, h3, h3b, h4⟩ := h
  have hq : (d / e) * e ≤ d := Nat.div_mul_le_self d e
  have hv : (d / e) * v ≤ m := by
    have a1 : (d / e) * v ≤ d * v := Nat.mul_le_mul_right _ (Nat.div_le_self d e)
    have a2 : d * v = v * d := Nat.mul_comm _ _
    omega
  have c1 : ((d / e : Nat) : Int) * (e : Int) = (((d / e) * e : Nat) : Int) := by simp
  have c2 : ((d / e : Nat) : Int) * (v : Int) = (((d / e) * v : Nat) : Int) := by simp
  refine ⟨by rw [c1]; omega, ?_⟩
  rcases h4 with ⟨_, rfl⟩ | ⟨_, rfl⟩
  · rw [c2]; omega
  · rw [Int.mul_neg, c2]; omega
theorem Euc.next {m a d e : Nat} {i j : Int} (h : Euc m a d e i j) (he : 0 < e) : Euc m a e (d % e) j (i - ((d / e : Nat) : Int) * j) := by
  obtain ⟨h1, hg, ⟨p, hp⟩, ⟨q, hq⟩, u, v, h2, h3, h3b, h4⟩ := h
  obtain ⟨k, hk⟩ : ∃ k, d / e = k := ⟨_, rfl⟩
  have hde : e * k + d % e = d := by rw [← hk]; exact Nat.div_add_mod d e
  have k1 : 1 ≤ k := by rw [← hk]; exact (Nat.one_le_div_iff he).2 (by omega)
  rw [hk]
  refine ⟨Nat.mod_lt _ he, ?_, ⟨q, hq⟩, ⟨p - k * q, ?_⟩, v, u + k * v, ?_, ?_, ?_, ?_⟩
  · rw [← hg, Nat.gcd_comm e, ← Nat.gcd_rec, Nat.gcd_comm]
  · have e1 : (d : Int) = e * k + (d % e : Nat) := by exact_mod_cast hde.symm
    have e2 : ((k : Int) * j) * a = k * (q * m) + k * e := by
      have : j * (a : Int) = q * m + e := by omega
      rw [Int.mul_assoc, this, Int.mul_add]
    have e3 : (p - (k : Int) * q) * m = p * m - k * (q * m) := by rw [Int.sub_mul, Int.mul_assoc]
    have e4 : (e : Int) * k = k * e := Int.mul_comm _ _
    rw [Int.sub_mul, e2, e3]
    omega
  · have e1 : v * d = v * (e * k) + v * (d % e) := by rw [← Nat.mul_add, hde]
    have e2 : (u + k * v) * e = u * e + v * (e * k) := by
      rw [Nat.add_mul, Nat.mul_comm k v, Nat.mul_assoc, Nat.mul_comm k e]
    omega
  · have : 1 * v ≤ k * v := Nat.mul_le_mul_right _ k1
    omega
  · have : 1 * v ≤ k * v := Nat.mul_le_mul_right _ k1
    omega
  · have e1 : ((u + k * v : Nat) : Int) = u + k * v := by simp
    rcases h4 with ⟨rfl, rfl⟩ | ⟨rfl, rfl⟩
    · exact .inr ⟨rfl, by rw [e1]; omega⟩
    · refine .inl ⟨rfl, ?_⟩
      rw [e1, Int.mul_neg]; omega

/-- y is the inverse of a modulo m -/
def InvP (m a y : Nat) : Prop := y < m ∧ y * a % m = 1
theorem InvP.unique {m a x y : Nat} (h : InvP m a x) (g : InvP m a y) : x = y := by
  have e1 : x * (y * a) % m = x % m := by rw [Nat.mul_mod, g.2, Nat.mul_one, Nat.mod_mod]
  have e2 : y * (x * a) % m = y % m := by rw [Nat.mul_mod, h.2, Nat.mul_one, Nat.mod_mod]
  have e3 : x * (y * a) = y * (x * a) := by rw [← Nat.mul_assoc, ← Nat.mul_assoc, Nat.mul_comm x y]
  rw [e3, e2, Nat.mod_eq_of_lt h.1, Nat.mod_eq_of_lt g.1] at e1
  exact e1.symm
theorem Euc.inverse {m a : Nat} {i j : Int} (hm : 2 ≤ m) (h : Euc m a 1 0 i j) : ∃ y : Nat, (i + m) % m = (y : Int) ∧ InvP m a y := by
  obtain ⟨p, hp⟩ := h.2.2.1
  have hb := h.bound
  obtain ⟨y, hy⟩ := Int.eq_ofNat_of_zero_le (Int.emod_nonneg (i + m) (show (m : Int) ≠ 0 by omega))
  have hlt := Int.emod_lt_of_pos (i + m) (show (0 : Int) < m by omega)
  refine ⟨y, hy, by omega, ?_⟩
  have e1 : ((y * a : Nat) : Int) % m = 1 := by
    have h2 : (y : Int) = i + m - m * ((i + m) / m) := by
      have := Int.emod_add_mul_ediv (i + m) m
      omega
    have h3 : ((y * a : Nat) : Int) = 1 + m * (p + a - a * ((i + m) / m)) := by
      have e : ((y * a : Nat) : Int) = (y : Int) * a := by simp
      have e5 : (m : Int) * ((i + m) / m) * a = m * (a * ((i + m) / m)) := by rw [Int.mul_assoc, Int.mul_comm ((i + m) / m)]
      have e6 : (p : Int) * m = m * p := Int.mul_comm _ _
      rw [e, h2, Int.sub_mul, Int.add_mul, e5, Int.mul_sub, Int.mul_add]
      omega
    rw [h3, Int.add_mul_emod_self_left]
    exact Int.emod_eq_of_lt (by omega) (by omega)
  exact_mod_cast e1
theorem InvP.gcd {m a y : Nat} (h : InvP m a y) : Nat.gcd m a = 1 := by
  have h1 : Nat.gcd m a ∣ y * a := Nat.dvd_trans (Nat.gcd_dvd_right m a) (Nat.dvd_mul_left _ _)
  have h2 : Nat.gcd m a ∣ y * a % m := (Nat.dvd_mod_iff (Nat.gcd_dvd_left m a)).2 h1
  rw [h.2] at h2
  exact Nat.dvd_one.1 h2
/-- where nothing divides both, there is an inverse -/
theorem inv_exists {m a : Nat} (hm : 2 ≤ m) (ha : a < m) (hg : Nat.gcd m a = 1) : ∃ y, InvP m a y := by
  have key : ∀ e d i j, Euc m a d e i j → ∃ d i j, Euc m a d 0 i j := by
    intro e
    induction e using Nat.strongRecOn with
    | _ e ih =>
      intro d i j h
      rcases Nat.eq_zero_or_pos e with h0 | h0
      · exact ⟨d, i, j, h0 ▸ h⟩
      · exact ih (d % e) (Nat.mod_lt _ h0) _ _ _ (h.next h0)
  obtain ⟨d, i, j, h⟩ := key a m 0 1 (Euc.start ha)
  have hd : d = 1 := by
    have := h.2.1
    rw [Nat.gcd_zero_right, hg] at this
    exact this
  subst hd
  obtain ⟨y, _, hy⟩ := h.inverse hm
  exact ⟨y, hy⟩
theorem InvP.pos {m a y : Nat} (h : InvP m a y) : 1 ≤ y := by
  rcases Nat.eq_zero_or_pos y with h0 | h0
  · have h2 := h.2
    rw [h0, Nat.zero_mul, Nat.zero_mod] at h2
    omega
  · exact h0
/-- the addend of the congruence that steps back, in both ways -/
theorem back_add {m r c : Nat} (hc : c < m) : r * (m - c) % m = (m - r * c % m) % m := by
  have hm : 0 < m := by omega
  have e : r * (m - c) + r * c = r * m := by rw [← Nat.mul_add, Nat.sub_add_cancel (by omega)]
  have h0 : (r * (m - c) % m + r * c % m) % m = 0 := by rw [← Nat.add_mod, e, Nat.mul_mod_left]
  have h1 := Nat.mod_lt (r * (m - c)) hm
  have h2 := Nat.mod_lt (r * c) hm
  generalize r * (m - c) % m = s at *
  generalize r * c % m = t at *
  rcases Nat.eq_zero_or_pos t with ht | ht
  · subst ht
    rw [Nat.sub_zero, Nat.mod_self]
    rw [Nat.add_zero, Nat.mod_eq_of_lt h1] at h0
    exact h0
  · have h3 : s + t = m := by
      rcases Nat.lt_or_ge (s + t) m with h | h
      · rw [Nat.mod_eq_of_lt h] at h0; omega
      · rw [Nat.mod_eq_sub_mod h, Nat.mod_eq_of_lt (by omega)] at h0
        omega
    rw [Nat.mod_eq_of_lt (show m - t < m by omega)]
    omega
theorem back_step {m a c r x : Nat} (hc : c < m) (hx : x < m) (h : InvP m a r) : nx m r ((m - r * c % m) % m) (nx m a c x) = x := by
  rw [← back_add hc]
  unfold nx
  have e1 : (r * ((a * x + c) % m) + r * (m - c) % m) % m = (r * (a * x + c) + r * (m - c)) % m := by
    rw [Nat.add_mod, Nat.mul_mod r, Nat.mod_mod, Nat.mod_mod, ← Nat.mul_mod, ← Nat.add_mod]
  have e2 : r * (a * x + c) + r * (m - c) = r * a * x + r * m := by
    rw [← Nat.mul_add, show a * x + c + (m - c) = a * x + m by omega, Nat.mul_add, Nat.mul_assoc]
  rw [e1, e2, Nat.add_mul_mod_self_right, Nat.mul_mod, h.2, Nat.one_mul, Nat.mod_mod]
  exact Nat.mod_eq_of_lt hx
end Go.Proofs.Ytmapbaomfaplmaa
