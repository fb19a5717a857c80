/- A number of two words and a word, shifted so that the word has its greatest bit. Of no program. -/
import Derived.Test.YtmnnpkmjamhmcabKnuthD
namespace Go.Proofs.Ytmnnpkmjamhmcab

theorem div_shift (H L Y s : Nat) (hH : H < Y) (hL : L < 18446744073709551616) (hs : s ≤ 63) (hY1 : 9223372036854775808 ≤ Y * 2 ^ s) :
    ∃ y a b u v1 v0 r0 : Nat, y = Y * 2 ^ s ∧ y / 4294967296 = a ∧ y % 4294967296 = b ∧ H * 2 ^ s < y ∧ L / 2 ^ (64 - s) < 2 ^ s ∧ u = H * 2 ^ s + L / 2 ^ (64 - s) ∧ L * 2 ^ s % 18446744073709551616 / 4294967296 = v1 ∧ L * 2 ^ s % 18446744073709551616 % 4294967296 = v0 ∧
      y = a * 4294967296 + b ∧ b < 4294967296 ∧ v1 < 4294967296 ∧ v0 < 4294967296 ∧ u < y ∧ 2147483648 ≤ a ∧
      (u * 4294967296 + v1) / y * 4294967296 + ((u * 4294967296 + v1) % y * 4294967296 + v0) / y = (H * 18446744073709551616 + L) / Y ∧
      ((u * 4294967296 + v1) % y * 4294967296 + v0) % y = r0 ∧ r0 / 2 ^ s = (H * 18446744073709551616 + L) % Y := by
  obtain ⟨p, hp⟩ : ∃ p, 2 ^ s = p := ⟨_, rfl⟩
  obtain ⟨p', hp'⟩ : ∃ p, 2 ^ (64 - s) = p := ⟨_, rfl⟩
  have hpp : p' * p = 18446744073709551616 := by
    rw [← hp, ← hp', ← Nat.pow_add, show 64 - s + s = 64 by omega]
  have p0 : 0 < p := by rw [← hp]; exact Nat.two_pow_pos s
  have p0' : 0 < p' := by rw [← hp']; exact Nat.two_pow_pos _
  rw [hp] at hY1
  rw [hp, hp']
  obtain ⟨y, hy⟩ : ∃ y, Y * p = y := ⟨_, rfl⟩
  have h1 : H * p + p ≤ y := by rw [← hy, ← Nat.succ_mul]; exact Nat.mul_le_mul_right p hH
  have h2 : L / p' < p := by rw [Nat.div_lt_iff_lt_mul p0', Nat.mul_comm, hpp]; exact hL
  have h3 : L * p / 18446744073709551616 = L / p' := by rw [← hpp, Nat.mul_div_mul_right _ _ p0]
  have h4 : L * p = L / p' * 18446744073709551616 + L * p % 18446744073709551616 := by
    have := Nat.div_add_mod (L * p) 18446744073709551616
    rw [h3] at this
    omega
  obtain ⟨v, hv⟩ : ∃ v, L * p % 18446744073709551616 = v := ⟨_, rfl⟩
  obtain ⟨c, hc⟩ : ∃ c, L / p' = c := ⟨_, rfl⟩
  rw [hc, hv] at h4
  rw [hc] at h2
  have hvl : v < 18446744073709551616 := by rw [← hv]; exact Nat.mod_lt _ (by decide)
  have y0 : 0 < y := by omega
  obtain ⟨t1, t2⟩ := kd_two (B := 4294967296) (u := H * p + c) y0 (v / 4294967296) (v % 4294967296)
  have h5 : ((H * p + c) * 4294967296 + v / 4294967296) * 4294967296 + v % 4294967296 = (H * 18446744073709551616 + L) * p := by
    have e1 : (H * 18446744073709551616 + L) * p = H * p * 18446744073709551616 + L * p := by rw [Nat.add_mul, Nat.mul_right_comm]
    rw [e1]
    clear e1 t1 t2 h3 hpp
    generalize H * p = n
    generalize L * p = m at h4 ⊢
    omega
  rw [h5, ← hy] at t1 t2
  obtain ⟨s1, s2⟩ := kd_shift (y := Y) (H * 18446744073709551616 + L) p0
  rw [s1] at t1
  refine ⟨y, y / 4294967296, y % 4294967296, H * p + c, v / 4294967296, v % 4294967296, _, hy.symm, rfl, rfl, by omega, by rw [hc]; exact h2, by rw [hc], by rw [hv], by rw [hv], ?_, ?_, ?_, ?_, ?_, ?_, ?_, rfl, ?_⟩
  · omega
  · omega
  · omega
  · omega
  · omega
  · omega
  · rw [← hy]; exact t1
  · rw [← hy, t2]; exact s2

/-- the two parts of a word do not meet -/
theorem or_parts (a b s : Nat) (hb : b < 2 ^ s) : a * 2 ^ s ||| b = a * 2 ^ s + b := by
  rw [Nat.mul_comm, ← Nat.two_pow_add_eq_or_of_lt hb]
end Go.Proofs.Ytmnnpkmjamhmcab
