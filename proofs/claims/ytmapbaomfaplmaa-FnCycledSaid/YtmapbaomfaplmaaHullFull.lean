/- Plain facts: the cycle of a congruence has all states exactly if the addend and the factor are as Hull and Dobell tell. No program here. -/
import Derived.Test.YtmapbaomfaplmaaHullMath
namespace Go.Proofs.Ytmapbaomfaplmaa

/-- what Hull and Dobell ask -/
def Hull (m a c : Nat) : Prop := (∀ q, IsP q → q ∣ m → ¬ q ∣ c ∧ a % q = 1) ∧ (4 ∣ m → a % 4 = 1)
theorem itc_zero {m : Nat} (a c : Nat) (hm : 0 < m) (n : Nat) : itc m a c 0 n = geo a n * c % m := by
  rw [itc_eq a c hm n, nx, Nat.mul_zero, Nat.zero_add, pC, Nat.mod_mod]
theorem full_of_hull {m a c b p : Nat} (hm : 2 ≤ m) (h : Hull m a c) (hC : CycP (itc m a c 0) b p) : p = m := by
  obtain ⟨h0, h1, _, h3⟩ := hC
  obtain ⟨b', c', k0, k1, k2⟩ := comes_again (s := itc m a c 0) (N := m) (fun i => itc_lt (by omega) i)
  have hle : p ≤ m := by have := (h3 b' c' k0 k2).1; omega
  have ca : Nat.Coprime m (a ^ b) := by
    refine coprime_of (by omega) fun q hq hqm hqa => ?_
    have h5 := pow_mod_one hq.1 (h.1 q hq hqm).2 b
    have h6 := Nat.mod_eq_zero_of_dvd hqa
    omega
  have cc : Nat.Coprime m c := coprime_of (by omega) fun q hq hqm hqc => (h.1 q hq hqm).1 hqc
  have hd : m ∣ geo a p := by
    rw [itc_zero a c (by omega), itc_zero a c (by omega), Nat.add_comm, geo_add, Nat.add_mul] at h1
    have h2 := Nat.sub_mod_eq_zero_of_mod_eq h1
    rw [Nat.add_sub_cancel] at h2
    have h2 := Nat.dvd_of_mod_eq_zero h2
    exact ca.dvd_of_dvd_mul_left (cc.dvd_of_dvd_mul_right h2)
  have := Nat.le_of_dvd h0 (geo_dvd m a p (by omega) (fun q hq hqm => (h.1 q hq hqm).2) h.2 hd)
  omega

/-- a full cycle comes to every state -/
theorem full_hits {m a c b : Nat} (hm : 2 ≤ m) (hC : CycP (itc m a c 0) b m) (y : Nat) (hy : y < m) : ∃ n, n < m ∧ itc m a c 0 n = y := by
  apply Classical.byContradiction
  intro hno
  have hdist : ∀ i j, i < j → j < m → itc m a c 0 i = itc m a c 0 j → False := fun i j hij hj e => by
    have := (hC.2.2.2 i (j - i) (by omega) (by rw [show i + (j - i) = j by omega]; exact e.symm)).1
    omega
  have hlt := fun i => itc_lt (a := a) (c := c) (show 0 < m by omega) i
  let f : Nat → Nat := fun i => if itc m a c 0 i = m - 1 then y else itc m a c 0 i
  have hf : ∀ i, i ≤ m - 1 → f i < m - 1 := by
    intro i hi
    show (if itc m a c 0 i = m - 1 then y else itc m a c 0 i) < m - 1
    have h1 := hlt i
    split
    · rename_i he
      have : y ≠ m - 1 := fun e => hno ⟨i, by omega, by omega⟩
      omega
    · omega
  obtain ⟨i, j, hij, hj, e⟩ := pigeon (m - 1) f hf
  have e' : (if itc m a c 0 i = m - 1 then y else itc m a c 0 i) = (if itc m a c 0 j = m - 1 then y else itc m a c 0 j) := e
  split at e' <;> split at e'
  · rename_i h1 h2; exact hdist i j hij (by omega) (by omega)
  · exact hno ⟨j, by omega, e'.symm⟩
  · exact hno ⟨i, by omega, e'⟩
  · exact hdist i j hij (by omega) e'
theorem itc_mod {m q : Nat} (a c x : Nat) (hq : q ∣ m) (n : Nat) : itc m a c x (n + 1) % q = (a * (itc m a c x n % q) + c) % q := by
  rw [itc_succ, nx, Nat.mod_mod_of_dvd _ hq, Nat.add_mod, Nat.mul_mod, Nat.add_mod (a * _), Nat.mul_mod a (_ % q), Nat.mod_mod]
theorem hull_of_full {m a c b : Nat} (hm : 2 ≤ m) (hC : CycP (itc m a c 0) b m) : Hull m a c := by
  have hhit := full_hits hm hC
  have hb : b = 0 := by
    obtain ⟨b', c', k0, k1, k2⟩ := comes_again (s := itc m a c 0) (N := m) (fun i => itc_lt (by omega) i)
    have := hC.2.2.2 b' c' k0 k2
    omega
  have hback : itc m a c 0 m = 0 := by
    have := hC.2.1
    rw [hb, Nat.zero_add] at this
    exact this
  -- all remainders by a divisor come up
  have hres : ∀ q, q ∣ m → 0 < q → ∀ r, r < q → ∃ n, n < m ∧ itc m a c 0 n % q = r := fun q hq h0 r hr => by
    obtain ⟨n, hn, e⟩ := hhit r (Nat.lt_of_lt_of_le hr (Nat.le_of_dvd (by omega) hq))
    exact ⟨n, hn, by rw [e]; exact Nat.mod_eq_of_lt hr⟩
  have hprime : ∀ q, IsP q → q ∣ m → ¬ q ∣ c ∧ a % q = 1 := by
    intro q hq hqm
    have hq2 := hq.1
    have hz : ¬ q ∣ c := by
      intro hc
      have h0 : ∀ n, itc m a c 0 n % q = 0 := by
        intro n
        rw [itc_zero a c (by omega), Nat.mod_mod_of_dvd _ hqm]
        exact Nat.mod_eq_zero_of_dvd (Nat.dvd_trans hc (Nat.dvd_mul_left _ _))
      obtain ⟨n, _, e⟩ := hres q hqm (by omega) 1 (by omega)
      rw [h0] at e
      omega
    refine ⟨hz, Classical.byContradiction fun ha => ?_⟩
    -- a fixed point
    obtain ⟨d, hd⟩ : ∃ d, (a + (q - 1)) % q = d := ⟨_, rfl⟩
    have hdq : d < q := by rw [← hd]; exact Nat.mod_lt _ (by omega)
    have hda : (d + 1) % q = a % q := by
      rw [← hd, Nat.mod_add_mod, show a + (q - 1) + 1 = a + q by omega, Nat.add_mod_right]
    have hd0 : d ≠ 0 := by
      intro e
      rw [e, Nat.zero_add, Nat.mod_eq_of_lt (show 1 < q by omega)] at hda
      exact ha hda.symm
    have hcop : Nat.gcd q d = 1 := coprime_of (by omega) fun r hr h1 h2 => by
      have e := prime_eq hq hr h1
      subst e
      have := Nat.le_of_dvd (by omega) h2
      omega
    obtain ⟨e, he⟩ := inv_exists hq2 hdq hcop
    obtain ⟨f, hf⟩ : ∃ f, e * (q - c % q) % q = f := ⟨_, rfl⟩
    have hfq : f < q := by rw [← hf]; exact Nat.mod_lt _ (by omega)
    have hcq : c % q < q := Nat.mod_lt _ (by omega)
    have hfix : (a * f + c) % q = f := by
      have h1 : (d * f) % q = (q - c % q) % q := by
        rw [← hf, Nat.mul_mod, Nat.mod_mod, ← Nat.mul_mod, ← Nat.mul_assoc, Nat.mul_mod, Nat.mul_comm d e, he.2, Nat.one_mul, Nat.mod_mod]
      have h2 : (a * f) % q = (d * f + f) % q := by
        rw [Nat.mul_mod, ← hda, ← Nat.mul_mod, Nat.add_mul, Nat.one_mul]
      have h3 : (a * f + c) % q = (d * f + f + c) % q := by
        rw [Nat.add_mod, h2, ← Nat.add_mod]
      have h4 : (d * f + f + c) % q = (d * f % q + (f + c % q)) % q := by
        rw [Nat.add_assoc, Nat.add_mod, Nat.add_mod f c, Nat.mod_eq_of_lt hfq, Nat.add_mod (d * f % q), Nat.mod_mod, Nat.mod_mod, Nat.add_mod_mod]
      have h5 : ((q - c % q) % q + (f + c % q)) % q = f := by
        rw [Nat.mod_add_mod, show q - c % q + (f + c % q) = f + q by omega, Nat.add_mod_right]
        exact Nat.mod_eq_of_lt hfq
      rw [h3, h4, h1, h5]
    obtain ⟨n, hn, en⟩ := hres q hqm (by omega) f hfq
    have hstay : ∀ k, itc m a c 0 (n + k) % q = f := by
      intro k
      induction k with
      | zero => exact en
      | succ k ih => rw [← Nat.add_assoc, itc_mod a c 0 hqm, ih, hfix]
    have hf0 : f = 0 := by
      have := hstay (m - n)
      rw [show n + (m - n) = m by omega, hback, Nat.zero_mod] at this
      exact this.symm
    rw [hf0, Nat.mul_zero, Nat.zero_add] at hfix
    exact hz (Nat.dvd_of_mod_eq_zero hfix)
  refine ⟨hprime, fun h4 => ?_⟩
  have hp2 : IsP 2 := ⟨by omega, fun d hd => by
    have h1 : d ≤ 2 := Nat.le_of_dvd (by omega) hd
    have h2 : 0 < d := Nat.pos_of_dvd_of_pos hd (by omega)
    omega⟩
  have ha := (hprime 2 hp2 (Nat.dvd_trans ⟨2, rfl⟩ h4)).2
  apply Classical.byContradiction
  intro hne
  have ha3 : a % 4 = 3 := by omega
  -- two steps change no remainder by 4
  have htwo : ∀ n, itc m a c 0 (n + 2) % 4 = itc m a c 0 n % 4 := by
    intro n
    rw [itc_mod a c 0 h4, itc_mod a c 0 h4]
    have hx : itc m a c 0 n % 4 < 4 := Nat.mod_lt _ (by omega)
    obtain ⟨x, hxe⟩ : ∃ x, itc m a c 0 n % 4 = x := ⟨_, rfl⟩
    rw [hxe] at hx ⊢
    obtain ⟨k, hk⟩ : ∃ k, a = 4 * k + 3 := ⟨a / 4, by omega⟩
    have e1 : (a * x + c) % 4 = (3 * x + c) % 4 := by
      rw [hk, Nat.add_mul, Nat.mul_assoc]
      omega
    rw [e1]
    obtain ⟨y, hy⟩ : ∃ y, (3 * x + c) % 4 = y := ⟨_, rfl⟩
    have e2 : (a * y + c) % 4 = (3 * y + c) % 4 := by
      rw [hk, Nat.add_mul, Nat.mul_assoc]
      omega
    rw [hy, e2]
    omega
  have hpar : ∀ n, itc m a c 0 (2 * n) % 4 = 0 ∧ itc m a c 0 (2 * n + 1) % 4 = itc m a c 0 1 % 4 := by
    intro n
    induction n with
    | zero => exact ⟨rfl, rfl⟩
    | succ n ih =>
      rw [show 2 * (n + 1) = 2 * n + 2 by omega, show 2 * n + 2 + 1 = 2 * n + 1 + 2 by omega, htwo, htwo]
      exact ih
  have hall : ∀ n, itc m a c 0 n % 4 = 0 ∨ itc m a c 0 n % 4 = itc m a c 0 1 % 4 := by
    intro n
    rcases (show n = 2 * (n / 2) ∨ n = 2 * (n / 2) + 1 by omega) with h | h
    · rw [h]; exact .inl (hpar _).1
    · rw [h]; exact .inr (hpar _).2
  obtain ⟨n1, _, e1⟩ := hres 4 h4 (by omega) 1 (by omega)
  obtain ⟨n2, _, e2⟩ := hres 4 h4 (by omega) 2 (by omega)
  have h1 := hall n1
  have h2 := hall n2
  omega
theorem full_iff {m a c b p : Nat} (hm : 2 ≤ m) (hC : CycP (itc m a c 0) b p) : p = m ↔ Hull m a c :=
  ⟨fun e => by subst e; exact hull_of_full hm hC, fun h => full_of_hull hm h hC⟩
end Go.Proofs.Ytmapbaomfaplmaa
