/- Sums of fractions in lowest terms. Of no program. -/
namespace Go.Proofs.Ytmnnpkmjamhmcab

def gcdZ (a b : Int) : Int := (Int.gcd a b : Nat)
/-- the sum of two fractions over their least common denominator; what it has in common with the shared part; the parts of the sum -/
def addS (fn fd gn gd : Int) : Int := fn * (gd / gcdZ fd gd) + gn * (fd / gcdZ fd gd)
def addC (fn fd gn gd : Int) : Int := gcdZ (addS fn fd gn gd) (gcdZ fd gd)
def addN (fn fd gn gd : Int) : Int := (addS fn fd gn gd).tdiv (addC fn fd gn gd)
def addD (fn fd gn gd : Int) : Int := fd / gcdZ fd gd * (gd / addC fn fd gn gd)

theorem cop_sum {x y : Int} {a b : Nat} (h1 : Nat.Coprime x.natAbs a) (h2 : Nat.Coprime b a) : Nat.Coprime (x * b + y * a).natAbs a := by
  obtain ⟨k, hk⟩ : ∃ k, Nat.gcd (x * b + y * a).natAbs a = k := ⟨_, rfl⟩
  have k1 : k ∣ a := by rw [← hk]; exact Nat.gcd_dvd_right _ _
  have k2 : (k : Int) ∣ x * b + y * a := by rw [← hk]; exact Int.ofNat_dvd_left.2 (Nat.gcd_dvd_left _ _)
  have k3 : (k : Int) ∣ y * a := Int.dvd_trans (Int.natCast_dvd_natCast.2 k1) (Int.dvd_mul_left _ _)
  have k4 : (k : Int) ∣ x * b := by
    have := Int.dvd_sub k2 k3
    rwa [Int.add_sub_cancel] at this
  have k5 : k ∣ x.natAbs * b := by
    have := Int.ofNat_dvd_left.1 k4
    rwa [Int.natAbs_mul, Int.natAbs_natCast] at this
  have k6 : Nat.Coprime (x.natAbs * b) a := Nat.Coprime.mul_left h1 h2
  have k7 : k ∣ Nat.gcd (x.natAbs * b) a := Nat.dvd_gcd k5 k1
  rw [k6] at k7
  show Nat.gcd _ _ = 1
  rw [hk]
  exact Nat.dvd_one.1 k7

/-- what is known of the parts, over the natural numbers -/
theorem add_nat (fn gn : Int) (F H : Nat) (hF : 0 < F) (hH : 0 < H) (hf : Nat.Coprime fn.natAbs F) (hg : Nat.Coprime gn.natAbs H) :
    ∃ a b c e : Nat, ∃ z : Int, (F : Int) / gcdZ F H = a ∧ (H : Int) / gcdZ F H = b ∧ addC fn F gn H = c ∧ (H : Int) / (c : Int) = (b * e : Nat) ∧ addS fn F gn H = z * c ∧ 0 < a ∧ 0 < b ∧ 0 < c ∧ 0 < e ∧ a ≤ F ∧ b ≤ H ∧ b * e ≤ H ∧ c ≤ F
      ∧ Nat.Coprime z.natAbs (a * (b * e)) := by
  obtain ⟨G, hG⟩ : ∃ G, Nat.gcd F H = G := ⟨_, rfl⟩
  have G0 : 0 < G := by rw [← hG]; exact Nat.gcd_pos_of_pos_left _ hF
  have hZ : gcdZ F H = (G : Int) := by unfold gcdZ Int.gcd; simp [hG]
  obtain ⟨a, ha⟩ : G ∣ F := by rw [← hG]; exact Nat.gcd_dvd_left _ _
  obtain ⟨b, hb⟩ : G ∣ H := by rw [← hG]; exact Nat.gcd_dvd_right _ _
  have a0 : 0 < a := by rcases Nat.eq_zero_or_pos a with h | h; (rw [h] at ha; simp at ha; omega); exact h
  have b0 : 0 < b := by rcases Nat.eq_zero_or_pos b with h | h; (rw [h] at hb; simp at hb; omega); exact h
  have cab : Nat.Coprime a b := by
    have h1 : Nat.gcd (G * a) (G * b) = G * Nat.gcd a b := Nat.gcd_mul_left _ _ _
    rw [← ha, ← hb, hG] at h1
    have h2 : G * Nat.gcd a b = G * 1 := by rw [← h1, Nat.mul_one]
    exact Nat.eq_of_mul_eq_mul_left G0 h2
  have eA : (F : Int) / gcdZ F H = a := by rw [hZ, ha]; exact_mod_cast Nat.mul_div_cancel_left a G0
  have eB : (H : Int) / gcdZ F H = b := by rw [hZ, hb]; exact_mod_cast Nat.mul_div_cancel_left b G0
  obtain ⟨s, hs⟩ : ∃ s, addS fn F gn H = s := ⟨_, rfl⟩
  have eS : s = fn * b + gn * a := by rw [← hs]; unfold addS; rw [eA, eB]
  obtain ⟨c, hc⟩ : ∃ c, Nat.gcd s.natAbs G = c := ⟨_, rfl⟩
  have c0 : 0 < c := by rw [← hc]; exact Nat.gcd_pos_of_pos_right _ G0
  have eC : addC fn F gn H = (c : Int) := by unfold addC; rw [hs, hZ]; unfold gcdZ Int.gcd; simp [hc]
  obtain ⟨e, he⟩ : c ∣ G := by rw [← hc]; exact Nat.gcd_dvd_right _ _
  have e0 : 0 < e := by rcases Nat.eq_zero_or_pos e with h | h; (rw [h] at he; simp at he; omega); exact h
  obtain ⟨z, hz⟩ : (c : Int) ∣ s := by rw [← hc]; exact Int.ofNat_dvd_left.2 (Nat.gcd_dvd_left _ _)
  have eH : H = c * (b * e) := by rw [hb, he]; simp only [Nat.mul_comm, Nat.mul_left_comm]
  have h1 : Nat.Coprime s.natAbs a := by
    rw [eS]
    exact cop_sum (Nat.Coprime.coprime_dvd_right ⟨G, by rw [ha, Nat.mul_comm]⟩ hf) cab.symm
  have h2 : Nat.Coprime s.natAbs b := by
    rw [eS, Int.add_comm]
    exact cop_sum (Nat.Coprime.coprime_dvd_right ⟨G, by rw [hb, Nat.mul_comm]⟩ hg) cab
  have zs : z.natAbs ∣ s.natAbs := by rw [hz, Int.natAbs_mul]; exact Nat.dvd_mul_left _ _
  have h3 : Nat.Coprime z.natAbs e := by
    have q : Nat.gcd (c * z.natAbs) (c * e) = c * Nat.gcd z.natAbs e := Nat.gcd_mul_left _ _ _
    have q2 : c * z.natAbs = s.natAbs := by rw [hz, Int.natAbs_mul, Int.natAbs_natCast]
    rw [q2, ← he, hc] at q
    have q3 : c * Nat.gcd z.natAbs e = c * 1 := by rw [← q, Nat.mul_one]
    exact Nat.eq_of_mul_eq_mul_left c0 q3
  refine ⟨a, b, c, e, z, eA, eB, eC, ?_, by rw [hs, hz, Int.mul_comm], a0, b0, c0, e0, ?_, ?_, ?_, ?_, ?_⟩
  · have : H / c = b * e := by rw [eH]; exact Nat.mul_div_cancel_left _ c0
    exact_mod_cast this
  · rw [ha]; exact Nat.le_mul_of_pos_left a G0
  · rw [hb]; exact Nat.le_mul_of_pos_left b G0
  · rw [eH]; exact Nat.le_mul_of_pos_left _ c0
  · have x1 : c ≤ G := by rw [he]; exact Nat.le_mul_of_pos_right c e0
    have x2 : G ≤ F := by rw [ha]; exact Nat.le_mul_of_pos_right G a0
    omega
  · exact Nat.Coprime.mul_right (Nat.Coprime.coprime_dvd_left zs h1) (Nat.Coprime.mul_right (Nat.Coprime.coprime_dvd_left zs h2) h3)
end Go.Proofs.Ytmnnpkmjamhmcab
