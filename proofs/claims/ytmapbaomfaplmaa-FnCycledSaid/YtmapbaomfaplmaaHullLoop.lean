/- Plain facts: the prime divisors of a number, one after another; how long the way to a cycle is. No program here. -/
import Derived.Test.YtmapbaomfaplmaaHullFull
import Derived.Test.YtmapbaomfaplmaaCycVis
namespace Go.Proofs.Ytmapbaomfaplmaa

theorem cyc_room {s : Nat → Nat} {N b p : Nat} (hs : ∀ i, s i < N) (h : CycP s b p) : b + p ≤ N := by
  have hU : Unlike s (b + p) := fun i j hij hj e => by
    have := h.2.2.2 i (j - i) (by omega) (by rw [show i + (j - i) = j by omega]; exact e.symm)
    omega
  obtain ⟨k, hk⟩ : ∃ k, b + p = k + 1 := ⟨b + p - 1, by have := h.1; omega⟩
  rw [hk] at hU ⊢
  exact Unlike.room hs hU
/-- what is known between two rounds: q is tried next, mm is left, fl tells what came out so far -/
def FacI (M A C q mm : Nat) (fl : Bool) : Prop := 2 ≤ q ∧ 1 ≤ mm ∧ mm ∣ M ∧ (∀ r, IsP r → r ∣ mm → q ≤ r) ∧ (∀ r, IsP r → r ∣ M → r < q ∨ r ∣ mm) ∧ (fl = true ↔ ∀ r, IsP r → r ∣ M → r < q → ¬ r ∣ C ∧ A % r = 1)
theorem FacI.start {M : Nat} (A C : Nat) (hM : 2 ≤ M) : FacI M A C 2 M true :=
  ⟨Nat.le_refl _, by omega, Nat.dvd_refl _, fun r hr _ => hr.1, fun r _ h => .inr h, ⟨fun _ r hr _ hlt => by have := hr.1; omega, fun _ => rfl⟩⟩
theorem FacI.skip {M A C q mm : Nat} {fl : Bool} (h : FacI M A C q mm fl) (hq : ¬ q ∣ mm) : FacI M A C (q + 1) mm fl := by
  obtain ⟨h1, h2, h3, h4, h5, h6⟩ := h
  refine ⟨by omega, h2, h3, fun r hr hd => ?_, fun r hr hd => ?_, h6.trans ⟨fun g r hr hd hlt => ?_, fun g r hr hd hlt => g r hr hd (by omega)⟩⟩
  · have := h4 r hr hd
    rcases Nat.eq_or_lt_of_le this with e | e
    · subst e; exact absurd hd hq
    · exact e
  · rcases h5 r hr hd with e | e
    · exact .inl (by omega)
    · exact .inr e
  · by_cases e : r = q
    · subst e
      rcases h5 r hr hd with e2 | e2
      · omega
      · exact absurd e2 hq
    · exact g r hr hd (by omega)
theorem FacI.prime {M A C q mm : Nat} {fl : Bool} (h : FacI M A C q mm fl) (hq : q ∣ mm) : IsP q := by
  refine ⟨h.1, fun d hd => ?_⟩
  have hq0 : 0 < q := by have := h.1; omega
  have hd0 : 0 < d := Nat.pos_of_dvd_of_pos hd hq0
  have hdq : d ≤ q := Nat.le_of_dvd hq0 hd
  by_cases h1 : d = 1
  · exact .inl h1
  · obtain ⟨r, hr, hrd⟩ := prime_in (show 2 ≤ d by omega)
    have h2 := h.2.2.2.1 r hr (Nat.dvd_trans hrd (Nat.dvd_trans hd hq))
    have h3 := Nat.le_of_dvd hd0 hrd
    exact .inr (by omega)
/-- while q is divided away: k is left -/
def DivI (q mm k : Nat) : Prop := 1 ≤ k ∧ k ∣ mm ∧ ∀ r, IsP r → r ∣ mm → r = q ∨ r ∣ k
theorem DivI.start {q mm : Nat} (h : 1 ≤ mm) : DivI q mm mm := ⟨h, Nat.dvd_refl _, fun _ _ hd => .inr hd⟩
theorem DivI.next {q mm k : Nat} (h : DivI q mm k) (hq : IsP q) (hd : q ∣ k) : DivI q mm (k / q) ∧ k / q < k := by
  obtain ⟨h1, h2, h3⟩ := h
  obtain ⟨j, rfl⟩ := hd
  have hq2 := hq.1
  have e : q * j / q = j := Nat.mul_div_cancel_left _ (by omega)
  rw [e]
  have hj : 1 ≤ j := by
    rcases Nat.eq_zero_or_pos j with h | h
    · subst h; omega
    · exact h
  refine ⟨⟨hj, Nat.dvd_trans (Nat.dvd_mul_left _ _) h2, fun r hr hd => ?_⟩, ?_⟩
  · rcases h3 r hr hd with e | e
    · exact .inl e
    · by_cases hrq : r = q
      · exact .inl hrq
      · have hc : Nat.Coprime r q := coprime_of (by have := hr.1; omega) fun t ht h4 h5 => by
          have e1 := prime_eq hr ht h4
          have e2 := prime_eq hq ht h5
          exact hrq (by rw [← e1, e2])
        exact .inr (hc.dvd_of_dvd_mul_left e)
  · have : 2 * j ≤ q * j := Nat.mul_le_mul_right _ hq2
    omega
theorem FacI.take {M A C q mm k : Nat} {fl b1 b2 : Bool} (h : FacI M A C q mm fl) (hq : q ∣ mm) (hk : DivI q mm k) (hn : ¬ q ∣ k) (e1 : b1 = true ↔ ¬ q ∣ C) (e2 : b2 = true ↔ A % q = 1) : FacI M A C (q + 1) k (fl && b1 && b2) := by
  have hp := h.prime hq
  obtain ⟨h1, h2, h3, h4, h5, h6⟩ := h
  obtain ⟨k1, k2, k3⟩ := hk
  refine ⟨by omega, k1, Nat.dvd_trans k2 h3, fun r hr hd => ?_, fun r hr hd => ?_, ?_⟩
  · have := h4 r hr (Nat.dvd_trans hd k2)
    rcases Nat.eq_or_lt_of_le this with e | e
    · subst e; exact absurd hd hn
    · exact e
  · rcases h5 r hr hd with e | e
    · exact .inl (by omega)
    · rcases k3 r hr e with e' | e'
      · exact .inl (by omega)
      · exact .inr e'
  · rw [Bool.and_eq_true, Bool.and_eq_true, h6, e1, e2]
    constructor
    · rintro ⟨⟨g, g1⟩, g2⟩ r hr hd hlt
      by_cases e : r = q
      · subst e; exact ⟨g1, g2⟩
      · exact g r hr hd (by omega)
    · intro g
      have hqM := Nat.dvd_trans hq h3
      exact ⟨⟨fun r hr hd hlt => g r hr hd (by omega), (g q hp hqM (by omega)).1⟩, (g q hp hqM (by omega)).2⟩
theorem FacI.done {M A C q mm : Nat} {fl : Bool} (h : FacI M A C q mm fl) (hlt : mm < q) : fl = true ↔ ∀ r, IsP r → r ∣ M → ¬ r ∣ C ∧ A % r = 1 := by
  obtain ⟨h1, h2, h3, h4, h5, h6⟩ := h
  have hm : mm = 1 := by
    rcases Nat.lt_or_ge mm 2 with h | h
    · omega
    · obtain ⟨r, hr, hd⟩ := prime_in h
      have a1 := h4 r hr hd
      have a2 := Nat.le_of_dvd (by omega) hd
      omega
  refine h6.trans ⟨fun g r hr hd => ?_, fun g r hr hd _ => g r hr hd⟩
  rcases h5 r hr hd with e | e
  · exact g r hr hd e
  · rw [hm] at e
    have := Nat.le_of_dvd (by omega) e
    have := hr.1
    omega
theorem hull_bool {M A C : Nat} {fl b4 a4 : Bool} (h : fl = true ↔ ∀ r, IsP r → r ∣ M → ¬ r ∣ C ∧ A % r = 1) (e1 : b4 = true ↔ ¬ 4 ∣ M) (e2 : a4 = true ↔ A % 4 = 1) : (fl && (b4 || a4)) = true ↔ Hull M A C := by
  rw [Bool.and_eq_true, Bool.or_eq_true, h, e1, e2]
  constructor
  · rintro ⟨g, g4⟩
    refine ⟨g, fun hd => ?_⟩
    rcases g4 with h | h
    · exact absurd hd h
    · exact h
  · rintro ⟨g, g4⟩
    refine ⟨g, ?_⟩
    by_cases hd : 4 ∣ M
    · exact .inr (g4 hd)
    · exact .inl hd
/-- the factor less 1, as Go divides it -/
theorem fac_rem {A q : Nat} (hq : 2 ≤ q) : ((((A : Int) - 1).tmod (q : Int)) == 0) = true ↔ A % q = 1 := by
  rw [beq_iff_eq]
  rcases Nat.eq_zero_or_pos A with h | h
  · subst h
    rw [Nat.zero_mod]
    have e : ((0 : Nat) : Int) - 1 = -((1 : Nat) : Int) := rfl
    rw [e, Int.neg_tmod, Int.tmod_eq_emod_of_nonneg (by omega), Int.emod_eq_of_lt (by omega) (by omega)]
    omega
  · rw [show ((A : Int) - 1) = ((A - 1 : Nat) : Int) by omega, Int.tmod_eq_emod_of_nonneg (by omega)]
    have e : (((A - 1 : Nat) : Int) % (q : Int)) = (((A - 1) % q : Nat) : Int) := by simp
    rw [e]
    have h1 : (A - 1 + 1) % q = ((A - 1) % q + 1) % q := by rw [Nat.mod_add_mod]
    rw [show A - 1 + 1 = A by omega] at h1
    have h2 : (A - 1) % q < q := Nat.mod_lt _ (by omega)
    rw [h1]
    constructor
    · intro g
      rw [show (A - 1) % q = 0 by omega, Nat.zero_add]
      exact Nat.mod_eq_of_lt (by omega)
    · intro g
      rcases Nat.lt_or_ge ((A - 1) % q + 1) q with h | h
      · rw [Nat.mod_eq_of_lt h] at g; omega
      · rw [show (A - 1) % q + 1 = q by omega, Nat.mod_self] at g
        omega
end Go.Proofs.Ytmapbaomfaplmaa
