/- Plain facts on cycles of a map: as many states are on cycles of one length as there are such cycles, times the length. No program here. -/
import Derived.Test.YtapccbplmbbnnacCount
import Derived.Test.YtapccbplmbbnnacPeriodMath
namespace Go.Proofs.Ytapccbplmbbnnac

def orb (f : Nat → Nat) (x : Nat) : Nat → Nat
  | 0 => x
  | k + 1 => f (orb f x k)
theorem orb_steps (f : Nat → Nat) (x : Nat) : Steps (orb f x) := fun i j h => by
  show f (orb f x i) = f (orb f x j)
  rw [h]
theorem orb_add (f : Nat → Nat) (x a : Nat) : ∀ b, orb f x (a + b) = orb f (orb f x a) b := by
  intro b
  induction b with
  | zero => rfl
  | succ b ih =>
    show f (orb f x (a + b)) = f (orb f (orb f x a) b)
    rw [ih]
theorem orb_lt {f : Nat → Nat} {N x : Nat} (hf : ∀ y, y < N → f y < N) (hx : x < N) : ∀ k, orb f x k < N := by
  intro k
  induction k with
  | zero => exact hx
  | succ k ih => exact hf _ ih
/-- a state on a cycle of the length c -/
def OnC (f : Nat → Nat) (c x : Nat) : Prop := CycP (orb f x) 0 c
theorem OnC.back {f : Nat → Nat} {c x : Nat} (h : OnC f c x) (k : Nat) : orb f x (k + c) = orb f x k :=
  (orb_steps f x).from (b := 0) h.2.1 (Nat.zero_le _)
theorem OnC.mod {f : Nat → Nat} {c x : Nat} (h : OnC f c x) (k : Nat) : orb f x (k % c) = orb f x k := by
  have hper : ∀ q r, orb f x (r + q * c) = orb f x r := by
    intro q
    induction q with
    | zero => intro r; simp
    | succ q ih =>
      intro r
      rw [Nat.succ_mul, ← Nat.add_assoc, h.back, ih]
  have := hper (k / c) (k % c)
  rw [Nat.mul_comm, Nat.mod_add_div] at this
  exact this.symm
theorem OnC.along {f : Nat → Nat} {c x : Nat} (h : OnC f c x) (i : Nat) : OnC f c (orb f x i) := by
  refine ⟨h.1, ?_, fun j hj => by omega, fun b' c' h0 e => ⟨?_, Nat.zero_le _⟩⟩
  · rw [← orb_add, Nat.zero_add]
    exact h.back i
  · rw [← orb_add, ← orb_add, ← Nat.add_assoc] at e
    exact (h.2.2.2 (i + b') c' h0 e).1
/-- the least of the first values -/
def leastF (s : Nat → Nat) : Nat → Nat
  | 0 => s 0
  | n + 1 => if s n < leastF s n then s n else leastF s n
theorem leastF_le (s : Nat → Nat) : ∀ n i, i < n → leastF s n ≤ s i := by
  intro n
  induction n with
  | zero => intro i hi; omega
  | succ n ih =>
    intro i hi
    simp only [leastF]
    by_cases e : i = n
    · subst e; split <;> omega
    · have := ih i (by omega)
      split <;> omega
theorem leastF_is (s : Nat → Nat) : ∀ n, ∃ i, (i < n ∨ i = 0) ∧ leastF s n = s i := by
  intro n
  induction n with
  | zero => exact ⟨0, .inr rfl, rfl⟩
  | succ n ih =>
    obtain ⟨i, hi, e⟩ := ih
    simp only [leastF]
    split
    · exact ⟨n, .inl (by omega), rfl⟩
    · exact ⟨i, by omega, e⟩
/-- the least state of its cycle -/
def Least (f : Nat → Nat) (c x : Nat) : Prop := OnC f c x ∧ ∀ i, i < c → x ≤ orb f x i
open Classical in
theorem cycles_counted {f : Nat → Nat} {N : Nat} (hf : ∀ y, y < N → f y < N) (c : Nat) : cntN (fun x => decide (OnC f c x)) N = c * cntN (fun x => decide (Least f c x)) N := by
  refine cnt_fibres (mm := fun x => leastF (orb f x) c) (fun x hx hp => ?_) (fun m hm hq => ?_)
  · have hp := of_decide_eq_true hp
    obtain ⟨i, hi, e⟩ := leastF_is (orb f x) c
    have hc := hp.1
    refine ⟨by show leastF (orb f x) c < N; rw [e]; exact orb_lt hf hx i, decide_eq_true ?_⟩
    show Least f c (leastF (orb f x) c)
    refine ⟨by rw [e]; exact hp.along i, fun j hj => ?_⟩
    have h1 : orb f (leastF (orb f x) c) j = orb f x ((i + j) % c) := by rw [e, ← orb_add, hp.mod]
    rw [h1]
    exact leastF_le _ _ _ (Nat.mod_lt _ hc)
  · have hq := of_decide_eq_true hq
    have ho := hq.1
    have hc := ho.1
    refine cnt_row (s := orb f m) c (by have := CycP.unlike ho; rwa [Nat.zero_add] at this) (fun i _ => orb_lt hf hm i) (fun x hx => ?_)
    constructor
    · intro h
      have h' : OnC f c x ∧ leastF (orb f x) c = m := by simpa using h
      obtain ⟨hx1, hx2⟩ := h'
      obtain ⟨i, hi, e⟩ := leastF_is (orb f x) c
      have hi2 : i < c := by omega
      have e2 : orb f m (c - i) = x := by
        rw [← hx2, e, ← orb_add, show i + (c - i) = 0 + c by omega, hx1.back]
        rfl
      by_cases h0 : i = 0
      · subst h0
        exact ⟨0, hc, by show m = x; rw [← hx2, e]; rfl⟩
      · exact ⟨c - i, by omega, e2⟩
    · rintro ⟨i, hi, e⟩
      have h1 : OnC f c x := by rw [← e]; exact ho.along i
      have h2 : leastF (orb f x) c = m := by
        apply Nat.le_antisymm
        · have h3 : orb f x ((c - i) % c) = m := by
            rw [h1.mod, ← e, ← orb_add, show i + (c - i) = 0 + c by omega, ho.back]
            rfl
          rw [← h3]
          exact leastF_le _ _ _ (Nat.mod_lt _ hc)
        · obtain ⟨j, _, e3⟩ := leastF_is (orb f x) c
          rw [e3, ← e, ← orb_add, ← ho.mod]
          exact hq.2 _ (Nat.mod_lt _ hc)
      simp [h1, h2]
end Go.Proofs.Ytapccbplmbbnnac
