/- Plain facts: the order of a factor. No program here. -/
import Derived.Test.YtmapbaomfaplmaaInvMath
namespace Go.Proofs.Ytmapbaomfaplmaa

/-- the powers of a modulo m -/
def pwr (m a : Nat) (k : Nat) : Nat := itc m a 0 1 k
theorem pwr_succ (m a k : Nat) : pwr m a (k + 1) = pwr m a k * a % m := by
  unfold pwr
  rw [itc_succ, nx, Nat.add_zero, Nat.mul_comm]
theorem pwr_zero (m a : Nat) : pwr m a 0 = 1 := rfl
theorem pwr_lt {m a : Nat} (hm : 2 ≤ m) (k : Nat) : pwr m a k < m := itc_lt (by omega) k
theorem pwr_steps (m a : Nat) : Steps (pwr m a) := fun i j h => by rw [pwr_succ, pwr_succ, h]
/-- n is the order of a -/
def OrdK (m a n : Nat) : Prop := 0 < n ∧ pwr m a n = 1 ∧ ∀ j, 0 < j → j < n → ¬ pwr m a j = 1
theorem OrdK.unique {m a n k : Nat} (h : OrdK m a n) (g : OrdK m a k) : n = k := by
  have h1 : ¬ n < k := fun x => g.2.2 n h.1 x h.2.1
  have h2 : ¬ k < n := fun x => h.2.2 k g.1 x g.2.1
  omega
theorem ord_of_cyc {m a p : Nat} (h : CycP (pwr m a) 0 p) : OrdK m a p := by
  obtain ⟨h0, h1, _, h3⟩ := h
  refine ⟨h0, by rw [Nat.zero_add] at h1; exact h1, fun j j0 j1 e => ?_⟩
  have := (h3 0 j j0 (by rw [Nat.zero_add]; exact e)).1
  omega
theorem cyc_of_ord {m a b p n : Nat} (h : CycP (pwr m a) b p) (hn : 0 < n) (e : pwr m a n = 1) : b = 0 := by
  have := (h.2.2.2 0 n hn (by rw [Nat.zero_add]; exact e)).2
  omega
theorem gcd_of_pwr {m a n : Nat} (hm : 2 ≤ m) (hn : 0 < n) (e : pwr m a n = 1) : Nat.gcd m a = 1 := by
  obtain ⟨k, rfl⟩ : ∃ k, n = k + 1 := ⟨n - 1, by omega⟩
  rw [pwr_succ] at e
  exact InvP.gcd (y := pwr m a k) ⟨pwr_lt hm k, e⟩
theorem pwr_back {m a r : Nat} (hm : 2 ≤ m) (hr : InvP m a r) {i j : Nat} (h : pwr m a (i + 1) = pwr m a (j + 1)) : pwr m a i = pwr m a j := by
  have h1 := back_step (a := a) (c := 0) (r := r) (x := pwr m a i) (by omega) (pwr_lt hm i) hr
  have h2 := back_step (a := a) (c := 0) (r := r) (x := pwr m a j) (by omega) (pwr_lt hm j) hr
  have e : ∀ k, nx m a 0 (pwr m a k) = pwr m a (k + 1) := fun k => rfl
  rw [e] at h1 h2
  rw [← h1, ← h2, h]
theorem again_of_gcd {m a : Nat} (hm : 2 ≤ m) (ha : a < m) (hg : Nat.gcd m a = 1) : ∃ n, 0 < n ∧ n ≤ m ∧ pwr m a n = 1 := by
  obtain ⟨r, hr⟩ := inv_exists hm ha hg
  obtain ⟨b, c, c0, hbc, e⟩ := comes_again (s := pwr m a) (N := m) (fun i => pwr_lt hm i)
  have key : ∀ b, pwr m a (b + c) = pwr m a b → pwr m a c = 1 := by
    intro b
    induction b with
    | zero => intro h; rw [Nat.zero_add] at h; exact h
    | succ b ih =>
      intro h
      refine ih (pwr_back hm hr ?_)
      rw [show b + c + 1 = b + 1 + c by omega]
      exact h
  exact ⟨c, c0, by omega, key b e⟩
theorem least_of {P : Nat → Prop} : ∀ n, (∃ j, 0 < j ∧ j ≤ n ∧ P j) → ∃ j, 0 < j ∧ j ≤ n ∧ P j ∧ ∀ i, 0 < i → i < j → ¬ P i := by
  intro n
  induction n with
  | zero => rintro ⟨j, a, b, _⟩; omega
  | succ n ih =>
    intro ⟨j, a, b, e⟩
    by_cases hx : ∃ j, 0 < j ∧ j ≤ n ∧ P j
    · obtain ⟨i, h1, h2, h3⟩ := ih hx
      exact ⟨i, h1, by omega, h3⟩
    · refine ⟨j, a, b, e, fun i i0 i1 ei => hx ⟨i, i0, by omega, ei⟩⟩
theorem ord_exists {m a : Nat} (hm : 2 ≤ m) (ha : a < m) (hg : Nat.gcd m a = 1) : ∃ n, n ≤ m ∧ OrdK m a n := by
  obtain ⟨n, n0, n1, e⟩ := again_of_gcd hm ha hg
  obtain ⟨j, h1, h2, h3, h4⟩ := least_of (P := fun j => pwr m a j = 1) n ⟨n, n0, Nat.le_refl _, e⟩
  exact ⟨j, by omega, h1, h3, h4⟩
end Go.Proofs.Ytmapbaomfaplmaa
