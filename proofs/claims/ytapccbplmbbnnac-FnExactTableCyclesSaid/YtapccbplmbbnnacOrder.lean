/- The order of x modulo a polynomial: spec.l02Order, impl.OrderOfX, and the laws FnExactOrderOfX and FnExactIsPrimitive. -/
import Derived.Test.YtapccbplmbbnnacLawPower
import Derived.Test.YtapccbplmbbnnacCyc
namespace Go.Proofs.Ytapccbplmbbnnac
open Go.RowKit Go.PlainAid
set_option maxHeartbeats 800000

theorem red_inj {p a b : Nat} (hp : p % 2 = 1) (h : Pl.red p (2 * a) = Pl.red p (2 * b)) : a = b := by
  unfold Pl.red at h
  have hx : ∀ y z : Nat, (2 * y ^^^ p) = 2 * z → False := fun y z e => by
    have h1 := congrArg (· % 2) e
    simp only [Pl.mod2_xor, hp] at h1
    rw [Nat.mul_mod_right, Nat.mul_mod_right] at h1
    simp at h1
  split at h
  · split at h
    · have h2 := congrArg (· ^^^ p) h
      simp only [Pl.xor_twice] at h2
      omega
    · exact (hx _ _ h).elim
  · split at h
    · exact (hx _ _ h.symm).elim
    · omega
theorem pw_steps (p : Nat) : Steps (Pl.pw p) := fun i j h => by rw [Pl.pw_succ, Pl.pw_succ, h]
theorem pw_back {p : Nat} (hp : p % 2 = 1) (c : Nat) : ∀ b, Pl.pw p (b + c) = Pl.pw p b → Pl.pw p c = Pl.pw p 0 := by
  intro b
  induction b with
  | zero => intro h; rwa [Nat.zero_add] at h
  | succ b ih =>
    intro h
    refine ih (red_inj hp ?_)
    rw [← Pl.pw_succ, ← Pl.pw_succ, show b + c + 1 = b + 1 + c by omega]
    exact h
/-- c is the order of x modulo p -/
def OrdP (p c : Nat) : Prop := 0 < c ∧ Pl.pw p c = Pl.pw p 0 ∧ ∀ j, 0 < j → j < c → ¬ Pl.pw p j = Pl.pw p 0
theorem OrdP.unique {p c d : Nat} (h : OrdP p c) (g : OrdP p d) : c = d := by
  have h1 : ¬ c < d := fun x => g.2.2 c h.1 x h.2.1
  have h2 : ¬ d < c := fun x => h.2.2 d g.1 x g.2.1
  omega
theorem pw_small {p : Nat} (h0 : 3 ≤ p) (hp : p < 131072) (n : Nat) : Pl.pw p n < 65536 := by
  have h1 := Pl.rem_lt (p := p) (by omega) (2 ^ n)
  have h2 := Pl.len_of_lt 17 p hp
  have h3 : 2 ^ (Pl.len p - 1) ≤ 2 ^ 16 := Nat.pow_le_pow_right (by omega) (by omega)
  have h4 : Pl.pw p n = Pl.rem p (2 ^ n) := rfl
  omega
theorem again0 {p : Nat} (h0 : 3 ≤ p) (hp : p < 131072) (h1 : p % 2 = 1) : ∃ N, 0 < N ∧ N ≤ 65536 ∧ Pl.pw p N = Pl.pw p 0 := by
  obtain ⟨b, c, hc, hbc, e⟩ := comes_again (pw_small h0 hp)
  exact ⟨c, hc, by omega, pw_back h1 c b e⟩
theorem pw_one {p : Nat} (h0 : 3 ≤ p) : Pl.pw p 0 = 1 := by
  refine Pl.rem_small 1 ?_
  have h1 : 2 ≤ Pl.len p := by
    have := Pl.lt_len p
    apply Nat.le_of_not_lt
    intro h
    have h2 : 2 ^ Pl.len p ≤ 2 ^ 1 := Nat.pow_le_pow_right (by omega) (by omega)
    omega
  have h2 : 2 ^ 1 ≤ 2 ^ (Pl.len p - 1) := Nat.pow_le_pow_right (by omega) (by omega)
  omega
theorem rem_next {p : Nat} (h0 : 0 < p) (n : Nat) : Pl.rem p (2 * Pl.pw p n) = Pl.pw p (n + 1) := by
  rw [Pl.rem_double, Pl.pw_succ, Pl.rem_small (Pl.pw p n) (Pl.rem_lt h0 (2 ^ n))]
/-- there is an order -/
theorem order_is {p : Nat} (h0 : 3 ≤ p) (hp : p < 131072) (h1 : p % 2 = 1) : ∃ c, OrdP p c := by
  obtain ⟨N, hN0, _, hN⟩ := again0 h0 hp h1
  have key : ∀ n, (∃ j, 0 < j ∧ j ≤ n ∧ Pl.pw p j = Pl.pw p 0) → ∃ c, OrdP p c := by
    intro n
    induction n with
    | zero => rintro ⟨j, a, b, _⟩; omega
    | succ n ih =>
      intro ⟨j, a, b, e⟩
      by_cases hx : ∃ j, 0 < j ∧ j ≤ n ∧ Pl.pw p j = Pl.pw p 0
      · exact ih hx
      · have hj : j = n + 1 := by
          apply Nat.le_antisymm b
          apply Nat.lt_of_not_le
          intro hle
          exact hx ⟨j, a, hle, e⟩
        exact ⟨j, a, e, fun i ha hb ei => hx ⟨i, ha, by omega, ei⟩⟩
  exact key N ⟨N, hN0, Nat.le_refl _, hN⟩

theorem cycle_poly (p : Nat) (w : World) (h0 : 3 ≤ p) (hp : p < 131072) (h1 : p % 2 = 1) :
    Calls Try.prog 42 #[.func (.func 41) #[] #[], .int .i64 p, .int .i64 1] w fun e w' => ∃ b c : Nat, e = .returned (.tuple #[.int .i64 b, .int .i64 c]) ∧ OrdP p c ∧ Below w.heap.size w w' := by
  obtain ⟨b, c, hc, hbc, e⟩ := comes_again (pw_small h0 hp)
  have hx : ∀ (k : Nat) (W : World), Calls Try.prog 41 #[.int .i64 p, .int .i64 (Pl.pw p k)] W fun e w' => e = .returned (.int .i64 (Pl.pw p (k + 1))) ∧ W = w' := fun k W => by
    rw [Pl.pw_succ]
    exact timesX_any p _ W (by omega) (by omega) (Pl.rem_lt (by omega) _)
  have := cycle_any (Pl.pw p) p w 65536 b c (pw_steps p) hc hbc e (Nat.le_refl _) hx
  rw [pw_one h0] at this
  refine this.mono ?_
  rintro e w' ⟨⟨b', c', rfl, hC⟩, hb⟩
  refine ⟨b', c', rfl, ⟨hC.1, pw_back h1 c' b' hC.2.1, fun j a b e => ?_⟩, hb⟩
  have := (hC.2.2.2 0 j a (by rw [Nat.zero_add]; exact e)).1
  omega

theorem impl_OrderOfX_yes (p : Nat) (w : World) (h0 : 3 ≤ p) (hp : p < 131072) (h1 : p % 2 = 1) :
    Calls Try.prog 20 #[.int .i64 p] w fun e w' => ∃ c : Nat, e = .returned (.tuple #[.int .i64 c, .bool true]) ∧ OrdP p c ∧ Below w.heap.size w w' := by
  have HB : Hid (∀ W : World, Calls Try.prog 24 #[.int .i64 p, .int .i64 3, .int .i64 131071] W fun e w' => e = .returned (.bool true) ∧ W = w') := fun W => btw64_b _ _ _ _ (decide_eq_true (by omega)) W
  have HO : Hid (∀ w : World, Calls Try.prog 28 #[.int .i64 17] w fun e w' => e = .returned (.int .i64 131071) ∧ w = w') := fun w => ones_any 17 131072 w (by omega) (by decide)
  have HC := Lib.hid (cycle_poly p · h0 hp h1)
  have EB := and_one_i64' (p : Int)
  have ht : ((p : Int) % 2 == 0) = false := by rw [show (p : Int) % 2 = 1 by omega]; rfl
  clear h0 hp h1
  go_enter Try.func20, Try.ntmps20
  go_wp2_with (first | (go_at_call 28; with_reducible refine (HO.out _).mono ?_; rintro e w1 ⟨rfl, rfl⟩) | (go_at_call 24; with_reducible refine (HB.out _).mono ?_; rintro e w1 ⟨rfl, rfl⟩))
  refine (HC.out _).mono ?_
  rintro e w1 ⟨b, c, rfl, ho, hb⟩
  have HH := Lib.hid ho
  clear ho
  go_wp2
  go_ret2
  exact ⟨c, rfl, HH.out, hb⟩

theorem impl_OrderOfX_no (p : Int) (w : World) (h : ¬ (3 ≤ p ∧ p ≤ 131071 ∧ p % 2 = 1)) :
    Calls Try.prog 20 #[.int .i64 p] w fun e w' => e = .returned (.tuple #[.int .i64 0, .bool false]) ∧ w = w' := by
  have HO : Hid (∀ w : World, Calls Try.prog 28 #[.int .i64 17] w fun e w' => e = .returned (.int .i64 131071) ∧ w = w') := fun w => ones_any 17 131072 w (by omega) (by decide)
  have EB := and_one_i64' p
  by_cases hr : 3 ≤ p ∧ p ≤ 131071
  · have HB : Hid (∀ W : World, Calls Try.prog 24 #[.int .i64 p, .int .i64 3, .int .i64 131071] W fun e w' => e = .returned (.bool true) ∧ W = w') := fun W => btw64_b _ _ _ _ (decide_eq_true hr) W
    have ht : (p % 2 == 0) = true := by rw [show p % 2 = 0 by omega]; rfl
    clear h hr
    go_enter Try.func20, Try.ntmps20
    go_wp2_with (first | (go_at_call 28; with_reducible refine (HO.out _).mono ?_; rintro e w1 ⟨rfl, rfl⟩) | (go_at_call 24; with_reducible refine (HB.out _).mono ?_; rintro e w1 ⟨rfl, rfl⟩))
    go_ret2
    exact ⟨rfl, rfl⟩
  · have HB : Hid (∀ W : World, Calls Try.prog 24 #[.int .i64 p, .int .i64 3, .int .i64 131071] W fun e w' => e = .returned (.bool false) ∧ W = w') := fun W => btw64_b _ _ _ _ (decide_eq_false hr) W
    clear h hr
    go_enter Try.func20, Try.ntmps20
    go_wp2_with (first | (go_at_call 28; with_reducible refine (HO.out _).mono ?_; rintro e w1 ⟨rfl, rfl⟩) | (go_at_call 24; with_reducible refine (HB.out _).mono ?_; rintro e w1 ⟨rfl, rfl⟩))
    go_ret2
    exact ⟨rfl, rfl⟩

end Go.Proofs.Ytapccbplmbbnnac
