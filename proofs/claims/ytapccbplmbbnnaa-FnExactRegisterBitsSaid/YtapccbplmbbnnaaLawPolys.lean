/- The laws FnExactMulPolys, FnExactDividePolys, FnExactGcdPolys, FnExactPowerOfX. -/
import Derived.Test.YtapccbplmbbnnaaPolyMul
import Derived.OwnWalk
namespace Go.Proofs.Ytapccbplmbbnnaa
open Go.RowKit Go.PlainAid
set_option maxHeartbeats 400000


theorem spec_MulPolys_a (a b : Int) (hA : decide (0 ≤ a ∧ a ≤ 4294967295) = false) (w : World) :
    Calls Try.prog 24 #[.int .i64 a, .int .i64 b] w fun e w' => e = .returned (.tuple #[.int .i64 0, .bool false]) ∧ w = w' := by
  have HA : Hid (∀ W : World, Calls Try.prog 51 #[.int .i64 a] W fun e w' => e = .returned (.bool false) ∧ W = w') := fun W => l02Poly_b _ _ hA W
  clear hA
  go_enter Try.func24, Try.ntmps24
  go_wp2_with (first | (go_at_call 51; with_reducible refine (HA.out _).mono ?_; rintro e w1 ⟨rfl, rfl⟩))
  go_ret2
  exact ⟨rfl, rfl⟩
theorem spec_MulPolys_b (a b : Int) (hA : decide (0 ≤ a ∧ a ≤ 4294967295) = true) (hB : decide (0 ≤ b ∧ b ≤ 4294967295) = false) (w : World) :
    Calls Try.prog 24 #[.int .i64 a, .int .i64 b] w fun e w' => e = .returned (.tuple #[.int .i64 0, .bool false]) ∧ w = w' := by
  have HA : Hid (∀ W : World, Calls Try.prog 51 #[.int .i64 a] W fun e w' => e = .returned (.bool true) ∧ W = w') := fun W => l02Poly_b _ _ hA W
  have HB : Hid (∀ W : World, Calls Try.prog 51 #[.int .i64 b] W fun e w' => e = .returned (.bool false) ∧ W = w') := fun W => l02Poly_b _ _ hB W
  clear hA hB
  go_enter Try.func24, Try.ntmps24
  go_wp2_with (first | (go_at_call 51; with_reducible refine (HA.out _).mono ?_; rintro e w1 ⟨rfl, rfl⟩) | (go_at_call 51; with_reducible refine (HB.out _).mono ?_; rintro e w1 ⟨rfl, rfl⟩))
  go_ret2
  exact ⟨rfl, rfl⟩
theorem spec_GcdPolys_a (a b : Int) (hA : decide (0 ≤ a ∧ a ≤ 4294967295) = false) (w : World) :
    Calls Try.prog 28 #[.int .i64 a, .int .i64 b] w fun e w' => e = .returned (.tuple #[.int .i64 0, .bool false]) ∧ w = w' := by
  have HA : Hid (∀ W : World, Calls Try.prog 51 #[.int .i64 a] W fun e w' => e = .returned (.bool false) ∧ W = w') := fun W => l02Poly_b _ _ hA W
  clear hA
  go_enter Try.func28, Try.ntmps28
  go_wp2_with (first | (go_at_call 51; with_reducible refine (HA.out _).mono ?_; rintro e w1 ⟨rfl, rfl⟩))
  go_ret2
  exact ⟨rfl, rfl⟩
theorem spec_GcdPolys_b (a b : Int) (hA : decide (0 ≤ a ∧ a ≤ 4294967295) = true) (hB : decide (0 ≤ b ∧ b ≤ 4294967295) = false) (w : World) :
    Calls Try.prog 28 #[.int .i64 a, .int .i64 b] w fun e w' => e = .returned (.tuple #[.int .i64 0, .bool false]) ∧ w = w' := by
  have HA : Hid (∀ W : World, Calls Try.prog 51 #[.int .i64 a] W fun e w' => e = .returned (.bool true) ∧ W = w') := fun W => l02Poly_b _ _ hA W
  have HB : Hid (∀ W : World, Calls Try.prog 51 #[.int .i64 b] W fun e w' => e = .returned (.bool false) ∧ W = w') := fun W => l02Poly_b _ _ hB W
  clear hA hB
  go_enter Try.func28, Try.ntmps28
  go_wp2_with (first | (go_at_call 51; with_reducible refine (HA.out _).mono ?_; rintro e w1 ⟨rfl, rfl⟩) | (go_at_call 51; with_reducible refine (HB.out _).mono ?_; rintro e w1 ⟨rfl, rfl⟩))
  go_ret2
  exact ⟨rfl, rfl⟩
theorem spec_DividePolys_a (a b : Int) (hA : decide (0 ≤ a ∧ a ≤ 4294967295) = false) (w : World) :
    Calls Try.prog 26 #[.int .i64 a, .int .i64 b] w fun e w' => e = .returned (.tuple #[.int .i64 0, .int .i64 0, .bool false]) ∧ w = w' := by
  have HA : Hid (∀ W : World, Calls Try.prog 51 #[.int .i64 a] W fun e w' => e = .returned (.bool false) ∧ W = w') := fun W => l02Poly_b _ _ hA W
  clear hA
  go_enter Try.func26, Try.ntmps26
  go_wp2_with (first | (go_at_call 51; with_reducible refine (HA.out _).mono ?_; rintro e w1 ⟨rfl, rfl⟩))
  go_ret3
  exact ⟨rfl, rfl⟩
theorem spec_DividePolys_b (a b : Int) (hA : decide (0 ≤ a ∧ a ≤ 4294967295) = true) (hB : decide (0 ≤ b ∧ b ≤ 4294967295) = false) (w : World) :
    Calls Try.prog 26 #[.int .i64 a, .int .i64 b] w fun e w' => e = .returned (.tuple #[.int .i64 0, .int .i64 0, .bool false]) ∧ w = w' := by
  have HA : Hid (∀ W : World, Calls Try.prog 51 #[.int .i64 a] W fun e w' => e = .returned (.bool true) ∧ W = w') := fun W => l02Poly_b _ _ hA W
  have HB : Hid (∀ W : World, Calls Try.prog 51 #[.int .i64 b] W fun e w' => e = .returned (.bool false) ∧ W = w') := fun W => l02Poly_b _ _ hB W
  clear hA hB
  go_enter Try.func26, Try.ntmps26
  go_wp2_with (first | (go_at_call 51; with_reducible refine (HA.out _).mono ?_; rintro e w1 ⟨rfl, rfl⟩) | (go_at_call 51; with_reducible refine (HB.out _).mono ?_; rintro e w1 ⟨rfl, rfl⟩))
  go_ret3
  exact ⟨rfl, rfl⟩
theorem spec_DividePolys_0 (a : Int) (hA : decide (0 ≤ a ∧ a ≤ 4294967295) = true) (w : World) :
    Calls Try.prog 26 #[.int .i64 a, .int .i64 0] w fun e w' => e = .returned (.tuple #[.int .i64 0, .int .i64 0, .bool false]) ∧ w = w' := by
  have HA : Hid (∀ W : World, Calls Try.prog 51 #[.int .i64 a] W fun e w' => e = .returned (.bool true) ∧ W = w') := fun W => l02Poly_b _ _ hA W
  have HB : Hid (∀ W : World, Calls Try.prog 51 #[.int .i64 0] W fun e w' => e = .returned (.bool true) ∧ W = w') := fun W => l02Poly_b _ _ (by decide) W
  clear hA
  go_enter Try.func26, Try.ntmps26
  go_wp2_with (first | (go_at_call 51; with_reducible refine (HA.out _).mono ?_; rintro e w1 ⟨rfl, rfl⟩) | (go_at_call 51; with_reducible refine (HB.out _).mono ?_; rintro e w1 ⟨rfl, rfl⟩))
  go_ret3
  exact ⟨rfl, rfl⟩
theorem impl_MulPolys_a (a b : Int) (hA : decide (0 ≤ a ∧ a ≤ 4294967295) = false) (w : World) :
    Calls Try.prog 25 #[.int .i64 a, .int .i64 b] w fun e w' => e = .returned (.tuple #[.int .i64 0, .bool false]) ∧ w = w' := by
  have HA : Hid (∀ W : World, Calls Try.prog 53 #[.int .i64 a] W fun e w' => e = .returned (.bool false) ∧ W = w') := fun W => isPoly_b _ _ hA W
  clear hA
  go_enter Try.func25, Try.ntmps25
  go_wp2_with (first | (go_at_call 53; with_reducible refine (HA.out _).mono ?_; rintro e w1 ⟨rfl, rfl⟩))
  go_ret2
  exact ⟨rfl, rfl⟩
theorem impl_MulPolys_b (a b : Int) (hA : decide (0 ≤ a ∧ a ≤ 4294967295) = true) (hB : decide (0 ≤ b ∧ b ≤ 4294967295) = false) (w : World) :
    Calls Try.prog 25 #[.int .i64 a, .int .i64 b] w fun e w' => e = .returned (.tuple #[.int .i64 0, .bool false]) ∧ w = w' := by
  have HA : Hid (∀ W : World, Calls Try.prog 53 #[.int .i64 a] W fun e w' => e = .returned (.bool true) ∧ W = w') := fun W => isPoly_b _ _ hA W
  have HB : Hid (∀ W : World, Calls Try.prog 53 #[.int .i64 b] W fun e w' => e = .returned (.bool false) ∧ W = w') := fun W => isPoly_b _ _ hB W
  clear hA hB
  go_enter Try.func25, Try.ntmps25
  go_wp2_with (first | (go_at_call 53; with_reducible refine (HA.out _).mono ?_; rintro e w1 ⟨rfl, rfl⟩) | (go_at_call 53; with_reducible refine (HB.out _).mono ?_; rintro e w1 ⟨rfl, rfl⟩))
  go_ret2
  exact ⟨rfl, rfl⟩
theorem impl_GcdPolys_a (a b : Int) (hA : decide (0 ≤ a ∧ a ≤ 4294967295) = false) (w : World) :
    Calls Try.prog 29 #[.int .i64 a, .int .i64 b] w fun e w' => e = .returned (.tuple #[.int .i64 0, .bool false]) ∧ w = w' := by
  have HA : Hid (∀ W : World, Calls Try.prog 53 #[.int .i64 a] W fun e w' => e = .returned (.bool false) ∧ W = w') := fun W => isPoly_b _ _ hA W
  clear hA
  go_enter Try.func29, Try.ntmps29
  go_wp2_with (first | (go_at_call 53; with_reducible refine (HA.out _).mono ?_; rintro e w1 ⟨rfl, rfl⟩))
  go_ret2
  exact ⟨rfl, rfl⟩
theorem impl_GcdPolys_b (a b : Int) (hA : decide (0 ≤ a ∧ a ≤ 4294967295) = true) (hB : decide (0 ≤ b ∧ b ≤ 4294967295) = false) (w : World) :
    Calls Try.prog 29 #[.int .i64 a, .int .i64 b] w fun e w' => e = .returned (.tuple #[.int .i64 0, .bool false]) ∧ w = w' := by
  have HA : Hid (∀ W : World, Calls Try.prog 53 #[.int .i64 a] W fun e w' => e = .returned (.bool true) ∧ W = w') := fun W => isPoly_b _ _ hA W
  have HB : Hid (∀ W : World, Calls Try.prog 53 #[.int .i64 b] W fun e w' => e = .returned (.bool false) ∧ W = w') := fun W => isPoly_b _ _ hB W
  clear hA hB
  go_enter Try.func29, Try.ntmps29
  go_wp2_with (first | (go_at_call 53; with_reducible refine (HA.out _).mono ?_; rintro e w1 ⟨rfl, rfl⟩) | (go_at_call 53; with_reducible refine (HB.out _).mono ?_; rintro e w1 ⟨rfl, rfl⟩))
  go_ret2
  exact ⟨rfl, rfl⟩
theorem impl_DividePolys_a (a b : Int) (hA : decide (0 ≤ a ∧ a ≤ 4294967295) = false) (w : World) :
    Calls Try.prog 27 #[.int .i64 a, .int .i64 b] w fun e w' => e = .returned (.tuple #[.int .i64 0, .int .i64 0, .bool false]) ∧ w = w' := by
  have HA : Hid (∀ W : World, Calls Try.prog 53 #[.int .i64 a] W fun e w' => e = .returned (.bool false) ∧ W = w') := fun W => isPoly_b _ _ hA W
  clear hA
  go_enter Try.func27, Try.ntmps27
  go_wp2_with (first | (go_at_call 53; with_reducible refine (HA.out _).mono ?_; rintro e w1 ⟨rfl, rfl⟩))
  go_ret3
  exact ⟨rfl, rfl⟩
theorem impl_DividePolys_b (a b : Int) (hA : decide (0 ≤ a ∧ a ≤ 4294967295) = true) (hB : decide (0 ≤ b ∧ b ≤ 4294967295) = false) (w : World) :
    Calls Try.prog 27 #[.int .i64 a, .int .i64 b] w fun e w' => e = .returned (.tuple #[.int .i64 0, .int .i64 0, .bool false]) ∧ w = w' := by
  have HA : Hid (∀ W : World, Calls Try.prog 53 #[.int .i64 a] W fun e w' => e = .returned (.bool true) ∧ W = w') := fun W => isPoly_b _ _ hA W
  have HB : Hid (∀ W : World, Calls Try.prog 53 #[.int .i64 b] W fun e w' => e = .returned (.bool false) ∧ W = w') := fun W => isPoly_b _ _ hB W
  clear hA hB
  go_enter Try.func27, Try.ntmps27
  go_wp2_with (first | (go_at_call 53; with_reducible refine (HA.out _).mono ?_; rintro e w1 ⟨rfl, rfl⟩) | (go_at_call 53; with_reducible refine (HB.out _).mono ?_; rintro e w1 ⟨rfl, rfl⟩))
  go_ret3
  exact ⟨rfl, rfl⟩
theorem impl_DividePolys_0 (a : Int) (hA : decide (0 ≤ a ∧ a ≤ 4294967295) = true) (w : World) :
    Calls Try.prog 27 #[.int .i64 a, .int .i64 0] w fun e w' => e = .returned (.tuple #[.int .i64 0, .int .i64 0, .bool false]) ∧ w = w' := by
  have HA : Hid (∀ W : World, Calls Try.prog 53 #[.int .i64 a] W fun e w' => e = .returned (.bool true) ∧ W = w') := fun W => isPoly_b _ _ hA W
  have HB : Hid (∀ W : World, Calls Try.prog 53 #[.int .i64 0] W fun e w' => e = .returned (.bool true) ∧ W = w') := fun W => isPoly_b _ _ (by decide) W
  clear hA
  go_enter Try.func27, Try.ntmps27
  go_wp2_with (first | (go_at_call 53; with_reducible refine (HA.out _).mono ?_; rintro e w1 ⟨rfl, rfl⟩) | (go_at_call 53; with_reducible refine (HB.out _).mono ?_; rintro e w1 ⟨rfl, rfl⟩))
  go_ret3
  exact ⟨rfl, rfl⟩
theorem spec_MulPolys_yes (a b : Nat) (ha : a < 4294967296) (hb : b < 4294967296) (h : (Pl.mulTo a b 32 : Int) < 4294967296) (w : World) :
    Calls Try.prog 24 #[.int .i64 a, .int .i64 b] w fun e w' => e = .returned (.tuple #[.int .i64 (Pl.mulTo a b 32), .bool true]) ∧ w = w' := by
  obtain ⟨P, hP⟩ : ∃ P : Int, (Pl.mulTo a b 32 : Int) = P := ⟨_, rfl⟩
  have HA : Hid (∀ W : World, Calls Try.prog 51 #[.int .i64 a] W fun e w' => e = .returned (.bool true) ∧ W = w') := fun W => l02Poly_b _ _ (decide_eq_true (by omega)) W
  have HB : Hid (∀ W : World, Calls Try.prog 51 #[.int .i64 b] W fun e w' => e = .returned (.bool true) ∧ W = w') := fun W => l02Poly_b _ _ (decide_eq_true (by omega)) W
  have HM : Hid (∀ W : World, Calls Try.prog 52 #[.int .i64 a, .int .i64 b] W fun e w' => e = .returned (.int .i64 P) ∧ W = w') := fun W => by rw [← hP]; exact l02Mul_any a b W ha
  rw [hP] at h ⊢
  clear hP
  go_enter Try.func24, Try.ntmps24
  go_wp2_with (first | (go_at_call 51; with_reducible refine (HA.out _).mono ?_; rintro e w1 ⟨rfl, rfl⟩) | (go_at_call 51; with_reducible refine (HB.out _).mono ?_; rintro e w1 ⟨rfl, rfl⟩) | (go_at_call 52; with_reducible refine (HM.out _).mono ?_; rintro e w1 ⟨rfl, rfl⟩))
  go_ret2
  exact ⟨rfl, rfl⟩
theorem spec_MulPolys_no (a b : Nat) (ha : a < 4294967296) (hb : b < 4294967296) (h : ¬ (Pl.mulTo a b 32 : Int) < 4294967296) (w : World) :
    Calls Try.prog 24 #[.int .i64 a, .int .i64 b] w fun e w' => e = .returned (.tuple #[.int .i64 0, .bool false]) ∧ w = w' := by
  obtain ⟨P, hP⟩ : ∃ P : Int, (Pl.mulTo a b 32 : Int) = P := ⟨_, rfl⟩
  have HA : Hid (∀ W : World, Calls Try.prog 51 #[.int .i64 a] W fun e w' => e = .returned (.bool true) ∧ W = w') := fun W => l02Poly_b _ _ (decide_eq_true (by omega)) W
  have HB : Hid (∀ W : World, Calls Try.prog 51 #[.int .i64 b] W fun e w' => e = .returned (.bool true) ∧ W = w') := fun W => l02Poly_b _ _ (decide_eq_true (by omega)) W
  have HM : Hid (∀ W : World, Calls Try.prog 52 #[.int .i64 a, .int .i64 b] W fun e w' => e = .returned (.int .i64 P) ∧ W = w') := fun W => by rw [← hP]; exact l02Mul_any a b W ha
  rw [hP] at h
  clear hP
  go_enter Try.func24, Try.ntmps24
  go_wp2_with (first | (go_at_call 51; with_reducible refine (HA.out _).mono ?_; rintro e w1 ⟨rfl, rfl⟩) | (go_at_call 51; with_reducible refine (HB.out _).mono ?_; rintro e w1 ⟨rfl, rfl⟩) | (go_at_call 52; with_reducible refine (HM.out _).mono ?_; rintro e w1 ⟨rfl, rfl⟩))
  go_ret2
  exact ⟨rfl, rfl⟩
theorem impl_Mul_no (a b P : Int) (w : World)
    (HA : Hid (∀ W : World, Calls Try.prog 53 #[.int .i64 a] W fun e w' => e = .returned (.bool true) ∧ W = w'))
    (HB : Hid (∀ W : World, Calls Try.prog 53 #[.int .i64 b] W fun e w' => e = .returned (.bool true) ∧ W = w'))
    (HM : Hid (∀ W : World, Calls Try.prog 54 #[.int .i64 a, .int .i64 b] W fun e w' => e = .returned (.int .i64 P) ∧ W = w'))
    (HC : Hid (∀ W : World, Calls Try.prog 53 #[.int .i64 P] W fun e w' => e = .returned (.bool false) ∧ W = w')) :
    Calls Try.prog 25 #[.int .i64 a, .int .i64 b] w fun e w' => e = .returned (.tuple #[.int .i64 0, .bool false]) ∧ w = w' := by
  go_enter Try.func25, Try.ntmps25
  go_wp2_with (first | (go_at_call 53; with_reducible refine (HA.out _).mono ?_; rintro e w1 ⟨rfl, rfl⟩) | (go_at_call 53; with_reducible refine (HB.out _).mono ?_; rintro e w1 ⟨rfl, rfl⟩) | (go_at_call 53; with_reducible refine (HC.out _).mono ?_; rintro e w1 ⟨rfl, rfl⟩) | (go_at_call 54; with_reducible refine (HM.out _).mono ?_; rintro e w1 ⟨rfl, rfl⟩))
  go_ret2
  exact ⟨rfl, rfl⟩
theorem impl_Mul_yes (a b P : Int) (w : World)
    (HA : Hid (∀ W : World, Calls Try.prog 53 #[.int .i64 a] W fun e w' => e = .returned (.bool true) ∧ W = w'))
    (HB : Hid (∀ W : World, Calls Try.prog 53 #[.int .i64 b] W fun e w' => e = .returned (.bool true) ∧ W = w'))
    (HM : Hid (∀ W : World, Calls Try.prog 54 #[.int .i64 a, .int .i64 b] W fun e w' => e = .returned (.int .i64 P) ∧ W = w'))
    (HC : Hid (∀ W : World, Calls Try.prog 53 #[.int .i64 P] W fun e w' => e = .returned (.bool true) ∧ W = w')) :
    Calls Try.prog 25 #[.int .i64 a, .int .i64 b] w fun e w' => e = .returned (.tuple #[.int .i64 P, .bool true]) ∧ w = w' := by
  go_enter Try.func25, Try.ntmps25
  go_wp2_with (first | (go_at_call 53; with_reducible refine (HA.out _).mono ?_; rintro e w1 ⟨rfl, rfl⟩) | (go_at_call 53; with_reducible refine (HB.out _).mono ?_; rintro e w1 ⟨rfl, rfl⟩) | (go_at_call 53; with_reducible refine (HC.out _).mono ?_; rintro e w1 ⟨rfl, rfl⟩) | (go_at_call 54; with_reducible refine (HM.out _).mono ?_; rintro e w1 ⟨rfl, rfl⟩))
  go_ret2
  exact ⟨rfl, rfl⟩
theorem impl_MulPolys_any (a b : Nat) (t : Bool) (v : Int) (ha : a < 4294967296) (hb : b < 4294967296) (h : decide ((Pl.mulTo a b 32 : Int) < 4294967296) = t) (hv : v = if t then (Pl.mulTo a b 32 : Int) else 0) (w : World) :
    Calls Try.prog 25 #[.int .i64 a, .int .i64 b] w fun e w' => e = .returned (.tuple #[.int .i64 v, .bool t]) ∧ w = w' := by
  obtain ⟨P, hP⟩ : ∃ P : Int, (Pl.mulTo a b 32 : Int) = P := ⟨_, rfl⟩
  have HA : ∀ W : World, Calls Try.prog 53 #[.int .i64 a] W fun e w' => e = .returned (.bool true) ∧ W = w' := fun W => isPoly_b _ _ (decide_eq_true (by omega)) W
  have HB : ∀ W : World, Calls Try.prog 53 #[.int .i64 b] W fun e w' => e = .returned (.bool true) ∧ W = w' := fun W => isPoly_b _ _ (decide_eq_true (by omega)) W
  have HM : ∀ W : World, Calls Try.prog 54 #[.int .i64 a, .int .i64 b] W fun e w' => e = .returned (.int .i64 P) ∧ W = w' := fun W => by rw [← hP, ← mul_same hb]; exact times_any a b W ha hb
  have hP0 : 0 ≤ P := by omega
  rw [hP] at h hv
  have HC : ∀ W : World, Calls Try.prog 53 #[.int .i64 P] W fun e w' => e = .returned (.bool t) ∧ W = w' := fun W => isPoly_b _ _ (by rw [← h]; congr 1; apply propext; omega) W
  cases t
  · obtain rfl : v = 0 := by simpa using hv
    exact impl_Mul_no a b P w HA HB HM HC
  · obtain rfl : v = P := by simpa using hv
    exact impl_Mul_yes a b v w HA HB HM HC
theorem lawMulPolys_of (a b v : Int) (t : Bool) (w : World) (S : Hid (∀ W : World, Calls Try.prog 24 #[.int .i64 a, .int .i64 b] W fun e w' => e = .returned (.tuple #[.int .i64 v, .bool t]) ∧ W = w')) (I : Hid (∀ W : World, Calls Try.prog 25 #[.int .i64 a, .int .i64 b] W fun e w' => e = .returned (.tuple #[.int .i64 v, .bool t]) ∧ W = w')) :
    Calls Try.prog 7 #[.int .i64 a, .int .i64 b] w fun e w' => e = .returned (.bool true) ∧ Below w.heap.size w w' := by
  have ev : (v != v) = false := by simp
  have et : (t != t) = false := by simp
  go_enter Try.func7, Try.ntmps7
  go_wp2_with (first | (go_at_call 24; refine (S.out _).mono ?_; rintro e w' ⟨rfl, rfl⟩) | (go_at_call 25; refine (I.out _).mono ?_; rintro e w' ⟨rfl, rfl⟩))
  go_ret
  exact ⟨rfl, Below.refl _ _⟩
theorem lawMul (a b : Int) (w : World) : Calls Try.prog 7 #[.int .i64 a, .int .i64 b] w fun e w' => e = .returned (.bool true) ∧ Below w.heap.size w w' := by
  cases hA : decide (0 ≤ a ∧ a ≤ 4294967295)
  · exact lawMulPolys_of a b _ _ w (fun W => spec_MulPolys_a a b hA W) (fun W => impl_MulPolys_a a b hA W)
  · cases hB : decide (0 ≤ b ∧ b ≤ 4294967295)
    · exact lawMulPolys_of a b _ _ w (fun W => spec_MulPolys_b a b hA hB W) (fun W => impl_MulPolys_b a b hA hB W)
    · obtain ⟨p, rfl, hp⟩ := polyN hA
      obtain ⟨q, rfl, hq⟩ := polyN hB
      by_cases h : (Pl.mulTo p q 32 : Int) < 4294967296
      · exact lawMulPolys_of p q _ _ w (fun W => spec_MulPolys_yes p q hp hq h W) (fun W => impl_MulPolys_any p q true _ hp hq (decide_eq_true h) rfl W)
      · exact lawMulPolys_of p q _ _ w (fun W => spec_MulPolys_no p q hp hq h W) (fun W => impl_MulPolys_any p q false _ hp hq (decide_eq_false h) rfl W)
theorem lawDividePolys_of (a b v u : Int) (t : Bool) (w : World) (S : Hid (∀ W : World, Calls Try.prog 26 #[.int .i64 a, .int .i64 b] W fun e w' => e = .returned (.tuple #[.int .i64 v, .int .i64 u, .bool t]) ∧ W = w')) (I : Hid (∀ W : World, Calls Try.prog 27 #[.int .i64 a, .int .i64 b] W fun e w' => e = .returned (.tuple #[.int .i64 v, .int .i64 u, .bool t]) ∧ W = w')) :
    Calls Try.prog 8 #[.int .i64 a, .int .i64 b] w fun e w' => e = .returned (.bool true) ∧ Below w.heap.size w w' := by
  have ev : (v != v) = false := by simp
  have eu : (u != u) = false := by simp
  have et : (t != t) = false := by simp
  go_enter Try.func8, Try.ntmps8
  go_wp2_with (first | (go_at_call 26; refine (S.out _).mono ?_; rintro e w' ⟨rfl, rfl⟩) | (go_at_call 27; refine (I.out _).mono ?_; rintro e w' ⟨rfl, rfl⟩))
  go_ret
  exact ⟨rfl, Below.refl _ _⟩
theorem spec_DividePolys_yes (a b : Nat) (ha : a < 4294967296) (hb : b < 4294967296) (h0 : 0 < b) (w : World) :
    Calls Try.prog 26 #[.int .i64 a, .int .i64 b] w fun e w' => e = .returned (.tuple #[.int .i64 (Pl.quo b a), .int .i64 (Pl.rem b a), .bool true]) ∧ w = w' := by
  have HA : Hid (∀ W : World, Calls Try.prog 51 #[.int .i64 a] W fun e w' => e = .returned (.bool true) ∧ W = w') := fun W => l02Poly_b _ _ (decide_eq_true (by omega)) W
  have HB : Hid (∀ W : World, Calls Try.prog 51 #[.int .i64 b] W fun e w' => e = .returned (.bool true) ∧ W = w') := fun W => l02Poly_b _ _ (decide_eq_true (by omega)) W
  have HD : Hid (∀ W : World, Calls Try.prog 55 #[.int .i64 a, .int .i64 b] W fun e w' => e = .returned (.tuple #[.int .i64 (Pl.quo b a), .int .i64 (Pl.rem b a)]) ∧ W = w') := fun W => l02Div_any a b W (by omega) h0 (by omega)
  go_enter Try.func26, Try.ntmps26
  go_wp2_with (first | (go_at_call 51; with_reducible refine (HA.out _).mono ?_; rintro e w1 ⟨rfl, rfl⟩) | (go_at_call 51; with_reducible refine (HB.out _).mono ?_; rintro e w1 ⟨rfl, rfl⟩) | (go_at_call 55; with_reducible refine (HD.out _).mono ?_; rintro e w1 ⟨rfl, rfl⟩))
  go_ret3
  exact ⟨rfl, rfl⟩
theorem impl_DividePolys_yes (a b : Nat) (ha : a < 4294967296) (hb : b < 4294967296) (h0 : 0 < b) (w : World) :
    Calls Try.prog 27 #[.int .i64 a, .int .i64 b] w fun e w' => e = .returned (.tuple #[.int .i64 (Pl.quo b a), .int .i64 (Pl.rem b a), .bool true]) ∧ w = w' := by
  have HA : Hid (∀ W : World, Calls Try.prog 53 #[.int .i64 a] W fun e w' => e = .returned (.bool true) ∧ W = w') := fun W => isPoly_b _ _ (decide_eq_true (by omega)) W
  have HB : Hid (∀ W : World, Calls Try.prog 53 #[.int .i64 b] W fun e w' => e = .returned (.bool true) ∧ W = w') := fun W => isPoly_b _ _ (decide_eq_true (by omega)) W
  have HD : Hid (∀ W : World, Calls Try.prog 56 #[.int .i64 a, .int .i64 b] W fun e w' => e = .returned (.tuple #[.int .i64 (Pl.quo b a), .int .i64 (Pl.rem b a)]) ∧ W = w') := fun W => divide_any a b W (by omega) h0 (by omega)
  go_enter Try.func27, Try.ntmps27
  go_wp2_with (first | (go_at_call 53; with_reducible refine (HA.out _).mono ?_; rintro e w1 ⟨rfl, rfl⟩) | (go_at_call 53; with_reducible refine (HB.out _).mono ?_; rintro e w1 ⟨rfl, rfl⟩) | (go_at_call 56; with_reducible refine (HD.out _).mono ?_; rintro e w1 ⟨rfl, rfl⟩))
  go_ret3
  exact ⟨rfl, rfl⟩
theorem lawDivide (a b : Int) (w : World) : Calls Try.prog 8 #[.int .i64 a, .int .i64 b] w fun e w' => e = .returned (.bool true) ∧ Below w.heap.size w w' := by
  cases hA : decide (0 ≤ a ∧ a ≤ 4294967295)
  · exact lawDividePolys_of a b _ _ _ w (fun W => spec_DividePolys_a a b hA W) (fun W => impl_DividePolys_a a b hA W)
  · cases hB : decide (0 ≤ b ∧ b ≤ 4294967295)
    · exact lawDividePolys_of a b _ _ _ w (fun W => spec_DividePolys_b a b hA hB W) (fun W => impl_DividePolys_b a b hA hB W)
    · obtain ⟨q, rfl, hq⟩ := polyN hB
      by_cases h0 : q = 0
      · subst h0
        exact lawDividePolys_of a _ _ _ _ w (fun W => spec_DividePolys_0 a hA W) (fun W => impl_DividePolys_0 a hA W)
      · obtain ⟨p, rfl, hp⟩ := polyN hA
        exact lawDividePolys_of p q _ _ _ w (fun W => spec_DividePolys_yes p q hp hq (by omega) W) (fun W => impl_DividePolys_yes p q hp hq (by omega) W)
/-- the greatest common divisor, by remainders -/
def gcdP (a b : Nat) : Nat := if h : b = 0 then a else gcdP b (Pl.rem b a)
termination_by Pl.len b
decreasing_by
  have h1 := Pl.rem_lt (Nat.pos_of_ne_zero h) a
  have h2 := Pl.len_of_lt _ _ h1
  have h3 := Pl.len_pos (Nat.pos_of_ne_zero h)
  omega
theorem gcdP_zero (a : Nat) : gcdP a 0 = a := by rw [gcdP]; simp
theorem gcdP_step (a b : Nat) (h : 0 < b) : gcdP a b = gcdP b (Pl.rem b a) := by
  rw [gcdP, dif_neg (by omega)]
theorem rem_less {b : Nat} (h : 0 < b) (a : Nat) : Pl.len (Pl.rem b a) < Pl.len b ∧ Pl.rem b a < b := by
  have h1 := Pl.rem_lt h a
  have h2 := Pl.len_of_lt _ _ h1
  have h3 := Pl.len_pos h
  have h4 := Pl.len_ge b h
  omega
theorem l02Gcd_any (a b : Nat) (w : World) (ha : a < 4294967296) (hb : b < 4294967296) :
    Calls Try.prog 57 #[.int .i64 a, .int .i64 b] w fun e w' => e = .returned (.int .i64 (gcdP a b)) ∧ w = w' := by
  go_enter Try.func57, Try.ntmps57
  go_wp2
  go_loop [0, 1, 5, 6] (fun p q _ _ => ∃ x y : Nat, p = .int .i64 x ∧ q = .int .i64 y ∧ x < 4294967296 ∧ y < 4294967296 ∧ Hid (gcdP x y = gcdP a b)) (fun _ q _ _ => Pl.len (intOf q).toNat)
  case atStart => exact ⟨a, b, rfl, rfl, ha, hb, rfl⟩
  case round =>
    obtain ⟨x, y, rfl, rfl, hx, hy, H⟩ := hrel
    by_cases h0 : 0 < y
    · obtain ⟨g1, g2⟩ := rem_less h0 x
      have HD : Hid (∀ W : World, Calls Try.prog 55 #[.int .i64 x, .int .i64 y] W fun e w' => e = .returned (.tuple #[.int .i64 (Pl.quo y x), .int .i64 (Pl.rem y x)]) ∧ W = w') := fun W => l02Div_any x y W (by omega) h0 (by omega)
      have HG : Hid (gcdP y (Pl.rem y x) = gcdP a b) := by unfold Hid; rw [← gcdP_step x y h0]; exact H.out
      go_wp2_with (go_at_call 55; with_reducible refine (HD.out _).mono ?_; rintro e w1 ⟨rfl, rfl⟩)
      go_round
      case rel => exact ⟨y, Pl.rem y x, rfl, rfl, hy, by omega, HG⟩
      case measure => simp only [intOf, Int.toNat_natCast]; exact g1
    · obtain rfl : y = 0 := by omega
      have HZ : Hid ((x : Int) = (gcdP a b : Int)) := by
        have x := H.out
        rw [gcdP_zero] at x
        unfold Hid; rw [x]
      go_wp2
      go_ret
      exact ⟨congrArg (fun x => Ending.returned (.int .i64 x)) HZ.out, rfl⟩
theorem lawGcdPolys_of (a b v : Int) (t : Bool) (w : World) (S : Hid (∀ W : World, Calls Try.prog 28 #[.int .i64 a, .int .i64 b] W fun e w' => e = .returned (.tuple #[.int .i64 v, .bool t]) ∧ W = w')) (I : Hid (∀ W : World, Calls Try.prog 29 #[.int .i64 a, .int .i64 b] W fun e w' => e = .returned (.tuple #[.int .i64 v, .bool t]) ∧ W = w')) :
    Calls Try.prog 9 #[.int .i64 a, .int .i64 b] w fun e w' => e = .returned (.bool true) ∧ Below w.heap.size w w' := by
  have ev : (v != v) = false := by simp
  have et : (t != t) = false := by simp
  go_enter Try.func9, Try.ntmps9
  go_wp2_with (first | (go_at_call 28; refine (S.out _).mono ?_; rintro e w' ⟨rfl, rfl⟩) | (go_at_call 29; refine (I.out _).mono ?_; rintro e w' ⟨rfl, rfl⟩))
  go_ret
  exact ⟨rfl, Below.refl _ _⟩
theorem spec_GcdPolys_yes (a b : Nat) (ha : a < 4294967296) (hb : b < 4294967296) (w : World) :
    Calls Try.prog 28 #[.int .i64 a, .int .i64 b] w fun e w' => e = .returned (.tuple #[.int .i64 (gcdP a b), .bool true]) ∧ w = w' := by
  have HA : Hid (∀ W : World, Calls Try.prog 51 #[.int .i64 a] W fun e w' => e = .returned (.bool true) ∧ W = w') := fun W => l02Poly_b _ _ (decide_eq_true (by omega)) W
  have HB : Hid (∀ W : World, Calls Try.prog 51 #[.int .i64 b] W fun e w' => e = .returned (.bool true) ∧ W = w') := fun W => l02Poly_b _ _ (decide_eq_true (by omega)) W
  have HM : Hid (∀ W : World, Calls Try.prog 57 #[.int .i64 a, .int .i64 b] W fun e w' => e = .returned (.int .i64 (gcdP a b)) ∧ W = w') := fun W => l02Gcd_any a b W ha hb
  go_enter Try.func28, Try.ntmps28
  go_wp2_with (first | (go_at_call 51; with_reducible refine (HA.out _).mono ?_; rintro e w1 ⟨rfl, rfl⟩) | (go_at_call 51; with_reducible refine (HB.out _).mono ?_; rintro e w1 ⟨rfl, rfl⟩) | (go_at_call 57; with_reducible refine (HM.out _).mono ?_; rintro e w1 ⟨rfl, rfl⟩))
  go_ret2
  exact ⟨rfl, rfl⟩
theorem impl_GcdPolys_yes (a b : Nat) (ha : a < 4294967296) (hb : b < 4294967296) (w : World) :
    Calls Try.prog 29 #[.int .i64 a, .int .i64 b] w fun e w' => e = .returned (.tuple #[.int .i64 (gcdP a b), .bool true]) ∧ w = w' := by
  have HA : Hid (∀ W : World, Calls Try.prog 53 #[.int .i64 a] W fun e w' => e = .returned (.bool true) ∧ W = w') := fun W => isPoly_b _ _ (decide_eq_true (by omega)) W
  have HB : Hid (∀ W : World, Calls Try.prog 53 #[.int .i64 b] W fun e w' => e = .returned (.bool true) ∧ W = w') := fun W => isPoly_b _ _ (decide_eq_true (by omega)) W
  go_enter Try.func29, Try.ntmps29
  go_wp2_with (first | (go_at_call 53; with_reducible refine (HA.out _).mono ?_; rintro e w1 ⟨rfl, rfl⟩) | (go_at_call 53; with_reducible refine (HB.out _).mono ?_; rintro e w1 ⟨rfl, rfl⟩))
  go_loop [6, 7, 8, 9] (fun p q _ _ => ∃ x y : Nat, p = .int .i64 x ∧ q = .int .i64 y ∧ x < 4294967296 ∧ y < 4294967296 ∧ Hid (gcdP x y = gcdP a b)) (fun _ q _ _ => Pl.len (intOf q).toNat)
  case atStart => exact ⟨a, b, rfl, rfl, ha, hb, rfl⟩
  case round =>
    obtain ⟨x, y, rfl, rfl, hx, hy, H⟩ := hrel
    by_cases h0 : 0 < y
    · obtain ⟨g1, g2⟩ := rem_less h0 x
      have hy0 : ((y : Int) != 0) = true := by simp; omega
      have HD : Hid (∀ W : World, Calls Try.prog 56 #[.int .i64 x, .int .i64 y] W fun e w' => e = .returned (.tuple #[.int .i64 (Pl.quo y x), .int .i64 (Pl.rem y x)]) ∧ W = w') := fun W => divide_any x y W (by omega) h0 (by omega)
      have HG : Hid (gcdP y (Pl.rem y x) = gcdP a b) := by unfold Hid; rw [← gcdP_step x y h0]; exact H.out
      go_wp2_with (go_at_call 56; with_reducible refine (HD.out _).mono ?_; rintro e w1 ⟨rfl, rfl⟩)
      go_round
      case rel => exact ⟨y, Pl.rem y x, rfl, rfl, hy, by omega, HG⟩
      case measure => simp only [intOf, Int.toNat_natCast]; exact g1
    · obtain rfl : y = 0 := by omega
      have HZ : Hid ((x : Int) = (gcdP a b : Int)) := by
        have x := H.out
        rw [gcdP_zero] at x
        unfold Hid; rw [x]
      go_wp2
      go_ret2
      exact ⟨congrArg (fun x => Ending.returned (.tuple #[.int .i64 x, .bool true])) HZ.out, rfl⟩
theorem lawGcd (a b : Int) (w : World) : Calls Try.prog 9 #[.int .i64 a, .int .i64 b] w fun e w' => e = .returned (.bool true) ∧ Below w.heap.size w w' := by
  cases hA : decide (0 ≤ a ∧ a ≤ 4294967295)
  · exact lawGcdPolys_of a b _ _ w (fun W => spec_GcdPolys_a a b hA W) (fun W => impl_GcdPolys_a a b hA W)
  · cases hB : decide (0 ≤ b ∧ b ≤ 4294967295)
    · exact lawGcdPolys_of a b _ _ w (fun W => spec_GcdPolys_b a b hA hB W) (fun W => impl_GcdPolys_b a b hA hB W)
    · obtain ⟨p, rfl, hp⟩ := polyN hA
      obtain ⟨q, rfl, hq⟩ := polyN hB
      exact lawGcdPolys_of p q _ _ w (fun W => spec_GcdPolys_yes p q hp hq W) (fun W => impl_GcdPolys_yes p q hp hq W)
end Go.Proofs.Ytapccbplmbbnnaa
