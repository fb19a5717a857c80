/- The laws FnExactMulPolys, FnExactDividePolys, FnExactGcdPolys, FnExactPowerOfX. -/
import Derived.Test.YtapccbplmbbnnabPolyMul
import Derived.OwnWalk
namespace Go.Proofs.Ytapccbplmbbnnab
open Go.RowKit Go.PlainAid
set_option maxHeartbeats 400000


theorem impl_MulPolys_a (a b : Int) (hA : decide (0 ≤ a ∧ a ≤ 4294967295) = false) (w : World) :
    Calls Try.prog 37 #[.int .i64 a, .int .i64 b] w fun e w' => e = .returned (.tuple #[.int .i64 0, .bool false]) ∧ w = w' := by
  have HA : Hid (∀ W : World, Calls Try.prog 78 #[.int .i64 a] W fun e w' => e = .returned (.bool false) ∧ W = w') := fun W => isPoly_b _ _ hA W
  clear hA
  go_enter Try.func37, Try.ntmps37
  go_wp2_with (first | (go_at_call 78; with_reducible refine (HA.out _).mono ?_; rintro e w1 ⟨rfl, rfl⟩))
  go_ret2
  exact ⟨rfl, rfl⟩
theorem impl_MulPolys_b (a b : Int) (hA : decide (0 ≤ a ∧ a ≤ 4294967295) = true) (hB : decide (0 ≤ b ∧ b ≤ 4294967295) = false) (w : World) :
    Calls Try.prog 37 #[.int .i64 a, .int .i64 b] w fun e w' => e = .returned (.tuple #[.int .i64 0, .bool false]) ∧ w = w' := by
  have HA : Hid (∀ W : World, Calls Try.prog 78 #[.int .i64 a] W fun e w' => e = .returned (.bool true) ∧ W = w') := fun W => isPoly_b _ _ hA W
  have HB : Hid (∀ W : World, Calls Try.prog 78 #[.int .i64 b] W fun e w' => e = .returned (.bool false) ∧ W = w') := fun W => isPoly_b _ _ hB W
  clear hA hB
  go_enter Try.func37, Try.ntmps37
  go_wp2_with (first | (go_at_call 78; with_reducible refine (HA.out _).mono ?_; rintro e w1 ⟨rfl, rfl⟩) | (go_at_call 78; with_reducible refine (HB.out _).mono ?_; rintro e w1 ⟨rfl, rfl⟩))
  go_ret2
  exact ⟨rfl, rfl⟩
theorem impl_GcdPolys_a (a b : Int) (hA : decide (0 ≤ a ∧ a ≤ 4294967295) = false) (w : World) :
    Calls Try.prog 39 #[.int .i64 a, .int .i64 b] w fun e w' => e = .returned (.tuple #[.int .i64 0, .bool false]) ∧ w = w' := by
  have HA : Hid (∀ W : World, Calls Try.prog 78 #[.int .i64 a] W fun e w' => e = .returned (.bool false) ∧ W = w') := fun W => isPoly_b _ _ hA W
  clear hA
  go_enter Try.func39, Try.ntmps39
  go_wp2_with (first | (go_at_call 78; with_reducible refine (HA.out _).mono ?_; rintro e w1 ⟨rfl, rfl⟩))
  go_ret2
  exact ⟨rfl, rfl⟩
theorem impl_GcdPolys_b (a b : Int) (hA : decide (0 ≤ a ∧ a ≤ 4294967295) = true) (hB : decide (0 ≤ b ∧ b ≤ 4294967295) = false) (w : World) :
    Calls Try.prog 39 #[.int .i64 a, .int .i64 b] w fun e w' => e = .returned (.tuple #[.int .i64 0, .bool false]) ∧ w = w' := by
  have HA : Hid (∀ W : World, Calls Try.prog 78 #[.int .i64 a] W fun e w' => e = .returned (.bool true) ∧ W = w') := fun W => isPoly_b _ _ hA W
  have HB : Hid (∀ W : World, Calls Try.prog 78 #[.int .i64 b] W fun e w' => e = .returned (.bool false) ∧ W = w') := fun W => isPoly_b _ _ hB W
  clear hA hB
  go_enter Try.func39, Try.ntmps39
  go_wp2_with (first | (go_at_call 78; with_reducible refine (HA.out _).mono ?_; rintro e w1 ⟨rfl, rfl⟩) | (go_at_call 78; with_reducible refine (HB.out _).mono ?_; rintro e w1 ⟨rfl, rfl⟩))
  go_ret2
  exact ⟨rfl, rfl⟩
theorem impl_DividePolys_a (a b : Int) (hA : decide (0 ≤ a ∧ a ≤ 4294967295) = false) (w : World) :
    Calls Try.prog 38 #[.int .i64 a, .int .i64 b] w fun e w' => e = .returned (.tuple #[.int .i64 0, .int .i64 0, .bool false]) ∧ w = w' := by
  have HA : Hid (∀ W : World, Calls Try.prog 78 #[.int .i64 a] W fun e w' => e = .returned (.bool false) ∧ W = w') := fun W => isPoly_b _ _ hA W
  clear hA
  go_enter Try.func38, Try.ntmps38
  go_wp2_with (first | (go_at_call 78; with_reducible refine (HA.out _).mono ?_; rintro e w1 ⟨rfl, rfl⟩))
  go_ret3
  exact ⟨rfl, rfl⟩
theorem impl_DividePolys_b (a b : Int) (hA : decide (0 ≤ a ∧ a ≤ 4294967295) = true) (hB : decide (0 ≤ b ∧ b ≤ 4294967295) = false) (w : World) :
    Calls Try.prog 38 #[.int .i64 a, .int .i64 b] w fun e w' => e = .returned (.tuple #[.int .i64 0, .int .i64 0, .bool false]) ∧ w = w' := by
  have HA : Hid (∀ W : World, Calls Try.prog 78 #[.int .i64 a] W fun e w' => e = .returned (.bool true) ∧ W = w') := fun W => isPoly_b _ _ hA W
  have HB : Hid (∀ W : World, Calls Try.prog 78 #[.int .i64 b] W fun e w' => e = .returned (.bool false) ∧ W = w') := fun W => isPoly_b _ _ hB W
  clear hA hB
  go_enter Try.func38, Try.ntmps38
  go_wp2_with (first | (go_at_call 78; with_reducible refine (HA.out _).mono ?_; rintro e w1 ⟨rfl, rfl⟩) | (go_at_call 78; with_reducible refine (HB.out _).mono ?_; rintro e w1 ⟨rfl, rfl⟩))
  go_ret3
  exact ⟨rfl, rfl⟩
theorem impl_DividePolys_0 (a : Int) (hA : decide (0 ≤ a ∧ a ≤ 4294967295) = true) (w : World) :
    Calls Try.prog 38 #[.int .i64 a, .int .i64 0] w fun e w' => e = .returned (.tuple #[.int .i64 0, .int .i64 0, .bool false]) ∧ w = w' := by
  have HA : Hid (∀ W : World, Calls Try.prog 78 #[.int .i64 a] W fun e w' => e = .returned (.bool true) ∧ W = w') := fun W => isPoly_b _ _ hA W
  have HB : Hid (∀ W : World, Calls Try.prog 78 #[.int .i64 0] W fun e w' => e = .returned (.bool true) ∧ W = w') := fun W => isPoly_b _ _ (by decide) W
  clear hA
  go_enter Try.func38, Try.ntmps38
  go_wp2_with (first | (go_at_call 78; with_reducible refine (HA.out _).mono ?_; rintro e w1 ⟨rfl, rfl⟩) | (go_at_call 78; with_reducible refine (HB.out _).mono ?_; rintro e w1 ⟨rfl, rfl⟩))
  go_ret3
  exact ⟨rfl, rfl⟩
theorem impl_Mul_no (a b P : Int) (w : World)
    (HA : Hid (∀ W : World, Calls Try.prog 78 #[.int .i64 a] W fun e w' => e = .returned (.bool true) ∧ W = w'))
    (HB : Hid (∀ W : World, Calls Try.prog 78 #[.int .i64 b] W fun e w' => e = .returned (.bool true) ∧ W = w'))
    (HM : Hid (∀ W : World, Calls Try.prog 79 #[.int .i64 a, .int .i64 b] W fun e w' => e = .returned (.int .i64 P) ∧ W = w'))
    (HC : Hid (∀ W : World, Calls Try.prog 78 #[.int .i64 P] W fun e w' => e = .returned (.bool false) ∧ W = w')) :
    Calls Try.prog 37 #[.int .i64 a, .int .i64 b] w fun e w' => e = .returned (.tuple #[.int .i64 0, .bool false]) ∧ w = w' := by
  go_enter Try.func37, Try.ntmps37
  go_wp2_with (first | (go_at_call 78; with_reducible refine (HA.out _).mono ?_; rintro e w1 ⟨rfl, rfl⟩) | (go_at_call 78; with_reducible refine (HB.out _).mono ?_; rintro e w1 ⟨rfl, rfl⟩) | (go_at_call 78; with_reducible refine (HC.out _).mono ?_; rintro e w1 ⟨rfl, rfl⟩) | (go_at_call 79; with_reducible refine (HM.out _).mono ?_; rintro e w1 ⟨rfl, rfl⟩))
  go_ret2
  exact ⟨rfl, rfl⟩
theorem impl_Mul_yes (a b P : Int) (w : World)
    (HA : Hid (∀ W : World, Calls Try.prog 78 #[.int .i64 a] W fun e w' => e = .returned (.bool true) ∧ W = w'))
    (HB : Hid (∀ W : World, Calls Try.prog 78 #[.int .i64 b] W fun e w' => e = .returned (.bool true) ∧ W = w'))
    (HM : Hid (∀ W : World, Calls Try.prog 79 #[.int .i64 a, .int .i64 b] W fun e w' => e = .returned (.int .i64 P) ∧ W = w'))
    (HC : Hid (∀ W : World, Calls Try.prog 78 #[.int .i64 P] W fun e w' => e = .returned (.bool true) ∧ W = w')) :
    Calls Try.prog 37 #[.int .i64 a, .int .i64 b] w fun e w' => e = .returned (.tuple #[.int .i64 P, .bool true]) ∧ w = w' := by
  go_enter Try.func37, Try.ntmps37
  go_wp2_with (first | (go_at_call 78; with_reducible refine (HA.out _).mono ?_; rintro e w1 ⟨rfl, rfl⟩) | (go_at_call 78; with_reducible refine (HB.out _).mono ?_; rintro e w1 ⟨rfl, rfl⟩) | (go_at_call 78; with_reducible refine (HC.out _).mono ?_; rintro e w1 ⟨rfl, rfl⟩) | (go_at_call 79; with_reducible refine (HM.out _).mono ?_; rintro e w1 ⟨rfl, rfl⟩))
  go_ret2
  exact ⟨rfl, rfl⟩
theorem impl_MulPolys_any (a b : Nat) (t : Bool) (v : Int) (ha : a < 4294967296) (hb : b < 4294967296) (h : decide ((Pl.mulTo a b 32 : Int) < 4294967296) = t) (hv : v = if t then (Pl.mulTo a b 32 : Int) else 0) (w : World) :
    Calls Try.prog 37 #[.int .i64 a, .int .i64 b] w fun e w' => e = .returned (.tuple #[.int .i64 v, .bool t]) ∧ w = w' := by
  obtain ⟨P, hP⟩ : ∃ P : Int, (Pl.mulTo a b 32 : Int) = P := ⟨_, rfl⟩
  have HA : ∀ W : World, Calls Try.prog 78 #[.int .i64 a] W fun e w' => e = .returned (.bool true) ∧ W = w' := fun W => isPoly_b _ _ (decide_eq_true (by omega)) W
  have HB : ∀ W : World, Calls Try.prog 78 #[.int .i64 b] W fun e w' => e = .returned (.bool true) ∧ W = w' := fun W => isPoly_b _ _ (decide_eq_true (by omega)) W
  have HM : ∀ W : World, Calls Try.prog 79 #[.int .i64 a, .int .i64 b] W fun e w' => e = .returned (.int .i64 P) ∧ W = w' := fun W => by rw [← hP, ← mul_same hb]; exact times_any a b W ha hb
  have hP0 : 0 ≤ P := by omega
  rw [hP] at h hv
  have HC : ∀ W : World, Calls Try.prog 78 #[.int .i64 P] W fun e w' => e = .returned (.bool t) ∧ W = w' := fun W => isPoly_b _ _ (by rw [← h]; congr 1; apply propext; omega) W
  cases t
  · obtain rfl : v = 0 := by simpa using hv
    exact impl_Mul_no a b P w HA HB HM HC
  · obtain rfl : v = P := by simpa using hv
    exact impl_Mul_yes a b v w HA HB HM HC
theorem impl_DividePolys_yes (a b : Nat) (ha : a < 4294967296) (hb : b < 4294967296) (h0 : 0 < b) (w : World) :
    Calls Try.prog 38 #[.int .i64 a, .int .i64 b] w fun e w' => e = .returned (.tuple #[.int .i64 (Pl.quo b a), .int .i64 (Pl.rem b a), .bool true]) ∧ w = w' := by
  have HA : Hid (∀ W : World, Calls Try.prog 78 #[.int .i64 a] W fun e w' => e = .returned (.bool true) ∧ W = w') := fun W => isPoly_b _ _ (decide_eq_true (by omega)) W
  have HB : Hid (∀ W : World, Calls Try.prog 78 #[.int .i64 b] W fun e w' => e = .returned (.bool true) ∧ W = w') := fun W => isPoly_b _ _ (decide_eq_true (by omega)) W
  have HD : Hid (∀ W : World, Calls Try.prog 77 #[.int .i64 a, .int .i64 b] W fun e w' => e = .returned (.tuple #[.int .i64 (Pl.quo b a), .int .i64 (Pl.rem b a)]) ∧ W = w') := fun W => divide_any a b W (by omega) h0 (by omega)
  go_enter Try.func38, Try.ntmps38
  go_wp2_with (first | (go_at_call 78; with_reducible refine (HA.out _).mono ?_; rintro e w1 ⟨rfl, rfl⟩) | (go_at_call 78; with_reducible refine (HB.out _).mono ?_; rintro e w1 ⟨rfl, rfl⟩) | (go_at_call 77; with_reducible refine (HD.out _).mono ?_; rintro e w1 ⟨rfl, rfl⟩))
  go_ret3
  exact ⟨rfl, rfl⟩
/-- the greatest common divisor, by remainders -/
def gcdP (a b : Nat) : Nat := if h : b = 0 then a else gcdP b (Pl.rem b a)
termination_by Pl.len b
decreasing_by
  have h1 := Pl.rem_lt (Nat.pos_of_ne_zero h) a
  have h2 := Pl.len_of_lt _ _ h1
  have h3 := Pl.len_pos (Nat.pos_of_ne_zero h)
  omega
theorem gcdP_zero (a : Nat) : gcdP a 0 = a := by rw [gcdP]; simp
theorem gcdP_step (a b : Nat) (h : 0 < b) : gcdP a b = gcdP b (Pl.rem b a) := by
  rw [gcdP, dif_neg (by omega)]
theorem rem_less {b : Nat} (h : 0 < b) (a : Nat) : Pl.len (Pl.rem b a) < Pl.len b ∧ Pl.rem b a < b := by
  have h1 := Pl.rem_lt h a
  have h2 := Pl.len_of_lt _ _ h1
  have h3 := Pl.len_pos h
  have h4 := Pl.len_ge b h
  omega
theorem impl_GcdPolys_yes (a b : Nat) (ha : a < 4294967296) (hb : b < 4294967296) (w : World) :
    Calls Try.prog 39 #[.int .i64 a, .int .i64 b] w fun e w' => e = .returned (.tuple #[.int .i64 (gcdP a b), .bool true]) ∧ w = w' := by
  have HA : Hid (∀ W : World, Calls Try.prog 78 #[.int .i64 a] W fun e w' => e = .returned (.bool true) ∧ W = w') := fun W => isPoly_b _ _ (decide_eq_true (by omega)) W
  have HB : Hid (∀ W : World, Calls Try.prog 78 #[.int .i64 b] W fun e w' => e = .returned (.bool true) ∧ W = w') := fun W => isPoly_b _ _ (decide_eq_true (by omega)) W
  go_enter Try.func39, Try.ntmps39
  go_wp2_with (first | (go_at_call 78; with_reducible refine (HA.out _).mono ?_; rintro e w1 ⟨rfl, rfl⟩) | (go_at_call 78; with_reducible refine (HB.out _).mono ?_; rintro e w1 ⟨rfl, rfl⟩))
  go_loop [6, 7, 8, 9] (fun p q _ _ => ∃ x y : Nat, p = .int .i64 x ∧ q = .int .i64 y ∧ x < 4294967296 ∧ y < 4294967296 ∧ Hid (gcdP x y = gcdP a b)) (fun _ q _ _ => Pl.len (intOf q).toNat)
  case atStart => exact ⟨a, b, rfl, rfl, ha, hb, rfl⟩
  case round =>
    obtain ⟨x, y, rfl, rfl, hx, hy, H⟩ := hrel
    by_cases h0 : 0 < y
    · obtain ⟨g1, g2⟩ := rem_less h0 x
      have hy0 : ((y : Int) != 0) = true := by simp; omega
      have HD : Hid (∀ W : World, Calls Try.prog 77 #[.int .i64 x, .int .i64 y] W fun e w' => e = .returned (.tuple #[.int .i64 (Pl.quo y x), .int .i64 (Pl.rem y x)]) ∧ W = w') := fun W => divide_any x y W (by omega) h0 (by omega)
      have HG : Hid (gcdP y (Pl.rem y x) = gcdP a b) := by unfold Hid; rw [← gcdP_step x y h0]; exact H.out
      go_wp2_with (go_at_call 77; with_reducible refine (HD.out _).mono ?_; rintro e w1 ⟨rfl, rfl⟩)
      go_round
      case rel => exact ⟨y, Pl.rem y x, rfl, rfl, hy, by omega, HG⟩
      case measure => simp only [intOf, Int.toNat_natCast]; exact g1
    · obtain rfl : y = 0 := by omega
      have HZ : Hid ((x : Int) = (gcdP a b : Int)) := by
        have x := H.out
        rw [gcdP_zero] at x
        unfold Hid; rw [x]
      go_wp2
      go_ret2
      exact ⟨congrArg (fun x => Ending.returned (.tuple #[.int .i64 x, .bool true])) HZ.out, rfl⟩
end Go.Proofs.Ytapccbplmbbnnab
