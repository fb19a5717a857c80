/- Greatest common divisors: impl.commonDivisor, spec.l01Gcd, spec.l00Max, impl.isPart. -/
import Derived.Test.YtmnnpkmjamhmcabBtw
import Derived.Deep.QuietTactic
import Derived.BigQuiet
import Derived.WalkSmall
namespace Go.Proofs.Ytmnnpkmjamhmcab
open Go.RowKit Go.PlainAid
set_option maxHeartbeats 400000

/-- the greatest common divisor, as a number -/
def gcdI (a b : Int) : Int := (Int.gcd a b : Nat)

theorem gcdI_zero (a : Int) : gcdI a 0 = (a.natAbs : Nat) := by simp [gcdI]
theorem gcdI_step (a b : Int) : gcdI b (a.tmod b) = gcdI a b := by
  unfold gcdI Int.gcd
  rw [Int.natAbs_tmod, Nat.gcd_comm, ← Nat.gcd_rec, Nat.gcd_comm]
theorem gcdI_neg (a b : Int) : gcdI (-a) b = gcdI a b := by simp [gcdI]
theorem gcdI_comm (a b : Int) : gcdI a b = gcdI b a := by simp [gcdI, Int.gcd_comm]
theorem gcdI_nonneg (a b : Int) : 0 ≤ gcdI a b := by unfold gcdI; omega
theorem gcdI_le_right (a b : Int) (h : 0 < b) : gcdI a b ≤ b := by
  unfold gcdI
  have := Int.gcd_le_right a h
  omega
theorem gcdI_pos (a b : Int) (h : b ≠ 0) : 1 ≤ gcdI a b := by
  unfold gcdI
  have : 0 < Int.gcd a b := Int.gcd_pos_of_ne_zero_right a h
  omega

theorem tmod_in (a b : Int) (h : b ≠ 0) : -(b.natAbs : Int) < a.tmod b ∧ a.tmod b < (b.natAbs : Int) := by
  have h1 : (a.tmod b).natAbs < b.natAbs := by
    rw [Int.natAbs_tmod]
    exact Nat.mod_lt _ (by omega)
  omega

theorem ret_i64 {a b : Int} (h : a = b) : Ending.returned (.int .i64 a) = .returned (.int .i64 b) := by rw [h]

theorem common_any (a b : Int) (w : World) (ha1 : -9223372036854775807 ≤ a) (ha2 : a ≤ 9223372036854775807) (hb1 : -9223372036854775807 ≤ b) (hb2 : b ≤ 9223372036854775807) :
    Calls Try.prog 108 #[.int .i64 a, .int .i64 b] w fun e w' => e = .returned (.int .i64 (gcdI a b)) ∧ ∃ n, w' = w.drewN n := by
  go_enter Try.func108, Try.ntmps108
  go_wp2
  go_loopw [0, 1] (fun x y wr => ∃ p q : Int, ∃ n : Nat, x = .int .i64 p ∧ y = .int .i64 q ∧ wr = w.drewN n ∧ Hid (gcdI p q = gcdI a b) ∧ -9223372036854775807 ≤ p ∧ p ≤ 9223372036854775807 ∧ -9223372036854775807 ≤ q ∧ q ≤ 9223372036854775807) (fun _ y _ => (intOf y).natAbs)
  case atStart => exact ⟨a, b, 0, rfl, rfl, rfl, rfl, ha1, ha2, hb1, hb2⟩
  case round =>
    obtain ⟨p, q, n, rfl, rfl, rfl, HG, hp1, hp2, hq1, hq2⟩ := hrel
    by_cases hq : q = 0
    · have HQ := Lib.hid hq
      have hqb : (q != 0) = false := by simp [hq]
      clear hq
      by_cases hp : p < 0
      · go_wp2
        go_ret
        refine ⟨ret_i64 ?_, n, rfl⟩
        rw [← HG.out, HQ.out, gcdI_zero]; omega
      · go_wp2
        go_ret
        refine ⟨ret_i64 ?_, n, rfl⟩
        rw [← HG.out, HQ.out, gcdI_zero]; omega
    · have hqb : (q != 0) = true := by simp [hq]
      obtain ⟨t1, t2⟩ := tmod_in p q hq
      have HS := Lib.hid (gcdI_step p q)
      go_wp2
      go_quiet (fail)
      go_wp2
      go_roundw
      case rel => exact ⟨q, p.tmod q, n + nq, rfl, rfl, by rw [World.drewN_drewN], HS.out.trans HG.out, hq1, hq2, by omega, by omega⟩
      case measure =>
        show (p.tmod q).natAbs < q.natAbs
        omega

theorem isPart_yes (a : Int) (w : World) (h0 : -1000000000000000000 ≤ a) (h1 : a ≤ 1000000000000000000) :
    Calls Try.prog 107 #[.int .i64 a] w fun e w' => e = .returned (.bool true) ∧ w = w' := by
  go_enter Try.func107, Try.ntmps107
  go_wp2_with (go_at_call 53; refine (btw64_yes _ _ _ _ h0 h1).mono ?_; rintro e w' ⟨rfl, rfl⟩)
  go_ret
  exact ⟨rfl, rfl⟩
theorem isPart_no (a : Int) (w : World) (h : ¬ (-1000000000000000000 ≤ a ∧ a ≤ 1000000000000000000)) :
    Calls Try.prog 107 #[.int .i64 a] w fun e w' => e = .returned (.bool false) ∧ w = w' := by
  have H := Lib.hid h
  clear h
  go_enter Try.func107, Try.ntmps107
  go_wp2_with (go_at_call 53; refine (btw64_no _ _ _ _ H.out).mono ?_; rintro e w' ⟨rfl, rfl⟩)
  go_ret
  exact ⟨rfl, rfl⟩
theorem l01Gcd_any (a b : Int) (w : World) (ha1 : 0 ≤ a) (ha2 : a ≤ 9223372036854775807) (hb1 : 0 ≤ b) (hb2 : b ≤ 9223372036854775807) :
    Calls Try.prog 117 #[.int .i64 a, .int .i64 b] w fun e w' => e = .returned (.int .i64 (gcdI a b)) ∧ w = w' := by
  go_enter Try.func117, Try.ntmps117
  go_wp2
  go_loop [0, 1, 5] (fun x y _ => ∃ p q : Int, x = .int .i64 p ∧ y = .int .i64 q ∧ Hid (gcdI p q = gcdI a b) ∧ 0 ≤ p ∧ p ≤ 9223372036854775807 ∧ 0 ≤ q ∧ q ≤ 9223372036854775807) (fun _ y _ => (intOf y).natAbs)
  case atStart => exact ⟨a, b, rfl, rfl, rfl, ha1, ha2, hb1, hb2⟩
  case round =>
    obtain ⟨p, q, rfl, rfl, HG, hp1, hp2, hq1, hq2⟩ := hrel
    by_cases hq : 0 < q
    · have HS := Lib.hid (gcdI_step p q)
      have HT := Lib.hid (Int.tmod_eq_emod_of_nonneg hp1 (b := q))
      have t1 := Int.emod_nonneg p (show q ≠ 0 by omega)
      have t2 := Int.emod_lt_of_pos p hq
      go_wp2
      go_round
      case rel => exact ⟨q, p % q, rfl, rfl, by rw [← HT.out]; exact HS.out.trans HG.out, hq1, hq2, by omega, by omega⟩
      case measure =>
        show (p % q).natAbs < q.natAbs
        omega
    · obtain rfl : q = 0 := by omega
      go_wp2
      go_ret
      refine ⟨ret_i64 ?_, rfl⟩
      rw [← HG.out, gcdI_zero]; omega
/-- the greater one of a number and its opposite -/
theorem l00Max_abs (a : Int) (w : World) (_h1 : -9223372036854775807 ≤ a) (_h2 : a ≤ 9223372036854775807) :
    Calls Try.prog 65 #[.int .i64 a, .int .i64 (-a)] w fun e w' => e = .returned (.int .i64 (a.natAbs : Nat)) ∧ w = w' := by
  by_cases h : -a < a
  · go_enter Try.func65, Try.ntmps65
    go_wp2
    go_ret
    exact ⟨ret_i64 (by omega), rfl⟩
  · go_enter Try.func65, Try.ntmps65
    go_wp2
    go_ret
    exact ⟨ret_i64 (by omega), rfl⟩
end Go.Proofs.Ytmnnpkmjamhmcab
