/- Products of two words: spec.l01Times, math/bits.Mul64. -/
import Derived.Test.YtmnnpkmjamhmcabFrac
import Derived.Laws.MathBits
import Derived.RegionTactic
import Derived.ChangeAlike
namespace Go.Proofs.Ytmnnpkmjamhmcab
open Go.RowKit Go.PlainAid
set_option maxHeartbeats 400000

/-- the words of a number -/
def hiU (z : Int) : Int := z / 18446744073709551616 % 18446744073709551616
def loU (z : Int) : Int := z % 18446744073709551616

theorem loU_in (z : Int) : 0 ≤ loU z ∧ loU z ≤ 18446744073709551615 := by unfold loU; omega
theorem hiU_in (z : Int) : 0 ≤ hiU z ∧ hiU z ≤ 18446744073709551615 := by unfold hiU; omega

theorem or_high (m r : Int) (_h0 : 0 ≤ m) (r0 : 0 ≤ r) (r1 : r < 4294967296) : bits .or .u64 (IntKind.u64.wrap (m * 4294967296)) r = m % 4294967296 * 4294967296 + r := by
  obtain ⟨X, hX⟩ : ∃ X : Nat, m % 4294967296 = X := ⟨(m % 4294967296).toNat, by omega⟩
  obtain ⟨R, rfl⟩ := Int.eq_ofNat_of_zero_le r0
  have e : IntKind.u64.wrap (m * 4294967296) = ((2 ^ 32 * X : Nat) : Int) := by rw [IntKind.wrap_u64]; omega
  rw [e, hX]
  have hR : R < 2 ^ 32 := by omega
  have hX2 : X < 4294967296 := by omega
  show IntKind.u64.wrap ((BitVec.ofInt 64 ((2 ^ 32 * X : Nat) : Int) ||| BitVec.ofInt 64 (R : Int)).toNat : Nat) = _
  rw [BitVec.toNat_or, BitVec.ofInt_natCast, BitVec.ofInt_natCast, BitVec.toNat_ofNat, BitVec.toNat_ofNat, Nat.mod_eq_of_lt (by omega), Nat.mod_eq_of_lt (by omega), ← Nat.two_pow_add_eq_or_of_lt hR, IntKind.wrap_u64]
  omega

theorem times_any (a b : Int) (w : World) (a0 : 0 ≤ a) (a1 : a ≤ 9223372036854775807) (b0 : 0 ≤ b) (b1 : b ≤ 9223372036854775807) :
    Calls Try.prog 144 #[.int .i64 a, .int .i64 b] w fun e w' => e = .returned (.agg #[.int .u64 (hiU (a * b)), .int .u64 (loU (a * b))]) ∧ Below w.heap.size w w' := by
  obtain ⟨x0, hx0⟩ : ∃ x, a % 4294967296 = x := ⟨_, rfl⟩
  obtain ⟨x1, hx1⟩ : ∃ x, a / 4294967296 = x := ⟨_, rfl⟩
  obtain ⟨y0, hy0⟩ : ∃ x, b % 4294967296 = x := ⟨_, rfl⟩
  obtain ⟨y1, hy1⟩ : ∃ x, b / 4294967296 = x := ⟨_, rfl⟩
  have bx0 : 0 ≤ x0 ∧ x0 ≤ 4294967295 := by omega
  have bx1 : 0 ≤ x1 ∧ x1 ≤ 4294967295 := by omega
  have by0 : 0 ≤ y0 ∧ y0 ≤ 4294967295 := by omega
  have by1 : 0 ≤ y1 ∧ y1 ≤ 4294967295 := by omega
  have ea : a = x1 * 4294967296 + x0 := by omega
  have eb : b = y1 * 4294967296 + y0 := by omega
  have hN : a * b = x1 * y1 * 18446744073709551616 + (x1 * y0 + x0 * y1) * 4294967296 + x0 * y0 := by rw [ea, eb]; exact split_mul x1 x0 y1 y0
  obtain ⟨b00, c00⟩ := prod_bound x0 y0 bx0.1 bx0.2 by0.1 by0.2
  obtain ⟨b10, c10⟩ := prod_bound x1 y0 bx1.1 bx1.2 by0.1 by0.2
  obtain ⟨b01, c01⟩ := prod_bound x0 y1 bx0.1 bx0.2 by1.1 by1.2
  obtain ⟨b11, c11⟩ := prod_bound x1 y1 bx1.1 bx1.2 by1.1 by1.2
  have hN0 : 0 ≤ a * b := Int.mul_nonneg a0 b0
  have hN1 : a * b ≤ 9223372036854775807 * 9223372036854775807 := Int.mul_le_mul a1 b1 b0 (by omega)
  obtain ⟨p00, f00⟩ : ∃ p, x0 * y0 = p := ⟨_, rfl⟩
  obtain ⟨p10, f10⟩ : ∃ p, x1 * y0 = p := ⟨_, rfl⟩
  obtain ⟨p01, f01⟩ : ∃ p, x0 * y1 = p := ⟨_, rfl⟩
  obtain ⟨p11, f11⟩ : ∃ p, x1 * y1 = p := ⟨_, rfl⟩
  rw [f00, f10, f01, f11] at hN
  rw [f00] at b00 c00
  rw [f10] at b10 c10
  rw [f01] at b01 c01
  rw [f11] at b11 c11
  have w00 : IntKind.u64.wrap p00 = p00 := u64_nonneg (by omega) (by omega)
  have w10 : IntKind.u64.wrap p10 = p10 := u64_nonneg (by omega) (by omega)
  have w01 : IntKind.u64.wrap p01 = p01 := u64_nonneg (by omega) (by omega)
  have w11 : IntKind.u64.wrap p11 = p11 := u64_nonneg (by omega) (by omega)
  obtain ⟨q00, g00⟩ : ∃ q, p00.tdiv 4294967296 = q := ⟨_, rfl⟩
  obtain ⟨q10, g10⟩ : ∃ q, p10.tdiv 4294967296 = q := ⟨_, rfl⟩
  obtain ⟨q01, g01⟩ : ∃ q, p01.tdiv 4294967296 = q := ⟨_, rfl⟩
  obtain ⟨r00, k00⟩ : ∃ q, p00.tmod 4294967296 = q := ⟨_, rfl⟩
  obtain ⟨r10, k10⟩ : ∃ q, p10.tmod 4294967296 = q := ⟨_, rfl⟩
  obtain ⟨r01, k01⟩ : ∃ q, p01.tmod 4294967296 = q := ⟨_, rfl⟩
  have G00 := g00; have G10 := g10; have G01 := g01; have K00 := k00; have K10 := k10; have K01 := k01
  rw [Int.tdiv_eq_ediv_of_nonneg (by omega)] at G00 G10 G01
  rw [Int.tmod_eq_emod_of_nonneg (by omega)] at K00 K10 K01
  have v00 : IntKind.u64.wrap q00 = q00 := u64_nonneg (by omega) (by omega)
  have v10 : IntKind.u64.wrap q10 = q10 := u64_nonneg (by omega) (by omega)
  have v01 : IntKind.u64.wrap q01 = q01 := u64_nonneg (by omega) (by omega)
  have m1 : IntKind.u64.wrap (q00 + r10) = q00 + r10 := u64_nonneg (by omega) (by omega)
  have m2 : IntKind.u64.wrap (q00 + r10 + r01) = q00 + r10 + r01 := u64_nonneg (by omega) (by omega)
  obtain ⟨m, em⟩ : ∃ m, q00 + r10 + r01 = m := ⟨_, rfl⟩
  rw [em] at m2
  obtain ⟨qm, gm⟩ : ∃ q, m.tdiv 4294967296 = q := ⟨_, rfl⟩
  have GM := gm
  rw [Int.tdiv_eq_ediv_of_nonneg (by omega)] at GM
  have vm : IntKind.u64.wrap qm = qm := u64_nonneg (by omega) (by omega)
  have s1 : IntKind.u64.wrap (p11 + q10) = p11 + q10 := u64_nonneg (by omega) (by omega)
  have s2 : IntKind.u64.wrap (p11 + q10 + q01) = p11 + q10 + q01 := u64_nonneg (by omega) (by omega)
  have s3 : IntKind.u64.wrap (p11 + q10 + q01 + qm) = p11 + q10 + q01 + qm := u64_nonneg (by omega) (by omega)
  have HH : Hid (hiU (a * b) = p11 + q10 + q01 + qm) := by unfold Hid hiU; omega
  have HL : Hid (loU (a * b) = m % 4294967296 * 4294967296 + r00) := by unfold Hid loU; omega
  have HO : Hid (bits .or .u64 (IntKind.u64.wrap (m * 4294967296)) r00 = m % 4294967296 * 4294967296 + r00) := or_high m r00 (by omega) (by omega) (by omega)
  clear hN ea eb hN0 hN1 G00 G10 G01 K00 K10 K01 GM
  go_enter Try.func144, Try.ntmps144
  go_wp2
  go_quiet (fail)
  go_wp2
  go_quiet (fail)
  go_wp2
  go_quiet (fail)
  go_wp2
  go_quiet (fail)
  go_wp2
  go_region
  all_goals
    go_wp2
    go_returns
    refine ⟨?_, ((below_drewN ((Below.refl _ _).alloc (Nat.le_refl _) _) _).setCell (by simp) _).setCell (by simp) _⟩
    rw [HH.out, HL.out, HO.out]
end Go.Proofs.Ytmnnpkmjamhmcab
