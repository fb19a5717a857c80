/- math/bits.Mul64: the two words of a product. -/
import Derived.Test.YtmnnpkmjamhmcabTimes
namespace Go.Proofs.Ytmnnpkmjamhmcab
open Go.RowKit Go.PlainAid
set_option maxHeartbeats 400000

theorem mul64_any (x y : Int) (w : World) (a0 : 0 ≤ x) (a1 : x ≤ 18446744073709551615) (b0 : 0 ≤ y) (b1 : y ≤ 18446744073709551615) :
    Calls Try.prog 196 #[.int .u64 x, .int .u64 y] w fun e w' => e = .returned (.tuple #[.int .u64 (hiU (x * y)), .int .u64 (loU (x * y))]) ∧ w = w' := by
  obtain ⟨x0, hx0⟩ : ∃ q, x % 4294967296 = q := ⟨_, rfl⟩
  obtain ⟨x1, hx1⟩ : ∃ q, x / 4294967296 = q := ⟨_, rfl⟩
  obtain ⟨y0, hy0⟩ : ∃ q, y % 4294967296 = q := ⟨_, rfl⟩
  obtain ⟨y1, hy1⟩ : ∃ q, y / 4294967296 = q := ⟨_, rfl⟩
  have bx0 : 0 ≤ x0 ∧ x0 ≤ 4294967295 := by omega
  have bx1 : 0 ≤ x1 ∧ x1 ≤ 4294967295 := by omega
  have by0 : 0 ≤ y0 ∧ y0 ≤ 4294967295 := by omega
  have by1 : 0 ≤ y1 ∧ y1 ≤ 4294967295 := by omega
  have ea : x = x1 * 4294967296 + x0 := by omega
  have eb : y = y1 * 4294967296 + y0 := by omega
  have hN : x * y = x1 * y1 * 18446744073709551616 + (x1 * y0 + x0 * y1) * 4294967296 + x0 * y0 := by rw [ea, eb]; exact split_mul x1 x0 y1 y0
  have ax : bits .and .u64 x 4294967295 = x0 := by rw [← hx0]; exact and_low32 x a0 (by omega)
  have ay : bits .and .u64 y 4294967295 = y0 := by rw [← hy0]; exact and_low32 y b0 (by omega)
  obtain ⟨b00, c00⟩ := prod_bound x0 y0 bx0.1 bx0.2 by0.1 by0.2
  obtain ⟨b10, c10⟩ := prod_bound x1 y0 bx1.1 bx1.2 by0.1 by0.2
  obtain ⟨b01, c01⟩ := prod_bound x0 y1 bx0.1 bx0.2 by1.1 by1.2
  obtain ⟨b11, c11⟩ := prod_bound x1 y1 bx1.1 bx1.2 by1.1 by1.2
  have hN0 : 0 ≤ x * y := Int.mul_nonneg a0 b0
  have hN1 : x * y ≤ 18446744073709551615 * 18446744073709551615 := Int.mul_le_mul a1 b1 b0 (by omega)
  obtain ⟨p00, f00⟩ : ∃ p, x0 * y0 = p := ⟨_, rfl⟩
  obtain ⟨p10, f10⟩ : ∃ p, x1 * y0 = p := ⟨_, rfl⟩
  obtain ⟨p01, f01⟩ : ∃ p, x0 * y1 = p := ⟨_, rfl⟩
  obtain ⟨p11, f11⟩ : ∃ p, x1 * y1 = p := ⟨_, rfl⟩
  rw [f00, f10, f01, f11] at hN
  rw [f00] at b00 c00
  rw [f10] at b10 c10
  rw [f01] at b01 c01
  rw [f11] at b11 c11
  obtain ⟨q00, g00⟩ : ∃ q, p00 / 4294967296 = q := ⟨_, rfl⟩
  obtain ⟨t, ht⟩ : ∃ q, p10 + q00 = q := ⟨_, rfl⟩
  obtain ⟨u1, hu1⟩ : ∃ q, t % 4294967296 = q := ⟨_, rfl⟩
  obtain ⟨u2, hu2⟩ : ∃ q, t / 4294967296 = q := ⟨_, rfl⟩
  have at1 : bits .and .u64 t 4294967295 = u1 := by rw [← hu1]; exact and_low32 t (by omega) (by omega)
  obtain ⟨v, hv⟩ : ∃ q, u1 + p01 = q := ⟨_, rfl⟩
  obtain ⟨qv, hqv⟩ : ∃ q, v / 4294967296 = q := ⟨_, rfl⟩
  have HH : Hid (hiU (x * y) = p11 + u2 + qv) := by unfold Hid hiU; omega
  have HL : Hid (loU (x * y) = IntKind.u64.wrap (x * y)) := by unfold Hid loU; rw [IntKind.wrap_u64]
  have i1 : 0 ≤ t ∧ t ≤ 18446744073709551615 := by omega
  have i2 : 0 ≤ v ∧ v ≤ 18446744073709551615 := by omega
  have i3 : 0 ≤ p11 + u2 ∧ p11 + u2 ≤ 18446744073709551615 := by omega
  have i4 : 0 ≤ p11 + u2 + qv ∧ p11 + u2 + qv ≤ 18446744073709551615 := by omega
  clear hN ea eb hN0 hN1 hx0 hy0 hu1
  go_enter Try.func196, Try.ntmps196
  go_wp2
  go_ret2
  exact ⟨by rw [HH.out, HL.out]; rfl, rfl⟩
end Go.Proofs.Ytmnnpkmjamhmcab
