/- Contracts: products and quotients of polynomials: spec.l02Mul, (impl.poly).times, spec.l02Div, (impl.poly).divide, spec.l02Gcd. -/
import Derived.Test.YtciofobedgmbjabDoorSmall
namespace Go.Proofs.YtciofobedgmbjabDoor
open Go.RowKit Go.PlainAid
set_option maxHeartbeats 400000

theorem wrap64_nat (n : Nat) (h : n < 9223372036854775808) : wrap64 (n : Int) = n := by unfold wrap64; omega
theorem cast_shl (a k : Nat) : (a : Int) * 2 ^ k = ((a * 2 ^ k : Nat) : Int) := by push_cast; rfl
theorem cast_shr (b k : Nat) : (b : Int) / 2 ^ k = ((b / 2 ^ k : Nat) : Int) := by push_cast; rfl
theorem shl_in {a k A : Nat} (ha : a < 2 ^ A) (h : A + k ≤ 63) : a * 2 ^ k < 9223372036854775808 := by
  have h1 : a * 2 ^ k < 2 ^ A * 2 ^ k := Nat.mul_lt_mul_of_pos_right ha (Nat.pow_pos (by omega))
  rw [← Nat.pow_add] at h1
  have h2 : 2 ^ (A + k) ≤ 2 ^ 63 := Nat.pow_le_pow_right (by omega) h
  omega
theorem bit_test (b k : Nat) : (bits .and .i64 ((b : Int) / 2 ^ k) 1 == 1) = b.testBit k := by
  rw [and_one_i64', cast_shr, Nat.testBit_eq_decide_div_mod_eq]
  rcases (show b / 2 ^ k % 2 = 0 ∨ b / 2 ^ k % 2 = 1 by omega) with h | h
  · rw [h, show ((b / 2 ^ k : Nat) : Int) % 2 = 0 by omega]; rfl
  · rw [h, show ((b / 2 ^ k : Nat) : Int) % 2 = 1 by omega]; rfl
theorem mul_yes {a b k : Nat} (ha : a < 4294967296) (hk : k < 32) (h : (bits .and .i64 ((b : Int) / 2 ^ k) 1 == 1) = true) :
    bits .xor .i64 (Pl.mulTo a b k : Int) (wrap64 ((a : Int) * 2 ^ k)) = (Pl.mulTo a b (k + 1) : Int) := by
  rw [bit_test] at h
  have h1 := shl_in (A := 32) ha (show 32 + k ≤ 63 by omega)
  have h2 := Pl.mulTo_lt (A := 32) (b := b) ha k
  have h3 : 2 ^ (32 + k) ≤ 2 ^ 63 := Nat.pow_le_pow_right (by omega) (by omega)
  rw [cast_shl, wrap64_nat _ h1, i64_xorN _ _ (by omega) h1, Pl.mulTo, if_pos h]
theorem mul_no {a b k : Nat} (h : (bits .and .i64 ((b : Int) / 2 ^ k) 1 == 1) = false) : (Pl.mulTo a b k : Int) = (Pl.mulTo a b (k + 1) : Int) := by
  rw [bit_test] at h
  rw [Pl.mulTo, if_neg (by rw [h]; simp), Nat.xor_zero]

theorem mul_same {a b : Nat} (hb : b < 4294967296) : Pl.mulTo a b (Pl.len b) = Pl.mulTo a b 32 := by
  have h := Pl.len_of_lt 32 b hb
  have := Pl.mulTo_ge (a := a) (Pl.lt_len b) (32 - Pl.len b)
  rw [← this]
  congr 1
  omega

theorem or_pow {q s : Nat} (hq : q < 9223372036854775808) (hs : s ≤ 62) : bits .or .i64 (q : Int) (2 ^ s) = ((q ||| 2 ^ s : Nat) : Int) ∧ q ||| 2 ^ s < 9223372036854775808 := by
  have h : 2 ^ s ≤ 2 ^ 62 := Nat.pow_le_pow_right (by omega) hs
  have h2 := i64_orN q (2 ^ s) hq (by omega)
  rw [← h2]
  refine ⟨by push_cast; rfl, ?_⟩
  exact Nat.or_lt_two_pow (n := 63) hq (by omega)
theorem div_step {a x y d LD s f : Nat} (hx : x < 9223372036854775808) (hy : y < 9223372036854775808) (hd : 0 < d) (e1 : Pl.len d = LD) (e2 : Pl.len x = LD + s) (hs : LD + s ≤ 63) (g1 : Pl.divF f y x d = Pl.divF 64 0 a d) (g2 : Pl.len x ≤ f) :
    bits .xor .i64 (x : Int) (wrap64 ((d : Int) * 2 ^ ((LD : Int) + (s : Int) - 1 - ((LD : Int) - 1)).toNat)) = ((x ^^^ d * 2 ^ s : Nat) : Int) ∧
    bits .or .i64 (y : Int) (wrap64 (2 ^ ((LD : Int) + (s : Int) - 1 - ((LD : Int) - 1)).toNat)) = ((y ||| 2 ^ s : Nat) : Int) ∧
    x ^^^ d * 2 ^ s < 9223372036854775808 ∧ y ||| 2 ^ s < 9223372036854775808 ∧ Pl.len (x ^^^ d * 2 ^ s) < Pl.len x ∧
    Hid (Pl.divF (f - 1) (y ||| 2 ^ s) (x ^^^ d * 2 ^ s) d = Pl.divF 64 0 a d ∧ Pl.len (x ^^^ d * 2 ^ s) ≤ f - 1) := by
  have h0 := Pl.len_pos hd
  have hk : ((LD : Int) + (s : Int) - 1 - ((LD : Int) - 1)).toNat = s := by omega
  have h1 : d * 2 ^ s < 9223372036854775808 := shl_in (A := LD) (by rw [← e1]; exact Pl.lt_len d) hs
  obtain ⟨o1, o2⟩ := or_pow (s := s) hy (by omega)
  have hp : 2 ^ s ≤ 2 ^ 62 := Nat.pow_le_pow_right (by omega) (by omega)
  have hw : wrap64 ((2 : Int) ^ s) = 2 ^ s := by
    have := wrap64_nat (2 ^ s) (by omega)
    push_cast at this
    exact this
  have hc := Pl.len_cut hd (show Pl.len d ≤ Pl.len x by omega)
  rw [e2, e1, show LD + s - LD = s by omega, ← e2] at hc
  refine ⟨?_, ?_, Nat.xor_lt_two_pow (n := 63) hx h1, o2, hc, ?_, by omega⟩
  · rw [hk, cast_shl, wrap64_nat _ h1, i64_xorN _ _ hx h1]
  · rw [hk, hw, o1]
  · obtain ⟨f', rfl⟩ : ∃ f', f = f' + 1 := ⟨f - 1, by omega⟩
    rw [Pl.divF_next (by omega), e2, e1, show LD + s - LD = s by omega] at g1
    exact g1
theorem polyN {n : Int} (h : decide (0 ≤ n ∧ n ≤ 4294967295) = true) : ∃ p : Nat, n = p ∧ p < 4294967296 := by
  obtain ⟨h1, h2⟩ := of_decide_eq_true h
  exact ⟨n.toNat, by omega, by omega⟩
theorem mulTo_63 {a b : Nat} (ha : a < 4294967296) : Pl.mulTo a b 32 < 9223372036854775808 := by
  have h1 := Pl.mulTo_lt (A := 32) (b := b) ha 31
  have h2 : a * 2 ^ 31 < 9223372036854775808 := shl_in (A := 32) ha (by omega)
  show Pl.mulTo a b 31 ^^^ (if b.testBit 31 = true then a * 2 ^ 31 else 0) < _
  apply Nat.xor_lt_two_pow (n := 63)
  · exact h1
  · split
    · exact h2
    · omega
end Go.Proofs.YtciofobedgmbjabDoor
