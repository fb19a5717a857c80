/- Contracts: small functions on bits: impl.ones, impl.parity, math/bits.Len64, (impl.poly).degree, spec.l02Parity, spec.l02Degree, spec.l02State. -/
import Derived.Test.YtciofobedgmbjabDoorBtw
import Derived.Test.YtciofobedgmbjabDoorParity
import Derived.Test.YtciofobedgmbjabDoorLen
namespace Go.Proofs.YtciofobedgmbjabDoor
open Go.RowKit Go.PlainAid
set_option maxHeartbeats 400000

theorem and_one_i64' (q : Int) : bits .and .i64 q 1 = q % 2 := by
  have h1 : (BitVec.ofInt 64 1).toNat = 2 ^ 1 - 1 := by decide
  have key : (BitVec.ofInt 64 q &&& BitVec.ofInt 64 1).toNat = (q % ((2 ^ 64 : Nat) : Int)).toNat % 2 ^ 1 := by
    rw [BitVec.toNat_and, BitVec.toNat_ofInt, h1, Nat.and_two_pow_sub_one_eq_mod]
  show IntKind.i64.wrap ((BitVec.ofInt 64 q &&& BitVec.ofInt 64 1).toNat : Nat) = q % 2
  rw [key, IntKind.wrap_i64]
  omega
theorem i64_xorN (a b : Nat) (ha : a < 9223372036854775808) (hb : b < 9223372036854775808) : bits .xor .i64 (a : Int) (b : Int) = ((a ^^^ b : Nat) : Int) := by
  have h : a ^^^ b < 2 ^ 63 := Nat.xor_lt_two_pow ha hb
  show IntKind.i64.wrap ((BitVec.ofInt 64 (a : Int) ^^^ BitVec.ofInt 64 (b : Int)).toNat : Int) = _
  rw [BitVec.toNat_xor, BitVec.ofInt_natCast, BitVec.ofInt_natCast, BitVec.toNat_ofNat, BitVec.toNat_ofNat, Nat.mod_eq_of_lt (by omega), Nat.mod_eq_of_lt (by omega), IntKind.wrap_i64]
  omega
theorem i64_orN (a b : Nat) (ha : a < 9223372036854775808) (hb : b < 9223372036854775808) : bits .or .i64 (a : Int) (b : Int) = ((a ||| b : Nat) : Int) := by
  have h : a ||| b < 2 ^ 63 := Nat.or_lt_two_pow ha hb
  show IntKind.i64.wrap ((BitVec.ofInt 64 (a : Int) ||| BitVec.ofInt 64 (b : Int)).toNat : Int) = _
  rw [BitVec.toNat_or, BitVec.ofInt_natCast, BitVec.ofInt_natCast, BitVec.toNat_ofNat, BitVec.toNat_ofNat, Nat.mod_eq_of_lt (by omega), Nat.mod_eq_of_lt (by omega), IntKind.wrap_i64]
  omega
theorem or_above {x k : Nat} (h : x < 2 ^ k) (b : Nat) : x ||| 2 ^ k * b = x + 2 ^ k * b := by
  rw [Nat.or_comm, ← Nat.two_pow_add_eq_or_of_lt h, Nat.add_comm]
theorem xor_bit (p b : Int) (hp : p = 0 ∨ p = 1) (hb : b = 0 ∨ b = 1) : bits .xor .i64 p b = (p + b) % 2 := by
  rcases hp with rfl | rfl <;> rcases hb with rfl | rfl <;> decide +kernel
theorem pow62 (W : Nat) (hW : W ≤ 62) : (1 : Int) ≤ 2 ^ W ∧ (2 : Int) ^ W ≤ 4611686018427387904 := by
  have h : (2 : Nat) ^ W ≤ 2 ^ 62 := Nat.pow_le_pow_right (by omega) hW
  have h2 : 0 < (2 : Nat) ^ W := Nat.pow_pos (by omega)
  have e : ((2 ^ W : Nat) : Int) = (2 : Int) ^ W := by simp
  rw [← e]
  have : (2 : Nat) ^ 62 = 4611686018427387904 := by decide
  omega
theorem pcF_fuel : ∀ f n, n < 2 ^ f → Pop.pcF (f + 1) n = Pop.pcF f n := by
  intro f
  induction f with
  | zero => intro n h; have : n = 0 := by simpa using h
            subst this; rfl
  | succ f ih =>
    intro n h
    rw [Nat.pow_succ] at h
    show n % 2 + Pop.pcF (f + 1) (n / 2) = n % 2 + Pop.pcF f (n / 2)
    rw [ih (n / 2) (by omega)]
theorem pc_half (q : Nat) (h : q < 2 ^ 64) : Pop.pcF 64 q = q % 2 + Pop.pcF 64 (q / 2) := by
  have e := pcF_fuel 63 (q / 2) (by omega)
  show q % 2 + Pop.pcF 63 (q / 2) = _
  rw [e]

theorem ones_any (W : Nat) (P : Int) (w : World) (hW : W ≤ 62) (hP : 2 ^ W = P) :
    Calls Tryd.prog 33 #[.int .i64 W] w fun e w' => e = .returned (.int .i64 (P - 1)) ∧ w = w' := by
  obtain ⟨p1, p2⟩ := pow62 W hW
  rw [hP] at p1 p2
  go_enter Tryd.func33, Tryd.ntmps33
  go_wp2
  go_ret
  exact ⟨rfl, rfl⟩
end Go.Proofs.YtciofobedgmbjabDoor
