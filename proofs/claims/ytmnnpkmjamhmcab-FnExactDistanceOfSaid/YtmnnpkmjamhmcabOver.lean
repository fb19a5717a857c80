/- Contracts: math/bits.Rem64, (impl.wide).remainder, (impl.wide).over. -/
import Derived.Test.YtmnnpkmjamhmcabDiv64
import Derived.Test.YtmnnpkmjamhmcabWide
import Derived.Test.YtmnnpkmjamhmcabD2
namespace Go.Proofs.Ytmnnpkmjamhmcab
open Go.RowKit Go.PlainAid
set_option maxHeartbeats 800000

theorem kd_one {B y : Nat} (hy0 : 0 < y) (n v : Nat) : (n % y * B + v) / y + n / y * B = (n * B + v) / y ∧ (n % y * B + v) % y = (n * B + v) % y := by
  have h : n * B + v = (n % y * B + v) + y * (n / y * B) := by
    have h1 := Nat.div_add_mod n y
    have h2 : n * B = y * (n / y * B) + n % y * B := by
      calc n * B = (y * (n / y) + n % y) * B := by rw [h1]
        _ = y * (n / y * B) + n % y * B := by rw [Nat.add_mul, Nat.mul_assoc]
    omega
  rw [h, Nat.add_mul_div_left _ _ hy0, Nat.add_mul_mod_self_left]
  exact ⟨rfl, rfl⟩

theorem quietM {P : Program} {f : FuncId} {args : Array Value} {W : World} {n : Nat} {v : Value} (h : Calls P f args (W.drewN n) fun e w' => e = .returned v ∧ ∃ m, w' = (W.drewN n).drewN m) :
    Calls P f args (W.drewN n) fun e w'' => e = .returned v ∧ ∃ m, w'' = W.drewN m := h.mono fun _ _ ⟨he, m, hw⟩ => ⟨he, n + m, hw.trans (drewN_twoG W n m)⟩

/-- the words of a size -/
theorem words_of (N : Nat) (h : N < 170141183460469231731687303715884105728) : ∃ H L : Nat, hiU N = H ∧ loU N = L ∧ H * 18446744073709551616 + L = N ∧ L ≤ 18446744073709551615 ∧ H ≤ 9223372036854775807 :=
  ⟨N / 18446744073709551616, N % 18446744073709551616, by unfold hiU; omega, by unfold loU; omega, by omega, by omega, by omega⟩

end Go.Proofs.Ytmnnpkmjamhmcab
