/- Contract: math/bits.Len64: how many binary digits a number has. -/
import Derived.Test.YtmnnpkmjamhmcabLenA
import Derived.Test.YtmnnpkmjamhmcabPoly
namespace Go.Proofs.Ytmnnpkmjamhmcab

theorem len_lib (x : Nat) (h : x < 2 ^ 64) : Lib.bitLen x = Pl.len x := by
  induction x using Nat.strongRecOn with
  | _ x ih =>
    by_cases h0 : x = 0
    · subst h0; decide +kernel
    · rw [Lib.bitLen_half x h0 h, ih (x / 2) (by omega) (by omega), Pl.len_half x (by omega), Nat.add_comm]
theorem len64_any (x : Nat) (w : World) (hx : x < 18446744073709551616) :
    Calls Try.prog 240 #[.int .u64 x] w fun e w' => e = .returned (.int .i64 (Pl.len x)) ∧ w = w' := by
  have := len64_int x w (by omega) (by omega)
  rwa [Int.toNat_natCast, len_lib x (by omega)] at this
end Go.Proofs.Ytmnnpkmjamhmcab
