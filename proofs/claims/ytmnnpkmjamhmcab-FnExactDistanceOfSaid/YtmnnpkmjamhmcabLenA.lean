/- Contract: math/bits.Len64, in the library's own words (a module apart: the walk's further laws read its table otherwise). -/
import Derived.Test.YtmnnpkmjamhmcabRows
import Derived.Lib.Strings
import Derived.Lib.Slices
import Derived.Lib.Small
import Derived.Lib.Walk
import Derived.Lib.BitFns
namespace Go.Proofs.Ytmnnpkmjamhmcab

theorem len8_part (v : Int) (s x y : Nat) (h0 : 0 ≤ v) (h1 : v ≤ 255) (he : Lib.bitLen x = s + Lib.bitLen y) (hy : v.toNat = y) : Lib.len8 v = (Lib.bitLen x : Int) - s ∧ 0 ≤ Lib.len8 v ∧ Lib.len8 v ≤ 8 := by
  subst hy
  have l := Lib.bitLen_le8' v h0 h1
  have e := Lib.len8_of v h0 h1
  omega
set_option maxHeartbeats 4000000 in
set_option maxRecDepth 100000 in
theorem len64_int (x : Int) (w : World) (h0 : 0 ≤ x) (h1 : x ≤ 18446744073709551615) :
    Calls Try.prog 240 #[.int .u64 x] w fun e w' => e = .returned (.int .i64 (Lib.bitLen x.toNat)) ∧ w = w' := by
  go_enter Try.func240, Try.ntmps240
  go_wp2
  all_goals (go_ret; refine ⟨congrArg Ending.returned (congrArg (Value.int IntKind.i64) ?_), rfl⟩)
  all_goals first
    | (obtain ⟨a, b, c⟩ := len8_part (x / 4294967296 / 65536 / 256 % 256) 56 x.toNat (x.toNat / 2 ^ 56) (by omega) (by omega) (Lib.bitLen_shift 56 _ (by omega) (by omega)) (by omega); omega)
    | (obtain ⟨a, b, c⟩ := len8_part (x / 4294967296 / 65536 % 256) 48 x.toNat (x.toNat / 2 ^ 48) (by omega) (by omega) (Lib.bitLen_shift 48 _ (by omega) (by omega)) (by omega); omega)
    | (obtain ⟨a, b, c⟩ := len8_part (x / 4294967296 / 256 % 256) 40 x.toNat (x.toNat / 2 ^ 40) (by omega) (by omega) (Lib.bitLen_shift 40 _ (by omega) (by omega)) (by omega); omega)
    | (obtain ⟨a, b, c⟩ := len8_part (x / 4294967296 % 256) 32 x.toNat (x.toNat / 2 ^ 32) (by omega) (by omega) (Lib.bitLen_shift 32 _ (by omega) (by omega)) (by omega); omega)
    | (obtain ⟨a, b, c⟩ := len8_part (x / 65536 / 256 % 256) 24 x.toNat (x.toNat / 2 ^ 24) (by omega) (by omega) (Lib.bitLen_shift 24 _ (by omega) (by omega)) (by omega); omega)
    | (obtain ⟨a, b, c⟩ := len8_part (x / 65536 % 256) 16 x.toNat (x.toNat / 2 ^ 16) (by omega) (by omega) (Lib.bitLen_shift 16 _ (by omega) (by omega)) (by omega); omega)
    | (obtain ⟨a, b, c⟩ := len8_part (x / 256 % 256) 8 x.toNat (x.toNat / 2 ^ 8) (by omega) (by omega) (Lib.bitLen_shift 8 _ (by omega) (by omega)) (by omega); omega)
    | (obtain ⟨a, b, c⟩ := len8_part (x % 256) 0 x.toNat x.toNat (by omega) (by omega) (by omega) (by omega); omega)
end Go.Proofs.Ytmnnpkmjamhmcab
