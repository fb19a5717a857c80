/- Contracts: math/bits.LeadingZeros64, Div64, Rem64. -/
import Derived.Test.YtjbojamhnapkpabLen
import Derived.Test.YtjbojamhnapkpabDivMath
import Derived.Test.YtjbojamhnapkpabFrac
import Derived.Test.YtjbojamhnapkpabGT
import Derived.RegionTactic
import Derived.ChangeAlike
import Derived.BigQuiet
import Derived.Deep.CutBlock
import Derived.Deep.DeepCutAuto
import Derived.Deep.LoopGhost
namespace Go.Proofs.Ytjbojamhnapkpab
open Go.RowKit Go.PlainAid
set_option maxHeartbeats 800000

theorem lead_any (Y c : Nat) (w : World) (hY : Y < 18446744073709551616) (hc : Pl.len Y = c) (hc1 : c ≤ 64) :
    Calls Try.prog 121 #[.int .u64 Y] w fun e w' => e = .returned (.int .i64 ((64 - c : Nat) : Int)) ∧ w = w' := by
  have C : Hid (∀ W : World, Calls Try.prog 127 #[.int .u64 Y] W fun e w' => e = .returned (.int .i64 c) ∧ W = w') := fun W => by
    have := len64_any Y W (by omega)
    rwa [hc] at this
  have e : IntKind.i64.wrap (64 - (c : Int)) = ((64 - c : Nat) : Int) := by rw [IntWalk.i64_in _ (by omega)]; omega
  have e2 : Hid ((64 : Int) - c = ((64 - c : Nat) : Int)) := by unfold Hid; omega
  clear hc hY
  go_enter Try.func121, Try.ntmps121
  go_wp2_with (go_at_call 127; refine (C.out _).mono ?_; rintro e w' ⟨rfl, rfl⟩)
  go_ret
  exact ⟨by rw [← e2.out]; rfl, rfl⟩

theorem or_u64 (a b s : Nat) (hb : b < 2 ^ s) (h : a * 2 ^ s + b < 18446744073709551616) : bits .or .u64 ((a * 2 ^ s : Nat) : Int) (b : Int) = ((a * 2 ^ s + b : Nat) : Int) := by
  show IntKind.u64.wrap ((BitVec.ofInt 64 ((a * 2 ^ s : Nat) : Int) ||| BitVec.ofInt 64 (b : Int)).toNat : Nat) = _
  rw [BitVec.toNat_or, BitVec.ofInt_natCast, BitVec.ofInt_natCast, BitVec.toNat_ofNat, BitVec.toNat_ofNat, Nat.mod_eq_of_lt (by omega), Nat.mod_eq_of_lt (by omega), or_parts a b s hb, IntKind.wrap_u64]
  omega

end Go.Proofs.Ytjbojamhnapkpab
