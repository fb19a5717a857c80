/- math/bits.OnesCount64, and the parity of some bits: impl.ParityOf, spec.l01Parity, spec.ParityOf, the law FnExactParityOf. -/
import Derived.Test.YtciofobedgmbjabDoorRows
import Derived.Test.YtciofobedgmbjabDoorPop
import Derived.WalkKit
import Derived.WalkSpells
import Derived.WalkLawsBesides
import Derived.ProofKit
import Derived.Handy
import Derived.PlainAid
import Derived.Lib.Hide
import Derived.Laws.Bits128
import Derived.OpenShut
namespace Go.Proofs.YtciofobedgmbjabDoor
open Go.RowKit Go.PlainAid
set_option maxHeartbeats 400000

theorem u64_andN (a b : Nat) (ha : a < 18446744073709551616) (hb : b < 18446744073709551616) : bits .and .u64 (a : Int) (b : Int) = ((a &&& b : Nat) : Int) := by
  have h : a &&& b ≤ a := Nat.and_le_left
  show IntKind.u64.wrap ((BitVec.ofInt 64 (a : Int) &&& BitVec.ofInt 64 (b : Int)).toNat : Int) = _
  rw [BitVec.toNat_and, BitVec.ofInt_natCast, BitVec.ofInt_natCast, BitVec.toNat_ofNat, BitVec.toNat_ofNat, Nat.mod_eq_of_lt (by omega), Nat.mod_eq_of_lt (by omega), IntKind.wrap_u64]
  omega
theorem u64_andI (A M : Int) (a m p : Nat) (hA : A = a) (hM : M = m) (h : a &&& m = p) (ha : a < 18446744073709551616) (hm : m < 18446744073709551616) : bits .and .u64 A M = (p : Int) := by
  subst hA; subst hM; subst h
  exact u64_andN a m ha hm
theorem i64_andN (a b : Nat) (ha : a < 9223372036854775808) (hb : b < 9223372036854775808) : bits .and .i64 (a : Int) (b : Int) = ((a &&& b : Nat) : Int) := by
  have h : a &&& b ≤ a := Nat.and_le_left
  show IntKind.i64.wrap ((BitVec.ofInt 64 (a : Int) &&& BitVec.ofInt 64 (b : Int)).toNat : Int) = _
  rw [BitVec.toNat_and, BitVec.ofInt_natCast, BitVec.ofInt_natCast, BitVec.toNat_ofNat, BitVec.toNat_ofNat, Nat.mod_eq_of_lt (by omega), Nat.mod_eq_of_lt (by omega), IntKind.wrap_i64]
  omega

theorem m85 : Pop.mask 85 8 = 6148914691236517205 := by decide +kernel
theorem m51 : Pop.mask 51 8 = 3689348814741910323 := by decide +kernel
theorem m15 : Pop.mask 15 8 = 1085102592571150095 := by decide +kernel

theorem ones64_any (x : Nat) (w : World) (hx : x < 18446744073709551616) :
    Calls Tryd.prog 37 #[.int .u64 x] w fun e w' => e = .returned (.int .i64 (Pop.pcF 64 x)) ∧ w = w' := by
  obtain ⟨p1, hp1⟩ : ∃ p, x / 2 &&& 6148914691236517205 = p := ⟨_, rfl⟩
  obtain ⟨p2, hp2⟩ : ∃ p, x &&& 6148914691236517205 = p := ⟨_, rfl⟩
  have l1 : p1 ≤ 6148914691236517205 := by rw [← hp1]; exact Nat.and_le_right
  have l2 : p2 ≤ 6148914691236517205 := by rw [← hp2]; exact Nat.and_le_right
  obtain ⟨s1, hs1⟩ : ∃ p, p1 + p2 = p := ⟨_, rfl⟩
  obtain ⟨p3, hp3⟩ : ∃ p, s1 / 4 &&& 3689348814741910323 = p := ⟨_, rfl⟩
  obtain ⟨p4, hp4⟩ : ∃ p, s1 &&& 3689348814741910323 = p := ⟨_, rfl⟩
  have l3 : p3 ≤ 3689348814741910323 := by rw [← hp3]; exact Nat.and_le_right
  have l4 : p4 ≤ 3689348814741910323 := by rw [← hp4]; exact Nat.and_le_right
  obtain ⟨s2, hs2⟩ : ∃ p, p3 + p4 = p := ⟨_, rfl⟩
  obtain ⟨q, hq⟩ : ∃ p, s2 / 16 + s2 = p := ⟨_, rfl⟩
  obtain ⟨c, hc⟩ : ∃ p, q &&& 1085102592571150095 = p := ⟨_, rfl⟩
  obtain ⟨y1, hy1⟩ : ∃ p, c + c / 256 = p := ⟨_, rfl⟩
  obtain ⟨y2, hy2⟩ : ∃ p, y1 + y1 / 65536 = p := ⟨_, rfl⟩
  obtain ⟨y3, hy3⟩ : ∃ p, y2 + y2 / 4294967296 = p := ⟨_, rfl⟩
  have hC : Pop.C 8 x = c := by
    unfold Pop.C Pop.S3 Pop.S2 Pop.S1
    rw [m85, m51, m15, hp1, hp2, hs1, hp3, hp4, hs2, hq, hc]
  obtain ⟨f1, f2, f3, f4, f5⟩ := Pop.C8 x hx y1 y2 y3 (by rw [hC, hy1]) hy2.symm hy3.symm
  rw [hC] at f5
  have E1 : bits .and .u64 ((x : Int) / 2) 6148914691236517205 = (p1 : Int) := u64_andI _ _ (x / 2) 6148914691236517205 _ (by omega) rfl hp1 (by omega) (by omega)
  have E2 : bits .and .u64 (x : Int) 6148914691236517205 = (p2 : Int) := u64_andI _ _ x 6148914691236517205 _ (by omega) rfl hp2 (by omega) (by omega)
  have N1 : (p1 : Int) + (p2 : Int) = (s1 : Int) := by omega
  have E3 : bits .and .u64 ((s1 : Int) / 4) 3689348814741910323 = (p3 : Int) := u64_andI _ _ (s1 / 4) 3689348814741910323 _ (by omega) rfl hp3 (by omega) (by omega)
  have E4 : bits .and .u64 (s1 : Int) 3689348814741910323 = (p4 : Int) := u64_andI _ _ s1 3689348814741910323 _ (by omega) rfl hp4 (by omega) (by omega)
  have N2 : (p3 : Int) + (p4 : Int) = (s2 : Int) := by omega
  have N3 : (s2 : Int) / 16 + (s2 : Int) = (q : Int) := by omega
  have E5 : bits .and .u64 (q : Int) 1085102592571150095 = (c : Int) := u64_andI _ _ q 1085102592571150095 _ (by omega) rfl hc (by omega) (by omega)
  have N4 : (c : Int) + (c : Int) / 256 = (y1 : Int) := by omega
  have N5 : (y1 : Int) + (y1 : Int) / 65536 = (y2 : Int) := by omega
  have N6 : (y2 : Int) + (y2 : Int) / 4294967296 = (y3 : Int) := by omega
  have HR : Hid (bits .and .i64 (y3 : Int) 127 = (Pop.pcF 64 x : Nat)) := by unfold Hid; rw [i64_and127, ← f1]; omega
  have k1 : (s1 : Int) ≤ 18446744073709551615 := by omega
  have k2 : (s2 : Int) ≤ 18446744073709551615 := by omega
  have k3 : (q : Int) ≤ 18446744073709551615 := by omega
  have k4 : (y1 : Int) ≤ 18446744073709551615 := by omega
  have k5 : (y2 : Int) ≤ 18446744073709551615 := by omega
  have k6 : (y3 : Int) ≤ 9223372036854775807 := by omega
  clear hp1 hp2 hs1 hp3 hp4 hs2 hq hc hy1 hy2 hy3 hC f1 f2 f3 f4 f5 hx l1 l2 l3 l4
  go_enter Tryd.func37, Tryd.ntmps37
  go_wp2
  go_ret
  exact ⟨by rw [← HR.out]; rfl, rfl⟩

theorem i64_andI (A M : Int) (a m p : Nat) (hA : A = a) (hM : M = m) (h : a &&& m = p) (ha : a < 9223372036854775808) (hm : m < 9223372036854775808) : bits .and .i64 A M = (p : Int) := by
  subst hA; subst hM; subst h
  exact i64_andN a m ha hm

theorem weightOf_int (n : Int) (x : Nat) (w : World) (hx : IntKind.u64.wrap n = (x : Int)) :
    Calls Tryd.prog 35 #[.int .i64 n] w fun e w' => e = .returned (.int .i64 (Pop.pcF 64 x)) ∧ w = w' := by
  have hx1 : x < 18446744073709551616 := by rw [IntKind.wrap_u64] at hx; omega
  obtain ⟨c, hc⟩ : ∃ c, Pop.pcF 64 x = c := ⟨_, rfl⟩
  have hc1 : c ≤ 64 := by rw [← hc]; exact Pop.pcF_le 64 x
  have C : Hid (∀ W : World, Calls Tryd.prog 37 #[.int .u64 x] W fun e w' => e = .returned (.int .i64 c) ∧ W = w') := fun W => by
    have := ones64_any x W hx1
    rwa [hc] at this
  rw [hc]
  clear hc hx1
  go_enter Tryd.func35, Tryd.ntmps35
  go_wp2_with (go_at_call 37; refine (C.out _).mono ?_; rintro e w' ⟨rfl, rfl⟩)
  go_ret
  exact ⟨rfl, rfl⟩
theorem weightOf_any (k : Nat) (w : World) (hn : k ≤ 9223372036854775807) :
    Calls Tryd.prog 35 #[.int .i64 k] w fun e w' => e = .returned (.int .i64 (Pop.pcF 64 k)) ∧ w = w' :=
  weightOf_int k k w (by rw [IntKind.wrap_u64]; omega)
theorem parity_any (k : Nat) (w : World) (hn : k ≤ 9223372036854775807) :
    Calls Tryd.prog 32 #[.int .i64 k] w fun e w' => e = .returned (.int .i64 (Pop.pcF 64 k % 2 : Nat)) ∧ w = w' := by
  obtain ⟨c, hc⟩ : ∃ c, Pop.pcF 64 k = c := ⟨_, rfl⟩
  have hc1 : c ≤ 64 := by rw [← hc]; exact Pop.pcF_le 64 k
  have C : Hid (∀ W : World, Calls Tryd.prog 35 #[.int .i64 k] W fun e w' => e = .returned (.int .i64 c) ∧ W = w') := fun W => by
    have := weightOf_any k W (by omega)
    rwa [hc] at this
  have HV : Hid (((Pop.pcF 64 k % 2 : Nat) : Int) = (c : Int) % 2) := by unfold Hid; rw [hc]; omega
  rw [HV.out]
  clear hc
  go_enter Tryd.func32, Tryd.ntmps32
  go_wp2_with (go_at_call 35; refine (C.out _).mono ?_; rintro e w' ⟨rfl, rfl⟩)
  go_ret
  exact ⟨rfl, rfl⟩
end Go.Proofs.YtciofobedgmbjabDoor
