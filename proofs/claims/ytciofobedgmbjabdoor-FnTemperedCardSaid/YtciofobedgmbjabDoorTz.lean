/- math/bits.TrailingZeros64, under its table. -/
import Derived.Test.YtciofobedgmbjabDoorBtw
import Derived.Lib.TrailingZeros
import Derived.Lib.AppendIntMem
import Derived.Lib.LaidTab
import Derived.LaidLaws
import Derived.IntWalk
namespace Go.Proofs.YtciofobedgmbjabDoor
open Go.RowKit Go.PlainAid
set_option maxHeartbeats 1000000

def tzTab : List Int := Lib.deBruijn64tab.map fun n : Nat => (n : Int)
/-- the table of trailing zeros reads as the library lays it, whatever is done at blocks from B on -/
def Tz (B : Nat) (w : World) : Prop := Lib.TabBelow Tryd.prog B w "math/bits.deBruijn64tab" .u8 tzTab
theorem Tz.on {B : Nat} {w w1 : World} (h : Tz B w) (hb : Below B w w1) : Tz B w1 := Lib.TabBelow.on h hb
theorem tz_laid {r : List (String × DataW Unit)} {w : World} (h : laidMet Tryd.prog (("math/bits.deBruijn64tab", Rows.laid_math_bits_deBruijn64tab) :: r) w) : Tz w.heap.size w := by
  have e : (Rows.laid_math_bits_deBruijn64tab : DataW Unit) = Lib.tabData .u8 tzTab := by kernel_rfl
  rw [e] at h
  exact Lib.tabBelow_of_tabIs (Lib.tabIs_of_head (g := 1) (t := 68) (e := 5) (n := 64) (by kernel_rfl) (by kernel_rfl) Tryd.underlying68 Tryd.underlying5 (by kernel_rfl) (by kernel_rfl) h)
theorem tzTab_get (i : Nat) : tzTab.getD i 0 = (Lib.deBruijn64tab.getD i 0 : Nat) := by
  unfold tzTab
  rw [List.getD_eq_getElem?_getD, List.getD_eq_getElem?_getD, List.getElem?_map]
  cases Lib.deBruijn64tab[i]? <;> rfl
theorem tz_cell {B : Nat} {w : World} (h : Tz B w) (i : Nat) (hi : i < 64) : w.cell? ⟨1, i, none⟩ = some (.int .u8 (Lib.deBruijn64tab.getD i 0 : Nat)) := by
  have h1 := World.var?_cell (g := 1) (by kernel_rfl) h.here i
  have hl : tzTab.length = 64 := by decide
  rw [h1]
  have h2 : tzTab[i]? = some (tzTab.getD i 0) := by rw [List.getD_eq_getElem?_getD, List.getElem?_eq_getElem (by omega)]; rfl
  simp only [List.getElem?_toArray, List.getElem?_map, h2, Option.map_some]
  rw [tzTab_get]
theorem tz_key (x a : Nat) (hx : x < 18446744073709551616) (hx0 : x ≠ 0) (hlow : x &&& (18446744073709551616 - x) = a) :
    IntKind.u64.wrap (bits BinOp.and IntKind.u64 (x : Int) (IntKind.u64.wrap (-(x : Int))) * 285870213051353865) / 288230376151711744 = ((a * 285870213051353865 % 18446744073709551616 / 288230376151711744 : Nat) : Int) := by
  have e1 : IntKind.u64.wrap (-(x : Int)) = ((18446744073709551616 - x : Nat) : Int) := by rw [IntKind.wrap_u64]; omega
  have h : x &&& (18446744073709551616 - x) ≤ x := Nat.and_le_left
  have e2 : bits .and .u64 (x : Int) ((18446744073709551616 - x : Nat) : Int) = ((x &&& (18446744073709551616 - x) : Nat) : Int) := by
    show IntKind.u64.wrap ((BitVec.ofInt 64 (x : Int) &&& BitVec.ofInt 64 ((18446744073709551616 - x : Nat) : Int)).toNat : Int) = _
    rw [BitVec.toNat_and, BitVec.ofInt_natCast, BitVec.ofInt_natCast, BitVec.toNat_ofNat, BitVec.toNat_ofNat, Nat.mod_eq_of_lt (by omega), Nat.mod_eq_of_lt (by omega), IntKind.wrap_u64]
    omega
  rw [e1, e2, hlow, IntKind.wrap_u64]
  omega
theorem tz_zero (w : World) : Calls Tryd.prog 36 #[.int .u64 0] w fun e w' => e = .returned (.int .i64 64) ∧ w = w' := by
  go_enter Tryd.func36, Tryd.ntmps36
  go_wp2
  go_ret
  exact ⟨rfl, rfl⟩
theorem tz_core (x k idx : Nat) (w : World) (hb : ((x : Int) == 0) = false) (key : IntKind.u64.wrap (bits BinOp.and IntKind.u64 (x : Int) (IntKind.u64.wrap (-(x : Int))) * 285870213051353865) / 288230376151711744 = (idx : Int))
    (hi : idx < 64) (hk : k < 64) (hcell : w.cell? ⟨1, idx, none⟩ = some (.int .u8 k)) :
    Calls Tryd.prog 36 #[.int .u64 x] w fun e w' => e = .returned (.int .i64 k) ∧ w = w' := by
  go_enter Tryd.func36, Tryd.ntmps36
  go_wp2_with (simp only [key])
  go_ret
  exact ⟨rfl, rfl⟩
theorem ctz_zero : ((Lib.ctz 64 0 : Nat) : Int) = 64 := by decide
theorem tz_any (x : Nat) (hx : x < 1000000000000) (B : Nat) (w : World) (hT : Tz B w) :
    Calls Tryd.prog 36 #[.int .u64 x] w fun e w' => e = .returned (.int .i64 (Lib.ctz 64 x)) ∧ w = w' := by
  by_cases hx0 : x = 0
  · subst hx0
    rw [ctz_zero]
    exact tz_zero w
  · obtain ⟨hlow, hk⟩ := Lib.lowest_bit 64 x hx0 (by omega)
    obtain ⟨hi, htab⟩ := Lib.deBruijn64_at _ hk
    have hcell := tz_cell hT _ hi
    rw [htab] at hcell
    exact tz_core x _ _ w (by simp; omega) (tz_key x _ (by omega) hx0 hlow) hi hk hcell
theorem ctz_pow : ∀ k, k < 21 → Lib.ctz 64 (2 ^ k) = k := by decide +kernel
end Go.Proofs.YtciofobedgmbjabDoor
