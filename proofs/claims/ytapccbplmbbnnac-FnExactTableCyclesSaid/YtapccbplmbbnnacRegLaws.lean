/- The laws FnExactValidRegister, FnExactStepRegister, FnExactPolyOf; the polynomial of a register. -/
import Derived.Test.YtapccbplmbbnnacReg
namespace Go.Proofs.Ytapccbplmbbnnac
open Go.RowKit Go.PlainAid
set_option maxHeartbeats 400000

/-- the polynomial of a register -/
def polyN2 (W t : Nat) : Nat := t + 2 ^ W
theorem or_poly {W t : Nat} (hW : W ≤ 16) (ht : t < 2 ^ W) : bits .or .i64 (2 ^ W) (t : Int) = (polyN2 W t : Nat) := by
  have h2 : 2 ^ W ≤ 2 ^ 16 := Nat.pow_le_pow_right (by omega) hW
  have e : (2 : Int) ^ W = ((2 ^ W : Nat) : Int) := by simp
  have h3 := or_above ht 1
  rw [e, i64_orN _ _ (by omega) (by omega), Nat.or_comm]
  unfold polyN2
  rw [Nat.mul_one] at h3
  rw [h3]
theorem poly_any (W t : Nat) (w : World) (hW : W ≤ 16) (ht : t < 2 ^ W) :
    Calls Try.prog 38 #[.agg #[.int .i64 W, .int .i64 t]] w fun e w' => e = .returned (.int .i64 (polyN2 W t)) ∧ Below w.heap.size w w' := by
  have E := or_poly hW ht
  obtain ⟨P, hP⟩ : ∃ P : Int, 2 ^ W = P := ⟨_, rfl⟩
  obtain ⟨p1, p2⟩ := pow62 W (by omega)
  rw [hP] at p1 p2 E
  clear ht
  go_enter Try.func38, Try.ntmps38
  go_wp2
  go_quiet (fail)
  go_wp2
  go_ret
  exact ⟨rfl, below_drewN ((Below.refl _ _).alloc (Nat.le_refl _) _) _⟩
theorem polyOf_yes (W t : Nat) (w : World) (hW : W ≤ 16) (ht : t < 2 ^ W) (hp : RegP W t) :
    Calls Try.prog 18 #[.agg #[.int .i64 W, .int .i64 t]] w fun e w' => e = .returned (.tuple #[.int .i64 (polyN2 W t), .bool true]) ∧ Below w.heap.size w w' := by
  have HS := Lib.hid hp
  have H1 := Lib.hid ht
  clear hp ht
  go_enter Try.func18, Try.ntmps18
  go_wp2_with fail
  refine (valid_b _ _ true _ (decide_eq_true HS.out)).mono ?_
  rintro e w1 ⟨rfl, hb⟩
  obtain ⟨b1, z1, c1, d1⟩ := keepR (b := w.heap.size) (x := .int .i64 W) (y := .int .i64 t) ((Below.refl w.heap.size w).alloc (Nat.le_refl _) _) hb (Nat.le_refl _) (by simp) (by simp [go_sem]) (by simp [go_sem])
  clear hb
  go_wp2_with fail
  refine (poly_any W t _ hW H1.out).mono ?_
  rintro e w2 ⟨rfl, hb⟩
  obtain ⟨b2, _⟩ := keepR b1 hb (Nat.le_refl _) z1 c1 d1
  clear hb b1 z1 c1 d1
  go_wp2
  go_ret2
  exact ⟨rfl, b2⟩
theorem polyOf_no (x t : Int) (w : World) (h : ¬ RegP x t) :
    Calls Try.prog 18 #[.agg #[.int .i64 x, .int .i64 t]] w fun e w' => e = .returned (.tuple #[.int .i64 0, .bool false]) ∧ Below w.heap.size w w' := by
  have HS := Lib.hid h
  clear h
  go_enter Try.func18, Try.ntmps18
  go_wp2_with fail
  refine (valid_b _ _ false _ (decide_eq_false HS.out)).mono ?_
  rintro e w1 ⟨rfl, hb⟩
  have b1 := ((Below.refl w.heap.size w).alloc (Nat.le_refl _) _).trans (hb.mono (by simp))
  clear hb
  go_wp2
  go_ret2
  exact ⟨rfl, b1⟩
end Go.Proofs.Ytapccbplmbbnnac
