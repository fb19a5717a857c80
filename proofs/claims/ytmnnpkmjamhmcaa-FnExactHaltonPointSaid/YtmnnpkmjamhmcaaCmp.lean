/- Fractions compared: spec.l01Less, impl.CompareFractions. -/
import Derived.Test.YtmnnpkmjamhmcaaWide2
import Derived.Deep.RegionHeld3
namespace Go.Proofs.Ytmnnpkmjamhmcaa
open Go.RowKit Go.PlainAid
set_option maxHeartbeats 800000

def Nat126 (z : Int) : Prop := 0 ≤ z ∧ z < 85070591730234615865843651857942052864

/-- two structs of two fields in the first two blocks from w on stand in W, and nothing below has changed -/
def Two (w W : World) (x y p q : Value) : Prop := Below w.heap.size w W ∧ w.heap.size + 1 < W.heap.size ∧ W.cell? ⟨w.heap.size, 0, none⟩ = some x ∧ W.cell? ⟨w.heap.size, 1, none⟩ = some y ∧ W.cell? ⟨w.heap.size + 1, 0, none⟩ = some p ∧ W.cell? ⟨w.heap.size + 1, 1, none⟩ = some q
theorem Two.call {w W w1 : World} {x y p q : Value} (h : Two w W x y p q) (hb : Below W.heap.size W w1) : Two w w1 x y p q := by
  obtain ⟨h0, h1, h2, h3, h4, h5⟩ := h
  refine ⟨h0.trans (hb.mono (by omega)), Nat.lt_of_lt_of_le h1 hb.size, ?_, ?_, ?_, ?_⟩ <;> (rw [hb.cell (by simp; omega)]; assumption)
theorem Two.drew {w W : World} {x y p q : Value} (h : Two w W x y p q) : Two w W.drew x y p q := by
  obtain ⟨h0, h1, h2, h3, h4, h5⟩ := h
  exact ⟨h0.drew, h1, h2, h3, h4, h5⟩

def sgn (z : Int) : Int := if z < 0 then -1 else if z = 0 then 0 else 1
theorem prod60 (a b : Int) (h1 : -1000000000000000000 ≤ a) (h2 : a ≤ 1000000000000000000) (h3 : 0 ≤ b) (h4 : b ≤ 1000000000000000000) : -1000000000000000000000000000000000000 ≤ a * b ∧ a * b ≤ 1000000000000000000000000000000000000 := by
  have x1 := Int.mul_le_mul_of_nonneg_right h2 h3
  have x2 := Int.mul_le_mul_of_nonneg_right h1 h3
  have x3 := Int.mul_le_mul_of_nonneg_left h4 (show (0 : Int) ≤ 1000000000000000000 by omega)
  omega

theorem sum60 (x y : Int) (h : -1000000000000000000000000000000000000 ≤ x ∧ x ≤ 1000000000000000000000000000000000000) (k : -1000000000000000000000000000000000000 ≤ y ∧ y ≤ 1000000000000000000000000000000000000) : -170141183460469231731687303715884105728 ≤ x + y ∧ x + y < 170141183460469231731687303715884105728 := by omega

end Go.Proofs.Ytmnnpkmjamhmcaa
