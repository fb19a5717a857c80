/- Fractions compared: spec.l01Less, impl.CompareFractions. -/
import Derived.Test.YtjbojamhnapkpabWide2
import Derived.Deep.RegionHeld3
namespace Go.Proofs.Ytjbojamhnapkpab
open Go.RowKit Go.PlainAid
set_option maxHeartbeats 800000

def Nat126 (z : Int) : Prop := 0 ≤ z ∧ z < 85070591730234615865843651857942052864

theorem less_yes (X Y : Int) (w : World) (hX : Nat126 X) (hY : Nat126 Y) (h : X < Y) :
    Calls Try.prog 106 #[.agg #[.int .u64 (hiU X), .int .u64 (loU X)], .agg #[.int .u64 (hiU Y), .int .u64 (loU Y)]] w fun e w' => e = .returned (.bool true) ∧ Below w.heap.size w w' := by
  obtain ⟨h1, e1⟩ : ∃ x, hiU X = x := ⟨_, rfl⟩
  obtain ⟨l1, e2⟩ : ∃ x, loU X = x := ⟨_, rfl⟩
  obtain ⟨h2, e3⟩ : ∃ x, hiU Y = x := ⟨_, rfl⟩
  obtain ⟨l2, e4⟩ : ∃ x, loU Y = x := ⟨_, rfl⟩
  rw [e1, e2, e3, e4]
  obtain ⟨x1, x2⟩ := hX
  obtain ⟨y1, y2⟩ := hY
  unfold hiU at e1 e3
  unfold loU at e2 e4
  by_cases c : h1 < h2
  · have f1 : decide (h1 < h2) = true := by simp [c]
    clear c e1 e2 e3 e4 x1 x2 y1 y2 h
    go_enter Try.func106, Try.ntmps106
    go_wp2
    go_ret
    exact ⟨rfl, by go_grown⟩
  · have f1 : decide (h1 < h2) = false := by simp; omega
    have f2 : (h1 == h2) = true := by simp; omega
    have f3 : decide (l1 < l2) = true := by simp; omega
    clear c e1 e2 e3 e4 x1 x2 y1 y2 h
    go_enter Try.func106, Try.ntmps106
    go_wp2
    go_ret
    exact ⟨rfl, by go_grown⟩
theorem less_no (X Y : Int) (w : World) (hX : Nat126 X) (hY : Nat126 Y) (h : ¬ X < Y) :
    Calls Try.prog 106 #[.agg #[.int .u64 (hiU X), .int .u64 (loU X)], .agg #[.int .u64 (hiU Y), .int .u64 (loU Y)]] w fun e w' => e = .returned (.bool false) ∧ Below w.heap.size w w' := by
  obtain ⟨h1, e1⟩ : ∃ x, hiU X = x := ⟨_, rfl⟩
  obtain ⟨l1, e2⟩ : ∃ x, loU X = x := ⟨_, rfl⟩
  obtain ⟨h2, e3⟩ : ∃ x, hiU Y = x := ⟨_, rfl⟩
  obtain ⟨l2, e4⟩ : ∃ x, loU Y = x := ⟨_, rfl⟩
  rw [e1, e2, e3, e4]
  obtain ⟨x1, x2⟩ := hX
  obtain ⟨y1, y2⟩ := hY
  unfold hiU at e1 e3
  unfold loU at e2 e4
  have f1 : decide (h1 < h2) = false := by simp; omega
  by_cases c : h1 = h2
  · have f2 : (h1 == h2) = true := by simp [c]
    have f3 : decide (l1 < l2) = false := by simp; omega
    clear c e1 e2 e3 e4 x1 x2 y1 y2 h
    go_enter Try.func106, Try.ntmps106
    go_wp2
    go_ret
    exact ⟨rfl, by go_grown⟩
  · have f2 : (h1 == h2) = false := by simp [c]
    clear c e1 e2 e3 e4 x1 x2 y1 y2 h
    go_enter Try.func106, Try.ntmps106
    go_wp2
    go_ret
    exact ⟨rfl, by go_grown⟩

/-- two structs of two fields in the first two blocks from w on stand in W, and nothing below has changed -/
def Two (w W : World) (x y p q : Value) : Prop := Below w.heap.size w W ∧ w.heap.size + 1 < W.heap.size ∧ W.cell? ⟨w.heap.size, 0, none⟩ = some x ∧ W.cell? ⟨w.heap.size, 1, none⟩ = some y ∧ W.cell? ⟨w.heap.size + 1, 0, none⟩ = some p ∧ W.cell? ⟨w.heap.size + 1, 1, none⟩ = some q
theorem Two.call {w W w1 : World} {x y p q : Value} (h : Two w W x y p q) (hb : Below W.heap.size W w1) : Two w w1 x y p q := by
  obtain ⟨h0, h1, h2, h3, h4, h5⟩ := h
  refine ⟨h0.trans (hb.mono (by omega)), Nat.lt_of_lt_of_le h1 hb.size, ?_, ?_, ?_, ?_⟩ <;> (rw [hb.cell (by simp; omega)]; assumption)
theorem Two.drew {w W : World} {x y p q : Value} (h : Two w W x y p q) : Two w W.drew x y p q := by
  obtain ⟨h0, h1, h2, h3, h4, h5⟩ := h
  exact ⟨h0.drew, h1, h2, h3, h4, h5⟩

def sgn (z : Int) : Int := if z < 0 then -1 else if z = 0 then 0 else 1
theorem sign_any (z : Int) (w : World) (h1 : -170141183460469231731687303715884105728 ≤ z) (h2 : z < 170141183460469231731687303715884105728) :
    Calls Try.prog 130 #[.agg #[.int .u64 (hiU z), .int .u64 (loU z)]] w fun e w' => e = .returned (.int .i64 (sgn z)) ∧ Below w.heap.size w w' := by
  unfold sgn
  by_cases a : z < 0
  · rw [if_pos a]; exact sign_neg z _ _ w rfl a h1
  · rw [if_neg a]
    by_cases b : z = 0
    · rw [if_pos b]; exact sign_zero z _ _ w rfl rfl b
    · rw [if_neg b]; exact sign_pos z _ _ w rfl rfl (by omega) h2

theorem prod60 (a b : Int) (h1 : -1000000000000000000 ≤ a) (h2 : a ≤ 1000000000000000000) (h3 : 0 ≤ b) (h4 : b ≤ 1000000000000000000) : -1000000000000000000000000000000000000 ≤ a * b ∧ a * b ≤ 1000000000000000000000000000000000000 := by
  have x1 := Int.mul_le_mul_of_nonneg_right h2 h3
  have x2 := Int.mul_le_mul_of_nonneg_right h1 h3
  have x3 := Int.mul_le_mul_of_nonneg_left h4 (show (0 : Int) ≤ 1000000000000000000 by omega)
  omega

theorem sum60 (x y : Int) (h : -1000000000000000000000000000000000000 ≤ x ∧ x ≤ 1000000000000000000000000000000000000) (k : -1000000000000000000000000000000000000 ≤ y ∧ y ≤ 1000000000000000000000000000000000000) : -170141183460469231731687303715884105728 ≤ x + y ∧ x + y < 170141183460469231731687303715884105728 := by omega

end Go.Proofs.Ytjbojamhnapkpab
