/- Tempers: six numbers in a block; whether they are valid: impl and spec; the words. -/
import Derived.Test.YtciofobedgmbjaaAreB
import Derived.Test.YtciofobedgmbjaaCon
import Derived.Test.YtciofobedgmbjaaTM
namespace Go.Proofs.Ytciofobedgmbjaa
open Go.RowKit Go.PlainAid
set_option maxHeartbeats 800000

/-- six numbers in block b, whatever was done behind the first blocks -/
def T6 (B : Nat) (w : World) (b : Nat) (d1 u1 m1 u2 m2 d2 : Int) (V : World) : Prop :=
  (V.cell? ⟨b, 0, none⟩ = some (.int .i64 d1) ∧ V.cell? ⟨b, 1, none⟩ = some (.int .i64 u1) ∧ V.cell? ⟨b, 2, none⟩ = some (.int .i64 m1) ∧ V.cell? ⟨b, 3, none⟩ = some (.int .i64 u2) ∧ V.cell? ⟨b, 4, none⟩ = some (.int .i64 m2) ∧ V.cell? ⟨b, 5, none⟩ = some (.int .i64 d2)) ∧ B ≤ b ∧ b < V.heap.size ∧ Below B w V
theorem T6.far {B b : Nat} {w V V1 : World} {d1 u1 m1 u2 m2 d2 : Int} (h : T6 B w b d1 u1 m1 u2 m2 d2 V) (hb : Below V.heap.size V V1) : T6 B w b d1 u1 m1 u2 m2 d2 V1 := by
  obtain ⟨⟨h0, h1, h2, h3, h4, h5⟩, hB, hlt, ha⟩ := h
  exact ⟨⟨(hb.cell (p := ⟨b, 0, none⟩) hlt).trans h0, (hb.cell (p := ⟨b, 1, none⟩) hlt).trans h1, (hb.cell (p := ⟨b, 2, none⟩) hlt).trans h2, (hb.cell (p := ⟨b, 3, none⟩) hlt).trans h3, (hb.cell (p := ⟨b, 4, none⟩) hlt).trans h4, (hb.cell (p := ⟨b, 5, none⟩) hlt).trans h5⟩, hB, Nat.lt_of_lt_of_le hlt hb.size, ha.trans (hb.mono (by omega))⟩
theorem T6.new (w : World) (d1 u1 m1 u2 m2 d2 : Int) (t : TypeId) : T6 w.heap.size w w.heap.size d1 u1 m1 u2 m2 d2 (w.alloc (.cells #[.int .i64 d1, .int .i64 u1, .int .i64 m1, .int .i64 u2, .int .i64 m2, .int .i64 d2] t)) :=
  ⟨⟨by simp [go_sem], by simp [go_sem], by simp [go_sem], by simp [go_sem], by simp [go_sem], by simp [go_sem]⟩, Nat.le_refl _, by simp, (Below.refl w.heap.size w).alloc (Nat.le_refl _) _⟩
theorem T6.all {B b : Nat} {w V : World} {d1 u1 m1 u2 m2 d2 : Int} (h : T6 B w b d1 u1 m1 u2 m2 d2 V) : Below B w V := h.2.2.2

/-- a valid temper -/
def TemP (d1 u1 m1 u2 m2 d2 : Int) : Prop := (1 ≤ d1 ∧ d1 ≤ 16) ∧ (1 ≤ u1 ∧ u1 ≤ 16) ∧ (1 ≤ u2 ∧ u2 ≤ 16) ∧ (1 ≤ d2 ∧ d2 ≤ 16) ∧ (0 ≤ m1 ∧ m1 ≤ 65535) ∧ (0 ≤ m2 ∧ m2 ≤ 65535)
instance (d1 u1 m1 u2 m2 d2 : Int) : Decidable (TemP d1 u1 m1 u2 m2 d2) := by unfold TemP; infer_instance
theorem TemP.nat {d1 u1 m1 u2 m2 d2 : Int} (h : TemP d1 u1 m1 u2 m2 d2) : ∃ t : G2.Tm, d1 = t.d1 ∧ u1 = t.u1 ∧ m1 = t.m1 ∧ u2 = t.u2 ∧ m2 = t.m2 ∧ d2 = t.d2 ∧ t.ok := by
  obtain ⟨h1, h2, h3, h4, h5, h6⟩ := h
  exact ⟨⟨d1.toNat, u1.toNat, m1.toNat, u2.toNat, m2.toNat, d2.toNat⟩, by simp; omega, by simp; omega, by simp; omega, by simp; omega, by simp; omega, by simp; omega, by simp only [G2.Tm.ok]; omega⟩

/-- the first of six conditions that fails -/
theorem six_cases (b1 b2 b3 b4 b5 : Bool) : b1 = false ∨ (b1 = true ∧ b2 = false) ∨ (b1 = true ∧ b2 = true ∧ b3 = false) ∨ (b1 = true ∧ b2 = true ∧ b3 = true ∧ b4 = false) ∨ (b1 = true ∧ b2 = true ∧ b3 = true ∧ b4 = true ∧ b5 = false) ∨ (b1 = true ∧ b2 = true ∧ b3 = true ∧ b4 = true ∧ b5 = true) := by
  cases b1 <;> cases b2 <;> cases b3 <;> cases b4 <;> cases b5 <;> simp
theorem four_all (d1 u1 u2 d2 : Int) : (∀ (i : Nat) (x : Int), [d1, u1, u2, d2][i]? = some x → 1 ≤ x ∧ x ≤ 16) ↔ ((1 ≤ d1 ∧ d1 ≤ 16) ∧ (1 ≤ u1 ∧ u1 ≤ 16) ∧ (1 ≤ u2 ∧ u2 ≤ 16) ∧ (1 ≤ d2 ∧ d2 ≤ 16)) := by
  constructor
  · intro h
    exact ⟨h 0 d1 rfl, h 1 u1 rfl, h 2 u2 rfl, h 3 d2 rfl⟩
  · rintro ⟨h0, h1, h2, h3⟩ i x hx
    match i, hx with
    | 0, hx => cases hx; exact h0
    | 1, hx => cases hx; exact h1
    | 2, hx => cases hx; exact h2
    | 3, hx => cases hx; exact h3
    | i + 4, hx => simp at hx
theorem ro_four {top : Nat} {W : World} {g : Nat} {d1 u1 u2 d2 : Int} (hg : g < top) (h0 : W.cell? ⟨g, 0, none⟩ = some (.int .i64 d1)) (h1 : W.cell? ⟨g, 1, none⟩ = some (.int .i64 u1)) (h2 : W.cell? ⟨g, 2, none⟩ = some (.int .i64 u2)) (h3 : W.cell? ⟨g, 3, none⟩ = some (.int .i64 d2)) : RO top W (some ⟨g, 0, none⟩) [d1, u1, u2, d2] := by
  intro i x hx
  refine ⟨g, 0, rfl, hg, ?_⟩
  rw [Nat.zero_add]
  match i, hx with
  | 0, hx => cases hx; exact h0
  | 1, hx => cases hx; exact h1
  | 2, hx => cases hx; exact h2
  | 3, hx => cases hx; exact h3
  | i + 4, hx => simp at hx
end Go.Proofs.Ytciofobedgmbjaa
