/- Tempers: six numbers in a block; whether they are valid: impl and spec; the words. -/
import Derived.Test.YtciofobedgmbjabDoorAreB
import Derived.Test.YtciofobedgmbjabDoorCon
import Derived.Test.YtciofobedgmbjabDoorTM
namespace Go.Proofs.YtciofobedgmbjabDoor
open Go.RowKit Go.PlainAid
set_option maxHeartbeats 800000

/-- six numbers in block b, whatever was done behind the first blocks -/
def T6 (B : Nat) (w : World) (b : Nat) (d1 u1 m1 u2 m2 d2 : Int) (V : World) : Prop :=
  (V.cell? ⟨b, 0, none⟩ = some (.int .i64 d1) ∧ V.cell? ⟨b, 1, none⟩ = some (.int .i64 u1) ∧ V.cell? ⟨b, 2, none⟩ = some (.int .i64 m1) ∧ V.cell? ⟨b, 3, none⟩ = some (.int .i64 u2) ∧ V.cell? ⟨b, 4, none⟩ = some (.int .i64 m2) ∧ V.cell? ⟨b, 5, none⟩ = some (.int .i64 d2)) ∧ B ≤ b ∧ b < V.heap.size ∧ Below B w V
theorem T6.far {B b : Nat} {w V V1 : World} {d1 u1 m1 u2 m2 d2 : Int} (h : T6 B w b d1 u1 m1 u2 m2 d2 V) (hb : Below V.heap.size V V1) : T6 B w b d1 u1 m1 u2 m2 d2 V1 := by
  obtain ⟨⟨h0, h1, h2, h3, h4, h5⟩, hB, hlt, ha⟩ := h
  exact ⟨⟨(hb.cell (p := ⟨b, 0, none⟩) hlt).trans h0, (hb.cell (p := ⟨b, 1, none⟩) hlt).trans h1, (hb.cell (p := ⟨b, 2, none⟩) hlt).trans h2, (hb.cell (p := ⟨b, 3, none⟩) hlt).trans h3, (hb.cell (p := ⟨b, 4, none⟩) hlt).trans h4, (hb.cell (p := ⟨b, 5, none⟩) hlt).trans h5⟩, hB, Nat.lt_of_lt_of_le hlt hb.size, ha.trans (hb.mono (by omega))⟩
theorem T6.new (w : World) (d1 u1 m1 u2 m2 d2 : Int) (t : TypeId) : T6 w.heap.size w w.heap.size d1 u1 m1 u2 m2 d2 (w.alloc (.cells #[.int .i64 d1, .int .i64 u1, .int .i64 m1, .int .i64 u2, .int .i64 m2, .int .i64 d2] t)) :=
  ⟨⟨by simp [go_sem], by simp [go_sem], by simp [go_sem], by simp [go_sem], by simp [go_sem], by simp [go_sem]⟩, Nat.le_refl _, by simp, (Below.refl w.heap.size w).alloc (Nat.le_refl _) _⟩
theorem T6.all {B b : Nat} {w V : World} {d1 u1 m1 u2 m2 d2 : Int} (h : T6 B w b d1 u1 m1 u2 m2 d2 V) : Below B w V := h.2.2.2

/-- a valid temper -/
def TemP (d1 u1 m1 u2 m2 d2 : Int) : Prop := (1 ≤ d1 ∧ d1 ≤ 16) ∧ (1 ≤ u1 ∧ u1 ≤ 16) ∧ (1 ≤ u2 ∧ u2 ≤ 16) ∧ (1 ≤ d2 ∧ d2 ≤ 16) ∧ (0 ≤ m1 ∧ m1 ≤ 65535) ∧ (0 ≤ m2 ∧ m2 ≤ 65535)
instance (d1 u1 m1 u2 m2 d2 : Int) : Decidable (TemP d1 u1 m1 u2 m2 d2) := by unfold TemP; infer_instance
theorem TemP.nat {d1 u1 m1 u2 m2 d2 : Int} (h : TemP d1 u1 m1 u2 m2 d2) : ∃ t : G2.Tm, d1 = t.d1 ∧ u1 = t.u1 ∧ m1 = t.m1 ∧ u2 = t.u2 ∧ m2 = t.m2 ∧ d2 = t.d2 ∧ t.ok := by
  obtain ⟨h1, h2, h3, h4, h5, h6⟩ := h
  exact ⟨⟨d1.toNat, u1.toNat, m1.toNat, u2.toNat, m2.toNat, d2.toNat⟩, by simp; omega, by simp; omega, by simp; omega, by simp; omega, by simp; omega, by simp; omega, by simp only [G2.Tm.ok]; omega⟩

theorem isWord_b (n : Int) (b : Bool) (w : World) (h : decide (0 ≤ n ∧ n ≤ 65535) = b) :
    Calls Tryd.prog 17 #[.int .i64 n] w fun e w' => e = .returned (.bool b) ∧ w = w' := by
  have HI : Hid (∀ w : World, Calls Tryd.prog 26 #[.int .i64 n, .int .i64 0, .int .i64 65535] w fun e w' => e = .returned (.bool b) ∧ w = w') := fun w => btw64_b _ _ _ _ h w
  clear h
  go_enter Tryd.func17, Tryd.ntmps17
  go_wp2_with (go_at_call 26; with_reducible refine (HI.out _).mono ?_; rintro e w1 ⟨rfl, rfl⟩)
  go_ret
  exact ⟨rfl, rfl⟩
theorem l08Word_b (n : Int) (b : Bool) (w : World) (h : decide (0 ≤ n ∧ n ≤ 65535) = b) :
    Calls Tryd.prog 15 #[.int .i64 n] w fun e w' => e = .returned (.bool b) ∧ w = w' := by
  have HI : Hid (∀ w : World, Calls Tryd.prog 24 #[.int .i64 n, .int .i64 0, .int .i64 65535] w fun e w' => e = .returned (.bool b) ∧ w = w') := fun w => l00In_b _ _ _ _ h w
  clear h
  go_enter Tryd.func15, Tryd.ntmps15
  go_wp2_with (go_at_call 24; with_reducible refine (HI.out _).mono ?_; rintro e w1 ⟨rfl, rfl⟩)
  go_ret
  exact ⟨rfl, rfl⟩
/-- the first of six conditions that fails -/
theorem six_cases (b1 b2 b3 b4 b5 : Bool) : b1 = false ∨ (b1 = true ∧ b2 = false) ∨ (b1 = true ∧ b2 = true ∧ b3 = false) ∨ (b1 = true ∧ b2 = true ∧ b3 = true ∧ b4 = false) ∨ (b1 = true ∧ b2 = true ∧ b3 = true ∧ b4 = true ∧ b5 = false) ∨ (b1 = true ∧ b2 = true ∧ b3 = true ∧ b4 = true ∧ b5 = true) := by
  cases b1 <;> cases b2 <;> cases b3 <;> cases b4 <;> cases b5 <;> simp
theorem l08Temper_b (g : Nat) (d1 u1 m1 u2 m2 d2 : Int) (b : Bool) (w : World) (hc : w.cell? ⟨g, 0, none⟩ = some (.int .i64 d1) ∧ w.cell? ⟨g, 1, none⟩ = some (.int .i64 u1) ∧ w.cell? ⟨g, 2, none⟩ = some (.int .i64 m1) ∧ w.cell? ⟨g, 3, none⟩ = some (.int .i64 u2) ∧ w.cell? ⟨g, 4, none⟩ = some (.int .i64 m2) ∧ w.cell? ⟨g, 5, none⟩ = some (.int .i64 d2)) (h : decide (TemP d1 u1 m1 u2 m2 d2) = b) :
    Calls Tryd.prog 14 #[.pointer (some ⟨g, 0, none⟩)] w fun e w' => e = .returned (.bool b) ∧ w = w' := by
  obtain ⟨c0, c1, c2, c3, c4, c5⟩ := hc
  obtain ⟨b1, e1⟩ : ∃ b1, decide (1 ≤ d1 ∧ d1 ≤ 16) = b1 := ⟨_, rfl⟩
  obtain ⟨b2, e2⟩ : ∃ b1, decide (1 ≤ u1 ∧ u1 ≤ 16) = b1 := ⟨_, rfl⟩
  obtain ⟨b3, e3⟩ : ∃ b1, decide (1 ≤ u2 ∧ u2 ≤ 16) = b1 := ⟨_, rfl⟩
  obtain ⟨b4, e4⟩ : ∃ b1, decide (1 ≤ d2 ∧ d2 ≤ 16) = b1 := ⟨_, rfl⟩
  obtain ⟨b5, e5⟩ : ∃ b1, decide (0 ≤ m1 ∧ m1 ≤ 65535) = b1 := ⟨_, rfl⟩
  obtain ⟨b6, e6⟩ : ∃ b1, decide (0 ≤ m2 ∧ m2 ≤ 65535) = b1 := ⟨_, rfl⟩
  have HB : Hid (b = (b1 && (b2 && (b3 && (b4 && (b5 && b6)))))) := by unfold Hid; rw [← h, ← e1, ← e2, ← e3, ← e4, ← e5, ← e6]; rw [Bool.eq_iff_iff]; simp only [Bool.and_eq_true, decide_eq_true_eq]; exact Iff.rfl
  have H1 : Hid (∀ w : World, Calls Tryd.prog 24 #[.int .i64 d1, .int .i64 1, .int .i64 16] w fun e w' => e = .returned (.bool b1) ∧ w = w') := fun w => l00In_b _ _ _ _ e1 w
  have H2 : Hid (∀ w : World, Calls Tryd.prog 24 #[.int .i64 u1, .int .i64 1, .int .i64 16] w fun e w' => e = .returned (.bool b2) ∧ w = w') := fun w => l00In_b _ _ _ _ e2 w
  have H3 : Hid (∀ w : World, Calls Tryd.prog 24 #[.int .i64 u2, .int .i64 1, .int .i64 16] w fun e w' => e = .returned (.bool b3) ∧ w = w') := fun w => l00In_b _ _ _ _ e3 w
  have H4 : Hid (∀ w : World, Calls Tryd.prog 24 #[.int .i64 d2, .int .i64 1, .int .i64 16] w fun e w' => e = .returned (.bool b4) ∧ w = w') := fun w => l00In_b _ _ _ _ e4 w
  have H5 : Hid (∀ w : World, Calls Tryd.prog 15 #[.int .i64 m1] w fun e w' => e = .returned (.bool b5) ∧ w = w') := fun w => l08Word_b _ _ w e5
  have H6 : Hid (∀ w : World, Calls Tryd.prog 15 #[.int .i64 m2] w fun e w' => e = .returned (.bool b6) ∧ w = w') := fun w => l08Word_b _ _ w e6
  clear e1 e2 e3 e4 e5 e6 h
  rcases six_cases b1 b2 b3 b4 b5 with rfl | ⟨rfl, rfl⟩ | ⟨rfl, rfl, rfl⟩ | ⟨rfl, rfl, rfl, rfl⟩ | ⟨rfl, rfl, rfl, rfl, rfl⟩ | ⟨rfl, rfl, rfl, rfl, rfl⟩
  all_goals
    simp only [Bool.false_and, Bool.true_and] at HB
    obtain rfl := HB.out
    clear HB
    go_enter Tryd.func14, Tryd.ntmps14
    go_wp2_with (first | (go_at_call 24; first | (with_reducible refine (H1.out _).mono ?_; rintro e w1 ⟨rfl, rfl⟩) | (with_reducible refine (H2.out _).mono ?_; rintro e w1 ⟨rfl, rfl⟩) | (with_reducible refine (H3.out _).mono ?_; rintro e w1 ⟨rfl, rfl⟩) | (with_reducible refine (H4.out _).mono ?_; rintro e w1 ⟨rfl, rfl⟩)) | (go_at_call 15; first | (with_reducible refine (H5.out _).mono ?_; rintro e w1 ⟨rfl, rfl⟩) | (with_reducible refine (H6.out _).mono ?_; rintro e w1 ⟨rfl, rfl⟩)))
    go_ret
    exact ⟨rfl, rfl⟩
theorem four_all (d1 u1 u2 d2 : Int) : (∀ (i : Nat) (x : Int), [d1, u1, u2, d2][i]? = some x → 1 ≤ x ∧ x ≤ 16) ↔ ((1 ≤ d1 ∧ d1 ≤ 16) ∧ (1 ≤ u1 ∧ u1 ≤ 16) ∧ (1 ≤ u2 ∧ u2 ≤ 16) ∧ (1 ≤ d2 ∧ d2 ≤ 16)) := by
  constructor
  · intro h
    exact ⟨h 0 d1 rfl, h 1 u1 rfl, h 2 u2 rfl, h 3 d2 rfl⟩
  · rintro ⟨h0, h1, h2, h3⟩ i x hx
    match i, hx with
    | 0, hx => cases hx; exact h0
    | 1, hx => cases hx; exact h1
    | 2, hx => cases hx; exact h2
    | 3, hx => cases hx; exact h3
    | i + 4, hx => simp at hx
theorem ro_four {top : Nat} {W : World} {g : Nat} {d1 u1 u2 d2 : Int} (hg : g < top) (h0 : W.cell? ⟨g, 0, none⟩ = some (.int .i64 d1)) (h1 : W.cell? ⟨g, 1, none⟩ = some (.int .i64 u1)) (h2 : W.cell? ⟨g, 2, none⟩ = some (.int .i64 u2)) (h3 : W.cell? ⟨g, 3, none⟩ = some (.int .i64 d2)) : RO top W (some ⟨g, 0, none⟩) [d1, u1, u2, d2] := by
  intro i x hx
  refine ⟨g, 0, rfl, hg, ?_⟩
  rw [Nat.zero_add]
  match i, hx with
  | 0, hx => cases hx; exact h0
  | 1, hx => cases hx; exact h1
  | 2, hx => cases hx; exact h2
  | 3, hx => cases hx; exact h3
  | i + 4, hx => simp at hx
theorem validT_b (d1 u1 m1 u2 m2 d2 : Int) (b : Bool) (w : World) (h : decide (TemP d1 u1 m1 u2 m2 d2) = b) :
    Calls Tryd.prog 13 #[.agg #[.int .i64 d1, .int .i64 u1, .int .i64 m1, .int .i64 u2, .int .i64 m2, .int .i64 d2]] w fun e w' => e = .returned (.bool b) ∧ Below w.heap.size w w' := by
  obtain ⟨b1, e1⟩ : ∃ b1, decide ((1 ≤ d1 ∧ d1 ≤ 16) ∧ (1 ≤ u1 ∧ u1 ≤ 16) ∧ (1 ≤ u2 ∧ u2 ≤ 16) ∧ (1 ≤ d2 ∧ d2 ≤ 16)) = b1 := ⟨_, rfl⟩
  obtain ⟨b5, e5⟩ : ∃ b1, decide (0 ≤ m1 ∧ m1 ≤ 65535) = b1 := ⟨_, rfl⟩
  obtain ⟨b6, e6⟩ : ∃ b1, decide (0 ≤ m2 ∧ m2 ≤ 65535) = b1 := ⟨_, rfl⟩
  have HB : Hid (b = (b1 && (b5 && b6))) := by unfold Hid; rw [← h, ← e1, ← e5, ← e6, Bool.eq_iff_iff]; simp only [Bool.and_eq_true, decide_eq_true_eq, TemP, and_assoc]
  have HA : Hid (∀ (W : World) g, RO W.heap.size W (some ⟨g, 0, none⟩) [d1, u1, u2, d2] → Calls Tryd.prog 23 #[.slice (some ⟨g, 0, none⟩) 4 4, .int .i64 1, .int .i64 16] W fun e w' => e = .returned (.bool b1) ∧ W = w') := fun W g hr =>
    areB_any _ 4 4 _ 1 16 W hr rfl (by omega) b1 (by rw [four_all, ← e1, decide_eq_true_eq])
  have H5 : Hid (∀ w : World, Calls Tryd.prog 17 #[.int .i64 m1] w fun e w' => e = .returned (.bool b5) ∧ w = w') := fun w => isWord_b _ _ w e5
  have H6 : Hid (∀ w : World, Calls Tryd.prog 17 #[.int .i64 m2] w fun e w' => e = .returned (.bool b6) ∧ w = w') := fun w => isWord_b _ _ w e6
  clear e1 e5 e6 h
  rcases (show b1 = false ∨ (b1 = true ∧ b5 = false) ∨ (b1 = true ∧ b5 = true) by cases b1 <;> cases b5 <;> simp) with rfl | ⟨rfl, rfl⟩ | ⟨rfl, rfl⟩
  all_goals
    simp only [Bool.false_and, Bool.true_and] at HB
    obtain rfl := HB.out
    clear HB
    go_enter Tryd.func13, Tryd.ntmps13
    have K0 := Lib.hid ((T6.new w d1 u1 m1 u2 m2 d2 26).all.alloc (by simp) (.cells #[.int .i64 d1, .int .i64 u1, .int .i64 u2, .int .i64 d2] 2))
    go_wp2_with (first | (go_at_call 23; refine (HA.out _ _ (ro_four (by simp) (by simp [go_sem]) (by simp [go_sem]) (by simp [go_sem]) (by simp [go_sem]))).mono ?_; rintro e w1 ⟨rfl, rfl⟩) | (go_at_call 17; first | (with_reducible refine (H5.out _).mono ?_; rintro e w1 ⟨rfl, rfl⟩) | (with_reducible refine (H6.out _).mono ?_; rintro e w1 ⟨rfl, rfl⟩)))
    go_ret
    exact ⟨rfl, K0.out⟩
theorem toTem_any (d1 u1 m1 u2 m2 d2 : Int) (w : World) :
    Calls Tryd.prog 6 #[.agg #[.int .i64 d1, .int .i64 u1, .int .i64 m1, .int .i64 u2, .int .i64 m2, .int .i64 d2]] w fun e w' => e = .returned (.agg #[.int .i64 d1, .int .i64 u1, .int .i64 m1, .int .i64 u2, .int .i64 m2, .int .i64 d2]) ∧ Below w.heap.size w w' := by
  go_enter Tryd.func6, Tryd.ntmps6
  go_wp2
  go_returns
  exact ⟨rfl, by go_grown⟩
end Go.Proofs.YtciofobedgmbjabDoor
