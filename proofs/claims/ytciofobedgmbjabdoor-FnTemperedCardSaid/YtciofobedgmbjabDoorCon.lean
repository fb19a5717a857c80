/- Congruences: whether they are valid, their steps: impl and spec; the laws FnExactValidCongruence and FnExactNextState. -/
import Derived.Test.YtciofobedgmbjabDoorBtw
import Derived.Test.YtciofobedgmbjabDoorConMath
import Derived.Deep.QuietTactic
import Derived.BigQuiet
import Derived.RegionTactic
import Derived.ChangeAlike
import Derived.WalkSmall
import Derived.Laws.Pointers
namespace Go.Proofs.YtciofobedgmbjabDoor
open Go.RowKit Go.PlainAid
set_option maxHeartbeats 400000

theorem drawn_two (W : World) (a b : Nat) : (W.drewN a).drewN b = W.drewN (a + b) := by simp [World.drewN, Nat.add_assoc]
theorem quietK {P : Program} {f : FuncId} {args : Array Value} {W : World} {n : Nat} {v : Value} (h : Calls P f args (W.drewN n) fun e w' => e = .returned v ∧ W.drewN n = w') :
    Calls P f args (W.drewN n) fun e w'' => e = .returned v ∧ ∃ m, w'' = W.drewN m := h.mono fun _ _ ⟨he, hw⟩ => ⟨he, n, hw.symm⟩
/-- a congruence in block b behind other blocks -/
def KAt (B : Nat) (w : World) (b : Nat) (x y z : Value) (V : World) : Prop := V.cell? ⟨b, 0, none⟩ = some x ∧ V.cell? ⟨b, 1, none⟩ = some y ∧ V.cell? ⟨b, 2, none⟩ = some z ∧ B ≤ b ∧ b < V.heap.size ∧ Below B w V
theorem KAt.below {B b : Nat} {w V V1 : World} {x y z : Value} (h : KAt B w b x y z V) (hb : Below V.heap.size V V1) : KAt B w b x y z V1 := by
  obtain ⟨h0, h1, h2, hB, hlt, ha⟩ := h
  exact ⟨(hb.cell (p := ⟨b, 0, none⟩) hlt).trans h0, (hb.cell (p := ⟨b, 1, none⟩) hlt).trans h1, (hb.cell (p := ⟨b, 2, none⟩) hlt).trans h2, hB, Nat.lt_of_lt_of_le hlt hb.size, ha.trans (hb.mono (by omega))⟩
theorem KAt.drewN {B b : Nat} {w V : World} {x y z : Value} (h : KAt B w b x y z V) (m : Nat) : KAt B w b x y z (V.drewN m) :=
  ⟨h.1, h.2.1, h.2.2.1, h.2.2.2.1, h.2.2.2.2.1, below_drewN h.2.2.2.2.2 m⟩
theorem KAt.new (w : World) (x y z : Value) (t : TypeId) : KAt w.heap.size w w.heap.size x y z (w.alloc (.cells #[x, y, z] t)) :=
  ⟨by simp [go_sem], by simp [go_sem], by simp [go_sem], Nat.le_refl _, by simp, (Below.refl w.heap.size w).alloc (Nat.le_refl _) _⟩
theorem KAt.all {B b : Nat} {w V : World} {x y z : Value} (h : KAt B w b x y z V) : Below B w V := h.2.2.2.2.2

/-- a valid congruence -/
def ConP (m a c : Int) : Prop := (2 ≤ m ∧ m ≤ 100000) ∧ (0 ≤ a ∧ a ≤ m - 1) ∧ (0 ≤ c ∧ c ≤ m - 1)
instance (m a c : Int) : Decidable (ConP m a c) := by unfold ConP; infer_instance
theorem ConP.nat {m a c : Int} (h : ConP m a c) : ∃ M A C : Nat, m = M ∧ a = A ∧ c = C ∧ 2 ≤ M ∧ M ≤ 100000 ∧ A < M ∧ C < M := by
  obtain ⟨h1, h2, h3⟩ := h
  exact ⟨m.toNat, a.toNat, c.toNat, by omega, by omega, by omega, by omega, by omega, by omega, by omega⟩
theorem conP_nat {M A C : Nat} (h1 : 2 ≤ M) (h2 : M ≤ 100000) (h3 : A < M) (h4 : C < M) : ConP M A C := ⟨by omega, by omega, by omega⟩
/-- a valid congruence and a state of it -/
def ConS (m a c x : Int) : Prop := ConP m a c ∧ 0 ≤ x ∧ x ≤ m - 1
instance (m a c x : Int) : Decidable (ConS m a c x) := by unfold ConS; infer_instance
theorem ConS.nat {m a c x : Int} (h : ConS m a c x) : ∃ M A C X : Nat, m = M ∧ a = A ∧ c = C ∧ x = X ∧ 2 ≤ M ∧ M ≤ 100000 ∧ A < M ∧ C < M ∧ X < M := by
  obtain ⟨h1, h2⟩ := h
  obtain ⟨M, A, C, rfl, rfl, rfl, h3, h4, h5, h6⟩ := h1.nat
  exact ⟨M, A, C, x.toNat, rfl, rfl, rfl, by omega, h3, h4, h5, h6, by omega⟩
theorem conS_nat {M A C X : Nat} (h1 : 2 ≤ M) (h2 : M ≤ 100000) (h3 : A < M) (h4 : C < M) (h5 : X < M) : ConS M A C X := ⟨conP_nat h1 h2 h3 h4, by omega, by omega⟩

theorem retI {a b : Int} (h : a = b) : Ending.returned (.int .i64 a) = .returned (.int .i64 b) := by rw [h]
end Go.Proofs.YtciofobedgmbjabDoor
