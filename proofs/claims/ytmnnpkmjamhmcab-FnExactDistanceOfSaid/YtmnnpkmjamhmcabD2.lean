/- Structs of two cells in blocks of their own. Of no program. -/
import Derived.Test.YtmnnpkmjamhmcabGT
import Derived.WalkKit
namespace Go.Proofs.Ytmnnpkmjamhmcab
open Go.RowKit

/-- a struct of two in block b, writable -/
def D2 (V : World) (b : Nat) (x y : Value) : Prop := (V.cell? ⟨b, 0, none⟩ = some x ∧ V.cell? ⟨b, 1, none⟩ = some y) ∧ V.frozen? ⟨b, 0, none⟩ = false ∧ V.frozen? ⟨b, 1, none⟩ = false
theorem D2.lt {V : World} {b : Nat} {x y : Value} (h : D2 V b x y) : b < V.heap.size := World.block_lt_of_cell? V _ h.1.1
theorem D2.below {V V1 : World} {b n : Nat} {x y : Value} (h : D2 V b x y) (hb : Below n V V1) (hn : b < n) : D2 V1 b x y :=
  ⟨⟨(hb.cell (p := ⟨b, 0, none⟩) hn).trans h.1.1, (hb.cell (p := ⟨b, 1, none⟩) hn).trans h.1.2⟩, (hb.frozen (p := ⟨b, 0, none⟩) hn).trans h.2.1, (hb.frozen (p := ⟨b, 1, none⟩) hn).trans h.2.2⟩
theorem D2.far {V V1 : World} {b : Nat} {x y : Value} (h : D2 V b x y) (hb : Below V.heap.size V V1) : D2 V1 b x y := h.below hb h.lt
theorem D2.new (w : World) (x y : Value) (t : TypeId) : D2 (w.alloc (.cells #[x, y] t)) w.heap.size x y := ⟨⟨by simp [go_sem], by simp [go_sem]⟩, by simp [go_sem], by simp [go_sem]⟩
theorem D2.alloc {V : World} {b : Nat} {x y : Value} (h : D2 V b x y) (o : Obj) : D2 (V.alloc o) b x y := h.below ((Below.refl _ V).alloc (Nat.le_refl _) o) h.lt
theorem D2.drewN {V : World} {b : Nat} {x y : Value} (h : D2 V b x y) (m : Nat) : D2 (V.drewN m) b x y := h
theorem D2.drew {V : World} {b : Nat} {x y : Value} (h : D2 V b x y) : D2 V.drew b x y := h
theorem D2.gt {V : World} {b : Nat} {x y : Value} (h : D2 V b x y) : (∀ q : GT V, q.w.cell? ⟨b, 0, none⟩ = some x) ∧ (∀ q : GT V, q.w.cell? ⟨b, 1, none⟩ = some y) := ⟨fun q => gt_cell h.1.1 q, fun q => gt_cell h.1.2 q⟩
/-- the world behind a struct that is stored -/
def putD (V : World) (b : Nat) (x y : Value) : World := (V.setCell ⟨b, 0, none⟩ x).setCell ⟨b, 1, none⟩ y
theorem cell_otherD {V : World} {p q : Addr} {v : Value} (h : p ≠ q) : (V.setCell p v).cell? q = V.cell? q := World.cell?_setCell_other V _ _ _ h
theorem addr_neD {b c i j : Nat} (h : i ≠ j ∨ b ≠ c) : (⟨b, i, none⟩ : Addr) ≠ ⟨c, j, none⟩ := fun e => by
  have h1 := congrArg Addr.block e
  have h2 := congrArg Addr.off e
  simp at h1 h2
  omega
theorem D2.put {V : World} {b : Nat} {x y : Value} (h : D2 V b x y) (x' y' : Value) : D2 (putD V b x' y') b x' y' := by
  obtain ⟨⟨h0, h1⟩, f0, f1⟩ := h
  unfold putD
  refine ⟨⟨?_, ?_⟩, ?_, ?_⟩
  · rw [cell_otherD (addr_neD (by omega))]; exact World.cell?_setCell_same V _ _ h0
  · exact World.cell?_setCell_same _ _ _ ((cell_otherD (addr_neD (by omega))).trans h1)
  all_goals simp only [World.frozen?_setCell]; assumption
theorem D2.away {V : World} {b c : Nat} {x y : Value} (h : D2 V b x y) (hne : c ≠ b) (x' y' : Value) : D2 (putD V c x' y') b x y := by
  obtain ⟨⟨h0, h1⟩, f0, f1⟩ := h
  unfold putD
  refine ⟨⟨?_, ?_⟩, ?_, ?_⟩
  · rw [cell_otherD (addr_neD (by omega)), cell_otherD (addr_neD (by omega))]; exact h0
  · rw [cell_otherD (addr_neD (by omega)), cell_otherD (addr_neD (by omega))]; exact h1
  all_goals simp only [World.frozen?_setCell]; assumption
theorem D2.other {V : World} {b c : Nat} {x y : Value} (h : D2 V b x y) (hne : c ≠ b) (j : Nat) (u : Value) : D2 (V.setCell ⟨c, j, none⟩ u) b x y := by
  obtain ⟨⟨h0, h1⟩, f0, f1⟩ := h
  refine ⟨⟨?_, ?_⟩, ?_, ?_⟩
  · rw [cell_otherD (addr_neD (by omega))]; exact h0
  · rw [cell_otherD (addr_neD (by omega))]; exact h1
  all_goals simp only [World.frozen?_setCell]; assumption
theorem below_putD {B : Nat} {w V : World} (h : Below B w V) {b : Nat} (hb : B ≤ b) (x y : Value) : Below B w (putD V b x y) :=
  (h.setCell (p := ⟨b, 0, none⟩) hb _).setCell (p := ⟨b, 1, none⟩) hb _
theorem size_putD (V : World) (b : Nat) (x y : Value) : (putD V b x y).heap.size = V.heap.size := by simp [putD, World.setCell]
theorem of_drew {W W' : World} (h : Below W.drew.heap.size W.drew W') : Below W.heap.size W W' := ((Below.refl _ W).drew).trans h
end Go.Proofs.Ytmnnpkmjamhmcab
