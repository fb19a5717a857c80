/- Structs of three cells in blocks of their own. Of no program. -/
import Derived.Test.YtmnnpkmjamhmcabMix
import Derived.WalkKit
namespace Go.Proofs.Ytmnnpkmjamhmcab
open Go.RowKit

/-- a struct of three in block b, writable -/
def D3 (V : World) (b : Nat) (x y z : Value) : Prop := (V.cell? ⟨b, 0, none⟩ = some x ∧ V.cell? ⟨b, 1, none⟩ = some y ∧ V.cell? ⟨b, 2, none⟩ = some z) ∧ ∀ j, V.frozen? ⟨b, j, none⟩ = false
theorem D3.lt {V : World} {b : Nat} {x y z : Value} (h : D3 V b x y z) : b < V.heap.size := World.block_lt_of_cell? V _ h.1.1
theorem D3.below {V V1 : World} {b n : Nat} {x y z : Value} (h : D3 V b x y z) (hb : Below n V V1) (hn : b < n) : D3 V1 b x y z :=
  ⟨⟨(hb.cell (p := ⟨b, 0, none⟩) hn).trans h.1.1, (hb.cell (p := ⟨b, 1, none⟩) hn).trans h.1.2.1, (hb.cell (p := ⟨b, 2, none⟩) hn).trans h.1.2.2⟩, fun j => (hb.frozen (p := ⟨b, j, none⟩) hn).trans (h.2 j)⟩
theorem D3.far {V V1 : World} {b : Nat} {x y z : Value} (h : D3 V b x y z) (hb : Below V.heap.size V V1) : D3 V1 b x y z := h.below hb h.lt
theorem D3.new (w : World) (x y z : Value) (t : TypeId) : D3 (w.alloc (.cells #[x, y, z] t)) w.heap.size x y z := ⟨⟨by simp [go_sem], by simp [go_sem], by simp [go_sem]⟩, fun j => by simp [go_sem]⟩
theorem D3.alloc {V : World} {b : Nat} {x y z : Value} (h : D3 V b x y z) (o : Obj) : D3 (V.alloc o) b x y z := h.below ((Below.refl _ V).alloc (Nat.le_refl _) o) h.lt
theorem D3.drewN {V : World} {b : Nat} {x y z : Value} (h : D3 V b x y z) (m : Nat) : D3 (V.drewN m) b x y z := h
theorem D3.drew {V : World} {b : Nat} {x y z : Value} (h : D3 V b x y z) : D3 V.drew b x y z := h
theorem D3.grow {W0 w : World} {rw : Option Nat} {b : Nat} {x y z : Value} (h : D3 W0 b x y z) (hg : W0.grownBy w rw) (hne : rw ≠ some b) : D3 w b x y z :=
  have hb := hg.block b h.lt (Ne.symm hne)
  ⟨⟨(World.cell?_of_block (a := ⟨b, 0, none⟩) hb).trans h.1.1, (World.cell?_of_block (a := ⟨b, 1, none⟩) hb).trans h.1.2.1, (World.cell?_of_block (a := ⟨b, 2, none⟩) hb).trans h.1.2.2⟩,
    fun j => (World.frozen?_of_block (a := ⟨b, j, none⟩) hb).trans (h.2 j)⟩
theorem D3.gr {W0 : World} {rw : Option Nat} {b : Nat} {x y z : Value} (h : D3 W0 b x y z) (hne : rw ≠ some b) : (∀ q : GR W0 rw, q.w.cell? ⟨b, 0, none⟩ = some x) ∧ (∀ q : GR W0 rw, q.w.cell? ⟨b, 1, none⟩ = some y) ∧ (∀ q : GR W0 rw, q.w.cell? ⟨b, 2, none⟩ = some z) :=
  ⟨fun q => (h.grow q.h hne).1.1, fun q => (h.grow q.h hne).1.2.1, fun q => (h.grow q.h hne).1.2.2⟩
/-- the world behind a struct that is stored -/
def putT (V : World) (b : Nat) (x y z : Value) : World := ((V.setCell ⟨b, 0, none⟩ x).setCell ⟨b, 1, none⟩ y).setCell ⟨b, 2, none⟩ z
theorem D3.set0 {V : World} {b : Nat} {x y z : Value} (h : D3 V b x y z) (u : Value) : D3 (V.setCell ⟨b, 0, none⟩ u) b u y z :=
  ⟨⟨World.cell?_setCell_same V _ _ h.1.1, (cell_otherD (addr_neD (by omega))).trans h.1.2.1, (cell_otherD (addr_neD (by omega))).trans h.1.2.2⟩, fun j => by simp only [World.frozen?_setCell]; exact h.2 j⟩
theorem D3.set1 {V : World} {b : Nat} {x y z : Value} (h : D3 V b x y z) (u : Value) : D3 (V.setCell ⟨b, 1, none⟩ u) b x u z :=
  ⟨⟨(cell_otherD (addr_neD (by omega))).trans h.1.1, World.cell?_setCell_same V _ _ h.1.2.1, (cell_otherD (addr_neD (by omega))).trans h.1.2.2⟩, fun j => by simp only [World.frozen?_setCell]; exact h.2 j⟩
theorem D3.set2 {V : World} {b : Nat} {x y z : Value} (h : D3 V b x y z) (u : Value) : D3 (V.setCell ⟨b, 2, none⟩ u) b x y u :=
  ⟨⟨(cell_otherD (addr_neD (by omega))).trans h.1.1, (cell_otherD (addr_neD (by omega))).trans h.1.2.1, World.cell?_setCell_same V _ _ h.1.2.2⟩, fun j => by simp only [World.frozen?_setCell]; exact h.2 j⟩
theorem D3.put {V : World} {b : Nat} {x y z : Value} (h : D3 V b x y z) (x' y' z' : Value) : D3 (putT V b x' y' z') b x' y' z' := ((h.set0 x').set1 y').set2 z'
theorem D3.other {V : World} {b c : Nat} {x y z : Value} (h : D3 V b x y z) (hne : c ≠ b) (j : Nat) (u : Value) : D3 (V.setCell ⟨c, j, none⟩ u) b x y z := by
  obtain ⟨⟨h0, h1, h2⟩, hf⟩ := h
  refine ⟨⟨?_, ?_, ?_⟩, fun k => ?_⟩
  · rw [cell_otherD (addr_neD (by omega))]; exact h0
  · rw [cell_otherD (addr_neD (by omega))]; exact h1
  · rw [cell_otherD (addr_neD (by omega))]; exact h2
  · simp only [World.frozen?_setCell]; exact hf k
theorem D3.away {V : World} {b c : Nat} {x y z : Value} (h : D3 V b x y z) (hne : c ≠ b) (x' y' z' : Value) : D3 (putT V c x' y' z') b x y z := ((h.other hne 0 x').other hne 1 y').other hne 2 z'
theorem below_putT {B : Nat} {w V : World} (h : Below B w V) {b : Nat} (hb : B ≤ b) (x y z : Value) : Below B w (putT V b x y z) :=
  ((h.setCell (p := ⟨b, 0, none⟩) hb _).setCell (p := ⟨b, 1, none⟩) hb _).setCell (p := ⟨b, 2, none⟩) hb _
theorem size_putT (V : World) (b : Nat) (x y z : Value) : (putT V b x y z).heap.size = V.heap.size := by simp [putT, World.setCell]
end Go.Proofs.Ytmnnpkmjamhmcab
