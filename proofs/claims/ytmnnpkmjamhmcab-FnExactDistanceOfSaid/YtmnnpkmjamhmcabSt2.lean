/- A struct of two cells in a block of its own. Of no program. -/
import Derived.Test.YtmnnpkmjamhmcabBtw
import Derived.Deep.QuietTactic
import Derived.BigQuiet
namespace Go.Proofs.Ytmnnpkmjamhmcab
open Go.RowKit Go.PlainAid

/-- a struct of two in block b, writable -/
def P2 (V : World) (b : Nat) (x y : Value) : Prop := (V.cell? ⟨b, 0, none⟩ = some x ∧ V.cell? ⟨b, 1, none⟩ = some y) ∧ V.frozen? ⟨b, 0, none⟩ = false ∧ V.frozen? ⟨b, 1, none⟩ = false
theorem P2.lt {V : World} {b : Nat} {x y : Value} (h : P2 V b x y) : b < V.heap.size := World.block_lt_of_cell? V _ h.1.1
theorem P2.below {V V1 : World} {b n : Nat} {x y : Value} (h : P2 V b x y) (hb : Below n V V1) (hn : b < n) : P2 V1 b x y :=
  ⟨⟨(hb.cell (p := ⟨b, 0, none⟩) hn).trans h.1.1, (hb.cell (p := ⟨b, 1, none⟩) hn).trans h.1.2⟩, (hb.frozen (p := ⟨b, 0, none⟩) hn).trans h.2.1, (hb.frozen (p := ⟨b, 1, none⟩) hn).trans h.2.2⟩
theorem P2.far {V V1 : World} {b : Nat} {x y : Value} (h : P2 V b x y) (hb : Below V.heap.size V V1) : P2 V1 b x y := h.below hb h.lt
theorem P2.new (w : World) (x y : Value) (t : TypeId) : P2 (w.alloc (.cells #[x, y] t)) w.heap.size x y := ⟨⟨by simp [go_sem], by simp [go_sem]⟩, by simp [go_sem], by simp [go_sem]⟩
theorem P2.alloc {V : World} {b : Nat} {x y : Value} (h : P2 V b x y) (o : Obj) : P2 (V.alloc o) b x y := h.below ((Below.refl _ V).alloc (Nat.le_refl _) o) h.lt
theorem P2.drewN {V : World} {b : Nat} {x y : Value} (h : P2 V b x y) (m : Nat) : P2 (V.drewN m) b x y := h
theorem P2.drew {V : World} {b : Nat} {x y : Value} (h : P2 V b x y) : P2 V.drew b x y := h
theorem set_neP {V : World} {p q : Addr} {v : Value} (h : p ≠ q) : (V.setCell p v).cell? q = V.cell? q := World.cell?_setCell_other V _ _ _ h
theorem ne_addrP {b c i j : Nat} (h : i ≠ j ∨ b ≠ c) : (⟨b, i, none⟩ : Addr) ≠ ⟨c, j, none⟩ := fun e => by
  have h1 := congrArg Addr.block e
  have h2 := congrArg Addr.off e
  simp at h1 h2
  omega
theorem P2.set0 {V : World} {b : Nat} {x y : Value} (h : P2 V b x y) (z : Value) : P2 (V.setCell ⟨b, 0, none⟩ z) b z y := by
  obtain ⟨⟨h0, h1⟩, f0, f1⟩ := h
  refine ⟨⟨World.cell?_setCell_same V _ _ h0, ?_⟩, ?_, ?_⟩
  · rw [set_neP (ne_addrP (by omega))]; exact h1
  all_goals simp only [World.frozen?_setCell]; assumption
theorem P2.set1 {V : World} {b : Nat} {x y : Value} (h : P2 V b x y) (z : Value) : P2 (V.setCell ⟨b, 1, none⟩ z) b x z := by
  obtain ⟨⟨h0, h1⟩, f0, f1⟩ := h
  refine ⟨⟨?_, World.cell?_setCell_same V _ _ h1⟩, ?_, ?_⟩
  · rw [set_neP (ne_addrP (by omega))]; exact h0
  all_goals simp only [World.frozen?_setCell]; assumption
theorem P2.away {V : World} {b c : Nat} {x y : Value} (h : P2 V b x y) (hne : c ≠ b) (j : Nat) (u : Value) : P2 (V.setCell ⟨c, j, none⟩ u) b x y := by
  obtain ⟨⟨h0, h1⟩, f0, f1⟩ := h
  refine ⟨⟨?_, ?_⟩, ?_, ?_⟩
  · rw [set_neP (ne_addrP (by omega))]; exact h0
  · rw [set_neP (ne_addrP (by omega))]; exact h1
  all_goals simp only [World.frozen?_setCell]; assumption
end Go.Proofs.Ytmnnpkmjamhmcab
