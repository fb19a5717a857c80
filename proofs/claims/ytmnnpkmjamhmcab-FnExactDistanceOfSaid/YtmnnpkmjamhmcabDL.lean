/- Structs of any number of cells in blocks of their own. Of no program. -/
import Derived.Test.YtmnnpkmjamhmcabMix
import Derived.WalkKit
namespace Go.Proofs.Ytmnnpkmjamhmcab
open Go.RowKit

/-- a struct with the cells l in block b, writable -/
def DL (V : World) (b : Nat) (l : List Value) : Prop := (∀ j u, l[j]? = some u → V.cell? ⟨b, j, none⟩ = some u) ∧ ∀ j, V.frozen? ⟨b, j, none⟩ = false
theorem DL.lt {V : World} {b : Nat} {x : Value} {l : List Value} (h : DL V b (x :: l)) : b < V.heap.size := World.block_lt_of_cell? V _ (h.1 0 x rfl)
theorem DL.below {V V1 : World} {b n : Nat} {l : List Value} (h : DL V b l) (hb : Below n V V1) (hn : b < n) : DL V1 b l :=
  ⟨fun j u hj => (hb.cell (p := ⟨b, j, none⟩) hn).trans (h.1 j u hj), fun j => (hb.frozen (p := ⟨b, j, none⟩) hn).trans (h.2 j)⟩
theorem DL.far {V V1 : World} {b : Nat} {x : Value} {l : List Value} (h : DL V b (x :: l)) (hb : Below V.heap.size V V1) : DL V1 b (x :: l) := h.below hb h.lt
theorem DL.new (w : World) (l : List Value) (t : TypeId) : DL (w.alloc (.cells l.toArray t)) w.heap.size l := ⟨fun j u hj => by
  simp [go_sem]
  exact hj, fun j => by simp [go_sem]⟩
theorem DL.alloc {V : World} {b : Nat} {x : Value} {l : List Value} (h : DL V b (x :: l)) (o : Obj) : DL (V.alloc o) b (x :: l) := h.below ((Below.refl _ V).alloc (Nat.le_refl _) o) h.lt
theorem DL.drewN {V : World} {b : Nat} {l : List Value} (h : DL V b l) (m : Nat) : DL (V.drewN m) b l := h
theorem DL.drew {V : World} {b : Nat} {l : List Value} (h : DL V b l) : DL V.drew b l := h
theorem DL.grow {W0 w : World} {rw : Option Nat} {b : Nat} {x : Value} {l : List Value} (h : DL W0 b (x :: l)) (hg : W0.grownBy w rw) (hne : rw ≠ some b) : DL w b (x :: l) :=
  have hb := hg.block b h.lt (Ne.symm hne)
  ⟨fun j u hj => (World.cell?_of_block (a := ⟨b, j, none⟩) hb).trans (h.1 j u hj), fun j => (World.frozen?_of_block (a := ⟨b, j, none⟩) hb).trans (h.2 j)⟩
theorem DL.gr {W0 : World} {rw : Option Nat} {b : Nat} {x : Value} {l : List Value} (h : DL W0 b (x :: l)) (hne : rw ≠ some b) (j : Nat) {u : Value} (hj : (x :: l)[j]? = some u) : ∀ q : GR W0 rw, q.w.cell? ⟨b, j, none⟩ = some u :=
  fun q => (h.grow q.h hne).1 j u hj
theorem DL.set {V : World} {b : Nat} {l : List Value} (h : DL V b l) (k : Nat) (u : Value) : DL (V.setCell ⟨b, k, none⟩ u) b (l.set k u) := ⟨fun j v hj => by
  rw [List.getElem?_set] at hj
  by_cases e : k = j
  · subst e
    rw [if_pos rfl] at hj
    by_cases hk : k < l.length
    · rw [if_pos hk] at hj
      cases hj
      exact World.cell?_setCell_same V _ _ (h.1 k _ (List.getElem?_eq_getElem hk))
    · rw [if_neg hk] at hj
      cases hj
  · rw [if_neg e] at hj
    rw [cell_otherD (addr_neD (by omega))]
    exact h.1 j v hj, fun j => by rw [World.frozen?_setCell]; exact h.2 j⟩
theorem DL.other {V : World} {b c : Nat} {l : List Value} (h : DL V b l) (hne : c ≠ b) (k : Nat) (u : Value) : DL (V.setCell ⟨c, k, none⟩ u) b l := ⟨fun j v hj => by
  rw [cell_otherD (addr_neD (by omega))]
  exact h.1 j v hj, fun j => by rw [World.frozen?_setCell]; exact h.2 j⟩
/-- the world behind a struct of six that is stored -/
def put6 (V : World) (b : Nat) (x0 x1 x2 x3 x4 x5 : Value) : World := (((((V.setCell ⟨b, 0, none⟩ x0).setCell ⟨b, 1, none⟩ x1).setCell ⟨b, 2, none⟩ x2).setCell ⟨b, 3, none⟩ x3).setCell ⟨b, 4, none⟩ x4).setCell ⟨b, 5, none⟩ x5
theorem DL.put6 {V : World} {b : Nat} {y0 y1 y2 y3 y4 y5 : Value} (h : DL V b [y0, y1, y2, y3, y4, y5]) (x0 x1 x2 x3 x4 x5 : Value) : DL (put6 V b x0 x1 x2 x3 x4 x5) b [x0, x1, x2, x3, x4, x5] :=
  (((((h.set 0 x0).set 1 x1).set 2 x2).set 3 x3).set 4 x4).set 5 x5
theorem below_put6 {B : Nat} {w V : World} (h : Below B w V) {b : Nat} (hb : B ≤ b) (x0 x1 x2 x3 x4 x5 : Value) : Below B w (put6 V b x0 x1 x2 x3 x4 x5) :=
  (((((h.setCell (p := ⟨b, 0, none⟩) hb _).setCell (p := ⟨b, 1, none⟩) hb _).setCell (p := ⟨b, 2, none⟩) hb _).setCell (p := ⟨b, 3, none⟩) hb _).setCell (p := ⟨b, 4, none⟩) hb _).setCell (p := ⟨b, 5, none⟩) hb _
theorem gr_put6 {W0 w : World} {rw : Option Nat} (h : W0.grownBy w rw) {b : Nat} (hp : rw = some b ∨ W0.heap.size ≤ b) (x0 x1 x2 x3 x4 x5 : Value) : W0.grownBy (put6 w b x0 x1 x2 x3 x4 x5) rw :=
  gr_set (gr_set (gr_set (gr_set (gr_set (gr_set h (p := ⟨b, 0, none⟩) hp _) (p := ⟨b, 1, none⟩) hp _) (p := ⟨b, 2, none⟩) hp _) (p := ⟨b, 3, none⟩) hp _) (p := ⟨b, 4, none⟩) hp _) (p := ⟨b, 5, none⟩) hp _
theorem DL.six {V : World} {b : Nat} {y0 y1 y2 y3 y4 y5 : Value} (h : DL V b [y0, y1, y2, y3, y4, y5]) : (V.cell? ⟨b, 0, none⟩ = some y0 ∧ V.cell? ⟨b, 1, none⟩ = some y1 ∧ V.cell? ⟨b, 2, none⟩ = some y2 ∧ V.cell? ⟨b, 3, none⟩ = some y3 ∧ V.cell? ⟨b, 4, none⟩ = some y4 ∧ V.cell? ⟨b, 5, none⟩ = some y5) ∧ V.frozen? ⟨b, 0, none⟩ = false ∧ V.frozen? ⟨b, 1, none⟩ = false ∧ V.frozen? ⟨b, 2, none⟩ = false ∧ V.frozen? ⟨b, 3, none⟩ = false ∧ V.frozen? ⟨b, 4, none⟩ = false ∧ V.frozen? ⟨b, 5, none⟩ = false :=
  ⟨⟨h.1 0 _ rfl, h.1 1 _ rfl, h.1 2 _ rfl, h.1 3 _ rfl, h.1 4 _ rfl, h.1 5 _ rfl⟩, h.2 0, h.2 1, h.2 2, h.2 3, h.2 4, h.2 5⟩
end Go.Proofs.Ytmnnpkmjamhmcab
