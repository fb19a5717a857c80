/- Orders: impl.IsOrder, spec.l07Is, spec.l00Has. -/
import Derived.Test.YtciofobedgmbjaaS7A
import Derived.Test.YtciofobedgmbjaaGT
import Derived.Test.YtciofobedgmbjaaL7
namespace Go.Proofs.Ytciofobedgmbjaa
open Go.RowKit Go.PlainAid
set_option maxHeartbeats 800000

/-- twelve bools in a block -/
def BA (b : Nat) (s : Nat → Bool) (W : World) : Prop := ∀ j, j < 12 → W.cell? ⟨b, j, none⟩ = some (.bool (s j)) ∧ W.frozen? ⟨b, j, none⟩ = false
theorem BA.lt {b : Nat} {s : Nat → Bool} {W : World} (h : BA b s W) : b < W.heap.size := World.block_lt_of_cell? W _ (h 0 (by omega)).1
theorem BA.far {b : Nat} {s : Nat → Bool} {W W' : World} (h : BA b s W) (hb : Below W.heap.size W W') : BA b s W' := fun j hj =>
  ⟨(hb.cell (p := ⟨b, j, none⟩) h.lt).trans (h j hj).1, (hb.frozen (p := ⟨b, j, none⟩) h.lt).trans (h j hj).2⟩
theorem BA.set {b : Nat} {s t : Nat → Bool} {W : World} (h : BA b s W) {i : Nat} (v : Bool) (ht : ∀ j, j < 12 → t j = if i = j then v else s j) : BA b t (W.setCell ⟨b, i, none⟩ (.bool v)) := fun j hj => by
  rw [ht j hj, World.frozen?_setCell]
  refine ⟨?_, (h j hj).2⟩
  by_cases e : i = j
  · subst e
    rw [if_pos rfl]
    exact World.cell?_setCell_same W _ _ (h i hj).1
  · rw [if_neg e, cell_ne e]
    exact (h j hj).1
theorem BA.grown {b : Nat} {s : Nat → Bool} {W W' : World} {row : Option Nat} (h : BA b s W) (hg : W.grownBy W' row) (hne : row ≠ some b) : BA b s W' := fun j hj => by
  have hb := hg.block b h.lt (Ne.symm hne)
  exact ⟨(World.cell?_of_block (a := ⟨b, j, none⟩) hb).trans (h j hj).1, (World.frozen?_of_block (a := ⟨b, j, none⟩) hb).trans (h j hj).2⟩
theorem BA.drewN {b : Nat} {s : Nat → Bool} {W : World} (h : BA b s W) (m : Nat) : BA b s (W.drewN m) := h
theorem lt12 {j : Nat} (h : j < 12) : j = 0 ∨ j = 1 ∨ j = 2 ∨ j = 3 ∨ j = 4 ∨ j = 5 ∨ j = 6 ∨ j = 7 ∨ j = 8 ∨ j = 9 ∨ j = 10 ∨ j = 11 := by omega
theorem BA.new (w : World) (t : TypeId) : BA w.heap.size (fun _ => false) (w.alloc (.cells #[.bool false, .bool false, .bool false, .bool false, .bool false, .bool false, .bool false, .bool false, .bool false, .bool false, .bool false, .bool false] t)) := fun j hj => by
  rcases lt12 hj with rfl | rfl | rfl | rfl | rfl | rfl | rfl | rfl | rfl | rfl | rfl | rfl <;> exact ⟨by simp [go_sem], by simp [go_sem]⟩
theorem among_zero (xs : List Int) (x : Int) : among xs 0 x = false := by simp [among]
theorem RO.take {top : Nat} {w : World} {a : Option Addr} {xs : List Int} (h : RO top w a xs) (k : Nat) : RO top w a (xs.take k) := fun i x hx => by
  by_cases hi : i < k
  · rw [List.getElem?_take_of_lt hi] at hx
    exact h i x hx
  · rw [List.getElem?_take_eq_none (by omega)] at hx
    cases hx
end Go.Proofs.Ytciofobedgmbjaa
