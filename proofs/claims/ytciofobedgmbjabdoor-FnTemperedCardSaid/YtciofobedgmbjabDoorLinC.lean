/- Linear machines: a run of steps: impl. -/
import Derived.Test.YtciofobedgmbjabDoorAM
import Derived.Defers
namespace Go.Proofs.YtciofobedgmbjabDoor
open Go.RowKit Go.PlainAid
set_option maxHeartbeats 800000

/-- a machine that runs: its rows, the mask of its output, its state -/
def LR (W : World) (b : Nat) (f : Nat → Nat) (o s : Nat) : Prop := MA W b 0 16 f ∧ (W.cell? ⟨b, 16, none⟩ = some (.int .i64 o) ∧ W.frozen? ⟨b, 16, none⟩ = false) ∧ W.cell? ⟨b, 17, none⟩ = some (.int .i64 s) ∧ W.frozen? ⟨b, 17, none⟩ = false
theorem LR.lt {W : World} {b : Nat} {f : Nat → Nat} {o s : Nat} (h : LR W b f o s) : b < W.heap.size := h.1.lt (by omega)
theorem LR.below {V V1 : World} {b m : Nat} {f : Nat → Nat} {o s : Nat} (h : LR V b f o s) (hb : Below m V V1) (hm : b < m) : LR V1 b f o s :=
  ⟨h.1.below hb hm, ⟨(hb.cell (p := ⟨b, 16, none⟩) hm).trans h.2.1.1, (hb.frozen (p := ⟨b, 16, none⟩) hm).trans h.2.1.2⟩, (hb.cell (p := ⟨b, 17, none⟩) hm).trans h.2.2.1, (hb.frozen (p := ⟨b, 17, none⟩) hm).trans h.2.2.2⟩
theorem LR.far {V V1 : World} {b : Nat} {f : Nat → Nat} {o s : Nat} (h : LR V b f o s) (hb : Below V.heap.size V V1) : LR V1 b f o s := h.below hb h.lt
theorem LR.drew {V : World} {b : Nat} {f : Nat → Nat} {o s : Nat} (h : LR V b f o s) : LR V.drew b f o s := h
theorem LR.drewN {V : World} {b : Nat} {f : Nat → Nat} {o s : Nat} (h : LR V b f o s) (m : Nat) : LR (V.drewN m) b f o s := h
theorem LR.step {V : World} {b : Nat} {f : Nat → Nat} {o s : Nat} (h : LR V b f o s) (t : Nat) : LR (V.setCell ⟨b, 17, none⟩ (.int .i64 t)) b f o t := by
  refine ⟨h.1.other (.inr (.inr (by omega))) _, ⟨?_, by rw [World.frozen?_setCell]; exact h.2.1.2⟩, World.cell?_setCell_same V _ _ h.2.2.1, by rw [World.frozen?_setCell]; exact h.2.2.2⟩
  rw [cell_otherD (addr_neD (by omega))]
  exact h.2.1.1
theorem LR.new (w : World) (f : Nat → Nat) (o s : Nat) (t : TypeId) : LR (w.alloc (.cells (vs 16 f ++ [Value.int .i64 o, Value.int .i64 s]).toArray t)) w.heap.size f o s := by
  have hl : (vs 16 f).length = 16 := vs_length 16 f
  have hc : ∀ j, (w.alloc (.cells (vs 16 f ++ [Value.int .i64 o, Value.int .i64 s]).toArray t)).cell? ⟨w.heap.size, j, none⟩ = (vs 16 f ++ [Value.int .i64 o, Value.int .i64 s])[j]? := fun j => by
    rw [cell_of_row _ w.heap.size j _ t (0, 0) (heap_alloc_new w _)]
    simp
  refine ⟨fun j hj => ⟨?_, by simp [go_sem]⟩, ⟨?_, by simp [go_sem]⟩, ?_, by simp [go_sem]⟩
  · rw [Nat.zero_add, hc, List.getElem?_append_left (by omega)]
    exact vs_get f hj
  · rw [hc, List.getElem?_append_right (by omega), hl]; rfl
  · rw [hc, List.getElem?_append_right (by omega), hl]; rfl
end Go.Proofs.YtciofobedgmbjabDoor
