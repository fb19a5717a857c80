/- A list of numbers to which one is appended. -/
import Derived.Test.YtciofobedgmbjabS7B
import Derived.Maps.AppendAt
namespace Go.Proofs.Ytciofobedgmbjab
open Go.RowKit Go.PlainAid
set_option maxHeartbeats 800000

theorem growA {a w : World} {row : Option Nat} (h : a.grownBy w row) (o : Obj) : a.grownBy (w.alloc o) row := by
  have hb := (Below.refl w.heap.size w).alloc (Nat.le_refl _) o
  exact ⟨hb.os.trans h.os, hb.tape.trans h.tape, hb.output.trans h.output, Nat.le_trans h.size hb.size, fun k hk hne => (hb.block k (Nat.lt_of_lt_of_le hk h.size)).trans (h.block k hk hne)⟩
theorem Rw.ro {B g n cap : Nat} {xs : List Int} {w : World} (h : Rw B g n cap xs w) : RO w.heap.size w (some ⟨g, 0, none⟩) xs := fun i x hx => by
  have hi := (List.getElem?_eq_some_iff.1 hx).1
  have hl := h.len
  refine ⟨g, 0, rfl, h.lt, ?_⟩
  rw [Nat.zero_add, h.cell (i := i) (by omega), List.getD_eq_getElem?_getD, hx]
  rfl
theorem Rw.empty (w : World) : Rw w.heap.size w.heap.size 0 0 [] (w.alloc (.cells #[] 2)) := ownsRow_empty w 2 1
theorem Rw.app {B g n cap : Nat} {xs : List Int} {wr w1 : World} {v1 : Value} {x : Int} {o : Obj} (_ : Rw B g n cap xs wr) (hown : w1.ownsRow B 2 1 v1 (n + 1) (xs.map (Value.int .i64) ++ [.int .i64 x])) (hg : (wr.alloc o).grownBy w1 (Value.slice (some ⟨g, 0, none⟩) n cap).ownBlock) (hat : v1.ownBlock = (Value.slice (some ⟨g, 0, none⟩) n cap).ownBlock ∨ v1.ownBlock = some (wr.alloc o).heap.size) :
    ∃ g1 cap1, v1 = .slice (some ⟨g1, 0, none⟩) (n + 1) cap1 ∧ Rw B g1 (n + 1) cap1 (xs ++ [x]) w1 ∧ (g1 = g ∨ g1 = wr.heap.size + 1) ∧ wr.grownBy w1 (some g) := by
  obtain ⟨g1, cap1, rfl, hg1⟩ := own_shape hown (by omega)
  refine ⟨g1, cap1, rfl, ?_, ?_, grow_trans (growA (World.grownBy.refl _ _) o) hg⟩
  · unfold Rw
    simpa using hown
  · simpa [Value.ownBlock] using hat
end Go.Proofs.Ytciofobedgmbjab
