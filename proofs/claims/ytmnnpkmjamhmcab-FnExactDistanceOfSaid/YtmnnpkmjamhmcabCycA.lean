/- What walks over iterators without an end share: cells of one's own, worlds behind others. Of no program. -/
import Derived.Test.YtmnnpkmjamhmcabUntil
import Derived.Test.YtmnnpkmjamhmcabCycMath
import Derived.RangeFuncNested
import Derived.RangeFuncBound
import Derived.RangeFuncCalls
import Derived.RangeFuncLeaves
import Derived.Shelf.Abstract
import Derived.Shelf.RegionOpen
import Derived.WalkKit
import Derived.OwnWalkIn
import Derived.TacticsInMore
import Derived.LoopNIn
import Derived.LoopIn
import Derived.Lib.Hide
import Derived.WalkSmall
import Derived.StillTailTactics
namespace Go.Proofs.Ytmnnpkmjamhmcab
open Go.RowKit Go.Shelf
theorem grown_below {V W : World} (h : Below V.heap.size V W) : V.grownBy W none := ⟨h.os, h.tape, h.output, h.size, fun k hk _ => h.block k hk⟩
def cellN (V : World) (b : Nat) : Nat := match V.cell? ⟨b, 0, none⟩ with | some (.int _ n) => n.toNat | _ => 0
/-- a cell of one's own that may be written -/
def Cel (V : World) (b : Nat) (v : Value) : Prop := V.cell? ⟨b, 0, none⟩ = some v ∧ V.frozen? ⟨b, 0, none⟩ = false
theorem Cel.kept {V W : World} {b : Nat} {v : Value} {row : Option Nat} (h : Cel V b v) (hg : V.grownBy W row) (hr : ∀ r, row = some r → ∃ o : Obj, V.heap[r]? = some o ∧ o.isCells = false) : Cel W b v := ⟨cell_kept h.1 hg hr, (frozen_kept h.1 hg hr).trans h.2⟩
theorem Cel.new (W : World) (v : Value) (t : TypeId) : Cel (W.alloc (.cells #[v] t)) W.heap.size v := ⟨by simp [go_sem], by simp [go_sem]⟩
theorem Cel.alloc {V : World} {b : Nat} {v : Value} (h : Cel V b v) (o : Obj) : Cel (V.alloc o) b v := h.kept (World.grownBy_alloc V o none) (fun r e => by cases e)
theorem Cel.lt {V : World} {b : Nat} {v : Value} (h : Cel V b v) : b < V.heap.size := World.block_lt_of_cell? V _ h.1
theorem Cel.set {V : World} {b : Nat} {v : Value} (h : Cel V b v) (u : Value) : Cel (V.setCell ⟨b, 0, none⟩ u) b u := ⟨World.cell?_setCell_same' _ _ _ (by rw [h.1]; rfl), by rw [World.frozen?_setCell]; exact h.2⟩
theorem Cel.other {V : World} {b c : Nat} {v : Value} (h : Cel V b v) (hne : c ≠ b) (u : Value) : Cel (V.setCell ⟨c, 0, none⟩ u) b v := ⟨by rw [World.cell?_setCell_other V _ _ _ (fun y => hne (by have := congrArg Addr.block y; simp at this; omega))]; exact h.1, by rw [World.frozen?_setCell]; exact h.2⟩
theorem Cel.drew {V : World} {b : Nat} {v : Value} (h : Cel V b v) : Cel V.drew b v := h
theorem cell_other {V : World} {q c : Nat} {v : Value} (h : V.cell? ⟨q, 0, none⟩ = some v) (hne : c ≠ q) (u : Value) : (V.setCell ⟨c, 0, none⟩ u).cell? ⟨q, 0, none⟩ = some v := by
  rw [World.cell?_setCell_other V _ _ _ (fun y => hne (by have := congrArg Addr.block y; simp at this; omega))]; exact h
theorem deferred_kept {V W : World} {D B : Nat} {row : Option Nat} (h : V.heap[D]? = some (.deferred (some []))) (hD : D < B) (hg : V.grownBy W row) (hr : ∀ r, row = some r → B ≤ r ∧ ∃ o : Obj, V.heap[r]? = some o ∧ o.isCells = false) : W.heap[D]? = some (.deferred (some [])) :=
  (hg.block D (Array.getElem?_eq_some_iff.1 h).1 (fun e => by have := (hr D e.symm).1; omega)).trans h
theorem cell_other1 {V : World} {q c : Nat} {v : Value} (h : V.cell? ⟨q, 1, none⟩ = some v) (hne : c ≠ q) (u : Value) : (V.setCell ⟨c, 0, none⟩ u).cell? ⟨q, 1, none⟩ = some v := by
  rw [World.cell?_setCell_other V _ _ _ (fun y => hne (by have := congrArg Addr.block y; simp at this; omega))]; exact h
theorem cell_other2 {V : World} {q c : Nat} {v : Value} (h : V.cell? ⟨q, 2, none⟩ = some v) (hne : c ≠ q) (u : Value) : (V.setCell ⟨c, 0, none⟩ u).cell? ⟨q, 2, none⟩ = some v := by
  rw [World.cell?_setCell_other V _ _ _ (fun y => hne (by have := congrArg Addr.block y; simp at this; omega))]; exact h
theorem Cel.below {V W : World} {b : Nat} {v : Value} (h : Cel V b v) (hb : Below V.heap.size V W) : Cel W b v := h.kept (grown_below hb) (fun r e => by cases e)
theorem cell_below {V W : World} {a : Addr} {v : Value} (h : V.cell? a = some v) (hb : Below V.heap.size V W) : W.cell? a = some v := cell_kept h (grown_below hb) (fun r e => by cases e)
/-- a world behind others, below whose end nothing has changed -/
structure GW (W0 : World) where
  w : World
  h : Below W0.heap.size W0 w
instance (W0 : World) : Inhabited (GW W0) := ⟨⟨W0, Below.refl _ _⟩⟩
theorem gw_call {W0 : World} {p : GW W0} {P : Program} {f : FuncId} {args : Array Value} {v : Value} (h : Calls P f args p.w fun e w' => e = .returned v ∧ Below p.w.heap.size p.w w') :
    Calls P f args p.w fun e w'' => e = .returned v ∧ ∃ q : GW W0, w'' = q.w :=
  h.mono fun _ w' ⟨he, hb⟩ => ⟨he, ⟨w', p.h.trans (hb.mono p.h.size)⟩, rfl⟩
end Go.Proofs.Ytmnnpkmjamhmcab
