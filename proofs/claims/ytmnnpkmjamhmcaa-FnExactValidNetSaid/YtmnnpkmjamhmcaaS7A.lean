/- The ascending list, two places exchanged: impl.ascending, impl.swap, spec.l07First, spec.l07Swap. -/
import Derived.Test.YtmnnpkmjamhmcaaS7M
import Derived.Test.YtmnnpkmjamhmcaaListOk
namespace Go.Proofs.Ytmnnpkmjamhmcaa
open Go.RowKit Go.PlainAid
set_option maxHeartbeats 800000

/-- a list in block g, which may be written -/
def Rw (B g n cap : Nat) (xs : List Int) (w : World) : Prop := w.ownsRow B 2 1 (.slice (some ⟨g, 0, none⟩) n cap) n (xs.map (Value.int .i64))
theorem Rw.len {B g n cap : Nat} {xs : List Int} {w : World} (h : Rw B g n cap xs w) : xs.length = n := by simpa using h.1
theorem Rw.lt {B g n cap : Nat} {xs : List Int} {w : World} (h : Rw B g n cap xs w) : g < w.heap.size := by
  obtain ⟨_, ⟨h, _⟩ | ⟨g', cap', cur, hv, hg, hh, _⟩⟩ := h
  · cases h
  · cases hv
    exact (Array.getElem?_eq_some_iff.1 hh).1
theorem Rw.le {B g n cap : Nat} {xs : List Int} {w : World} (h : Rw B g n cap xs w) : B ≤ g := own_block h g rfl
theorem Rw.cell {B g n cap : Nat} {xs : List Int} {w : World} (h : Rw B g n cap xs w) {i : Nat} (hi : i < n) : w.cell? ⟨g, i, none⟩ = some (.int .i64 (xs.getD i 0)) := by
  have hl := h.len
  rw [World.ownsRow.cellAt h i (by omega), List.getElem?_map, List.getD_eq_getElem?_getD, List.getElem?_eq_getElem (by omega)]
  rfl
theorem Rw.frz {B g n cap : Nat} {xs : List Int} {w : World} (h : Rw B g n cap xs w) (i : Nat) : w.frozen? ⟨g, i, none⟩ = false := World.ownsRow.frozenAt h i
theorem Rw.set {B g n cap : Nat} {xs : List Int} {w : World} (h : Rw B g n cap xs w) (i : Nat) (v : Int) : Rw B g n cap (xs.set i v) (w.setCell ⟨g, i, none⟩ (.int .i64 v)) := by
  unfold Rw
  rw [List.map_set]
  exact (World.ownsRow.stored h i (.int .i64 v)).1
theorem Rw.drewN {B g n cap : Nat} {xs : List Int} {w : World} (h : Rw B g n cap xs w) (m : Nat) : Rw B g n cap xs (w.drewN m) := h
theorem Rw.drew {B g n cap : Nat} {xs : List Int} {w : World} (h : Rw B g n cap xs w) : Rw B g n cap xs w.drew := h
theorem Rw.far {B g n cap : Nat} {xs : List Int} {w w' : World} (h : Rw B g n cap xs w) (hb : Below w.heap.size w w') : Rw B g n cap xs w' := by
  obtain ⟨h1, h2 | ⟨g', cap', cur, hv, hg, hc, r⟩⟩ := h
  · exact ⟨h1, .inl h2⟩
  · exact ⟨h1, .inr ⟨g', cap', cur, hv, hg, by rw [hb.block g' (Array.getElem?_eq_some_iff.1 hc).1]; exact hc, r⟩⟩
theorem Rw.grown {B g n cap : Nat} {xs : List Int} {w w' : World} {row : Option Nat} (h : Rw B g n cap xs w) (hb : w.grownBy w' row) (hne : row ≠ some g) : Rw B g n cap xs w' :=
  World.ownsRow.kept h hb (.inr (by simp [Value.ownBlock]; exact fun e => hne e.symm))
theorem Rw.base {B B' g n cap : Nat} {xs : List Int} {w : World} (h : Rw B g n cap xs w) (hB : B' ≤ B) : Rw B' g n cap xs w := own_base h hB
theorem Rw.sl {B g n cap : Nat} {xs : List Int} {w : World} (h : Rw B g n cap xs w) : SL B w.heap.size w (.slice (some ⟨g, 0, none⟩) n cap) xs := by
  have hl := h.len
  subst hl
  exact SL.of_own h
theorem getD_set7 {l : List Int} {i j : Nat} {v : Int} (hj : j < l.length) : (l.set i v).getD j 0 = if i = j then v else l.getD j 0 := by
  rw [List.getD_eq_getElem?_getD, List.getElem?_set, List.getD_eq_getElem?_getD]
  by_cases e : i = j
  · subst e
    simp [hj]
  · rw [if_neg e, if_neg e]
end Go.Proofs.Ytmnnpkmjamhmcaa
