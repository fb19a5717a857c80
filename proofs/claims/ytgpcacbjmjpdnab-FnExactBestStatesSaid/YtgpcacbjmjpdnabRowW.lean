/- Rows of numbers in a block: read and written at a place. Of no program. -/
import Derived.Test.YtgpcacbjmjpdnabBytes
import Derived.Test.YtgpcacbjmjpdnabWt
namespace Go.Proofs.Ytgpcacbjmjpdnab
open Go.RowKit
open Wt (row row_length row_get row_set)

theorem roww_at {w : World} {B g N cap i : Nat} {e : TypeId} {k : IntKind} {f : Nat → Int} (h : w.ownsRow B e 1 (.slice (some ⟨g, 0, none⟩) N cap) N ((row f N).map (Value.int k))) (hi : i < N) :
    w.cell? ⟨g, i, none⟩ = some (.int k (f i)) ∧ w.frozen? ⟨g, i, none⟩ = false := by
  refine ⟨?_, h.frozenAt _⟩
  rw [h.cellAt i (by omega)]
  simp [row_get hi]
theorem roww_set {w : World} {B g N cap i : Nat} {e : TypeId} {k : IntKind} {f : Nat → Int} (h : w.ownsRow B e 1 (.slice (some ⟨g, 0, none⟩) N cap) N ((row f N).map (Value.int k))) (v : Int) :
    (w.setCell ⟨g, i, none⟩ (.int k v)).ownsRow B e 1 (.slice (some ⟨g, 0, none⟩) N cap) N ((row (fun p => if p = i then v else f p) N).map (Value.int k)) := by
  rw [← row_set, List.map_set]
  exact (h.stored i (.int k v)).1
theorem roww_lt {w : World} {B g N cap : Nat} {e : TypeId} {xs : List Value} (h : w.ownsRow B e 1 (.slice (some ⟨g, 0, none⟩) N cap) N xs) : B ≤ g ∧ g < w.heap.size := by
  obtain ⟨_, ⟨h1, _⟩ | ⟨g', cap', cur, hv, hb, hc, _⟩⟩ := h
  · cases h1
  · cases hv
    exact ⟨hb, (Array.getElem?_eq_some_iff.1 hc).1⟩
theorem roww_cap {w : World} {B g N cap : Nat} {e : TypeId} {xs : List Value} (h : w.ownsRow B e 1 (.slice (some ⟨g, 0, none⟩) N cap) N xs) : N ≤ cap := by
  obtain ⟨_, ⟨h1, _⟩ | ⟨g', cap', cur, hv, hb, hc, h2, _⟩⟩ := h
  · cases h1
  · cases hv
    exact h2
theorem row_some {w : World} {B N : Nat} {e : TypeId} {k : IntKind} {f : Nat → Int} {v : Value} (h : w.ownsRow B e 1 v N ((row f N).map (Value.int k))) (hN : 0 < N) :
    ∃ G cap, v = .slice (some ⟨G, 0, none⟩) N cap ∧ N ≤ cap := by
  obtain ⟨h1, ⟨rfl, h0⟩ | ⟨g, cap, cur, rfl, hg, hc, h2, _⟩⟩ := h
  · omega
  · exact ⟨g, cap, rfl, h2⟩
end Go.Proofs.Ytgpcacbjmjpdnab
