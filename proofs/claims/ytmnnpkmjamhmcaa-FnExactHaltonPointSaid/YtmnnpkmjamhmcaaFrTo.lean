/- Slices of fractions in the laws: laws.szFractionS, toFractionS, eqFractionS. -/
import Derived.Test.YtmnnpkmjamhmcaaFrRow
import Derived.OwnWalk
import Derived.Laws.OwnMore
namespace Go.Proofs.Ytmnnpkmjamhmcaa
open Go.RowKit Go.PlainAid
set_option maxHeartbeats 800000

/-- a row of n fractions in block g, whose first k are those of xs -/
def FRow (w : World) (g n k : Nat) (xs : List (Int × Int)) : Prop :=
  (∀ i, i < n → ∃ x y : Int, w.cell? ⟨g, i * 2, none⟩ = some (.int .i64 x) ∧ w.cell? ⟨g, i * 2 + 1, none⟩ = some (.int .i64 y) ∧ (i < k → xs[i]? = some (x, y))) ∧ ∀ j, w.frozen? ⟨g, j, none⟩ = false
theorem FRow.far {w w1 : World} {g n k : Nat} {xs : List (Int × Int)} (h : FRow w g n k xs) (hg : g < w.heap.size) (hb : Below w.heap.size w w1) : FRow w1 g n k xs := by
  refine ⟨fun i hi => ?_, fun j => (hb.frozen (p := ⟨g, j, none⟩) hg).trans (h.2 j)⟩
  obtain ⟨x, y, h1, h2, h3⟩ := h.1 i hi
  exact ⟨x, y, (hb.cell (p := ⟨g, i * 2, none⟩) hg).trans h1, (hb.cell (p := ⟨g, i * 2 + 1, none⟩) hg).trans h2, h3⟩
theorem FRow.step {w : World} {g n k : Nat} {xs : List (Int × Int)} (h : FRow w g n k xs) (hk : k < n) {x y : Int} (hx : xs[k]? = some (x, y)) :
    FRow ((w.setCell ⟨g, k * 2, none⟩ (.int .i64 x)).setCell ⟨g, k * 2 + 1, none⟩ (.int .i64 y)) g n (k + 1) xs := by
  refine ⟨fun i hi => ?_, fun j => by simp only [World.frozen?_setCell]; exact h.2 j⟩
  obtain ⟨x0, y0, h1, h2, h3⟩ := h.1 i hi
  by_cases e : i = k
  · subst e
    refine ⟨x, y, ?_, ?_, fun _ => hx⟩
    · rw [cell_otherD (addr_neD (by omega))]; exact World.cell?_setCell_same _ _ _ h1
    · exact World.cell?_setCell_same _ _ _ ((cell_otherD (addr_neD (by omega))).trans h2)
  · refine ⟨x0, y0, ?_, ?_, fun hi2 => h3 (by omega)⟩
    · rw [cell_otherD (addr_neD (by omega)), cell_otherD (addr_neD (by omega))]; exact h1
    · rw [cell_otherD (addr_neD (by omega)), cell_otherD (addr_neD (by omega))]; exact h2
theorem FRow.full {w : World} {g n : Nat} {xs : List (Int × Int)} (h : FRow w g n n xs) (hl : xs.length = n) : FIn w (some ⟨g, 0, none⟩) n xs := by
  refine ⟨hl, .inr ⟨g, 0, rfl, fun i hi => ?_⟩⟩
  obtain ⟨x, y, h1, h2, h3⟩ := h.1 i (by omega)
  have := h3 (by omega)
  rw [List.getElem?_eq_getElem hi] at this
  have e := Option.some.inj this
  rw [e, Nat.zero_add]
  exact ⟨h1, h2⟩
theorem FRow.made {w : World} {base g n cap : Nat} {e : TypeId} {xs : List (Int × Int)} (h : w.ownsRow base e 2 (.slice (some ⟨g, 0, none⟩) n cap) n (madeCells #[.int .i64 0, .int .i64 0] (n * 2)).toList) : FRow w g n 0 xs := by
  have hc : ∀ j, j < n * 2 → w.cell? ⟨g, j, none⟩ = some (.int .i64 0) := fun j hj => by
    rw [h.cellAt j hj, Array.getElem?_toList]
    unfold madeCells
    rw [Array.getElem?_map, Array.getElem?_range]
    have : j % 2 = 0 ∨ j % 2 = 1 := by omega
    rcases this with h | h <;> simp [hj, h]
  exact ⟨fun i hi => ⟨0, 0, hc _ (by omega), hc _ (by omega), fun h => absurd h (by omega)⟩, fun j => h.frozenAt j⟩

end Go.Proofs.Ytmnnpkmjamhmcaa
