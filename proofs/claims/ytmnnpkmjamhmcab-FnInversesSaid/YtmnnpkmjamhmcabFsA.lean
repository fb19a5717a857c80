/- Slices of fractions of one's own: marked, asked for the marks (laws.markFractionS, heldFractionS). -/
import Derived.Test.YtmnnpkmjamhmcabFrSumE
import Derived.Test.YtmnnpkmjamhmcabSSb
namespace Go.Proofs.Ytmnnpkmjamhmcab
open Go.RowKit Go.PlainAid
set_option maxHeartbeats 1600000

def FS (lo top : Nat) (w : World) (v : Value) (ys : List (Int × Int)) : Prop :=
  (v = .slice none 0 0 ∧ ys = []) ∨ ∃ g cap, v = .slice (some ⟨g, 0, none⟩) ys.length cap ∧ ys.length ≤ cap ∧ lo ≤ g ∧ g < top ∧ FRow w g ys.length ys.length ys
theorem FRow.chg {w w1 : World} {g n k lo hi : Nat} {xs : List (Int × Int)} (h : FRow w g n k xs) (hc : Chg lo hi w w1) (hg : g < w.heap.size) (hne : g < lo ∨ hi ≤ g) : FRow w1 g n k xs := by
  have hb := hc.block g hg (by omega)
  refine ⟨fun i hi => ?_, fun j => (World.frozen?_of_block (a := ⟨g, j, none⟩) hb).trans (h.2 j)⟩
  obtain ⟨x, y, h1, h2, h3⟩ := h.1 i hi
  exact ⟨x, y, (World.cell?_of_block (a := ⟨g, i * 2, none⟩) hb).trans h1, (World.cell?_of_block (a := ⟨g, i * 2 + 1, none⟩) hb).trans h2, h3⟩
theorem FS.chg {lo top lo' hi : Nat} {w w1 : World} {v : Value} {ys : List (Int × Int)} (h : FS lo top w v ys) (hc : Chg lo' hi w w1) (ht : top ≤ w.heap.size) (hne : top ≤ lo' ∨ hi ≤ lo) : FS lo top w1 v ys := by
  rcases h with h | ⟨g, cap, rfl, h1, h2, h3, h4⟩
  · exact .inl h
  · exact .inr ⟨g, cap, rfl, h1, h2, h3, h4.chg hc (by omega) (by omega)⟩
theorem FS.fin {lo top : Nat} {w : World} {v : Value} {ys : List (Int × Int)} (h : FS lo top w v ys) : ∃ a c, v = .slice a ys.length c ∧ FIn w a ys.length ys := by
  rcases h with ⟨rfl, rfl⟩ | ⟨g, cap, rfl, h1, h2, h3, h4⟩
  · exact ⟨none, 0, rfl, rfl, .inl rfl⟩
  · exact ⟨_, cap, rfl, h4.full rfl⟩
/-- the marks from 1 on -/
def fmk (n : Nat) : List (Int × Int) := (List.range n).map fun (i : Nat) => ((1 : Int) + 2 * (i : Int), (2 : Int) + 2 * (i : Int))
theorem fmk_length (n : Nat) : (fmk n).length = n := by simp [fmk]
theorem fmk_at {n i : Nat} (h : i < n) : (fmk n)[i]? = some (1 + 2 * (i : Int), 2 + 2 * (i : Int)) := by simp [fmk, h]
theorem add_two (g k : Nat) : (⟨g, 0, none⟩ : Addr).add (k * 2) = ⟨g, k * 2, none⟩ := by
  unfold Addr.add
  split
  · next h => rw [h]
  · simp
end Go.Proofs.Ytmnnpkmjamhmcab
