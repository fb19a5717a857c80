/- The walks of exact laws whose function and model answer alike. -/
import Derived.Test.YtciofobedgmbjabDoorRowC
namespace Go.Proofs.YtciofobedgmbjabDoor
open Go.RowKit Go.PlainAid
set_option maxHeartbeats 800000

theorem SL.lower7 {base base' top : Nat} {w : World} {v : Value} {xs : List Int} (h : SL base top w v xs) (hb : base' ≤ base) : SL base' top w v xs := by
  rcases h with h | ⟨g, cap, rfl, h1, h2, h3, h4, h5⟩
  · exact .inl h
  · exact .inr ⟨g, cap, rfl, h1, by omega, h3, h4, h5⟩
theorem SL.block_lt7 {base top : Nat} {w : World} {v : Value} {xs : List Int} (h : SL base top w v xs) : ∀ g, v.ownBlock = some g → g < top := by
  intro g hg
  rcases h with ⟨rfl, _⟩ | ⟨g', cap, rfl, _, _, h3, _⟩
  · simp [Value.ownBlock] at hg
  · simp [Value.ownBlock] at hg
    omega
theorem SL.other7 {base top : Nat} {w w1 : World} {v : Value} {xs : List Int} {row : Option Nat} (h : SL base top w v xs) (hg : w.grownBy w1 row) (ht : top ≤ w.heap.size) (hr : ∀ g, row = some g → g < base) : SL base top w1 v xs := by
  rcases h with h | ⟨g, cap, rfl, h1, h2, h3, h4, h5⟩
  · exact .inl h
  · have hne : some g ≠ row := fun e => by have := hr g e.symm; omega
    have hb := hg.block g (by omega) hne
    exact .inr ⟨g, cap, rfl, h1, h2, h3, fun i hi => (World.cell?_of_block (a := ⟨g, i, none⟩) hb).trans (h4 i hi), fun i => (World.frozen?_of_block (a := ⟨g, i, none⟩) hb).trans (h5 i)⟩

end Go.Proofs.YtciofobedgmbjabDoor
