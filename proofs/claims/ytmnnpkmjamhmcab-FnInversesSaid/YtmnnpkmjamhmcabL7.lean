/- The walks of exact laws whose function and model answer alike. -/
import Derived.Test.YtmnnpkmjamhmcabRowC
namespace Go.Proofs.Ytmnnpkmjamhmcab
open Go.RowKit Go.PlainAid
set_option maxHeartbeats 800000

theorem SL.lower7 {base base' top : Nat} {w : World} {v : Value} {xs : List Int} (h : SL base top w v xs) (hb : base' ≤ base) : SL base' top w v xs := by
  rcases h with h | ⟨g, cap, rfl, h1, h2, h3, h4, h5⟩
  · exact .inl h
  · exact .inr ⟨g, cap, rfl, h1, by omega, h3, h4, h5⟩
theorem SL.block_lt7 {base top : Nat} {w : World} {v : Value} {xs : List Int} (h : SL base top w v xs) : ∀ g, v.ownBlock = some g → g < top := by
  intro g hg
  rcases h with ⟨rfl, _⟩ | ⟨g', cap, rfl, _, _, h3, _⟩
  · simp [Value.ownBlock] at hg
  · simp [Value.ownBlock] at hg
    omega
theorem SL.other7 {base top : Nat} {w w1 : World} {v : Value} {xs : List Int} {row : Option Nat} (h : SL base top w v xs) (hg : w.grownBy w1 row) (ht : top ≤ w.heap.size) (hr : ∀ g, row = some g → g < base) : SL base top w1 v xs := by
  rcases h with h | ⟨g, cap, rfl, h1, h2, h3, h4, h5⟩
  · exact .inl h
  · have hne : some g ≠ row := fun e => by have := hr g e.symm; omega
    have hb := hg.block g (by omega) hne
    exact .inr ⟨g, cap, rfl, h1, h2, h3, fun i hi => (World.cell?_of_block (a := ⟨g, i, none⟩) hb).trans (h4 i hi), fun i => (World.frozen?_of_block (a := ⟨g, i, none⟩) hb).trans (h5 i)⟩
theorem copy7_any (a : Option Addr) (n cap : Nat) (xs : List Int) (w : World) (h : RO w.heap.size w a xs) (hn : xs.length = n) (hl : n ≤ 1048576) :
    Calls Try.prog 67 #[.slice a n cap] w fun e w' => ∃ b c, e = .returned (.slice b n c) ∧ RO w'.heap.size w' b xs ∧ n ≤ c ∧ SL w.heap.size w'.heap.size w' (.slice b n c) xs ∧ Below w.heap.size w w' := by
  refine (copy_any a n cap xs w h hn hl).mono ?_
  rintro e w' ⟨b, c, rfl, hr, hs, hb⟩
  refine ⟨b, c, rfl, hr, ?_, hs, hb⟩
  rcases hs with ⟨h1, _⟩ | ⟨g, c', h1, h2, _⟩
  · injection h1 with _ h1 h2
    omega
  · injection h1 with _ h1 h3
    omega

end Go.Proofs.Ytmnnpkmjamhmcab
