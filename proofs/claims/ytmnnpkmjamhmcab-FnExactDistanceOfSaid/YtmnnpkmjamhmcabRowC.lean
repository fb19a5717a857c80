/- Slices of int64 that came in, as they are read, and their copies. -/
import Derived.Test.YtmnnpkmjamhmcabRowL
import Derived.Test.YtmnnpkmjamhmcabSlice
namespace Go.Proofs.Ytmnnpkmjamhmcab
open Go.RowKit Go.PlainAid

theorem own_cellsI {w : World} {B : Nat} {e : TypeId} {g n cap : Nat} {xs : List Int} (h : w.ownsRow B e 1 (.slice (some ⟨g, 0, none⟩) n cap) n (xs.map (Value.int .i64))) (i : Nat) (x : Int) (hi : i < n) (hx : xs[i]? = some x) : w.cell? ⟨g, i, none⟩ = some (.int .i64 x) := by
  rw [h.cellAt i (by omega), List.getElem?_map, hx]
  rfl

theorem RowIn.ro {w : World} {a : Option Addr} {n : Nat} {zs : List Int} (h : RowIn .i64 w a n zs) : ∃ xs : List Int, xs.length = n ∧ RO w.heap.size w a xs := by
  rcases h.at with h0 | ⟨b, off, ha, hb, hl, hc, _⟩
  · exact ⟨[], h0.symm, fun i x hx => by simp at hx⟩
  · refine ⟨zs.take n, by rw [List.length_take]; omega, fun i x hx => ?_⟩
    obtain ⟨hi, hx⟩ := List.getElem?_eq_some_iff.1 hx
    rw [List.length_take] at hi
    rw [List.getElem_take] at hx
    refine ⟨b, off, ha, hb, ?_⟩
    rw [hc i (by omega), List.getD_eq_getElem?_getD, List.getElem?_eq_getElem (by omega), Option.getD_some, hx]
theorem copy_any (a : Option Addr) (n cap : Nat) (xs : List Int) (w : World) (h : RO w.heap.size w a xs) (hn : xs.length = n) (hl : n ≤ 1048576) :
    Calls Try.prog 67 #[.slice a n cap] w fun e w' => ∃ b c, e = .returned (.slice b n c) ∧ RO w'.heap.size w' b xs ∧ SL w.heap.size w'.heap.size w' (.slice b n c) xs ∧ Below w.heap.size w w' := by
  refine (toInt64S_any a n cap xs w h hn hl).mono ?_
  rintro e w' ⟨v, rfl, ho, hb⟩
  subst hn
  have hs := SL.of_own ho
  obtain ⟨b, c, rfl, hr⟩ := hs.ro
  exact ⟨b, c, rfl, hr, hs, hb⟩
end Go.Proofs.Ytmnnpkmjamhmcab
