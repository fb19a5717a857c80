/- Slices of fractions: reading them. spec.l01FAll. -/
import Derived.Test.YtmnnpkmjamhmcaaFrSpec
namespace Go.Proofs.Ytmnnpkmjamhmcaa
open Go.RowKit Go.PlainAid
set_option maxHeartbeats 800000

/-- a slice of fractions, as it is read -/
def FIn (w : World) (a : Option Addr) (n : Nat) (xs : List (Int × Int)) : Prop :=
  xs.length = n ∧ (n = 0 ∨ ∃ b o : Nat, a = some ⟨b, o, none⟩ ∧ ∀ i, (h : i < xs.length) → w.cell? ⟨b, o + i * 2, none⟩ = some (.int .i64 xs[i].1) ∧ w.cell? ⟨b, o + i * 2 + 1, none⟩ = some (.int .i64 xs[i].2))
theorem FIn.far {w w1 : World} {a : Option Addr} {n : Nat} {xs : List (Int × Int)} (h : FIn w a n xs) (hb : Below w.heap.size w w1) : FIn w1 a n xs := by
  obtain ⟨h1, h2 | ⟨b, o, rfl, h3⟩⟩ := h
  · exact ⟨h1, .inl h2⟩
  · refine ⟨h1, .inr ⟨b, o, rfl, fun i hi => ?_⟩⟩
    obtain ⟨h4, h5⟩ := h3 i hi
    exact ⟨(hb.cell (World.block_lt_of_cell? w _ h4)).trans h4, (hb.cell (World.block_lt_of_cell? w _ h5)).trans h5⟩
theorem FIn.grow {w w1 : World} {a : Option Addr} {n : Nat} {xs : List (Int × Int)} (h : FIn w a n xs) (hb : w.grownBy w1 none) : FIn w1 a n xs := h.far ((Below.refl _ w).grown hb (Nat.le_refl _) (by simp))
/-- one element -/
theorem FIn.at {w : World} {a : Option Addr} {n : Nat} {xs : List (Int × Int)} (h : FIn w a n xs) {k : Nat} (hk : k < n) : ∃ (b o : Nat) (x y : Int), a = some ⟨b, o, none⟩ ∧ xs[k]? = some (x, y) ∧ w.cell? ⟨b, o + k * 2, none⟩ = some (.int .i64 x) ∧ w.cell? ⟨b, o + k * 2 + 1, none⟩ = some (.int .i64 y) ∧
    (⟨b, o, none⟩ : Addr).add (k * 2) = ⟨b, o + k * 2, none⟩ := by
  obtain ⟨h1, h2 | ⟨b, o, rfl, h3⟩⟩ := h
  · omega
  · obtain ⟨h4, h5⟩ := h3 k (by omega)
    refine ⟨b, o, xs[k].1, xs[k].2, rfl, by rw [List.getElem?_eq_getElem (by omega)], h4, h5, ?_⟩
    unfold Addr.add
    split
    · next h => rw [h]; rfl
    · rfl

theorem FIn.of_cells {w : World} (x : Addr) (l : Nat) (q : Nat → Int × Int) (h : ∀ i, i < l → w.cell? (x.add (i * 2)) = some (.int .i64 (q i).1) ∧ w.cell? (x.add (i * 2 + 1)) = some (.int .i64 (q i).2)) : FIn w (some x) l ((List.range l).map q) := by
  refine ⟨by simp, ?_⟩
  by_cases hl : l = 0
  · exact .inl hl
  · right
    obtain ⟨b, o, s⟩ := x
    have h0 := (h 0 (by omega)).1
    have hs : s = none := by
      cases s with
      | none => rfl
      | some k =>
        simp only [Addr.add, World.cell?] at h0
        split at h0
        · simp at h0
        · cases h0
    subst hs
    refine ⟨b, o, rfl, fun i hi => ?_⟩
    have hi' : i < l := by simpa using hi
    obtain ⟨c0, c1⟩ := h i hi'
    have e0 : (⟨b, o, none⟩ : Addr).add (i * 2) = ⟨b, o + i * 2, none⟩ := by
      unfold Addr.add
      split
      · next hz => rw [hz]; rfl
      · rfl
    have e1 : (⟨b, o, none⟩ : Addr).add (i * 2 + 1) = ⟨b, o + i * 2 + 1, none⟩ := by
      unfold Addr.add
      rw [if_neg (by omega), Nat.add_assoc]
    rw [e0] at c0
    rw [e1] at c1
    simpa using ⟨c0, c1⟩

/-- all of them are valid -/
def AllVF (xs : List (Int × Int)) : Prop := ∀ p ∈ xs, VF p.1 p.2

end Go.Proofs.Ytmnnpkmjamhmcaa
