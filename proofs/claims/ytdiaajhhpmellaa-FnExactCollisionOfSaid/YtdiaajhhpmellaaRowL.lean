/- Slices of int64 that are only read; the copy of one (laws.toInt64S). -/
import Derived.Test.YtdiaajhhpmellaaSlice64
import Derived.Test.YtdiaajhhpmellaaQTail
import Derived.Test.YtdiaajhhpmellaaCycA
namespace Go.Proofs.Ytdiaajhhpmellaa
open Go.RowKit Go.PlainAid
set_option maxHeartbeats 800000

/-- a slice that is only read: these numbers from its first cell on -/
def RO (top : Nat) (w : World) (a : Option Addr) (xs : List Int) : Prop := ∀ i x, xs[i]? = some x → ∃ g off, a = some ⟨g, off, none⟩ ∧ g < top ∧ w.cell? ⟨g, off + i, none⟩ = some (.int .i64 x)
theorem RO.below {top : Nat} {w w1 : World} {a : Option Addr} {xs : List Int} (h : RO top w a xs) (hb : Below top w w1) : RO top w1 a xs := fun i x hx => by
  obtain ⟨g, off, ha, hg, hc⟩ := h i x hx
  exact ⟨g, off, ha, hg, (hb.cell (p := ⟨g, off + i, none⟩) hg).trans hc⟩
theorem RO.up {top top' : Nat} {w : World} {a : Option Addr} {xs : List Int} (h : RO top w a xs) (ht : top ≤ top') : RO top' w a xs := fun i x hx => by
  obtain ⟨g, off, ha, hg, hc⟩ := h i x hx
  exact ⟨g, off, ha, by omega, hc⟩
theorem RO.drewN {top : Nat} {w : World} {a : Option Addr} {xs : List Int} (h : RO top w a xs) (n : Nat) : RO top (w.drewN n) a xs := h
theorem own_belowO {w w1 : World} {B : Nat} {e : TypeId} {size n : Nat} {v : Value} {xs : List Value} (h : w.ownsRow B e size v n xs) (hb : Below w.heap.size w w1) : w1.ownsRow B e size v n xs := by
  obtain ⟨h1, h2 | ⟨g, cap, cur, hv, hg, hc, r⟩⟩ := h
  · exact ⟨h1, .inl h2⟩
  · exact ⟨h1, .inr ⟨g, cap, cur, hv, hg, by rw [hb.block g (Array.getElem?_eq_some_iff.1 hc).1]; exact hc, r⟩⟩
theorem SL.ro {base top : Nat} {w : World} {v : Value} {xs : List Int} (h : SL base top w v xs) : ∃ a cap, v = .slice a xs.length cap ∧ RO top w a xs := by
  rcases h with ⟨rfl, rfl⟩ | ⟨g, cap, rfl, _, _, hg, hc, _⟩
  · exact ⟨none, 0, rfl, fun i x hx => by simp at hx⟩
  · refine ⟨_, cap, rfl, fun i x hx => ?_⟩
    obtain ⟨hi, hx⟩ := List.getElem?_eq_some_iff.1 hx
    exact ⟨g, 0, rfl, hg, by rw [Nat.zero_add, hc i hi, hx]⟩

end Go.Proofs.Ytdiaajhhpmellaa
