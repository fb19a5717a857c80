/- Worlds behind others, below whose end nothing has changed, for regions that draw their order. Of no program. -/
import Derived.Test.YtmnnpkmjamhmcabQTail
import Derived.Test.YtmnnpkmjamhmcabSt2
namespace Go.Proofs.Ytmnnpkmjamhmcab
open Go.RowKit
structure GT (W0 : World) where
  w : World
  h : Below W0.heap.size W0 w
instance (W0 : World) : Inhabited (GT W0) := ⟨⟨W0, Below.refl _ _⟩⟩
theorem gt_call {W0 : World} {p : GT W0} {P : Program} {f : FuncId} {args : Array Value} {v : Value} (h : Calls P f args p.w fun e w' => e = .returned v ∧ Below p.w.heap.size p.w w') :
    Calls P f args p.w fun e w'' => e = .returned v ∧ ∃ q : GT W0, w'' = q.w :=
  h.mono fun _ w' ⟨he, hb⟩ => ⟨he, ⟨w', p.h.trans (hb.mono p.h.size)⟩, rfl⟩
theorem gt_still {W0 : World} {p : GT W0} {P : Program} {f : FuncId} {args : Array Value} {v : Value} (h : Calls P f args p.w fun e w' => e = .returned v ∧ p.w = w') :
    Calls P f args p.w fun e w'' => e = .returned v ∧ ∃ q : GT W0, w'' = q.w :=
  h.mono fun _ _ ⟨he, hw⟩ => ⟨he, p, hw.symm⟩
theorem gt_cell {W0 : World} {a : Addr} {v : Value} (h : W0.cell? a = some v) (q : GT W0) : q.w.cell? a = some v := (q.h.cell (World.block_lt_of_cell? W0 _ h)).trans h
theorem gt_frozen {W0 : World} {a : Addr} {v : Value} {f : Bool} (h : W0.cell? a = some v) (hf : W0.frozen? a = f) (q : GT W0) : q.w.frozen? a = f := (q.h.frozen (World.block_lt_of_cell? W0 _ h)).trans hf
theorem own_far {w w1 : World} {B : Nat} {e : TypeId} {size n : Nat} {v : Value} {xs : List Value} (h : w.ownsRow B e size v n xs) (hb : Below w.heap.size w w1) : w1.ownsRow B e size v n xs := by
  obtain ⟨h1, h2 | ⟨g, cap, cur, hv, hg, hc, r⟩⟩ := h
  · exact ⟨h1, .inl h2⟩
  · exact ⟨h1, .inr ⟨g, cap, cur, hv, hg, by rw [hb.block g (Array.getElem?_eq_some_iff.1 hc).1]; exact hc, r⟩⟩
theorem grown_far {w w1 : World} (h : w.grownBy w1 none) : Below w.heap.size w w1 := (Below.refl w.heap.size w).grown h (Nat.le_refl _) (by simp)
theorem own_lt {w : World} {B : Nat} {e : TypeId} {size n g cap : Nat} {xs : List Value} (h : w.ownsRow B e size (.slice (some ⟨g, 0, none⟩) n cap) n xs) : g < w.heap.size := by
  obtain ⟨_, ⟨h1, _⟩ | ⟨g', cap', cur, hv, _, hc, _⟩⟩ := h
  · cases h1
  · cases hv
    exact (Array.getElem?_eq_some_iff.1 hc).1
theorem drewN_twoG (W : World) (a b : Nat) : (W.drewN a).drewN b = W.drewN (a + b) := by simp [World.drewN, Nat.add_assoc]
/-- a call that leaves the world alone, in a region that draws -/
theorem quietG {P : Program} {f : FuncId} {args : Array Value} {W : World} {n : Nat} {v : Value} (h : Calls P f args (W.drewN n) fun e w' => e = .returned v ∧ W.drewN n = w') :
    Calls P f args (W.drewN n) fun e w'' => e = .returned v ∧ ∃ m, w'' = W.drewN m := h.mono fun _ _ ⟨he, hw⟩ => ⟨he, n, hw.symm⟩
end Go.Proofs.Ytmnnpkmjamhmcab
