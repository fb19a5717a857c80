/- A struct of two cells in a block of its own, with its type: it stays where a row of another type grows. Of no program. -/
import Derived.Test.YtgpcacbjmjpdnabSt2
import Derived.Test.YtgpcacbjmjpdnabGT
namespace Go.Proofs.Ytgpcacbjmjpdnab
open Go.RowKit

def BT (V : World) (b : Nat) (x y : Value) (t : TypeId) : Prop := V.heap[b]? = some (.cells #[x, y] t (0, 0))
theorem BT.lt {V : World} {b : Nat} {x y : Value} {t : TypeId} (h : BT V b x y t) : b < V.heap.size := (Array.getElem?_eq_some_iff.1 h).1
theorem BT.p2 {V : World} {b : Nat} {x y : Value} {t : TypeId} (h : BT V b x y t) : P2 V b x y := by
  unfold BT at h
  refine ⟨⟨?_, ?_⟩, ?_, ?_⟩ <;> simp [World.cell?, World.frozen?, h]
theorem BT.new (w : World) (x y : Value) (t : TypeId) : BT (w.alloc (.cells #[x, y] t)) w.heap.size x y t := by
  unfold BT World.alloc
  simp
theorem BT.below {V V1 : World} {b n : Nat} {x y : Value} {t : TypeId} (h : BT V b x y t) (hb : Below n V V1) (hn : b < n) : BT V1 b x y t := (hb.block b hn).trans h
theorem BT.far {V V1 : World} {b : Nat} {x y : Value} {t : TypeId} (h : BT V b x y t) (hb : Below V.heap.size V V1) : BT V1 b x y t := h.below hb h.lt
theorem BT.alloc {V : World} {b : Nat} {x y : Value} {t : TypeId} (h : BT V b x y t) (o : Obj) : BT (V.alloc o) b x y t := h.below ((Below.refl _ V).alloc (Nat.le_refl _) o) h.lt
theorem BT.drewN {V : World} {b : Nat} {x y : Value} {t : TypeId} (h : BT V b x y t) (m : Nat) : BT (V.drewN m) b x y t := h
theorem BT.drew {V : World} {b : Nat} {x y : Value} {t : TypeId} (h : BT V b x y t) : BT V.drew b x y t := h
theorem BT.grown {V V1 : World} {b : Nat} {x y : Value} {t : TypeId} {row : Option Nat} (h : BT V b x y t) (hg : V.grownBy V1 row) (hne : row ≠ some b) : BT V1 b x y t := (hg.block b h.lt (fun e => hne e.symm)).trans h
theorem BT.not_own {V : World} {b B n size : Nat} {x y v : Value} {t e : TypeId} {xs : List Value} (h : BT V b x y t) (ho : V.ownsRow B e size v n xs) (hne : e ≠ t) : v.ownBlock ≠ some b := by
  rcases ho with ⟨_, ⟨rfl, _⟩ | ⟨g, cap, cur, rfl, _, hc, _⟩⟩
  · simp [Value.ownBlock]
  · intro q
    simp [Value.ownBlock] at q
    subst q
    unfold BT at h
    rw [hc] at h
    simp at h
    exact hne h.2
theorem BT.away {V : World} {b c : Nat} {x y : Value} {t : TypeId} (h : BT V b x y t) (hne : c ≠ b) (j : Nat) (u : Value) : BT (V.setCell ⟨c, j, none⟩ u) b x y t := (Below.heap_setCell V ⟨c, j, none⟩ u b (fun e => hne e.symm)).trans h
end Go.Proofs.Ytgpcacbjmjpdnab
