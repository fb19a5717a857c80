/- Linear machines: whether they are valid: impl and spec; the laws' copies of them; the law FnExactValidLinear. -/
import Derived.Test.YtciofobedgmbjabDoorAreB
import Derived.Test.YtciofobedgmbjabDoorReg
import Derived.Test.YtciofobedgmbjabDoorD3
import Derived.Test.YtciofobedgmbjabDoorL7
namespace Go.Proofs.YtciofobedgmbjabDoor
open Go.RowKit Go.PlainAid
set_option maxHeartbeats 800000

/-- a valid machine -/
def LinP (x : Int) (xs : List Int) (o : Int) : Prop := (1 ≤ x ∧ x ≤ 16) ∧ (xs.length : Int) = x ∧ (∀ (i : Nat) (y : Int), xs[i]? = some y → InP x y) ∧ InP x o
theorem in_pow {W : Nat} {P : Int} (hP : 2 ^ W = P) (s : Int) : InP (W : Int) s ↔ 0 ≤ s ∧ s ≤ P - 1 := inP_nat hP s
theorem RO.gr {W0 : World} {a : Option Addr} {xs : List Int} (h : RO W0.heap.size W0 a xs) (q : GR W0 none) : RO q.w.heap.size q.w a xs := fun i x hx => by
  obtain ⟨g, off, e, hg, hc⟩ := h i x hx
  exact ⟨g, off, e, Nat.lt_of_lt_of_le hg q.h.size, (World.cell?_of_block (a := ⟨g, off + i, none⟩) (q.h.block g hg (by simp))).trans hc⟩
theorem grb {W0 W : World} (h : W0.drew.grownBy W none) : Below W0.heap.size W0 W := ⟨h.os, h.tape, h.output, h.size, fun k hk => h.block k hk (by simp)⟩
end Go.Proofs.YtciofobedgmbjabDoor
