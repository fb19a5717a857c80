/- Functions of two fractions in the specification: spec.AddFractions, SubFractions, MulFractions. -/
import Derived.Test.YtmnnpkmjamhmcabFAdd
namespace Go.Proofs.Ytmnnpkmjamhmcab
open Go.RowKit Go.PlainAid
set_option maxHeartbeats 800000

/-- a function of two fractions: one fraction, and whether there is one -/
def GivesFrac (f : FuncId) (args : Array Value) (n d : Int) (ok : Bool) : Prop := ∀ W : World, Calls Try.prog f args W fun e w' => e = .returned (.tuple #[.agg #[.int .i64 n, .int .i64 d], .bool ok]) ∧ Below W.heap.size W w'

theorem VF.neg {n d : Int} (h : VF n d) : VF (-n) d := ⟨h.1, h.2.1, by have := h.2.2.2.1; omega, by have := h.2.2.1; omega, by rw [gcdI_neg]; exact h.2.2.2.2⟩

end Go.Proofs.Ytmnnpkmjamhmcab
