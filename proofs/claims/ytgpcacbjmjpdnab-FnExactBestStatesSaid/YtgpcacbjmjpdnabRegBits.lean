/- The first bits that a register outputs: impl.RegisterBits, spec.l02Bits, spec.RegisterBits, the law FnExactRegisterBits. -/
import Derived.Test.YtgpcacbjmjpdnabCycVis
import Derived.Test.YtgpcacbjmjpdnabRegLaws
import Derived.Test.YtgpcacbjmjpdnabBytes
namespace Go.Proofs.Ytgpcacbjmjpdnab
open Go.RowKit Go.PlainAid
set_option maxHeartbeats 400000

/-- the state after n steps -/
def itr (W t s : Nat) : Nat → Nat
  | 0 => s
  | n + 1 => nxt W t (itr W t s n)
theorem itr_lt {W t s : Nat} (hs : s < 2 ^ W) : ∀ n, itr W t s n < 2 ^ W := by
  intro n
  induction n with
  | zero => exact hs
  | succ n ih => exact nxt_lt ih
/-- the first k outputs -/
def rbits (W t s : Nat) : Nat → List Int
  | 0 => []
  | k + 1 => rbits W t s k ++ [48 + (itr W t s k : Int) % 2]
theorem rbits_length (W t s : Nat) : ∀ k, (rbits W t s k).length = k := by
  intro k
  induction k with
  | zero => rfl
  | succ k ih => simp [rbits, ih]

/-- a register stands in block g, and what lay below has not changed -/
def RegIn (w wr : World) (g : Nat) (x t : Int) : Prop := wr.cell? ⟨g, 0, none⟩ = some (.int .i64 x) ∧ wr.cell? ⟨g, 1, none⟩ = some (.int .i64 t) ∧ Below w.heap.size w wr ∧ w.heap.size ≤ g
theorem RegIn.drewN {w wr : World} {g : Nat} {x t : Int} (h : RegIn w wr g x t) (m : Nat) : RegIn w (wr.drewN m) g x t := ⟨h.1, h.2.1, below_drewN h.2.2.1 m, h.2.2.2⟩
theorem RegIn.lt {w wr : World} {g : Nat} {x t : Int} (h : RegIn w wr g x t) : g < wr.heap.size := World.block_lt_of_cell? wr _ h.1
theorem RegIn.call {w wr w1 : World} {g : Nat} {x t : Int} (h : RegIn w wr g x t) (hb : Below wr.heap.size wr w1) : RegIn w w1 g x t :=
  ⟨(hb.cell (p := ⟨g, 0, none⟩) h.lt).trans h.1, (hb.cell (p := ⟨g, 1, none⟩) h.lt).trans h.2.1, h.2.2.1.trans (hb.mono h.2.2.1.size), h.2.2.2⟩
theorem RegIn.own {w wr w1 : World} {g Z : Nat} {x t : Int} (h : RegIn w wr g x t) (hb : Below Z wr w1) (hZ : g < Z) : RegIn w w1 g x t :=
  ⟨(hb.cell (p := ⟨g, 0, none⟩) hZ).trans h.1, (hb.cell (p := ⟨g, 1, none⟩) hZ).trans h.2.1, h.2.2.1.trans (hb.mono (by have := h.2.2.2; omega)), h.2.2.2⟩

end Go.Proofs.Ytgpcacbjmjpdnab
