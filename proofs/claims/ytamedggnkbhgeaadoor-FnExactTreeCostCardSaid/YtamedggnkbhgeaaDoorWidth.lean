/- How many bits numbers need: impl.widthOf, impl.widthBelow, spec.l06Width, spec.l06Number. -/
import Derived.Test.YtamedggnkbhgeaaDoorLen
import Derived.Test.YtamedggnkbhgeaaDoorBtw
namespace Go.Proofs.YtamedggnkbhgeaaDoor
open Go.RowKit Go.PlainAid
set_option maxHeartbeats 800000

theorem len_iff {n k : Nat} (h1 : 1 ≤ n) : Pl.len (n - 1) ≤ k ↔ n ≤ 2 ^ k := by
  constructor
  · intro h
    have := Pl.lt_of_len h
    omega
  · intro h
    exact Pl.len_of_lt k (n - 1) (by omega)
end Go.Proofs.YtamedggnkbhgeaaDoor
