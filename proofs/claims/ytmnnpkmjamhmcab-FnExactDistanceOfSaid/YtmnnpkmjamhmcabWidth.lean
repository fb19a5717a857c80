/- How many bits numbers need: impl.widthOf, impl.widthBelow, spec.l06Width, spec.l06Number. -/
import Derived.Test.YtmnnpkmjamhmcabLen
import Derived.Test.YtmnnpkmjamhmcabBtw
namespace Go.Proofs.Ytmnnpkmjamhmcab
open Go.RowKit Go.PlainAid
set_option maxHeartbeats 800000

theorem widthOf_any (n : Nat) (w : World) (hn : n ≤ 1000000000000000000) :
    Calls Try.prog 227 #[.int .i64 n] w fun e w' => e = .returned (.int .i64 (Pl.len n)) ∧ w = w' := by
  have HL : Hid (∀ W : World, Calls Try.prog 240 #[.int .u64 n] W fun e w' => e = .returned (.int .i64 (Pl.len n)) ∧ W = w') := fun W => len64_any n W (by omega)
  go_enter Try.func227, Try.ntmps227
  go_wp2_with fail
  refine (HL.out _).mono ?_
  rintro e w1 ⟨rfl, rfl⟩
  go_wp2
  go_ret
  exact ⟨rfl, rfl⟩
theorem widthBelow_any (n : Nat) (w : World) (h1 : 1 ≤ n) (hn : n ≤ 1000000) :
    Calls Try.prog 199 #[.int .i64 n] w fun e w' => e = .returned (.int .i64 (Pl.len (n - 1))) ∧ w = w' := by
  obtain ⟨m, rfl⟩ : ∃ m, n = m + 1 := ⟨n - 1, by omega⟩
  have HL : Hid (∀ W : World, Calls Try.prog 227 #[.int .i64 m] W fun e w' => e = .returned (.int .i64 (Pl.len m)) ∧ W = w') := fun W => widthOf_any m W (by omega)
  have hs : ((m + 1 : Nat) : Int) - 1 = m := by omega
  rw [Nat.add_sub_cancel]
  go_enter Try.func199, Try.ntmps199
  go_wp2_with fail
  refine (HL.out _).mono ?_
  rintro e w1 ⟨rfl, rfl⟩
  go_wp2
  go_ret
  exact ⟨rfl, rfl⟩
theorem len_iff {n k : Nat} (h1 : 1 ≤ n) : Pl.len (n - 1) ≤ k ↔ n ≤ 2 ^ k := by
  constructor
  · intro h
    have := Pl.lt_of_len h
    omega
  · intro h
    exact Pl.len_of_lt k (n - 1) (by omega)
end Go.Proofs.Ytmnnpkmjamhmcab
