/- The laws FnExactOrderOfX and FnExactIsPrimitive. -/
import Derived.Test.YtapccbplmbbnnacOrder
namespace Go.Proofs.Ytapccbplmbbnnac
open Go.RowKit Go.PlainAid
set_option maxHeartbeats 800000

theorem impl_IsPrimitive_yes (p : Nat) (c : Nat) (w : World) (h0 : 3 ≤ p) (hp : p < 131072) (h1 : p % 2 = 1) (hc : OrdP p c) (W : Nat) (hW : Pl.len p = W + 1) (P : Int) (hP : 2 ^ W = P) :
    Calls Try.prog 21 #[.int .i64 p] w fun e w' => e = .returned (.bool ((c : Int) == P - 1)) ∧ Below w.heap.size w w' := by
  have HC : Hid (∀ W : World, Calls Try.prog 20 #[.int .i64 p] W fun e w' => e = .returned (.tuple #[.int .i64 c, .bool true]) ∧ Below W.heap.size W w') := fun W => (impl_OrderOfX_yes p W h0 hp h1).mono fun e w' ⟨d, he, ho, hb⟩ => ⟨by rw [he, ho.unique hc], hb⟩
  have HD : Hid (∀ W' : World, Calls Try.prog 43 #[.int .i64 p] W' fun e w' => e = .returned (.int .i64 (W : Nat)) ∧ W' = w') := fun W' => by
    have := degree_any p W' (by omega)
    rwa [hW, show (((W + 1 : Nat) : Int) - 1) = (W : Int) by omega] at this
  have hW2 : W ≤ 62 := by have := Pl.len_of_lt 17 p hp; omega
  have HO : Hid (∀ w : World, Calls Try.prog 28 #[.int .i64 W] w fun e w' => e = .returned (.int .i64 (P - 1)) ∧ w = w') := fun w => ones_any W P w hW2 hP
  clear h0 hp h1 hc hW hP
  go_enter Try.func21, Try.ntmps21
  go_wp2_with fail
  refine (HC.out _).mono ?_
  rintro e w2 ⟨rfl, hbel⟩
  go_wp2_with (first | (go_at_call 43; with_reducible refine (HD.out _).mono ?_; rintro e w1 ⟨rfl, rfl⟩) | (go_at_call 28; with_reducible refine (HO.out _).mono ?_; rintro e w1 ⟨rfl, rfl⟩))
  go_ret
  exact ⟨rfl, hbel⟩
theorem impl_IsPrimitive_no (p : Int) (w : World) (h : ¬ (3 ≤ p ∧ p ≤ 131071 ∧ p % 2 = 1)) :
    Calls Try.prog 21 #[.int .i64 p] w fun e w' => e = .returned (.bool false) ∧ w = w' := by
  have HB : Hid (∀ W : World, Calls Try.prog 20 #[.int .i64 p] W fun e w' => e = .returned (.tuple #[.int .i64 0, .bool false]) ∧ W = w') := fun W => impl_OrderOfX_no p W h
  clear h
  go_enter Try.func21, Try.ntmps21
  go_wp2_with (go_at_call 20; with_reducible refine (HB.out _).mono ?_; rintro e w1 ⟨rfl, rfl⟩)
  go_ret
  exact ⟨rfl, rfl⟩
end Go.Proofs.Ytapccbplmbbnnac
