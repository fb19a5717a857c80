/- The laws FnExactOrderOfX and FnExactIsPrimitive. -/
import Derived.Test.YtapccbplmbbnnabOrder
namespace Go.Proofs.Ytapccbplmbbnnab
open Go.RowKit Go.PlainAid
set_option maxHeartbeats 800000

theorem spec_OrderOfX_yes (p : Nat) (w : World) (h0 : 3 ≤ p) (hp : p < 131072) (h1 : p % 2 = 1) :
    Calls Try.prog 47 #[.int .i64 p] w fun e w' => ∃ c : Nat, e = .returned (.tuple #[.int .i64 c, .bool true]) ∧ OrdP p c ∧ w = w' := by
  have HB : Hid (∀ W : World, Calls Try.prog 83 #[.int .i64 p] W fun e w' => e = .returned (.bool true) ∧ W = w') := fun W => l02Small_any _ _ W (decide_eq_true (by omega))
  have HC := Lib.hid (l02Order_any p · h0 hp h1)
  clear h0 hp h1
  go_enter Try.func47, Try.ntmps47
  go_wp2_with (first | (go_at_call 83; with_reducible refine (HB.out _).mono ?_; rintro e w1 ⟨rfl, rfl⟩) | (go_at_call 84; refine (HC.out _).mono ?_; rintro e w1 ⟨c, rfl, ho, rfl⟩))
  have HH := Lib.hid ho
  clear ho
  go_ret2
  exact ⟨c, rfl, HH.out, rfl⟩
theorem spec_OrderOfX_no (p : Int) (w : World) (h : ¬ (3 ≤ p ∧ p ≤ 131071 ∧ p % 2 = 1)) :
    Calls Try.prog 47 #[.int .i64 p] w fun e w' => e = .returned (.tuple #[.int .i64 0, .bool false]) ∧ w = w' := by
  have HB : Hid (∀ W : World, Calls Try.prog 83 #[.int .i64 p] W fun e w' => e = .returned (.bool false) ∧ W = w') := fun W => l02Small_any _ _ W (decide_eq_false (by omega))
  clear h
  go_enter Try.func47, Try.ntmps47
  go_wp2_with (go_at_call 83; with_reducible refine (HB.out _).mono ?_; rintro e w1 ⟨rfl, rfl⟩)
  go_ret2
  exact ⟨rfl, rfl⟩
theorem lawOrder_core (p : Int) (w : World) (x : Int) (b : Bool) (HS : Hid (∀ W, Calls Try.prog 47 #[.int .i64 p] W fun e w' => e = .returned (.tuple #[.int .i64 x, .bool b]) ∧ W = w'))
    (HI : Hid (∀ W, Calls Try.prog 42 #[.int .i64 p] W fun e w' => e = .returned (.tuple #[.int .i64 x, .bool b]) ∧ Below W.heap.size W w')) :
    Calls Try.prog 10 #[.int .i64 p] w fun e w' => e = .returned (.bool true) ∧ Below w.heap.size w w' := by
  have hx : (x != x) = false := by simp
  have hb : (b != b) = false := by simp
  go_enter Try.func10, Try.ntmps10
  go_wp2_with (go_at_call 47; refine (HS.out _).mono ?_; rintro e w1 ⟨rfl, rfl⟩)
  refine (HI.out _).mono ?_
  rintro e w2 ⟨rfl, hbel⟩
  go_wp2
  go_ret
  exact ⟨rfl, hbel⟩
theorem lawOrder (p : Int) (w : World) :
    Calls Try.prog 10 #[.int .i64 p] w fun e w' => e = .returned (.bool true) ∧ Below w.heap.size w w' := by
  by_cases h : 3 ≤ p ∧ p ≤ 131071 ∧ p % 2 = 1
  · obtain ⟨q, rfl⟩ := Int.eq_ofNat_of_zero_le (show 0 ≤ p by omega)
    obtain ⟨h0, h1, h2⟩ := h
    obtain ⟨c, hc⟩ := order_is (p := q) (by omega) (by omega) (by omega)
    refine lawOrder_core q w c true (fun W => ?_) (fun W => ?_)
    · exact (spec_OrderOfX_yes q W (by omega) (by omega) (by omega)).mono fun e w' ⟨d, he, ho, hw⟩ => ⟨by rw [he, ho.unique hc], hw⟩
    · exact (impl_OrderOfX_yes q W (by omega) (by omega) (by omega)).mono fun e w' ⟨d, he, ho, hb⟩ => ⟨by rw [he, ho.unique hc], hb⟩
  · refine lawOrder_core p w 0 false (fun W => ?_) (fun W => ?_)
    · exact spec_OrderOfX_no p W h
    · exact (impl_OrderOfX_no p W h).mono fun e w' ⟨he, hw⟩ => ⟨he, by rw [← hw]; exact Below.refl _ _⟩

/-- both functions, given what they call: the number of bits and the order -/
theorem spec_IsPrimitive_yes (p : Nat) (c : Nat) (w : World) (h0 : 3 ≤ p) (hp : p < 131072) (h1 : p % 2 = 1) (hc : OrdP p c) (W : Nat) (hW : Pl.len p = W + 1) (P : Int) (hP : 2 ^ W = P) :
    Calls Try.prog 48 #[.int .i64 p] w fun e w' => e = .returned (.bool ((c : Int) == P - 1)) ∧ w = w' := by
  have HB : Hid (∀ W : World, Calls Try.prog 83 #[.int .i64 p] W fun e w' => e = .returned (.bool true) ∧ W = w') := fun W => l02Small_any _ _ W (decide_eq_true (by omega))
  have HC : Hid (∀ W : World, Calls Try.prog 84 #[.int .i64 p] W fun e w' => e = .returned (.int .i64 (c : Nat)) ∧ W = w') := fun W => (l02Order_any p W h0 hp h1).mono fun e w' ⟨d, he, ho, hw⟩ => ⟨by rw [he, ho.unique hc], hw⟩
  have HD : Hid (∀ W' : World, Calls Try.prog 81 #[.int .i64 p] W' fun e w' => e = .returned (.int .i64 (W : Nat)) ∧ W' = w') := fun W' => by
    have := l02Degree_any p W' (by omega)
    rwa [hW, show (((W + 1 : Nat) : Int) - 1) = (W : Int) by omega] at this
  have hW2 : W ≤ 62 := by have := Pl.len_of_lt 17 p hp; omega
  obtain ⟨p1, p2⟩ := pow62 W hW2
  rw [hP] at p1 p2
  clear h0 hp h1 hc hW
  go_enter Try.func48, Try.ntmps48
  go_wp2_with (first | (go_at_call 83; with_reducible refine (HB.out _).mono ?_; rintro e w1 ⟨rfl, rfl⟩) | (go_at_call 84; with_reducible refine (HC.out _).mono ?_; rintro e w1 ⟨rfl, rfl⟩) | (go_at_call 81; with_reducible refine (HD.out _).mono ?_; rintro e w1 ⟨rfl, rfl⟩))
  go_ret
  exact ⟨rfl, rfl⟩
theorem impl_IsPrimitive_yes (p : Nat) (c : Nat) (w : World) (h0 : 3 ≤ p) (hp : p < 131072) (h1 : p % 2 = 1) (hc : OrdP p c) (W : Nat) (hW : Pl.len p = W + 1) (P : Int) (hP : 2 ^ W = P) :
    Calls Try.prog 49 #[.int .i64 p] w fun e w' => e = .returned (.bool ((c : Int) == P - 1)) ∧ Below w.heap.size w w' := by
  have HC : Hid (∀ W : World, Calls Try.prog 42 #[.int .i64 p] W fun e w' => e = .returned (.tuple #[.int .i64 c, .bool true]) ∧ Below W.heap.size W w') := fun W => (impl_OrderOfX_yes p W h0 hp h1).mono fun e w' ⟨d, he, ho, hb⟩ => ⟨by rw [he, ho.unique hc], hb⟩
  have HD : Hid (∀ W' : World, Calls Try.prog 76 #[.int .i64 p] W' fun e w' => e = .returned (.int .i64 (W : Nat)) ∧ W' = w') := fun W' => by
    have := degree_any p W' (by omega)
    rwa [hW, show (((W + 1 : Nat) : Int) - 1) = (W : Int) by omega] at this
  have hW2 : W ≤ 62 := by have := Pl.len_of_lt 17 p hp; omega
  have HO : Hid (∀ w : World, Calls Try.prog 61 #[.int .i64 W] w fun e w' => e = .returned (.int .i64 (P - 1)) ∧ w = w') := fun w => ones_any W P w hW2 hP
  clear h0 hp h1 hc hW hP
  go_enter Try.func49, Try.ntmps49
  go_wp2_with fail
  refine (HC.out _).mono ?_
  rintro e w2 ⟨rfl, hbel⟩
  go_wp2_with (first | (go_at_call 76; with_reducible refine (HD.out _).mono ?_; rintro e w1 ⟨rfl, rfl⟩) | (go_at_call 61; with_reducible refine (HO.out _).mono ?_; rintro e w1 ⟨rfl, rfl⟩))
  go_ret
  exact ⟨rfl, hbel⟩
theorem spec_IsPrimitive_no (p : Int) (w : World) (h : ¬ (3 ≤ p ∧ p ≤ 131071 ∧ p % 2 = 1)) :
    Calls Try.prog 48 #[.int .i64 p] w fun e w' => e = .returned (.bool false) ∧ w = w' := by
  have HB : Hid (∀ W : World, Calls Try.prog 83 #[.int .i64 p] W fun e w' => e = .returned (.bool false) ∧ W = w') := fun W => l02Small_any _ _ W (decide_eq_false (by omega))
  clear h
  go_enter Try.func48, Try.ntmps48
  go_wp2_with (go_at_call 83; with_reducible refine (HB.out _).mono ?_; rintro e w1 ⟨rfl, rfl⟩)
  go_ret
  exact ⟨rfl, rfl⟩
theorem impl_IsPrimitive_no (p : Int) (w : World) (h : ¬ (3 ≤ p ∧ p ≤ 131071 ∧ p % 2 = 1)) :
    Calls Try.prog 49 #[.int .i64 p] w fun e w' => e = .returned (.bool false) ∧ w = w' := by
  have HB : Hid (∀ W : World, Calls Try.prog 42 #[.int .i64 p] W fun e w' => e = .returned (.tuple #[.int .i64 0, .bool false]) ∧ W = w') := fun W => impl_OrderOfX_no p W h
  clear h
  go_enter Try.func49, Try.ntmps49
  go_wp2_with (go_at_call 42; with_reducible refine (HB.out _).mono ?_; rintro e w1 ⟨rfl, rfl⟩)
  go_ret
  exact ⟨rfl, rfl⟩
theorem lawPrimitive_core (p : Int) (w : World) (b : Bool) (HS : Hid (∀ W, Calls Try.prog 48 #[.int .i64 p] W fun e w' => e = .returned (.bool b) ∧ W = w'))
    (HI : Hid (∀ W, Calls Try.prog 49 #[.int .i64 p] W fun e w' => e = .returned (.bool b) ∧ Below W.heap.size W w')) :
    Calls Try.prog 11 #[.int .i64 p] w fun e w' => e = .returned (.bool true) ∧ Below w.heap.size w w' := by
  have hb : (b != b) = false := by simp
  go_enter Try.func11, Try.ntmps11
  go_wp2_with (go_at_call 48; refine (HS.out _).mono ?_; rintro e w1 ⟨rfl, rfl⟩)
  refine (HI.out _).mono ?_
  rintro e w2 ⟨rfl, hbel⟩
  go_wp2
  go_ret
  exact ⟨rfl, hbel⟩
theorem lawPrimitive (p : Int) (w : World) :
    Calls Try.prog 11 #[.int .i64 p] w fun e w' => e = .returned (.bool true) ∧ Below w.heap.size w w' := by
  by_cases h : 3 ≤ p ∧ p ≤ 131071 ∧ p % 2 = 1
  · obtain ⟨q, rfl⟩ := Int.eq_ofNat_of_zero_le (show 0 ≤ p by omega)
    obtain ⟨h0, h1, h2⟩ := h
    obtain ⟨c, hc⟩ := order_is (p := q) (by omega) (by omega) (by omega)
    obtain ⟨W, hW⟩ : ∃ W, Pl.len q = W + 1 := ⟨Pl.len q - 1, by have := Pl.len_pos (n := q) (by omega); omega⟩
    refine lawPrimitive_core q w ((c : Int) == 2 ^ W - 1) (fun X => ?_) (fun X => ?_)
    · exact spec_IsPrimitive_yes q c X (by omega) (by omega) (by omega) hc W hW _ rfl
    · exact impl_IsPrimitive_yes q c X (by omega) (by omega) (by omega) hc W hW _ rfl
  · refine lawPrimitive_core p w false (fun W => ?_) (fun W => ?_)
    · exact spec_IsPrimitive_no p W h
    · exact (impl_IsPrimitive_no p W h).mono fun e w' ⟨he, hw⟩ => ⟨he, by rw [← hw]; exact Below.refl _ _⟩
end Go.Proofs.Ytapccbplmbbnnab
