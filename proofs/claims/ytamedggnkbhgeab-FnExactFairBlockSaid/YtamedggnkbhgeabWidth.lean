/- How many bits numbers need: impl.widthOf, impl.widthBelow, spec.l06Width, spec.l06Number. -/
import Derived.Test.YtamedggnkbhgeabLen
import Derived.Test.YtamedggnkbhgeabBtw
namespace Go.Proofs.Ytamedggnkbhgeab
open Go.RowKit Go.PlainAid
set_option maxHeartbeats 800000

theorem widthOf_any (n : Nat) (w : World) (hn : n ≤ 1000000000000000000) :
    Calls Try.prog 56 #[.int .i64 n] w fun e w' => e = .returned (.int .i64 (Pl.len n)) ∧ w = w' := by
  have HL : Hid (∀ W : World, Calls Try.prog 78 #[.int .u64 n] W fun e w' => e = .returned (.int .i64 (Pl.len n)) ∧ W = w') := fun W => len64_any n W (by omega)
  go_enter Try.func56, Try.ntmps56
  go_wp2_with fail
  refine (HL.out _).mono ?_
  rintro e w1 ⟨rfl, rfl⟩
  go_wp2
  go_ret
  exact ⟨rfl, rfl⟩
theorem widthBelow_any (n : Nat) (w : World) (h1 : 1 ≤ n) (hn : n ≤ 1000000) :
    Calls Try.prog 33 #[.int .i64 n] w fun e w' => e = .returned (.int .i64 (Pl.len (n - 1))) ∧ w = w' := by
  obtain ⟨m, rfl⟩ : ∃ m, n = m + 1 := ⟨n - 1, by omega⟩
  have HL : Hid (∀ W : World, Calls Try.prog 56 #[.int .i64 m] W fun e w' => e = .returned (.int .i64 (Pl.len m)) ∧ W = w') := fun W => widthOf_any m W (by omega)
  have hs : ((m + 1 : Nat) : Int) - 1 = m := by omega
  rw [Nat.add_sub_cancel]
  go_enter Try.func33, Try.ntmps33
  go_wp2_with fail
  refine (HL.out _).mono ?_
  rintro e w1 ⟨rfl, rfl⟩
  go_wp2
  go_ret
  exact ⟨rfl, rfl⟩
theorem len_iff {n k : Nat} (h1 : 1 ≤ n) : Pl.len (n - 1) ≤ k ↔ n ≤ 2 ^ k := by
  constructor
  · intro h
    have := Pl.lt_of_len h
    omega
  · intro h
    exact Pl.len_of_lt k (n - 1) (by omega)
theorem l06Width_any (n : Nat) (w : World) (h1 : 1 ≤ n) (hn : n ≤ 1000000) :
    Calls Try.prog 30 #[.int .i64 n] w fun e w' => e = .returned (.int .i64 (Pl.len (n - 1))) ∧ w = w' := by
  have hle : Pl.len (n - 1) ≤ 20 := (len_iff h1).2 (by omega)
  have HI : Hid (∀ k, Pl.len (n - 1) ≤ k ↔ n ≤ 2 ^ k) := fun k => len_iff h1
  generalize Pl.len (n - 1) = L at hle HI ⊢
  go_enter Try.func30, Try.ntmps30
  go_wp2
  go_loop [3] (fun kv => ∃ k : Nat, k ≤ L ∧ kv = .int .i64 k) (fun kv => L - (intOf kv).toNat)
  case atStart => exact ⟨0, Nat.zero_le _, rfl⟩
  case round =>
    obtain ⟨k, hk, rfl⟩ := hrel
    have hp : (2 : Int) ^ k ≤ 1048576 := by
      have h : (2 : Nat) ^ k ≤ 2 ^ 20 := Nat.pow_le_pow_right (by omega) (by omega)
      have e : ((2 ^ k : Nat) : Int) = (2 : Int) ^ k := by simp
      rw [← e]
      omega
    have hp0 : (0 : Int) ≤ 2 ^ k := Int.pow_nonneg (by omega)
    have h3 := HI.out k
    have he : ((2 ^ k : Nat) : Int) = (2 : Int) ^ k := by simp
    generalize (2 : Nat) ^ k = q at h3 he
    have HW : Hid (wrap64 (2 ^ k) = (q : Int)) := by unfold Hid; rw [IntWalk.wrap64_in _ (by omega), he]
    clear hp hp0
    by_cases hlt : k < L
    · have ht : wrap64 (2 ^ k) < (n : Int) := by
        have : ¬ n ≤ q := fun x => by have := h3.2 x; omega
        rw [HW.out]; omega
      clear h3 he
      go_wp2
      go_round
      case rel => exact ⟨k + 1, by omega, by go_num⟩
      case measure => simp [intOf]; omega
    · obtain rfl : k = L := by omega
      have ht : ¬ wrap64 (2 ^ k) < (n : Int) := by
        have := h3.1 (Nat.le_refl _)
        rw [HW.out]; omega
      clear h3 he
      go_wp2
      go_ret
      exact ⟨rfl, rfl⟩
theorem l06Number_b (n : Int) (b : Bool) (hb : decide (1 ≤ n ∧ n ≤ 1000000) = b) (w : World) :
    Calls Try.prog 29 #[.int .i64 n] w fun e w' => e = .returned (.bool b) ∧ w = w' := by
  have HB : Hid (∀ W : World, Calls Try.prog 39 #[.int .i64 n, .int .i64 1, .int .i64 1000000] W fun e w' => e = .returned (.bool b) ∧ W = w') := fun W => l00In_b n 1 1000000 b hb W
  clear hb
  go_enter Try.func29, Try.ntmps29
  go_wp2_with fail
  refine (HB.out _).mono ?_
  rintro e w1 ⟨rfl, rfl⟩
  go_wp2
  go_ret
  exact ⟨rfl, rfl⟩
end Go.Proofs.Ytamedggnkbhgeab
