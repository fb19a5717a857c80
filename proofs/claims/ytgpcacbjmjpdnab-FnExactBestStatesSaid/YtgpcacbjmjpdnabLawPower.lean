/- Powers of x: spec.l02Power, (impl.poly).timesX, (impl.poly).powerOfX, and the law FnExactPowerOfX. -/
import Derived.Test.YtgpcacbjmjpdnabLawPolys
namespace Go.Proofs.Ytgpcacbjmjpdnab
open Go.RowKit Go.PlainAid
set_option maxHeartbeats 400000

theorem pw_lt {p : Nat} (h0 : 0 < p) (hp : p < 4294967296) (n : Nat) : Pl.pw p n < 2147483648 := by
  have h1 := Pl.rem_lt h0 (2 ^ n)
  have h2 := Pl.len_of_lt 32 p hp
  have h3 : 2 ^ (Pl.len p - 1) ≤ 2 ^ 31 := Nat.pow_le_pow_right (by omega) (by omega)
  have h4 : Pl.pw p n = Pl.rem p (2 ^ n) := rfl
  omega
theorem pw_mul {p : Nat} (h0 : 0 < p) (hp : p < 4294967296) (a b : Nat) : Pl.rem p (Pl.mulTo (Pl.pw p a) (Pl.pw p b) 32) = Pl.pw p (a + b) :=
  Pl.pw_add h0 a b 32 (by have := pw_lt h0 hp b; omega)
theorem impl_mulmod {p : Nat} (h0 : 0 < p) (hp : p < 4294967296) (a b : Nat) : ∃ m : Nat,
    (∀ W : World, Calls Try.prog 93 #[.int .i64 (Pl.pw p a), .int .i64 (Pl.pw p b)] W fun e w' => e = .returned (.int .i64 m) ∧ W = w') ∧
    ∃ q : Nat, ∀ W : World, Calls Try.prog 92 #[.int .i64 m, .int .i64 p] W fun e w' => e = .returned (.tuple #[.int .i64 q, .int .i64 (Pl.pw p (a + b))]) ∧ W = w' := by
  have h1 := pw_lt h0 hp a
  have h2 := pw_lt h0 hp b
  refine ⟨_, fun W => times_any _ _ W (by omega) (by omega), Pl.quo p (Pl.mulTo (Pl.pw p a) (Pl.pw p b) 32), fun W => ?_⟩
  rw [← pw_mul h0 hp a b, mul_same (by omega)]
  exact divide_any _ _ W (mulTo_63 (by omega)) h0 (by omega)

theorem timesX_any (p r : Nat) (w : World) (h0 : 0 < p) (hp : p < 4294967296) (hr : r < 2 ^ (Pl.len p - 1)) :
    Calls Try.prog 86 #[.int .i64 p, .int .i64 r] w fun e w' => e = .returned (.int .i64 (Pl.red p (2 * r))) ∧ w = w' := by
  obtain ⟨LD, hLD⟩ : ∃ L, Pl.len p = L := ⟨_, rfl⟩
  have hL1 : LD ≤ 32 := by rw [← hLD]; exact Pl.len_of_lt 32 p hp
  have hL0 : 1 ≤ LD := by rw [← hLD]; exact Pl.len_pos h0
  rw [hLD] at hr
  have hr2 : r < 2147483648 := by
    have : 2 ^ (LD - 1) ≤ 2 ^ 31 := Nat.pow_le_pow_right (by omega) (by omega)
    omega
  have hr3 : 2 * r < 2 ^ LD := by
    rw [show LD = (LD - 1) + 1 by omega, Nat.pow_succ]
    omega
  obtain ⟨y, hy⟩ : ∃ y, 2 * r = y := ⟨_, rfl⟩
  obtain ⟨LA, hLA⟩ : ∃ L, Pl.len y = L := ⟨_, rfl⟩
  have hL2 : LA ≤ LD := by rw [← hLA, ← hy]; exact Pl.len_of_lt _ _ hr3
  have HD : Hid (∀ W : World, Calls Try.prog 94 #[.int .i64 p] W fun e w' => e = .returned (.int .i64 ((LD : Int) - 1)) ∧ W = w') := fun W => by
    have := degree_any p W (by omega)
    rwa [hLD] at this
  have HA : Hid (∀ W : World, Calls Try.prog 94 #[.int .i64 ((r : Int) * 2)] W fun e w' => e = .returned (.int .i64 ((LA : Int) - 1)) ∧ W = w') := fun W => by
    have := degree_any y W (by omega)
    rwa [hLA, show (y : Int) = (r : Int) * 2 by omega] at this
  by_cases he : LA = LD
  · have HX : Hid (bits .xor .i64 ((r : Int) * 2) (p : Int) = (Pl.red p y : Nat)) := by
      have hb : y.testBit (Pl.len p - 1) = true := by
        have h1 := Pl.bit_len (p := y) (by apply Nat.pos_of_ne_zero; intro x; rw [x, Pl.len_zero] at hLA; omega)
        rwa [hLA, he, ← hLD] at h1
      unfold Hid Pl.red
      rw [if_pos hb, show (r : Int) * 2 = (y : Int) by omega]
      exact i64_xorN _ _ (by omega) (by omega)
    subst he
    rw [hy]
    rw [← HX.out]
    clear hLD hLA hr hr3 hy hp
    go_enter Try.func86, Try.ntmps86
    go_wp2_with (go_at_call 94; first | (with_reducible refine (HA.out _).mono ?_; rintro e w' ⟨rfl, rfl⟩) | (with_reducible refine (HD.out _).mono ?_; rintro e w' ⟨rfl, rfl⟩))
    go_ret
    exact ⟨rfl, rfl⟩
  · have HX : Hid ((r : Int) * 2 = (Pl.red p y : Nat)) := by
      have hb : y.testBit (Pl.len p - 1) = false := by
        rw [hLD]
        exact Pl.bit_no (Pl.lt_of_len (by omega))
      unfold Hid Pl.red
      rw [if_neg (by rw [hb]; simp)]
      omega
    rw [hy]
    rw [← HX.out]
    clear hLD hLA hr hr3 hy hp
    go_enter Try.func86, Try.ntmps86
    go_wp2_with (go_at_call 94; first | (with_reducible refine (HA.out _).mono ?_; rintro e w' ⟨rfl, rfl⟩) | (with_reducible refine (HD.out _).mono ?_; rintro e w' ⟨rfl, rfl⟩))
    go_ret
    exact ⟨rfl, rfl⟩

theorem powerOfX_any (p n : Nat) (w : World) (hn : n < 9223372036854775808) (h0 : 0 < p) (hp : p < 4294967296) :
    Calls Try.prog 85 #[.int .i64 p, .int .i64 n] w fun e w' => e = .returned (.int .i64 (Pl.pw p n)) ∧ w = w' := by
  obtain ⟨L, hL⟩ : ∃ L, Pl.len n = L := ⟨_, rfl⟩
  have hL1 : L ≤ 63 := by rw [← hL]; exact Pl.len_of_lt 63 n hn
  have H1 : Hid (∀ W : World, Calls Try.prog 92 #[.int .i64 1, .int .i64 p] W fun e w' => e = .returned (.tuple #[.int .i64 (Pl.quo p 1), .int .i64 (Pl.pw p 0)]) ∧ W = w') := fun W => divide_any 1 p W (by omega) h0 (by omega)
  have HL : Hid (∀ W : World, Calls Try.prog 89 #[.int .u64 n] W fun e w' => e = .returned (.int .i64 L) ∧ W = w') := fun W => by
    have := len64_any n W (by omega)
    rwa [hL] at this
  have HN : Hid (n / 2 ^ L = 0) := by unfold Hid; rw [← hL]; exact Nat.div_eq_of_lt (Pl.lt_len n)
  clear hL
  go_enter Try.func85, Try.ntmps85
  go_wp2_with (first | (go_at_call 92; with_reducible refine (H1.out _).mono ?_; rintro e w1 ⟨rfl, rfl⟩) | (go_at_call 89; with_reducible refine (HL.out _).mono ?_; rintro e w1 ⟨rfl, rfl⟩))
  go_loop [6, 7] (fun o i => ∃ k m : Nat, k ≤ L ∧ i = .int .i64 ((k : Int) - 1) ∧ o = .int .i64 (Pl.pw p m) ∧ Hid (m = n / 2 ^ k)) (fun _ i => (intOf i + 1).toNat)
  case atStart => exact ⟨L, 0, Nat.le_refl _, rfl, rfl, HN.out.symm⟩
  case round =>
    obtain ⟨k, m, hk, hi, rfl, H⟩ := hrel
    by_cases hk0 : 0 < k
    · obtain ⟨j, rfl⟩ : ∃ j, k = j + 1 := ⟨k - 1, by omega⟩
      obtain rfl := hi.trans (show Value.int .i64 (((j + 1 : Nat) : Int) - 1) = .int .i64 j by congr 1; omega)
      obtain ⟨m1, hm1, q1, hq1⟩ := impl_mulmod h0 hp m m
      have hm1 := Lib.hid hm1
      have hq1 := Lib.hid hq1
      have hr := Pl.rem_lt h0 (2 ^ (m + m))
      have HX : Hid (∀ W : World, Calls Try.prog 86 #[.int .i64 p, .int .i64 (Pl.pw p (m + m))] W fun e w' => e = .returned (.int .i64 (Pl.pw p (m + m + 1))) ∧ W = w') := fun W => by
        rw [Pl.pw_succ]
        exact timesX_any p _ W h0 hp hr
      clear hr
      have HE : Hid (n / 2 ^ j = 2 * m + n / 2 ^ j % 2) := by
        have h1 := H.out
        rw [Nat.pow_succ, ← Nat.div_div_eq_div_mul] at h1
        unfold Hid
        omega
      have HT := bit_test n j
      rw [Nat.testBit_eq_decide_div_mod_eq] at HT
      rcases (show n / 2 ^ j % 2 = 1 ∨ n / 2 ^ j % 2 = 0 by omega) with hodd | hev
      · rw [hodd, show decide (1 = 1) = true from rfl] at HT
        have HG : Hid (m + m + 1 = n / 2 ^ j) := by have := HE.out; unfold Hid; omega
        clear hodd
        go_wp2_with (first | (go_at_call 93; with_reducible refine (hm1.out _).mono ?_; rintro e w1 ⟨rfl, rfl⟩) | (go_at_call 92; with_reducible refine (hq1.out _).mono ?_; rintro e w1 ⟨rfl, rfl⟩) | (go_at_call 86; with_reducible refine (HX.out _).mono ?_; rintro e w1 ⟨rfl, rfl⟩))
        go_round
        case rel => exact ⟨j, m + m + 1, by omega, rfl, rfl, HG⟩
        case measure => simp [intOf]
      · rw [hev, show decide (0 = 1) = false from rfl] at HT
        have HG : Hid (m + m = n / 2 ^ j) := by have := HE.out; unfold Hid; omega
        clear hev
        go_wp2_with (first | (go_at_call 93; with_reducible refine (hm1.out _).mono ?_; rintro e w1 ⟨rfl, rfl⟩) | (go_at_call 92; with_reducible refine (hq1.out _).mono ?_; rintro e w1 ⟨rfl, rfl⟩) | (go_at_call 86; with_reducible refine (HX.out _).mono ?_; rintro e w1 ⟨rfl, rfl⟩))
        go_round
        case rel => exact ⟨j, m + m, by omega, rfl, rfl, HG⟩
        case measure => simp [intOf]
    · obtain rfl : k = 0 := by omega
      subst hi
      have HZ : Hid ((Pl.pw p m : Int) = (Pl.pw p n : Int)) := by
        have x := H.out
        rw [Nat.pow_zero, Nat.div_one] at x
        unfold Hid; rw [x]
      go_wp2
      go_ret
      exact ⟨congrArg (fun x => Ending.returned (.int .i64 x)) HZ.out, rfl⟩
end Go.Proofs.Ytgpcacbjmjpdnab
