/- Tables in the specification: spec.l04Inputs, spec.l04Table; and the laws FnExactIsTable, FnExactInputsOf, FnExactValueAt. -/
import Derived.Test.YtgpcacbjmjpdnabTab
namespace Go.Proofs.Ytgpcacbjmjpdnab
open Go.RowKit Go.PlainAid
set_option maxHeartbeats 400000

theorem inputs_yes (n : Nat) (s : ByteArray) (w : World) (h : TabP n s) :
    Calls Try.prog 45 #[.string s] w fun e w' => e = .returned (.int .i64 n) ∧ w = w' := by
  have HB := Lib.hid h.bits
  have HS := Lib.hid h.1
  have hn := h.2.1
  clear h
  go_enter Try.func45, Try.ntmps45
  go_wp2
  go_loop [3] (fun i => ∃ k : Nat, k ≤ n ∧ i = .int .i64 k) (fun i => n - (intOf i).toNat)
  case atStart => exact ⟨0, Nat.zero_le _, rfl⟩
  case round =>
    obtain ⟨k, hk, rfl⟩ := hrel
    have e := wrap_pow (n := k) (by omega)
    by_cases hlt : k < n
    · have hp := Nat.pow_lt_pow_right (a := 2) (by omega) hlt
      rw [← HS.out] at hp
      obtain ⟨P, hP⟩ : ∃ P, 2 ^ k = P := ⟨_, rfl⟩
      rw [hP] at e hp
      have hc : ((s.size : Int) == (P : Int)) = false := by rw [beq_eq_false_iff_ne]; omega
      clear hP
      go_wp2
      go_round
      case rel => exact ⟨k + 1, by omega, by go_num⟩
      case measure => simp [intOf]; omega
    · obtain rfl : k = n := by omega
      rw [← HS.out] at e
      have hc : ((s.size : Int) == (s.size : Int)) = true := by simp
      go_wp2_with (go_at_call 56; refine (l01Bits_yes s _ HB.out).mono ?_; rintro e w' ⟨rfl, rfl⟩)
      go_ret
      exact ⟨rfl, rfl⟩
theorem inputs_no (s : ByteArray) (w : World) (hm : s.size ≤ maxLen) (h : ¬ ∃ n, TabP n s) :
    Calls Try.prog 45 #[.string s] w fun e w' => e = .returned (.int .i64 (-1)) ∧ w = w' := by
  have HN := Lib.hid h
  clear h
  go_enter Try.func45, Try.ntmps45
  go_wp2
  go_loop [3] (fun i => ∃ k : Nat, k ≤ 7 ∧ i = .int .i64 k) (fun i => 7 - (intOf i).toNat)
  case atStart => exact ⟨0, by omega, rfl⟩
  case round =>
    obtain ⟨k, hk, rfl⟩ := hrel
    by_cases hlt : k < 7
    · have e := wrap_pow (n := k) (by omega)
      obtain ⟨P, hP⟩ : ∃ P, 2 ^ k = P := ⟨_, rfl⟩
      rw [hP] at e
      by_cases hs : s.size = P
      · have hc : ((s.size : Int) == (P : Int)) = true := by simp [hs]
        have HB : Hid (¬ BitsP s) := fun x => HN.out ⟨k, by omega, by omega, x.all⟩
        clear hs hP
        go_wp2_with (go_at_call 56; refine (l01Bits_no s _ hm HB.out).mono ?_; rintro e w' ⟨rfl, rfl⟩)
        go_round
        case rel => exact ⟨k + 1, by omega, by go_num⟩
        case measure => simp [intOf]; omega
      · have hc : ((s.size : Int) == (P : Int)) = false := by rw [beq_eq_false_iff_ne]; omega
        clear hs hP
        go_wp2
        go_round
        case rel => exact ⟨k + 1, by omega, by go_num⟩
        case measure => simp [intOf]; omega
    · obtain rfl : k = 7 := by omega
      go_wp2
      go_ret
      exact ⟨rfl, rfl⟩
theorem l04Table_yes (n : Nat) (s : ByteArray) (w : World) (h : TabP n s) :
    Calls Try.prog 41 #[.string s] w fun e w' => e = .returned (.bool true) ∧ w = w' := by
  have HI : Hid (∀ W : World, Calls Try.prog 45 #[.string s] W fun e w' => e = .returned (.int .i64 n) ∧ W = w') := fun W => inputs_yes n s W h
  clear h
  go_enter Try.func41, Try.ntmps41
  go_wp2_with (go_at_call 45; refine (HI.out _).mono ?_; rintro e w' ⟨rfl, rfl⟩)
  go_ret
  exact ⟨rfl, rfl⟩
theorem l04Table_no (s : ByteArray) (w : World) (hm : s.size ≤ maxLen) (h : ¬ ∃ n, TabP n s) :
    Calls Try.prog 41 #[.string s] w fun e w' => e = .returned (.bool false) ∧ w = w' := by
  have HI : Hid (∀ W : World, Calls Try.prog 45 #[.string s] W fun e w' => e = .returned (.int .i64 (-1)) ∧ W = w') := fun W => inputs_no s W hm h
  clear h
  go_enter Try.func41, Try.ntmps41
  go_wp2_with (go_at_call 45; refine (HI.out _).mono ?_; rintro e w' ⟨rfl, rfl⟩)
  go_ret
  exact ⟨rfl, rfl⟩

theorem l00MaxT_any (a b : Int) (w : World) :
    Calls Try.prog 54 #[.int .i64 a, .int .i64 b] w fun e w' => e = .returned (.int .i64 (if b < a then a else b)) ∧ w = w' := by
  by_cases h : b < a
  · have HE : Hid ((if b < a then a else b) = a) := if_pos h
    rw [HE.out]
    go_enter Try.func54, Try.ntmps54
    go_wp2
    go_ret
    exact ⟨rfl, rfl⟩
  · have HE : Hid ((if b < a then a else b) = b) := if_neg h
    rw [HE.out]
    go_enter Try.func54, Try.ntmps54
    go_wp2
    go_ret
    exact ⟨rfl, rfl⟩
end Go.Proofs.Ytgpcacbjmjpdnab
