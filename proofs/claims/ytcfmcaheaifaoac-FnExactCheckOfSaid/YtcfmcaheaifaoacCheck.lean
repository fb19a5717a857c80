/- Check numbers: impl.CheckOf, spec.l01Check, spec.CheckOf, and the law FnExactCheckOf. -/
import Derived.Test.YtcfmcaheaifaoacBtw
namespace Go.Proofs.Ytcfmcaheaifaoac
open Go.RowKit Go.PlainAid
set_option maxHeartbeats 400000

/-- the check number behind the first k bytes -/
def checkTo (n : Int) (s : ByteArray) : Nat → Int
  | 0 => n
  | k + 1 => (4099 * checkTo n s k + bt s k + 1) % 999983

theorem checkTo_in (n : Int) (s : ByteArray) (h0 : 0 ≤ n) (h1 : n ≤ 999982) : ∀ k, 0 ≤ checkTo n s k ∧ checkTo n s k ≤ 999982 := by
  intro k
  induction k with
  | zero => exact ⟨h0, h1⟩
  | succ k ih => unfold checkTo; omega

theorem l01Check_any (n : Int) (s : ByteArray) (w : World) (hm : s.size ≤ maxLen) (h0 : 0 ≤ n) (h1 : n ≤ 999982) :
    Calls Try.prog 7 #[.int .i64 n, .string s] w fun e w' => e = .returned (.int .i64 (checkTo n s s.size)) ∧ w = w' := by
  unfold maxLen at hm
  go_enter Try.func7, Try.ntmps7
  go_wp2
  go_loop [0, 5] (fun c i => ∃ k : Nat, k ≤ s.size ∧ i = .int .i64 k ∧ c = .int .i64 (checkTo n s k)) (fun _ i => s.size - (intOf i).toNat)
  case atStart => exact ⟨0, Nat.zero_le _, rfl, rfl⟩
  case round =>
    obtain ⟨k, hk, rfl, rfl⟩ := hrel
    obtain ⟨n1, n2⟩ := checkTo_in n s h0 h1 k
    by_cases hlt : k < s.size
    · have HE : Hid (checkTo n s (k + 1) = (4099 * checkTo n s k + ((s[k]'hlt).toNat : Int) + 1) % 999983) := by rw [get_bt s k hlt]; rfl
      have hb := (s[k]'hlt).toNat_lt
      go_wp2
      go_round
      case rel => exact ⟨k + 1, by omega, by go_num, by rw [HE.out]⟩
      case measure => simp [intOf]; omega
    · obtain rfl : k = s.size := by omega
      go_wp2
      go_ret
      exact ⟨rfl, rfl⟩

theorem specCheck_yes (n : Int) (s : ByteArray) (w : World) (hm : s.size ≤ maxLen) (h0 : 0 ≤ n) (h1 : n ≤ 999982) :
    Calls Try.prog 4 #[.int .i64 n, .string s] w fun e w' => e = .returned (.tuple #[.int .i64 (checkTo n s s.size), .bool true]) ∧ w = w' := by
  go_enter Try.func4, Try.ntmps4
  go_wp2_with (first | (go_at_call 6; refine (l00In_yes _ _ _ _ h0 h1).mono ?_; rintro e w' ⟨rfl, rfl⟩) | (go_at_call 7; refine (l01Check_any n s _ hm h0 h1).mono ?_; rintro e w' ⟨rfl, rfl⟩))
  go_ret2
  exact ⟨rfl, rfl⟩
theorem specCheck_no (n : Int) (s : ByteArray) (w : World) (h : ¬ (0 ≤ n ∧ n ≤ 999982)) :
    Calls Try.prog 4 #[.int .i64 n, .string s] w fun e w' => e = .returned (.tuple #[.int .i64 0, .bool false]) ∧ w = w' := by
  have HN := Lib.hid h
  clear h
  go_enter Try.func4, Try.ntmps4
  go_wp2_with (go_at_call 6; refine (l00In_no _ _ _ _ HN.out).mono ?_; rintro e w' ⟨rfl, rfl⟩)
  go_ret2
  exact ⟨rfl, rfl⟩

theorem check_yes (n : Int) (s : ByteArray) (w : World) (hm : s.size ≤ maxLen) (h0 : 0 ≤ n) (h1 : n ≤ 999982) :
    Calls Try.prog 5 #[.int .i64 n, .string s] w fun e w' => e = .returned (.tuple #[.int .i64 (checkTo n s s.size), .bool true]) ∧ w = w' := by
  unfold maxLen at hm
  go_enter Try.func5, Try.ntmps5
  go_wp2_with (go_at_call 8; refine (btw64_yes _ _ _ _ h0 h1).mono ?_; rintro e w' ⟨rfl, rfl⟩)
  go_loop [6, 7, 14] (fun c _ i => ∃ k : Nat, k ≤ s.size ∧ i = .int .i64 k ∧ c = .int .i64 (checkTo n s k)) (fun _ _ i => s.size - (intOf i).toNat)
  case atStart => exact ⟨0, Nat.zero_le _, rfl, rfl⟩
  case round =>
    obtain ⟨k, hk, rfl, rfl⟩ := hrel
    obtain ⟨n1, n2⟩ := checkTo_in n s h0 h1 k
    by_cases hlt : k < s.size
    · have HE : Hid (checkTo n s (k + 1) = (4099 * checkTo n s k + ((s[k]'hlt).toNat : Int) + 1) % 999983) := by rw [get_bt s k hlt]; rfl
      have hb := (s[k]'hlt).toNat_lt
      go_wp2
      go_round
      case rel => exact ⟨k + 1, by omega, by go_num, by rw [HE.out]⟩
      case measure => simp [intOf]; omega
    · obtain rfl : k = s.size := by omega
      go_wp2
      go_ret2
      exact ⟨rfl, rfl⟩
theorem check_no (n : Int) (s : ByteArray) (w : World) (h : ¬ (0 ≤ n ∧ n ≤ 999982)) :
    Calls Try.prog 5 #[.int .i64 n, .string s] w fun e w' => e = .returned (.tuple #[.int .i64 0, .bool false]) ∧ w = w' := by
  have HN := Lib.hid h
  clear h
  go_enter Try.func5, Try.ntmps5
  go_wp2_with (go_at_call 8; refine (btw64_no _ _ _ _ HN.out).mono ?_; rintro e w' ⟨rfl, rfl⟩)
  go_ret2
  exact ⟨rfl, rfl⟩

theorem lawCheck (n : Int) (s : ByteArray) (w : World) (hm : s.size ≤ maxLen) :
    Calls Try.prog 3 #[.int .i64 n, .string s] w fun e w' => e = .returned (.bool true) ∧ Below w.heap.size w w' := by
  by_cases hl : s.size ≤ 1048576
  · by_cases h : 0 ≤ n ∧ n ≤ 999982
    · obtain ⟨h0, h1⟩ := h
      have hne : (checkTo n s s.size != checkTo n s s.size) = false := by simp
      go_enter Try.func3, Try.ntmps3
      go_wp2_with (first | (go_at_call 4; refine (specCheck_yes n s _ hm h0 h1).mono ?_; rintro e w' ⟨rfl, rfl⟩) | (go_at_call 5; refine (check_yes n s _ hm h0 h1).mono ?_; rintro e w' ⟨rfl, rfl⟩))
      go_ret
      exact ⟨rfl, Below.refl _ _⟩
    · have HN := Lib.hid h
      clear h
      go_enter Try.func3, Try.ntmps3
      go_wp2_with (first | (go_at_call 4; refine (specCheck_no n s _ HN.out).mono ?_; rintro e w' ⟨rfl, rfl⟩) | (go_at_call 5; refine (check_no n s _ HN.out).mono ?_; rintro e w' ⟨rfl, rfl⟩))
      go_ret
      exact ⟨rfl, Below.refl _ _⟩
  · unfold maxLen at hm
    go_enter Try.func3, Try.ntmps3
    go_wp2
    go_ret
    exact ⟨rfl, Below.refl _ _⟩
end Go.Proofs.Ytcfmcaheaifaoac
