/- Check numbers: impl.CheckOf, spec.l01Check, spec.CheckOf, and the law FnExactCheckOf. -/
import Derived.Test.YtcfmcaheaifaoaaBtw
namespace Go.Proofs.Ytcfmcaheaifaoaa
open Go.RowKit Go.PlainAid
set_option maxHeartbeats 400000

/-- the check number behind the first k bytes -/
def checkTo (n : Int) (s : ByteArray) : Nat → Int
  | 0 => n
  | k + 1 => (4099 * checkTo n s k + bt s k + 1) % 999983

theorem checkTo_in (n : Int) (s : ByteArray) (h0 : 0 ≤ n) (h1 : n ≤ 999982) : ∀ k, 0 ≤ checkTo n s k ∧ checkTo n s k ≤ 999982 := by
  intro k
  induction k with
  | zero => exact ⟨h0, h1⟩
  | succ k ih => unfold checkTo; omega


theorem check_yes (n : Int) (s : ByteArray) (w : World) (hm : s.size ≤ maxLen) (h0 : 0 ≤ n) (h1 : n ≤ 999982) :
    Calls Try.prog 23 #[.int .i64 n, .string s] w fun e w' => e = .returned (.tuple #[.int .i64 (checkTo n s s.size), .bool true]) ∧ w = w' := by
  unfold maxLen at hm
  go_enter Try.func23, Try.ntmps23
  go_wp2_with (go_at_call 39; refine (btw64_yes _ _ _ _ h0 h1).mono ?_; rintro e w' ⟨rfl, rfl⟩)
  go_loop [6, 7, 14] (fun c _ i => ∃ k : Nat, k ≤ s.size ∧ i = .int .i64 k ∧ c = .int .i64 (checkTo n s k)) (fun _ _ i => s.size - (intOf i).toNat)
  case atStart => exact ⟨0, Nat.zero_le _, rfl, rfl⟩
  case round =>
    obtain ⟨k, hk, rfl, rfl⟩ := hrel
    obtain ⟨n1, n2⟩ := checkTo_in n s h0 h1 k
    by_cases hlt : k < s.size
    · have HE : Hid (checkTo n s (k + 1) = (4099 * checkTo n s k + ((s[k]'hlt).toNat : Int) + 1) % 999983) := by rw [get_bt s k hlt]; rfl
      have hb := (s[k]'hlt).toNat_lt
      go_wp2
      go_round
      case rel => exact ⟨k + 1, by omega, by go_num, by rw [HE.out]⟩
      case measure => simp [intOf]; omega
    · obtain rfl : k = s.size := by omega
      go_wp2
      go_ret2
      exact ⟨rfl, rfl⟩
theorem check_no (n : Int) (s : ByteArray) (w : World) (h : ¬ (0 ≤ n ∧ n ≤ 999982)) :
    Calls Try.prog 23 #[.int .i64 n, .string s] w fun e w' => e = .returned (.tuple #[.int .i64 0, .bool false]) ∧ w = w' := by
  have HN := Lib.hid h
  clear h
  go_enter Try.func23, Try.ntmps23
  go_wp2_with (go_at_call 39; refine (btw64_no _ _ _ _ HN.out).mono ?_; rintro e w' ⟨rfl, rfl⟩)
  go_ret2
  exact ⟨rfl, rfl⟩

end Go.Proofs.Ytcfmcaheaifaoaa
