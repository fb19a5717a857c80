/- The numbers of bits: impl.NumberOfBits, spec.l01Number, spec.NumberOfBits. -/
import Derived.Test.YtapccbplmbbnnacBits
namespace Go.Proofs.Ytapccbplmbbnnac
open Go.RowKit Go.PlainAid
set_option maxHeartbeats 400000

/-- the number of the first k bytes as bits -/
def numTo (s : ByteArray) : Nat → Int
  | 0 => 0
  | k + 1 => 2 * numTo s k + (bt s k - 48)

theorem numTo_le (s : ByteArray) (h : AllIn 48 49 s) : ∀ k, k ≤ s.size → k ≤ 60 → 0 ≤ numTo s k ∧ numTo s k + 1 ≤ 2 ^ k := by
  intro k
  induction k with
  | zero => exact fun _ _ => ⟨by simp [numTo], by simp [numTo]⟩
  | succ k ih =>
    intro h1 h2
    obtain ⟨g1, g2⟩ := ih (by omega) (by omega)
    obtain ⟨b1, b2⟩ := h k (by omega)
    rw [get_bt s k (by omega)] at b1 b2
    have hp : (2 : Int) ^ (k + 1) = 2 * 2 ^ k := by rw [Int.pow_succ]; omega
    unfold numTo
    omega

theorem pow_le_60 : ∀ k : Nat, k ≤ 60 → (2 : Int) ^ k ≤ 1152921504606846976 := by
  intro k hk
  have h : (2 : Nat) ^ k ≤ 2 ^ 60 := Nat.pow_le_pow_right (by omega) hk
  have e : ((2 ^ k : Nat) : Int) = (2 : Int) ^ k := by simp
  rw [← e]
  have : (2 : Nat) ^ 60 = 1152921504606846976 := by decide
  omega

theorem numTo_in (s : ByteArray) (h : AllIn 48 49 s) (k : Nat) (h1 : k ≤ s.size) (h2 : k ≤ 60) : 0 ≤ numTo s k ∧ numTo s k < 1152921504606846976 := by
  have := numTo_le s h k h1 h2
  have := pow_le_60 k h2
  omega

theorem number_yes (s : ByteArray) (w : World) (hs : s.size ≤ 60) (h : AllIn 48 49 s) :
    Calls Try.prog 30 #[.string s] w fun e w' => e = .returned (.tuple #[.int .i64 (numTo s s.size), .bool true]) ∧ Below w.heap.size w w' := by
  have HB : Hid (BitsP s) := ⟨by omega, h⟩
  have HA := Lib.hid h
  clear h
  go_enter Try.func30, Try.ntmps30
  go_wp2_with (go_at_call 46; refine (isBits_yes s _ HB.out).mono ?_; rintro e w1 ⟨rfl, hb⟩)
  go_loop [4, 5, 16] (fun n _ i => ∃ k : Nat, k ≤ s.size ∧ i = .int .i64 k ∧ n = .int .i64 (numTo s k)) (fun _ _ i => s.size - (intOf i).toNat)
  case atStart => exact ⟨0, Nat.zero_le _, rfl, rfl⟩
  case round =>
    obtain ⟨k, hk, rfl, rfl⟩ := hrel
    obtain ⟨n1, n2⟩ := numTo_in s HA.out k hk (by omega)
    by_cases hlt : k < s.size
    · obtain ⟨g1, g2⟩ := HA.out k hlt
      have HE : Hid (numTo s (k + 1) = 2 * numTo s k + (((s[k]'hlt).toNat : Int) - 48)) := by rw [get_bt s k hlt]; rfl
      go_wp2
      go_round
      case rel => exact ⟨k + 1, by omega, by go_num, by rw [HE.out]⟩
      case measure => simp [intOf]; omega
    · obtain rfl : k = s.size := by omega
      go_wp2
      go_ret2
      exact ⟨rfl, hb⟩
theorem number_no (s : ByteArray) (w : World) (hm : s.size ≤ maxLen) (h : ¬ (s.size ≤ 60 ∧ AllIn 48 49 s)) :
    Calls Try.prog 30 #[.string s] w fun e w' => e = .returned (.tuple #[.int .i64 0, .bool false]) ∧ Below w.heap.size w w' := by
  by_cases hs : s.size ≤ 60
  · have HB : Hid (¬ BitsP s) := fun x => h ⟨hs, x.all⟩
    clear h
    go_enter Try.func30, Try.ntmps30
    go_wp2_with (go_at_call 46; refine (isBits_no s _ hm HB.out).mono ?_; rintro e w1 ⟨rfl, hb⟩)
    go_ret2
    exact ⟨rfl, hb⟩
  · clear h
    unfold maxLen at hm
    go_enter Try.func30, Try.ntmps30
    go_wp2
    go_ret2
    exact ⟨rfl, Below.refl _ _⟩

end Go.Proofs.Ytapccbplmbbnnac
