/- How many bits are 1: impl.OnesOf, spec.l01Ones, spec.OnesOf, and the law FnExactOnesOf. -/
import Derived.Test.YtcfmcaheaifaoaaBits
import Derived.Lib.Bytealg
import Derived.Laws.Externs
namespace Go.Proofs.Ytcfmcaheaifaoaa
open Go.RowKit Go.PlainAid
set_option maxHeartbeats 400000

/-- how many of the first k bytes are ones, as a sum -/
def onesTo (s : ByteArray) : Nat → Int
  | 0 => 0
  | k + 1 => onesTo s k + (bt s k - 48)

theorem onesTo_in (s : ByteArray) (h : AllIn 48 49 s) : ∀ k, k ≤ s.size → 0 ≤ onesTo s k ∧ onesTo s k ≤ k := by
  intro k
  induction k with
  | zero => exact fun _ => ⟨by simp [onesTo], by simp [onesTo]⟩
  | succ k ih =>
    intro h1
    obtain ⟨g1, g2⟩ := ih (by omega)
    obtain ⟨b1, b2⟩ := h k (by omega)
    rw [get_bt s k (by omega)] at b1 b2
    unfold onesTo
    omega

theorem onesTo_count (s : ByteArray) (h : AllIn 48 49 s) : ∀ k, k ≤ s.size → onesTo s k = ((s.data.toList.take k).count 49 : Nat) := by
  intro k
  induction k with
  | zero => exact fun _ => by simp [onesTo]
  | succ k ih =>
    intro h1
    obtain ⟨b1, b2⟩ := h k (by omega)
    have hk : k < s.data.toList.length := by simp; omega
    rw [List.take_succ_eq_append_getElem hk, List.count_append, List.count_singleton]
    unfold onesTo
    rw [ih (by omega), ← get_bt s k (by omega)]
    have e : s.data.toList[k] = s[k]'(by omega) := by simp; rfl
    rw [e]
    by_cases hc : ((s[k]'(by omega)).toNat : Int) = 48
    · have : ¬ (s[k]'(by omega)) = 49 := fun x => by rw [x] at hc; simp at hc
      simp [this]; omega
    · have : (s[k]'(by omega)) = 49 := by
        apply UInt8.toNat_inj.1
        show _ = 49
        omega
      simp [this]

theorem onesTo_all (s : ByteArray) (h : AllIn 48 49 s) : onesTo s s.size = (Lib.countByte s.data.toList 49 : Nat) := by
  rw [onesTo_count s h s.size (Nat.le_refl _), List.take_of_length_le (by simp)]
  rfl

theorem l01Ones_any (s : ByteArray) (w : World) (hs : s.size ≤ 400) (h : AllIn 48 49 s) :
    Calls Try.prog 45 #[.string s] w fun e w' => e = .returned (.int .i64 (onesTo s s.size)) ∧ w = w' := by
  have HA := Lib.hid h
  clear h
  go_enter Try.func45, Try.ntmps45
  go_wp2
  go_loop [3, 4] (fun n i => ∃ k : Nat, k ≤ s.size ∧ i = .int .i64 k ∧ n = .int .i64 (onesTo s k)) (fun _ i => s.size - (intOf i).toNat)
  case atStart => exact ⟨0, Nat.zero_le _, rfl, rfl⟩
  case round =>
    obtain ⟨k, hk, rfl, rfl⟩ := hrel
    obtain ⟨n1, n2⟩ := onesTo_in s HA.out k hk
    by_cases hlt : k < s.size
    · obtain ⟨g1, g2⟩ := HA.out k hlt
      have HE : Hid (onesTo s (k + 1) = onesTo s k + (((s[k]'hlt).toNat : Int) - 48)) := by rw [get_bt s k hlt]; rfl
      go_wp2
      go_round
      case rel => exact ⟨k + 1, by omega, by go_num, by rw [HE.out]⟩
      case measure => simp [intOf]; omega
    · obtain rfl : k = s.size := by omega
      go_wp2
      go_ret
      exact ⟨rfl, rfl⟩

theorem count_one (s : ByteArray) (w : World) :
    Calls Try.prog 40 #[.string s, .string ⟨#[49]⟩] w fun e w' => e = .returned (.int .i64 (Lib.countByte s.data.toList 49)) ∧ w = w' := by
  go_enter Try.func40, Try.ntmps40
  go_wp2
  rw [run_callFunc_extern Try.func53 (by kernel_rfl) (by kernel_rfl) (by kernel_rfl) (e := Extern.BytealgCount.count) (by kernel_rfl), Lib.run_countString]
  simp only [Result.andThen]
  rw [Oper.upon_value]
  go_wp2
  go_ret
  exact ⟨rfl, rfl⟩

theorem ones_yes (s : ByteArray) (w : World) (h : BitsP s) :
    Calls Try.prog 17 #[.string s] w fun e w' => e = .returned (.tuple #[.int .i64 (onesTo s s.size), .bool true]) ∧ Below w.heap.size w w' := by
  have HE := Lib.hid (onesTo_all s h.all)
  have HB := Lib.hid h
  clear h
  go_enter Try.func17, Try.ntmps17
  go_wp2_with (first | (go_at_call 27; refine (isBits_yes s _ HB.out).mono ?_; rintro e w1 ⟨rfl, hb⟩) | (go_at_call 40; refine (count_one s _).mono ?_; rintro e w1 ⟨rfl, rfl⟩))
  go_ret2
  exact ⟨by rw [HE.out]; rfl, hb⟩
theorem ones_no (s : ByteArray) (w : World) (hm : s.size ≤ maxLen) (h : ¬ BitsP s) :
    Calls Try.prog 17 #[.string s] w fun e w' => e = .returned (.tuple #[.int .i64 0, .bool false]) ∧ Below w.heap.size w w' := by
  have HB := Lib.hid h
  clear h
  go_enter Try.func17, Try.ntmps17
  go_wp2_with (go_at_call 27; refine (isBits_no s _ hm HB.out).mono ?_; rintro e w1 ⟨rfl, hb⟩)
  go_ret2
  exact ⟨rfl, hb⟩
theorem specOnes_yes (s : ByteArray) (w : World) (h : BitsP s) :
    Calls Try.prog 28 #[.string s] w fun e w' => e = .returned (.tuple #[.int .i64 (onesTo s s.size), .bool true]) ∧ w = w' := by
  have HB := Lib.hid h
  clear h
  go_enter Try.func28, Try.ntmps28
  go_wp2_with (first | (go_at_call 44; refine (l01Bits_yes s _ HB.out).mono ?_; rintro e w1 ⟨rfl, rfl⟩) | (go_at_call 45; refine (l01Ones_any s _ HB.out.len HB.out.all).mono ?_; rintro e w1 ⟨rfl, rfl⟩))
  go_ret2
  exact ⟨rfl, rfl⟩
theorem specOnes_no (s : ByteArray) (w : World) (hm : s.size ≤ maxLen) (h : ¬ BitsP s) :
    Calls Try.prog 28 #[.string s] w fun e w' => e = .returned (.tuple #[.int .i64 0, .bool false]) ∧ w = w' := by
  have HB := Lib.hid h
  clear h
  go_enter Try.func28, Try.ntmps28
  go_wp2_with (go_at_call 44; refine (l01Bits_no s _ hm HB.out).mono ?_; rintro e w1 ⟨rfl, rfl⟩)
  go_ret2
  exact ⟨rfl, rfl⟩

theorem lawOnes (s : ByteArray) (w : World) (hm : s.size ≤ maxLen) :
    Calls Try.prog 7 #[.string s] w fun e w' => e = .returned (.bool true) ∧ Below w.heap.size w w' := by
  by_cases hl : s.size ≤ 1048576
  · by_cases h : BitsP s
    · have HB := Lib.hid h
      clear h
      have hne : (onesTo s s.size != onesTo s s.size) = false := by simp
      go_enter Try.func7, Try.ntmps7
      go_wp2_with (first | (go_at_call 28; refine (specOnes_yes s _ HB.out).mono ?_; rintro e w' ⟨rfl, rfl⟩) | (go_at_call 17; refine (ones_yes s _ HB.out).mono ?_; rintro e w1 ⟨rfl, hb⟩))
      go_ret
      exact ⟨rfl, hb⟩
    · have HN := Lib.hid h
      clear h
      go_enter Try.func7, Try.ntmps7
      go_wp2_with (first | (go_at_call 28; refine (specOnes_no s _ hm HN.out).mono ?_; rintro e w' ⟨rfl, rfl⟩) | (go_at_call 17; refine (ones_no s _ hm HN.out).mono ?_; rintro e w1 ⟨rfl, hb⟩))
      go_ret
      exact ⟨rfl, hb⟩
  · unfold maxLen at hm
    go_enter Try.func7, Try.ntmps7
    go_wp2
    go_ret
    exact ⟨rfl, Below.refl _ _⟩
end Go.Proofs.Ytcfmcaheaifaoaa
