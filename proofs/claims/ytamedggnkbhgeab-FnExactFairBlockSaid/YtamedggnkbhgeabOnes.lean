/- How many bits are 1: impl.OnesOf, spec.l01Ones, spec.OnesOf, and the law FnExactOnesOf. -/
import Derived.Test.YtamedggnkbhgeabBits
import Derived.Lib.Bytealg
import Derived.Laws.Externs
namespace Go.Proofs.Ytamedggnkbhgeab
open Go.RowKit Go.PlainAid
set_option maxHeartbeats 400000

/-- how many of the first k bytes are ones, as a sum -/
def onesTo (s : ByteArray) : Nat → Int
  | 0 => 0
  | k + 1 => onesTo s k + (bt s k - 48)

theorem onesTo_in (s : ByteArray) (h : AllIn 48 49 s) : ∀ k, k ≤ s.size → 0 ≤ onesTo s k ∧ onesTo s k ≤ k := by
  intro k
  induction k with
  | zero => exact fun _ => ⟨by simp [onesTo], by simp [onesTo]⟩
  | succ k ih =>
    intro h1
    obtain ⟨g1, g2⟩ := ih (by omega)
    obtain ⟨b1, b2⟩ := h k (by omega)
    rw [get_bt s k (by omega)] at b1 b2
    unfold onesTo
    omega

theorem onesTo_count (s : ByteArray) (h : AllIn 48 49 s) : ∀ k, k ≤ s.size → onesTo s k = ((s.data.toList.take k).count 49 : Nat) := by
  intro k
  induction k with
  | zero => exact fun _ => by simp [onesTo]
  | succ k ih =>
    intro h1
    obtain ⟨b1, b2⟩ := h k (by omega)
    have hk : k < s.data.toList.length := by simp; omega
    rw [List.take_succ_eq_append_getElem hk, List.count_append, List.count_singleton]
    unfold onesTo
    rw [ih (by omega), ← get_bt s k (by omega)]
    have e : s.data.toList[k] = s[k]'(by omega) := by simp; rfl
    rw [e]
    by_cases hc : ((s[k]'(by omega)).toNat : Int) = 48
    · have : ¬ (s[k]'(by omega)) = 49 := fun x => by rw [x] at hc; simp at hc
      simp [this]; omega
    · have : (s[k]'(by omega)) = 49 := by
        apply UInt8.toNat_inj.1
        show _ = 49
        omega
      simp [this]

theorem onesTo_all (s : ByteArray) (h : AllIn 48 49 s) : onesTo s s.size = (Lib.countByte s.data.toList 49 : Nat) := by
  rw [onesTo_count s h s.size (Nat.le_refl _), List.take_of_length_le (by simp)]
  rfl

set_option maxRecDepth 20000 in
theorem count_one (s : ByteArray) (w : World) :
    Calls Try.prog 84 #[.string s, .string ⟨#[49]⟩] w fun e w' => e = .returned (.int .i64 (Lib.countByte s.data.toList 49)) ∧ w = w' := by
  go_enter Try.func84, Try.ntmps84
  go_wp2
  rw [run_callFunc_extern Try.func91 (by kernel_rfl) (by kernel_rfl) (by kernel_rfl) (e := Extern.BytealgCount.count) (by kernel_rfl), Lib.run_countString]
  simp only [Result.andThen]
  rw [Oper.upon_value]
  go_wp2
  go_ret
  exact ⟨rfl, rfl⟩

theorem ones_yes (s : ByteArray) (w : World) (h : BitsP s) :
    Calls Try.prog 76 #[.string s] w fun e w' => e = .returned (.tuple #[.int .i64 (onesTo s s.size), .bool true]) ∧ Below w.heap.size w w' := by
  have HE := Lib.hid (onesTo_all s h.all)
  have HB := Lib.hid h
  clear h
  go_enter Try.func76, Try.ntmps76
  go_wp2_with (first | (go_at_call 48; refine (isBits_yes s _ HB.out).mono ?_; rintro e w1 ⟨rfl, hb⟩) | (go_at_call 84; refine (count_one s _).mono ?_; rintro e w1 ⟨rfl, rfl⟩))
  go_ret2
  exact ⟨by rw [HE.out]; rfl, hb⟩
theorem ones_no (s : ByteArray) (w : World) (hm : s.size ≤ maxLen) (h : ¬ BitsP s) :
    Calls Try.prog 76 #[.string s] w fun e w' => e = .returned (.tuple #[.int .i64 0, .bool false]) ∧ Below w.heap.size w w' := by
  have HB := Lib.hid h
  clear h
  go_enter Try.func76, Try.ntmps76
  go_wp2_with (go_at_call 48; refine (isBits_no s _ hm HB.out).mono ?_; rintro e w1 ⟨rfl, hb⟩)
  go_ret2
  exact ⟨rfl, hb⟩
end Go.Proofs.Ytamedggnkbhgeab
