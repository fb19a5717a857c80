/- How many bits are 1: impl.weightOf, spec.l04Weight; the smaller one: spec.l00Min. -/
import Derived.Test.YtgpcacbjmjpdnabSmall
import Derived.Test.YtgpcacbjmjpdnabWt
namespace Go.Proofs.Ytgpcacbjmjpdnab
open Go.RowKit Go.PlainAid
set_option maxHeartbeats 400000

theorem l04Weight_any (n : Nat) (w : World) (hn : n ≤ 9223372036854775807) :
    Calls Try.prog 47 #[.int .i64 n] w fun e w' => e = .returned (.int .i64 (Pop.pcF 64 n)) ∧ w = w' := by
  have HT : Hid (Pop.pcF 64 n ≤ 64) := Pop.pcF_le 64 n
  go_enter Try.func47, Try.ntmps47
  go_wp2
  go_loop [0, 3] (fun r o => ∃ p q : Nat, o = .int .i64 p ∧ r = .int .i64 q ∧ p ≤ 64 ∧ q ≤ 9223372036854775807 ∧ Hid (p + Pop.pcF 64 q = Pop.pcF 64 n)) (fun r _ => (intOf r).toNat)
  case atStart => exact ⟨0, n, rfl, rfl, by omega, by omega, by unfold Hid; rw [Nat.zero_add]⟩
  case round =>
    obtain ⟨p, q, rfl, rfl, hp, hq, H⟩ := hrel
    by_cases h0 : 0 < q
    · have E1 := and_one_i64' (q : Int)
      have HL := Lib.hid (pc_half q (by omega))
      have hp2 : p + q % 2 ≤ 64 := by have a := HT.out; have b := H.out; have c := HL.out; omega
      go_wp2
      go_round
      case rel => exact ⟨p + q % 2, q / 2, by go_num, by go_num, by omega, by omega, by have x1 := H.out; have x2 := HL.out; unfold Hid; omega⟩
      case measure => simp [intOf]; omega
    · obtain rfl : q = 0 := by omega
      have HZ : Hid ((p : Int) = (Pop.pcF 64 n : Nat)) := by
        have x := H.out
        rw [show Pop.pcF 64 0 = 0 by decide +kernel] at x
        unfold Hid; omega
      go_wp2
      go_ret
      exact ⟨congrArg (fun x => Ending.returned (.int .i64 x)) HZ.out, rfl⟩
theorem l00MinT_any (a b : Int) (w : World) :
    Calls Try.prog 46 #[.int .i64 a, .int .i64 b] w fun e w' => e = .returned (.int .i64 (if a < b then a else b)) ∧ w = w' := by
  by_cases h : a < b
  · have HE : Hid ((if a < b then a else b) = a) := if_pos h
    rw [HE.out]
    go_enter Try.func46, Try.ntmps46
    go_wp2
    go_ret
    exact ⟨rfl, rfl⟩
  · have HE : Hid ((if a < b then a else b) = b) := if_neg h
    rw [HE.out]
    go_enter Try.func46, Try.ntmps46
    go_wp2
    go_ret
    exact ⟨rfl, rfl⟩
end Go.Proofs.Ytgpcacbjmjpdnab
