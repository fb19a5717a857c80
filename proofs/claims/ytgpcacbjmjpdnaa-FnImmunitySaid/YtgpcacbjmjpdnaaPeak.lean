/- The greatest number of a row, at its first place: impl.tally.peak. -/
import Derived.Test.YtgpcacbjmjpdnaaSpec4
namespace Go.Proofs.Ytgpcacbjmjpdnaa
open Go.RowKit Go.PlainAid
open Wt (row pk)
set_option maxHeartbeats 800000

set_option maxRecDepth 8000 in
theorem peak_any (N B G cap : Nat) (f : Nat → Int) (w : World) (h1 : 0 < N) (h2 : N ≤ 1024) (hf : ∀ x, -409600 ≤ f x ∧ f x ≤ 409600) (h : w.ownsRow B 2 1 (.slice (some ⟨G, 0, none⟩) N cap) N ((row f N).map (Value.int .i64))) :
    Calls Try.prog 55 #[.slice (some ⟨G, 0, none⟩) N cap] w fun e w' => e = .returned (.tuple #[.int .i64 (pk f N), .int .i64 (f (pk f N))]) ∧ ∃ m, w' = w.drewN m := by
  have hcap := roww_cap h
  have HF := Lib.hid hf
  have HC : Hid (∀ i, i < N → w.cell? ⟨G, i, none⟩ = some (.int .i64 (f i))) := fun i hi => (roww_at h hi).1
  have HP : Hid (∀ k, 0 < k → pk f k < k) := Wt.pk_lt f
  clear hf h
  go_enter Try.func55, Try.ntmps55
  go_wp2
  go_loopw [4, 9] (fun pv kv wr => ∃ k p m : Nat, k ≤ N ∧ kv = .int .i64 k ∧ pv = .int .i64 p ∧ p < N ∧ Hid (p = pk f k) ∧ Hid (wr = w.drewN m)) (fun _ kv _ => N - (intOf kv).toNat)
  case atStart => exact ⟨0, 0, 0, Nat.zero_le _, rfl, rfl, h1, rfl, rfl⟩
  case round =>
    obtain ⟨k, p, m, hk, rfl, rfl, hp, HK, HW⟩ := hrel
    by_cases hlt : k < N
    · have c0 : wr.cell? ⟨G, k, none⟩ = some (.int .i64 (f k)) := by rw [HW.out]; exact HC.out k hlt
      have c1 : wr.cell? ⟨G, p, none⟩ = some (.int .i64 (f p)) := by rw [HW.out]; exact HC.out p hp
      have hu := HF.out k
      have hv := HF.out p
      obtain ⟨u, hu2⟩ : ∃ u, f k = u := ⟨_, rfl⟩
      obtain ⟨v, hv2⟩ : ∃ v, f p = v := ⟨_, rfl⟩
      rw [hu2] at hu c0
      rw [hv2] at hv c1
      have HU := Lib.hid hu2
      have HV := Lib.hid hv2
      clear hu2 hv2
      by_cases hx : v.natAbs < u.natAbs
      · have hb : decide (max v (-v) < max u (-u)) = true := decide_eq_true (by omega)
        have HQ : Hid (k = pk f (k + 1)) := by
          unfold Hid
          rw [Wt.pk_yes (by rw [← HK.out, HU.out, HV.out]; exact hx)]
        clear hx
        go_wp2
        go_quiet (fail)
        go_wp2
        go_roundw
        case rel => exact ⟨k + 1, k, m + nq, by omega, by go_num, rfl, hlt, HQ, by unfold Hid; rw [HW.out, drewN_twoG]⟩
        case measure => simp [intOf]; omega
      · have hb : decide (max v (-v) < max u (-u)) = false := decide_eq_false (by omega)
        have HQ : Hid (p = pk f (k + 1)) := by
          unfold Hid
          rw [Wt.pk_no (by rw [← HK.out, HU.out, HV.out]; exact hx)]
          exact HK.out
        clear hx
        go_wp2
        go_quiet (fail)
        go_wp2
        go_roundw
        case rel => exact ⟨k + 1, p, m + nq, by omega, by go_num, rfl, hp, HQ, by unfold Hid; rw [HW.out, drewN_twoG]⟩
        case measure => simp [intOf]; omega
    · obtain rfl : k = N := by omega
      have c1 : wr.cell? ⟨G, p, none⟩ = some (.int .i64 (f p)) := by rw [HW.out]; exact HC.out p hp
      obtain ⟨v, hv2⟩ : ∃ v, f p = v := ⟨_, rfl⟩
      rw [hv2] at c1
      have HV := Lib.hid hv2
      clear hv2
      go_wp2
      go_quiet (fail)
      go_wp2
      go_ret2
      exact ⟨by rw [← HK.out, HV.out]; rfl, m + nq, by rw [HW.out, drewN_twoG]⟩
end Go.Proofs.Ytgpcacbjmjpdnaa
