/- The ways to choose: impl.BinomialOf, spec.l01Choose, spec.BinomialOf, and the law FnExactBinomialOf. -/
import Derived.Test.YtmnnpkmjamhmcaaBtw
import Derived.Test.YtmnnpkmjamhmcaaBytes
import Derived.Test.YtmnnpkmjamhmcaaChoose
import Derived.Deep.RegionHeld3
import Derived.Deep.AppendLies
import Derived.Laws.Pointers
namespace Go.Proofs.Ytmnnpkmjamhmcaa
open Go.RowKit Go.PlainAid
set_option maxHeartbeats 400000

theorem binom_yes (n k : Nat) (w : World) (hn : n ≤ 60) (hk : k ≤ n) :
    Calls Try.prog 87 #[.int .i64 n, .int .i64 k] w fun e w' => e = .returned (.tuple #[.int .i64 (Choose.ch n k : Nat), .bool true]) ∧ w = w' := by
  go_enter Try.func87, Try.ntmps87
  go_wp2_with (go_at_call 80; refine (btw64_yes _ _ _ _ (by omega) (by omega)).mono ?_; rintro e w' ⟨rfl, rfl⟩)
  go_loop [6, 7, 18] (fun c _ i => ∃ j : Nat, j ≤ k ∧ i = .int .i64 j ∧ c = .int .i64 (Choose.ch n j : Nat)) (fun _ _ i => k - (intOf i).toNat)
  case atStart => exact ⟨0, Nat.zero_le _, rfl, by rw [Choose.ch_zero]; rfl⟩
  case round =>
    obtain ⟨j, hj, rfl, rfl⟩ := hrel
    by_cases hlt : j < k
    · obtain ⟨c1, c2⟩ := Choose.ch_in n j hn (by omega)
      have ha := Choose.absorb_sub n j (by omega)
      have hd2 := (Choose.ch_in n (j + 1) hn (by omega)).2
      obtain ⟨c, hc⟩ : ∃ c, Choose.ch n j = c := ⟨_, rfl⟩
      obtain ⟨d, hd⟩ : ∃ d, Choose.ch n (j + 1) = d := ⟨_, rfl⟩
      obtain ⟨P, hP⟩ : ∃ P, c * (n - j) = P := ⟨_, rfl⟩
      rw [hc, hd, hP] at ha
      rw [hd] at hd2
      rw [hc, hP] at c1
      rw [hc] at c2
      have E : (c : Int) * ((n : Int) - (j : Int)) = (P : Int) := by
        rw [← hP, Int.natCast_mul, Int.natCast_sub (by omega)]
      have D : (P : Int) / ((j : Int) + 1) = (d : Int) := by
        rw [ha]
        exact_mod_cast Nat.mul_div_cancel d (by omega : 0 < j + 1)
      have HD : Hid (Choose.ch n (j + 1) = d) := hd
      clear ha hd hP
      rw [hc]
      go_wp2
      go_round
      case rel => exact ⟨j + 1, by omega, by go_num, by rw [HD.out]⟩
      case measure => simp [intOf]; omega
    · obtain rfl : j = k := by omega
      go_wp2
      go_ret2
      exact ⟨rfl, rfl⟩
theorem binom_no (n k : Int) (w : World) (h : ¬ ((0 ≤ n ∧ n ≤ 60) ∧ (0 ≤ k ∧ k ≤ n))) :
    Calls Try.prog 87 #[.int .i64 n, .int .i64 k] w fun e w' => e = .returned (.tuple #[.int .i64 0, .bool false]) ∧ w = w' := by
  by_cases hn : 0 ≤ n ∧ n ≤ 60
  · have HK : Hid (¬ (0 ≤ k ∧ k ≤ n)) := fun x => h ⟨hn, x⟩
    have HN := Lib.hid hn
    clear h hn
    go_enter Try.func87, Try.ntmps87
    go_wp2_with fail
    refine (btw64_yes _ _ _ _ HN.out.1 HN.out.2).mono ?_
    rintro e w' ⟨rfl, rfl⟩
    go_wp2_with fail
    refine (btw64_no _ _ _ _ HK.out).mono ?_
    rintro e w' ⟨rfl, rfl⟩
    go_wp2
    go_ret2
    exact ⟨rfl, rfl⟩
  · have HN := Lib.hid hn
    clear h hn
    go_enter Try.func87, Try.ntmps87
    go_wp2_with (go_at_call 80; refine (btw64_no _ _ _ _ HN.out).mono ?_; rintro e w' ⟨rfl, rfl⟩)
    go_ret2
    exact ⟨rfl, rfl⟩


end Go.Proofs.Ytmnnpkmjamhmcaa
