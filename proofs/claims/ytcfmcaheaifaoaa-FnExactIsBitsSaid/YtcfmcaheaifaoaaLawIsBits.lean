/- The walk of the law FnExactIsBits. -/
import Derived.Test.YtcfmcaheaifaoaaBits
namespace Go.Proofs.Ytcfmcaheaifaoaa
open Go.RowKit
set_option maxHeartbeats 400000

theorem lawIsBits (s : ByteArray) (w : World) (hm : s.size ≤ maxLen) :
    Calls Try.prog 6 #[.string s] w fun e w' => e = .returned (.bool true) ∧ Below w.heap.size w w' := by
  by_cases hl : s.size ≤ 1048576
  · by_cases h : BitsP s
    · go_enter Try.func6, Try.ntmps6
      unfold maxLen at hm
      go_wp2_with (first | (go_at_call 26; refine (specIsBits_yes s _ h).mono ?_; rintro e w' ⟨rfl, rfl⟩) | (go_at_call 27; refine (isBits_yes s _ h).mono ?_; rintro e w1 ⟨rfl, hb⟩))
      go_ret
      exact ⟨rfl, hb⟩
    · have HN := Lib.hid h
      clear h
      go_enter Try.func6, Try.ntmps6
      go_wp2_with (first | (go_at_call 26; refine (specIsBits_no s _ hm HN.out).mono ?_; rintro e w' ⟨rfl, rfl⟩) | (go_at_call 27; refine (isBits_no s _ hm HN.out).mono ?_; rintro e w1 ⟨rfl, hb⟩))
      go_ret
      exact ⟨rfl, hb⟩
  · unfold maxLen at hm
    go_enter Try.func6, Try.ntmps6
    go_wp2
    go_ret
    exact ⟨rfl, Below.refl _ _⟩

end Go.Proofs.Ytcfmcaheaifaoaa
