/- The walks of impl.IsName, spec.IsName and the law FnExactIsName. -/
import Derived.Test.YtcfmcaheaifaoaaOnly
namespace Go.Proofs.Ytcfmcaheaifaoaa
open Go.RowKit
set_option maxHeartbeats 400000

theorem isName_yes (s : ByteArray) (w : World) (h0 : 1 ≤ s.size) (h1 : s.size ≤ 10) (h : AllIn 97 122 s) :
    Calls Try.prog 25 #[.string s] w fun e w' => e = .returned (.bool true) ∧ Below w.heap.size w w' := by
  have HA := Lib.hid h
  clear h
  go_enter Try.func25, Try.ntmps25
  go_wp2_with (first | (go_at_call 42; refine (btwI_yes _ _ _ _ (by omega) (by omega)).mono ?_; rintro e w' ⟨rfl, rfl⟩) | (go_at_call 43; refine (hasOnly_yes s _ _ _ (by omega) HA.out).mono ?_; rintro e w1 ⟨rfl, hb⟩))
  go_ret
  exact ⟨rfl, hb⟩

theorem isName_no (s : ByteArray) (w : World) (h : ¬ (1 ≤ s.size ∧ s.size ≤ 10 ∧ AllIn 97 122 s)) :
    Calls Try.prog 25 #[.string s] w fun e w' => e = .returned (.bool false) ∧ Below w.heap.size w w' := by
  by_cases h1 : 1 ≤ s.size ∧ s.size ≤ 10
  · obtain ⟨h0, h1⟩ := h1
    have HA : Hid (¬ AllIn 97 122 s) := fun x => h ⟨h0, h1, x⟩
    clear h
    go_enter Try.func25, Try.ntmps25
    go_wp2_with (first | (go_at_call 42; refine (btwI_yes _ _ _ _ (by omega) (by omega)).mono ?_; rintro e w' ⟨rfl, rfl⟩) | (go_at_call 43; refine (hasOnly_no s _ _ _ (by omega) HA.out).mono ?_; rintro e w1 ⟨rfl, hb⟩))
    go_ret
    exact ⟨rfl, hb⟩
  · have h2 : ¬ ((1 : Int) ≤ (s.size : Int) ∧ (s.size : Int) ≤ 10) := by omega
    have H2 := Lib.hid h2
    clear h h1 h2
    go_enter Try.func25, Try.ntmps25
    go_wp2_with (go_at_call 42; refine (btwI_no _ _ _ _ H2.out).mono ?_; rintro e w' ⟨rfl, rfl⟩)
    go_ret
    exact ⟨rfl, Below.refl _ _⟩

/-- the loop of the model ends by its own test: the answer is that of the length -/
theorem specIsName_all (s : ByteArray) (w : World) (b : Bool) (hm : s.size ≤ maxLen) (h : AllIn 97 122 s) (hd : (decide ((1 : Int) ≤ (s.size : Int)) && decide ((s.size : Int) ≤ 10)) = b) :
    Calls Try.prog 24 #[.string s] w fun e w' => e = .returned (.bool b) ∧ w = w' := by
  have HA := Lib.hid h
  clear h
  unfold maxLen at hm
  have HD := Lib.hid hd
  clear hd
  go_enter Try.func24, Try.ntmps24
  go_wp2
  go_loop [3] (fun i => ∃ k : Nat, k ≤ s.size ∧ i = .int .i64 k) (fun i => s.size - (intOf i).toNat)
  case atStart => exact ⟨0, Nat.zero_le _, rfl⟩
  case round =>
    obtain ⟨k, hk, rfl⟩ := hrel
    by_cases hlt : k < s.size
    · obtain ⟨g1, g2⟩ := HA.out k hlt
      go_wp2
      go_round
      case rel => exact ⟨k + 1, by omega, by go_num⟩
      case measure => simp [intOf]; omega
    · by_cases hb1 : 1 ≤ s.size
      · go_wp2
        go_ret
        refine ⟨congrArg (fun x => Ending.returned (.bool x)) ?_, rfl⟩
        rw [← HD.out]
        have e1 : decide ((1 : Int) ≤ (s.size : Int)) = true := by simp; omega
        rw [e1, Bool.true_and]
      · go_wp2
        go_ret
        refine ⟨congrArg (fun x => Ending.returned (.bool x)) ?_, rfl⟩
        rw [← HD.out]
        have e1 : decide ((1 : Int) ≤ (s.size : Int)) = false := by simp; omega
        rw [e1, Bool.false_and]

theorem specIsName_yes (s : ByteArray) (w : World) (h0 : 1 ≤ s.size) (h1 : s.size ≤ 10) (h : AllIn 97 122 s) :
    Calls Try.prog 24 #[.string s] w fun e w' => e = .returned (.bool true) ∧ w = w' :=
  specIsName_all s w true (by unfold maxLen; omega) h (by simp; omega)

theorem specIsName_no (s : ByteArray) (w : World) (hm : s.size ≤ maxLen) (h : ¬ (1 ≤ s.size ∧ s.size ≤ 10 ∧ AllIn 97 122 s)) :
    Calls Try.prog 24 #[.string s] w fun e w' => e = .returned (.bool false) ∧ w = w' := by
  by_cases hA : AllIn 97 122 s
  · exact specIsName_all s w false hm hA (by
      have : ¬ (1 ≤ s.size ∧ s.size ≤ 10) := fun x => h ⟨x.1, x.2, hA⟩
      simp; omega)
  · obtain ⟨k, hk, hbad, hgood⟩ := AllIn.bad hA
    have HG := Lib.hid hgood
    clear h hgood hA
    unfold maxLen at hm
    by_cases hb : ((s[k]'hk).toNat : Int) < 97
    · clear hbad
      go_enter Try.func24, Try.ntmps24
      go_wp2
      go_loop [3] (fun i => ∃ j : Nat, j ≤ k ∧ i = .int .i64 j) (fun i => s.size - (intOf i).toNat)
      case atStart => exact ⟨0, Nat.zero_le _, rfl⟩
      case round =>
        obtain ⟨j, hj, rfl⟩ := hrel
        by_cases hlt : j < k
        · obtain ⟨g1, g2⟩ := HG.out j hlt
          go_wp2
          go_round
          case rel => exact ⟨j + 1, by omega, by go_num⟩
          case measure => simp [intOf]; omega
        · obtain rfl : j = k := by omega
          go_wp2
          go_ret
          exact ⟨rfl, rfl⟩
    · have hb2 : 122 < ((s[k]'hk).toNat : Int) := by omega
      clear hbad
      go_enter Try.func24, Try.ntmps24
      go_wp2
      go_loop [3] (fun i => ∃ j : Nat, j ≤ k ∧ i = .int .i64 j) (fun i => s.size - (intOf i).toNat)
      case atStart => exact ⟨0, Nat.zero_le _, rfl⟩
      case round =>
        obtain ⟨j, hj, rfl⟩ := hrel
        by_cases hlt : j < k
        · obtain ⟨g1, g2⟩ := HG.out j hlt
          go_wp2
          go_round
          case rel => exact ⟨j + 1, by omega, by go_num⟩
          case measure => simp [intOf]; omega
        · obtain rfl : j = k := by omega
          go_wp2
          go_ret
          exact ⟨rfl, rfl⟩

theorem lawIsName (s : ByteArray) (w : World) (hm : s.size ≤ maxLen) :
    Calls Try.prog 5 #[.string s] w fun e w' => e = .returned (.bool true) ∧ Below w.heap.size w w' := by
  by_cases hl : s.size ≤ 1048576
  · by_cases h : 1 ≤ s.size ∧ s.size ≤ 10 ∧ AllIn 97 122 s
    · obtain ⟨h0, h1, h2⟩ := h
      have HA := Lib.hid h2
      clear h2
      go_enter Try.func5, Try.ntmps5
      go_wp2_with (first | (go_at_call 24; refine (specIsName_yes s _ h0 h1 HA.out).mono ?_; rintro e w' ⟨rfl, rfl⟩) | (go_at_call 25; refine (isName_yes s _ h0 h1 HA.out).mono ?_; rintro e w1 ⟨rfl, hb⟩))
      go_ret
      exact ⟨rfl, hb⟩
    · have HN := Lib.hid h
      clear h
      go_enter Try.func5, Try.ntmps5
      go_wp2_with (first | (go_at_call 24; refine (specIsName_no s _ hm HN.out).mono ?_; rintro e w' ⟨rfl, rfl⟩) | (go_at_call 25; refine (isName_no s _ HN.out).mono ?_; rintro e w1 ⟨rfl, hb⟩))
      go_ret
      exact ⟨rfl, hb⟩
  · unfold maxLen at hm
    go_enter Try.func5, Try.ntmps5
    go_wp2
    go_ret
    exact ⟨rfl, Below.refl _ _⟩
end Go.Proofs.Ytcfmcaheaifaoaa
