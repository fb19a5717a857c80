/- Laws over one text with a list of numbers as the result: SpectrumOf, ShiftsOf, FixedShifts. -/
import Derived.Test.YtgpcacbjmjpdnabSlice64
namespace Go.Proofs.Ytgpcacbjmjpdnab
open Go.RowKit Go.PlainAid
set_option maxHeartbeats 800000

theorem lawShiftsOf_core (s : ByteArray) (w : World) (hl : s.size ≤ 1048576) (xs : List Int) (ok : Bool) (hn : xs.length ≤ 400) (HS : Hid (GivesList 21 #[.string s] xs ok)) (HI : Hid (GivesList 22 #[.string s] xs ok)) :
    Calls Try.prog 7 #[.string s] w fun e w' => e = .returned (.bool true) ∧ Below w.heap.size w w' := by
  have hok : (ok != ok) = false := by simp
  have hq : (((1 : Int) + (xs.length : Int)) != ((1 : Int) + (xs.length : Int))) = false := by simp
  go_enter Try.func7, Try.ntmps7
  go_wp2_with fail
  refine (HS.out _).mono ?_
  rintro e w1 ⟨a, rfl, ha, hb1⟩
  go_wp2_with fail
  refine (HI.out _).mono ?_
  rintro e w2 ⟨b, rfl, hb, hb2⟩
  have ha2 := ha.below hb2
  have hbel2 : Below w.heap.size w w2 := hb1.trans (hb2.mono hb1.size)
  have z1 := hb1.size
  have z2 := hb2.size
  clear ha hb1 hb2
  have H2 := Lib.hid (And.intro ha2 hb)
  clear ha2 hb
  go_wp2_with fail
  refine (eq64_yes _ _ xs _ _ _ _ _ H2.out.2 H2.out.1 (by omega)).mono ?_
  rintro e w3 ⟨rfl, n3, rfl⟩
  go_wp2_with fail
  refine (mark64_any _ xs _ _ 1 _ (H2.out.2.drewN n3) (by omega) (by omega) (by omega)).mono ?_
  rintro e w4 ⟨rfl, hm, hg⟩
  have K := Lib.hid (Kept.mk0 hbel2 z1 z2 H2.out.1 H2.out.2 hm hg)
  clear hm hg hbel2 z2 H2
  go_wp2_with fail
  refine (held64_any _ _ _ _ 1 _ K.out.sb (by omega) (by omega) (by omega)).mono ?_
  rintro e w4 ⟨rfl, rfl⟩
  go_wp2_with fail
  refine (HI.out _).mono ?_
  rintro e w5 ⟨c, rfl, hc, hb5⟩
  have K5 := Lib.hid (K.out.next hb5 z1)
  have HC := Lib.hid hc
  clear K hb5 hc
  go_wp2_with fail
  refine (eq64_yes _ _ xs _ _ _ _ _ HC.out K5.out.sa (by omega)).mono ?_
  rintro e w6 ⟨rfl, n6, rfl⟩
  have K6 := Lib.hid (K5.out.drewN n6)
  clear K5 HC
  go_wp2_with fail
  refine (held64_any _ _ _ _ 1 _ K6.out.sb (by omega) (by omega) (by omega)).mono ?_
  rintro e w7 ⟨rfl, rfl⟩
  go_wp2
  go_ret
  exact ⟨rfl, K6.out.bel⟩
theorem lawShiftsOf_all (s : ByteArray) (w : World) (hm : s.size ≤ maxLen) (H : Hid (∃ (xs : List Int) (ok : Bool), xs.length ≤ 400 ∧ GivesList 21 #[.string s] xs ok ∧ GivesList 22 #[.string s] xs ok)) :
    Calls Try.prog 7 #[.string s] w fun e w' => e = .returned (.bool true) ∧ Below w.heap.size w w' := by
  by_cases hl : s.size ≤ 1048576
  · obtain ⟨xs, ok, hn, h1, h2⟩ := H.out
    exact lawShiftsOf_core s w hl xs ok hn h1 h2
  · unfold maxLen at hm
    go_enter Try.func7, Try.ntmps7
    go_wp2
    go_ret
    exact ⟨rfl, Below.refl _ _⟩
theorem lawFixedShifts_core (s : ByteArray) (w : World) (hl : s.size ≤ 1048576) (xs : List Int) (ok : Bool) (hn : xs.length ≤ 400) (HS : Hid (GivesList 26 #[.string s] xs ok)) (HI : Hid (GivesList 27 #[.string s] xs ok)) :
    Calls Try.prog 8 #[.string s] w fun e w' => e = .returned (.bool true) ∧ Below w.heap.size w w' := by
  have hok : (ok != ok) = false := by simp
  have hq : (((1 : Int) + (xs.length : Int)) != ((1 : Int) + (xs.length : Int))) = false := by simp
  go_enter Try.func8, Try.ntmps8
  go_wp2_with fail
  refine (HS.out _).mono ?_
  rintro e w1 ⟨a, rfl, ha, hb1⟩
  go_wp2_with fail
  refine (HI.out _).mono ?_
  rintro e w2 ⟨b, rfl, hb, hb2⟩
  have ha2 := ha.below hb2
  have hbel2 : Below w.heap.size w w2 := hb1.trans (hb2.mono hb1.size)
  have z1 := hb1.size
  have z2 := hb2.size
  clear ha hb1 hb2
  have H2 := Lib.hid (And.intro ha2 hb)
  clear ha2 hb
  go_wp2_with fail
  refine (eq64_yes _ _ xs _ _ _ _ _ H2.out.2 H2.out.1 (by omega)).mono ?_
  rintro e w3 ⟨rfl, n3, rfl⟩
  go_wp2_with fail
  refine (mark64_any _ xs _ _ 1 _ (H2.out.2.drewN n3) (by omega) (by omega) (by omega)).mono ?_
  rintro e w4 ⟨rfl, hm, hg⟩
  have K := Lib.hid (Kept.mk0 hbel2 z1 z2 H2.out.1 H2.out.2 hm hg)
  clear hm hg hbel2 z2 H2
  go_wp2_with fail
  refine (held64_any _ _ _ _ 1 _ K.out.sb (by omega) (by omega) (by omega)).mono ?_
  rintro e w4 ⟨rfl, rfl⟩
  go_wp2_with fail
  refine (HI.out _).mono ?_
  rintro e w5 ⟨c, rfl, hc, hb5⟩
  have K5 := Lib.hid (K.out.next hb5 z1)
  have HC := Lib.hid hc
  clear K hb5 hc
  go_wp2_with fail
  refine (eq64_yes _ _ xs _ _ _ _ _ HC.out K5.out.sa (by omega)).mono ?_
  rintro e w6 ⟨rfl, n6, rfl⟩
  have K6 := Lib.hid (K5.out.drewN n6)
  clear K5 HC
  go_wp2_with fail
  refine (held64_any _ _ _ _ 1 _ K6.out.sb (by omega) (by omega) (by omega)).mono ?_
  rintro e w7 ⟨rfl, rfl⟩
  go_wp2
  go_ret
  exact ⟨rfl, K6.out.bel⟩
theorem lawFixedShifts_all (s : ByteArray) (w : World) (hm : s.size ≤ maxLen) (H : Hid (∃ (xs : List Int) (ok : Bool), xs.length ≤ 400 ∧ GivesList 26 #[.string s] xs ok ∧ GivesList 27 #[.string s] xs ok)) :
    Calls Try.prog 8 #[.string s] w fun e w' => e = .returned (.bool true) ∧ Below w.heap.size w w' := by
  by_cases hl : s.size ≤ 1048576
  · obtain ⟨xs, ok, hn, h1, h2⟩ := H.out
    exact lawFixedShifts_core s w hl xs ok hn h1 h2
  · unfold maxLen at hm
    go_enter Try.func8, Try.ntmps8
    go_wp2
    go_ret
    exact ⟨rfl, Below.refl _ _⟩
end Go.Proofs.Ytgpcacbjmjpdnab
