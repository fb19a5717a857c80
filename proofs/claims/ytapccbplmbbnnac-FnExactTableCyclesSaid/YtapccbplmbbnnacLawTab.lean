/- The law FnExactTableCycles. -/
import Derived.Test.YtapccbplmbbnnacSpecTab
namespace Go.Proofs.Ytapccbplmbbnnac
open Go.RowKit Go.PlainAid
set_option maxHeartbeats 800000

/-- what both functions take -/
def TabOk (x : Int) (tb : ByteArray) : Prop := 0 ≤ x ∧ x ≤ 6 ∧ (tb.size : Int) = 2 ^ x.toNat ∧ BitsP tb
theorem TabOk.tab {W : Nat} {tb : ByteArray} (h : TabOk W tb) : TabP W tb := by
  obtain ⟨_, _, hs, hb⟩ := h
  refine ⟨?_, fun k hk => ?_⟩
  · rw [Int.toNat_natCast] at hs
    have e : ((2 ^ W : Nat) : Int) = (2 : Int) ^ W := by simp
    omega
  · have := hb.all k hk
    omega
theorem l02Table_yes (W : Nat) (tb : ByteArray) (w : World) (h : TabOk W tb) :
    Calls Try.prog 22 #[.int .i64 W, .string tb] w fun e w' => e = .returned (.bool true) ∧ Below w.heap.size w w' := by
  obtain ⟨h0, h6, hs, hb⟩ := h
  obtain ⟨p1, p2⟩ := pow62 W (by omega)
  rw [Int.toNat_natCast] at hs
  have HI : Hid (∀ w : World, Calls Try.prog 44 #[.int .i64 W, .int .i64 0, .int .i64 6] w fun e w' => e = .returned (.bool true) ∧ w = w') := fun w => l00In_b _ _ _ _ (decide_eq_true ⟨h0, h6⟩) w
  have HB := Lib.hid hb
  obtain ⟨P, hP⟩ : ∃ P : Int, 2 ^ W = P := ⟨_, rfl⟩
  rw [hP] at hs p1 p2
  have e1 : ((tb.size : Int) == P) = true := by rw [beq_iff_eq]; exact hs
  have hW : W ≤ 62 := by omega
  clear hb hs
  go_enter Try.func22, Try.ntmps22
  go_wp2_with (first | (go_at_call 44; with_reducible refine (HI.out _).mono ?_; rintro e w1 ⟨rfl, rfl⟩) | (go_at_call 45; refine (l01Bits_yes tb _ HB.out).mono ?_; rintro e w3 ⟨rfl, rfl⟩))
  go_ret
  exact ⟨rfl, Below.refl _ _⟩
theorem l02Table_no (x : Int) (tb : ByteArray) (w : World) (hm : tb.size ≤ maxLen) (h : ¬ TabOk x tb) :
    Calls Try.prog 22 #[.int .i64 x, .string tb] w fun e w' => e = .returned (.bool false) ∧ Below w.heap.size w w' := by
  by_cases hr : 0 ≤ x ∧ x ≤ 6
  · obtain ⟨W, rfl⟩ := Int.eq_ofNat_of_zero_le hr.1
    have HI : Hid (∀ w : World, Calls Try.prog 44 #[.int .i64 W, .int .i64 0, .int .i64 6] w fun e w' => e = .returned (.bool true) ∧ w = w') := fun w => l00In_b _ _ _ _ (decide_eq_true hr) w
    by_cases hb : BitsP tb
    · obtain ⟨p1, p2⟩ := pow62 W (by omega)
      have HB := Lib.hid hb
      obtain ⟨P, hP⟩ : ∃ P : Int, 2 ^ W = P := ⟨_, rfl⟩
      have e1 : ((tb.size : Int) == P) = false := by
        rw [beq_eq_false_iff_ne]
        intro e
        exact h ⟨hr.1, hr.2, by rw [Int.toNat_natCast, hP]; exact e, hb⟩
      rw [hP] at p1 p2
      have hW : W ≤ 62 := by omega
      clear hb h hr hm
      go_enter Try.func22, Try.ntmps22
      go_wp2_with (first | (go_at_call 44; with_reducible refine (HI.out _).mono ?_; rintro e w1 ⟨rfl, rfl⟩) | (go_at_call 45; refine (l01Bits_yes tb _ HB.out).mono ?_; rintro e w3 ⟨rfl, rfl⟩))
      go_ret
      exact ⟨rfl, Below.refl _ _⟩
    · have HB := Lib.hid hb
      have HM := Lib.hid hm
      clear hb h hr hm
      go_enter Try.func22, Try.ntmps22
      go_wp2_with (first | (go_at_call 44; with_reducible refine (HI.out _).mono ?_; rintro e w1 ⟨rfl, rfl⟩) | (go_at_call 45; refine (l01Bits_no tb _ HM.out HB.out).mono ?_; rintro e w3 ⟨rfl, rfl⟩))
      go_ret
      exact ⟨rfl, Below.refl _ _⟩
  · have HI : Hid (∀ w : World, Calls Try.prog 44 #[.int .i64 x, .int .i64 0, .int .i64 6] w fun e w' => e = .returned (.bool false) ∧ w = w') := fun w => l00In_b _ _ _ _ (decide_eq_false hr) w
    clear h hr hm
    go_enter Try.func22, Try.ntmps22
    go_wp2_with (go_at_call 44; with_reducible refine (HI.out _).mono ?_; rintro e w1 ⟨rfl, rfl⟩)
    go_ret
    exact ⟨rfl, Below.refl _ _⟩
theorem specTab_no (x : Int) (tb : ByteArray) (w : World) (hm : tb.size ≤ maxLen) (h : ¬ TabOk x tb) :
    Calls Try.prog 6 #[.int .i64 x, .string tb] w fun e w' => e = .returned (.tuple #[.slice none 0 0, .bool false]) ∧ Below w.heap.size w w' := by
  have HT : Hid (∀ w : World, Calls Try.prog 22 #[.int .i64 x, .string tb] w fun e w' => e = .returned (.bool false) ∧ Below w.heap.size w w') := fun w => l02Table_no x tb w hm h
  clear h hm
  go_enter Try.func6, Try.ntmps6
  go_wp2_with fail
  refine (HT.out _).mono ?_
  rintro e w1 ⟨rfl, hb⟩
  go_wp2
  go_ret2
  exact ⟨rfl, hb⟩
theorem lawTab_core (x : Int) (s : ByteArray) (w : World) (hl : s.size ≤ 1048576) (xs : List Int) (ok : Bool) (hn : xs.length ≤ 4096) (HS : Hid (GivesList 6 #[.int .i64 x, .string s] xs ok)) (HI : Hid (GivesList 7 #[.int .i64 x, .string s] xs ok)) :
    Calls Try.prog 3 #[.int .i64 x, .string s] w fun e w' => e = .returned (.bool true) ∧ Below w.heap.size w w' := by
  have hok : (ok != ok) = false := by simp
  have hq : (((1 : Int) + (xs.length : Int)) != ((1 : Int) + (xs.length : Int))) = false := by simp
  go_enter Try.func3, Try.ntmps3
  go_wp2_with fail
  refine (HS.out _).mono ?_
  rintro e w1 ⟨a, rfl, ha, hb1⟩
  go_wp2_with fail
  refine (HI.out _).mono ?_
  rintro e w2 ⟨b, rfl, hb, hb2⟩
  have ha2 := ha.below hb2
  have hbel2 : Below w.heap.size w w2 := hb1.trans (hb2.mono hb1.size)
  have z1 := hb1.size
  have z2 := hb2.size
  clear ha hb1 hb2
  have H2 := Lib.hid (And.intro ha2 hb)
  clear ha2 hb
  go_wp2_with fail
  refine (eq64_yes _ _ xs _ _ _ _ _ H2.out.2 H2.out.1 (by omega)).mono ?_
  rintro e w3 ⟨rfl, n3, rfl⟩
  go_wp2_with fail
  refine (mark64_any _ xs _ _ 1 _ (H2.out.2.drewN n3) (by omega) (by omega) (by omega)).mono ?_
  rintro e w4 ⟨rfl, hm, hg⟩
  have K := Lib.hid (Kept.mk0 hbel2 z1 z2 H2.out.1 H2.out.2 hm hg)
  clear hm hg hbel2 z2 H2
  go_wp2_with fail
  refine (held64_any _ _ _ _ 1 _ K.out.sb (by omega) (by omega) (by omega)).mono ?_
  rintro e w4 ⟨rfl, rfl⟩
  go_wp2_with fail
  refine (HI.out _).mono ?_
  rintro e w5 ⟨c, rfl, hc, hb5⟩
  have K5 := Lib.hid (K.out.next hb5 z1)
  have HC := Lib.hid hc
  clear K hb5 hc
  go_wp2_with fail
  refine (eq64_yes _ _ xs _ _ _ _ _ HC.out K5.out.sa (by omega)).mono ?_
  rintro e w6 ⟨rfl, n6, rfl⟩
  have K6 := Lib.hid (K5.out.drewN n6)
  clear K5 HC
  go_wp2_with fail
  refine (held64_any _ _ _ _ 1 _ K6.out.sb (by omega) (by omega) (by omega)).mono ?_
  rintro e w7 ⟨rfl, rfl⟩
  go_wp2
  go_ret
  exact ⟨rfl, K6.out.bel⟩
theorem lawTab (x : Int) (s : ByteArray) (w : World) (hm : s.size ≤ maxLen) :
    Calls Try.prog 3 #[.int .i64 x, .string s] w fun e w' => e = .returned (.bool true) ∧ Below w.heap.size w w' := by
  by_cases hl : s.size ≤ 1048576
  · by_cases h : TabOk x s
    · obtain ⟨W, rfl⟩ := Int.eq_ofNat_of_zero_le h.1
      have hW : W ≤ 6 := by have := h.2.1; omega
      have h64 : 2 ^ W ≤ 2 ^ 6 := Nat.pow_le_pow_right (by omega) hW
      have hlen := resL_length (tnx W s) (2 ^ W) (2 ^ W)
      have hmul : 2 ^ W * 2 ^ W ≤ 64 * 64 := Nat.mul_le_mul (by omega) (by omega)
      refine lawTab_core W s w hl (resL (tnx W s) (2 ^ W) (2 ^ W)) true (by omega) (fun V => ?_) (fun V => ?_)
      · exact (specTab_yes W s V hW h.tab (fun V => l02Table_yes W s V h)).mono fun e w' ⟨v, he, ho, hb⟩ => ⟨v, he, SL.of_own ho, hb⟩
      · exact (tabCycles_yes W s V hW h.tab h.2.2.2).mono fun e w' ⟨v, he, ho, hb⟩ => ⟨v, he, SL.of_own ho, hb⟩
    · refine lawTab_core x s w hl [] false (by simp) (fun V => ?_) (fun V => ?_)
      · exact (specTab_no x s V hm h).mono fun e w' ⟨he, hb⟩ => ⟨_, he, .inl ⟨rfl, rfl⟩, hb⟩
      · exact (tabCycles_no x s V hm h).mono fun e w' ⟨he, hb⟩ => ⟨_, he, .inl ⟨rfl, rfl⟩, hb⟩
  · unfold maxLen at hm
    go_enter Try.func3, Try.ntmps3
    go_wp2
    go_ret
    exact ⟨rfl, Below.refl _ _⟩
end Go.Proofs.Ytapccbplmbbnnac
