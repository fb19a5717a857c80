/- The law FnPascal. -/
import Derived.Test.YtcfmcaheaifaoaaBinomial
import Derived.Test.YtcfmcaheaifaoaaCheck
import Derived.Test.YtcfmcaheaifaoaaDrawBits
namespace Go.Proofs.Ytcfmcaheaifaoaa
open Go.RowKit Go.PlainAid
set_option maxHeartbeats 800000

theorem bt_extract (s : ByteArray) (a b k : Nat) (hb : b ≤ s.size) (h : a + k < b) : bt (s.extract a b) k = bt s (a + k) := by
  have h1 : k < (s.extract a b).size := by rw [ByteArray.size_extract]; omega
  unfold bt
  rw [dif_pos h1, dif_pos (by omega), ByteArray.getElem_extract]
theorem check_first (n : Int) (s : ByteArray) (c : Nat) (hc : c ≤ s.size) : ∀ k, k ≤ c → checkTo n (s.extract 0 c) k = checkTo n s k := by
  intro k
  induction k with
  | zero => intro _; rfl
  | succ k ih =>
    intro h
    simp only [checkTo]
    rw [ih (by omega), bt_extract s 0 c k hc (by omega), Nat.zero_add]
theorem check_second (n : Int) (s : ByteArray) (c : Nat) : ∀ k, c + k ≤ s.size → checkTo (checkTo n s c) (s.extract c s.size) k = checkTo n s (c + k) := by
  intro k
  induction k with
  | zero => intro _; rfl
  | succ k ih =>
    intro h
    rw [show c + (k + 1) = (c + k) + 1 by omega]
    simp only [checkTo]
    rw [ih (by omega), bt_extract s c s.size k (Nat.le_refl _) (by omega)]

theorem lawPascal (a : Option Addr) (la ca : Nat) (b : Option Addr) (lb cb : Nat) (w : World) (hA : Code w w.heap.size a la) (hB : Code w w.heap.size b lb) (ha : la ≤ 9223372036854775807) (hb : lb ≤ 9223372036854775807) :
    Calls Try.prog 4 #[.slice a la ca, .slice b lb cb] w fun e w' => e = .returned (.bool true) ∧ Below w.heap.size w w' := by
  by_cases hl : la ≤ 1048576 ∧ lb ≤ 1048576
  · obtain ⟨l1, l2⟩ := hl
    have HA := Lib.hid hA
    have HB := Lib.hid hB
    clear hA hB
    go_enter Try.func4, Try.ntmps4
    go_wp2_with fail
    refine (long_no a b la ca lb cb _ l1 l2).mono ?_
    rintro e w' ⟨rfl, rfl⟩
    go_wp2_with fail
    refine (at_any a la ca 0 59 _ _ HA.out l1 (by omega) (by omega) (by omega)).mono ?_
    rintro e w' ⟨v, rfl, v0, v1, m1, rfl⟩
    obtain ⟨N, hN⟩ : ∃ N : Nat, 1 + v = (N : Int) := ⟨(1 + v).toNat, by omega⟩
    have hN1 : 1 ≤ N ∧ N ≤ 59 := by omega
    go_wp2_with fail
    refine (at_any a la ca 1 _ _ _ (HA.out.drewN m1) l1 (by omega) (by omega) (by omega)).mono ?_
    rintro e w' ⟨kk, rfl, k0, k1, m2, rfl⟩
    obtain ⟨K, rfl⟩ := Int.eq_ofNat_of_zero_le k0
    have hK : K ≤ N := by omega
    have hP0 : (2 : Nat) ^ N ≤ 2 ^ 59 := Nat.pow_le_pow_right (by omega) hN1.2
    have hP1 : (2 : Nat) ^ 59 = 576460752303423488 := by decide
    have HSM : Hid (∀ j, j ≤ N + 1 → Choose.sm N j ≤ 576460752303423488) := fun j hj => Nat.le_trans (Choose.sm_le N j hj) (by omega)
    clear hP0 hP1
    go_wp2
    go_loopw [7, 8] (fun sv iv wr => ∃ j : Nat, j ≤ N + 1 ∧ iv = .int .i64 j ∧ sv = .int .i64 (Choose.sm N j : Nat) ∧ wr = w.drewN (m1 + m2)) (fun _ iv _ => N + 1 - (intOf iv).toNat)
    case atStart => exact ⟨0, by omega, rfl, rfl, rfl⟩
    case round =>
      obtain ⟨j, hj, rfl, rfl, rfl⟩ := hrel
      have hs1 := HSM.out j hj
      by_cases hjn : j ≤ N
      · have hp := Choose.ch_pos N j hjn
        have hq := (Choose.ch_in N j (by omega) hjn).2
        have HE : Hid ((Choose.sm N (j + 1) : Nat) = Choose.sm N j + Choose.ch N j) := rfl
        have hs2 := HSM.out (j + 1) (by omega)
        rw [HE.out] at hs2
        go_wp2_with (go_at_call 22; refine (binom_yes N j _ (by omega) hjn).mono ?_; rintro e w' ⟨rfl, rfl⟩)
        go_roundw
        case rel => exact ⟨j + 1, by omega, by go_num, by rw [HE.out]; go_num, trivial⟩
        case measure => simp [intOf]; omega
      · obtain rfl : j = N + 1 := by omega
        have HF : Hid (Choose.sm N (N + 1) = 2 ^ N) := Choose.sm_all N
        go_wp2_with fail
        refine (binom_yes N K _ (by omega) hK).mono ?_
        rintro e w' ⟨rfl, rfl⟩
        obtain ⟨M, hM⟩ : ∃ M : Nat, N = M + 1 := ⟨N - 1, by omega⟩
        have hM1 : (N : Int) - 1 = (M : Int) := by omega
        have HM := Lib.hid hM
        clear hM
        by_cases hK0 : 0 < K
        · obtain ⟨J, hJ⟩ : ∃ J : Nat, K = J + 1 := ⟨K - 1, by omega⟩
          have hJ1 : (K : Int) - 1 = (J : Int) := by omega
          have HJ := Lib.hid hJ
          clear hJ
          have HCS : Hid (Choose.ch N K = Choose.ch M J + Choose.ch M (J + 1)) := by unfold Hid; rw [HM.out, HJ.out]; rfl
          go_wp2_with fail
          refine (binom_yes M J _ (by have := HM.out; omega) (by have := HM.out; have := HJ.out; omega)).mono ?_
          rintro e w' ⟨rfl, rfl⟩
          have b1 := (Choose.ch_in M J (by have := HM.out; omega) (by have := HM.out; have := HJ.out; omega)).2
          by_cases hKN : K < N
          · go_wp2_with fail
            refine (binom_yes M K _ (by have := HM.out; omega) (by have := HM.out; omega)).mono ?_
            rintro e w' ⟨rfl, rfl⟩
            have b2 := (Choose.ch_in M K (by have := HM.out; omega) (by have := HM.out; omega)).2
            have hab : (((Choose.ch N K : Nat) : Int) == ((Choose.ch M J : Nat) : Int) + ((Choose.ch M K : Nat) : Int)) = true := by rw [HCS.out, ← HJ.out]; simp
            have hxx : (((Choose.sm N (N + 1) : Nat) : Int) == ((Choose.sm N (N + 1) : Nat) : Int)) = true := by simp
            go_wp2_with fail
            refine (drawBits_any b lb cb _ (HB.out.drewN _) l2).mono ?_
            rintro e w2 ⟨t, rfl, ht, hbel⟩
            have hbel2 : Below w.heap.size w w2 := (below_drewN (Below.refl _ w) (m1 + m2)).trans hbel
            have hts := ht.1
            clear hbel ht
            go_wp2_with fail
            refine (at_any b lb cb 3 _ _ _ (HB.out.below hbel2) l2 (by omega) (by omega) (by omega)).mono ?_
            rintro e w' ⟨cc, rfl, cc0, cc1, m3, rfl⟩
            obtain ⟨c, rfl⟩ := Int.eq_ofNat_of_zero_le cc0
            have hct : c ≤ t.size := by omega
            have C2 : Hid (∀ W : World, Calls Try.prog 23 #[.int .i64 N, .string (t.extract 0 c)] W fun e w' => e = .returned (.tuple #[.int .i64 (checkTo N t c), .bool true]) ∧ W = w') := fun W => by
              have hz : (t.extract 0 c).size = c := by rw [ByteArray.size_extract]; omega
              have := check_yes N (t.extract 0 c) W (by rw [hz]; unfold maxLen; omega) (by omega) (by omega)
              rwa [hz, check_first N t c hct c (Nat.le_refl _)] at this
            have C3 : Hid (∀ W : World, Calls Try.prog 23 #[.int .i64 (checkTo N t c), .string (t.extract c t.size)] W fun e w' => e = .returned (.tuple #[.int .i64 (checkTo N t t.size), .bool true]) ∧ W = w') := fun W => by
              have hz : (t.extract c t.size).size = t.size - c := by rw [ByteArray.size_extract]; omega
              obtain ⟨k1, k2⟩ := checkTo_in N t (by omega) (by omega) c
              have := check_yes (checkTo N t c) (t.extract c t.size) W (by rw [hz]; unfold maxLen; omega) k1 k2
              rwa [hz, check_second N t c (t.size - c) (by omega), show c + (t.size - c) = t.size by omega] at this
            have hcc : (checkTo N t t.size == checkTo N t t.size) = true := by simp
            go_wp2_with fail
            refine (check_yes N t _ (by unfold maxLen; omega) (by omega) (by omega)).mono ?_
            rintro e w' ⟨rfl, rfl⟩
            go_wp2_with fail
            refine (C2.out _).mono ?_
            rintro e w' ⟨rfl, rfl⟩
            go_wp2_with fail
            refine (C3.out _).mono ?_
            rintro e w' ⟨rfl, rfl⟩
            clear C2 C3
            have hpow : (2 : Int) ^ N = ((Choose.sm N (N + 1) : Nat) : Int) := by rw [HF.out]; simp
            go_wp2
            go_ret
            exact ⟨rfl, below_drewN hbel2 _⟩
          · have hab : (((Choose.ch N K : Nat) : Int) == ((Choose.ch M J : Nat) : Int)) = true := by
              have e1 : K = N := by omega
              have e2 : J = M := by have := HM.out; have := HJ.out; omega
              rw [e1, e2, Choose.ch_self, Choose.ch_self]; simp
            have hxx : (((Choose.sm N (N + 1) : Nat) : Int) == ((Choose.sm N (N + 1) : Nat) : Int)) = true := by simp
            go_wp2_with fail
            refine (drawBits_any b lb cb _ (HB.out.drewN _) l2).mono ?_
            rintro e w2 ⟨t, rfl, ht, hbel⟩
            have hbel2 : Below w.heap.size w w2 := (below_drewN (Below.refl _ w) (m1 + m2)).trans hbel
            have hts := ht.1
            clear hbel ht
            go_wp2_with fail
            refine (at_any b lb cb 3 _ _ _ (HB.out.below hbel2) l2 (by omega) (by omega) (by omega)).mono ?_
            rintro e w' ⟨cc, rfl, cc0, cc1, m3, rfl⟩
            obtain ⟨c, rfl⟩ := Int.eq_ofNat_of_zero_le cc0
            have hct : c ≤ t.size := by omega
            have C2 : Hid (∀ W : World, Calls Try.prog 23 #[.int .i64 N, .string (t.extract 0 c)] W fun e w' => e = .returned (.tuple #[.int .i64 (checkTo N t c), .bool true]) ∧ W = w') := fun W => by
              have hz : (t.extract 0 c).size = c := by rw [ByteArray.size_extract]; omega
              have := check_yes N (t.extract 0 c) W (by rw [hz]; unfold maxLen; omega) (by omega) (by omega)
              rwa [hz, check_first N t c hct c (Nat.le_refl _)] at this
            have C3 : Hid (∀ W : World, Calls Try.prog 23 #[.int .i64 (checkTo N t c), .string (t.extract c t.size)] W fun e w' => e = .returned (.tuple #[.int .i64 (checkTo N t t.size), .bool true]) ∧ W = w') := fun W => by
              have hz : (t.extract c t.size).size = t.size - c := by rw [ByteArray.size_extract]; omega
              obtain ⟨k1, k2⟩ := checkTo_in N t (by omega) (by omega) c
              have := check_yes (checkTo N t c) (t.extract c t.size) W (by rw [hz]; unfold maxLen; omega) k1 k2
              rwa [hz, check_second N t c (t.size - c) (by omega), show c + (t.size - c) = t.size by omega] at this
            have hcc : (checkTo N t t.size == checkTo N t t.size) = true := by simp
            go_wp2_with fail
            refine (check_yes N t _ (by unfold maxLen; omega) (by omega) (by omega)).mono ?_
            rintro e w' ⟨rfl, rfl⟩
            go_wp2_with fail
            refine (C2.out _).mono ?_
            rintro e w' ⟨rfl, rfl⟩
            go_wp2_with fail
            refine (C3.out _).mono ?_
            rintro e w' ⟨rfl, rfl⟩
            clear C2 C3
            have hpow : (2 : Int) ^ N = ((Choose.sm N (N + 1) : Nat) : Int) := by rw [HF.out]; simp
            go_wp2
            go_ret
            exact ⟨rfl, below_drewN hbel2 _⟩
        · have hKN : K < N := by omega
          have hK0' := Lib.hid (show K = 0 by omega)
          go_wp2_with fail
          refine (binom_yes M K _ (by have := HM.out; omega) (by have := HM.out; omega)).mono ?_
          rintro e w' ⟨rfl, rfl⟩
          have b2 := (Choose.ch_in M K (by have := HM.out; omega) (by have := HM.out; omega)).2
          have hab : (((Choose.ch N K : Nat) : Int) == ((Choose.ch M K : Nat) : Int)) = true := by
            rw [hK0'.out, Choose.ch_zero, Choose.ch_zero]; simp
          have hxx : (((Choose.sm N (N + 1) : Nat) : Int) == ((Choose.sm N (N + 1) : Nat) : Int)) = true := by simp
          go_wp2_with fail
          refine (drawBits_any b lb cb _ (HB.out.drewN _) l2).mono ?_
          rintro e w2 ⟨t, rfl, ht, hbel⟩
          have hbel2 : Below w.heap.size w w2 := (below_drewN (Below.refl _ w) (m1 + m2)).trans hbel
          have hts := ht.1
          clear hbel ht
          go_wp2_with fail
          refine (at_any b lb cb 3 _ _ _ (HB.out.below hbel2) l2 (by omega) (by omega) (by omega)).mono ?_
          rintro e w' ⟨cc, rfl, cc0, cc1, m3, rfl⟩
          obtain ⟨c, rfl⟩ := Int.eq_ofNat_of_zero_le cc0
          have hct : c ≤ t.size := by omega
          have C2 : Hid (∀ W : World, Calls Try.prog 23 #[.int .i64 N, .string (t.extract 0 c)] W fun e w' => e = .returned (.tuple #[.int .i64 (checkTo N t c), .bool true]) ∧ W = w') := fun W => by
            have hz : (t.extract 0 c).size = c := by rw [ByteArray.size_extract]; omega
            have := check_yes N (t.extract 0 c) W (by rw [hz]; unfold maxLen; omega) (by omega) (by omega)
            rwa [hz, check_first N t c hct c (Nat.le_refl _)] at this
          have C3 : Hid (∀ W : World, Calls Try.prog 23 #[.int .i64 (checkTo N t c), .string (t.extract c t.size)] W fun e w' => e = .returned (.tuple #[.int .i64 (checkTo N t t.size), .bool true]) ∧ W = w') := fun W => by
            have hz : (t.extract c t.size).size = t.size - c := by rw [ByteArray.size_extract]; omega
            obtain ⟨k1, k2⟩ := checkTo_in N t (by omega) (by omega) c
            have := check_yes (checkTo N t c) (t.extract c t.size) W (by rw [hz]; unfold maxLen; omega) k1 k2
            rwa [hz, check_second N t c (t.size - c) (by omega), show c + (t.size - c) = t.size by omega] at this
          have hcc : (checkTo N t t.size == checkTo N t t.size) = true := by simp
          go_wp2_with fail
          refine (check_yes N t _ (by unfold maxLen; omega) (by omega) (by omega)).mono ?_
          rintro e w' ⟨rfl, rfl⟩
          go_wp2_with fail
          refine (C2.out _).mono ?_
          rintro e w' ⟨rfl, rfl⟩
          go_wp2_with fail
          refine (C3.out _).mono ?_
          rintro e w' ⟨rfl, rfl⟩
          clear C2 C3
          have hpow : (2 : Int) ^ N = ((Choose.sm N (N + 1) : Nat) : Int) := by rw [HF.out]; simp
          go_wp2
          go_ret
          exact ⟨rfl, below_drewN hbel2 _⟩
  · have HL := Lib.hid hl
    clear hl
    go_enter Try.func4, Try.ntmps4
    go_wp2_with (go_at_call 12; refine (long_yes a b la ca lb cb _ ha hb HL.out).mono ?_; rintro e w' ⟨rfl, rfl⟩)
    go_ret
    exact ⟨rfl, Below.refl _ _⟩
end Go.Proofs.Ytcfmcaheaifaoaa
