/- impl.IsAllWords, spec.IsAllWords, the law FnExactIsAllWords. -/
import Derived.Test.YtapccbplmbbnnaaAllWords
namespace Go.Proofs.Ytapccbplmbbnnaa
open Go.RowKit Go.PlainAid
set_option maxHeartbeats 800000

theorem isAll_yes (s : ByteArray) (W : Nat) (w : World) (W1 : 1 ≤ W) (W6 : W ≤ 6) (hs : BitsP s) (hn : s.size = 2 ^ W) :
    Calls Try.prog 35 #[.int .i64 W, .string s] w fun e w' => e = .returned (.bool (allW s W)) ∧ Below w.heap.size w w' := by
  obtain ⟨i0, hi, hz0, hz1, hz2⟩ := info_parts Try.info4
  obtain ⟨P, hP⟩ : ∃ P : Int, 2 ^ W = P := ⟨_, rfl⟩
  obtain ⟨p1, p2⟩ := pow62 W (by omega)
  have e : ((2 ^ W : Nat) : Int) = (2 : Int) ^ W := by simp
  have hPs : (s.size : Int) = P := by omega
  have hp6 : 2 ^ W ≤ 2 ^ 6 := Nat.pow_le_pow_right (by omega) W6
  have hlW : W ≤ s.size := by rw [hn]; exact Nat.le_of_lt Nat.lt_two_pow_self
  have h64 : s.size ≤ 64 := by omega
  have h0 : 0 < s.size := by omega
  have HI : Hid (∀ w : World, Calls Try.prog 41 #[.int .i64 W, .int .i64 1, .int .i64 6] w fun e w' => e = .returned (.bool true) ∧ w = w') := fun w => btw64_b _ _ _ _ (decide_eq_true (by omega)) w
  have HBs : Hid (∀ w : World, Calls Try.prog 63 #[.string s, .int .i64 P] w fun e w' => e = .returned (.bool true) ∧ Below w.heap.size w w') := fun w => isBitsOf_yes s P w hPs hs
  have HU : Hid (∀ w : World, Calls Try.prog 64 #[.string s, .int .i64 (2 * (s.size : Int))] w fun e w' => e = .returned (.string (twice s)) ∧ Below w.heap.size w w') := fun w => by
    have := unrolled_any s (2 * s.size) w h0 (by omega) rfl
    rwa [show ((2 * s.size : Nat) : Int) = 2 * (s.size : Int) by omega] at this
  have hz := twice_size s
  have HA := Lib.hid hs.all
  have HW : Hid (∀ k, (wordN s W k : Int) = wd s s.size k W ∧ wordN s W k < s.size) := wordN_lt hs.all hn
  rw [hP] at p1 p2
  clear e hn hp6 hPs hs
  go_enter Try.func35, Try.ntmps35
  go_wp2_with (go_at_call 41; with_reducible refine (HI.out _).mono ?_; rintro e w3 ⟨rfl, rfl⟩)
  refine (HBs.out _).mono ?_
  rintro e w1 ⟨rfl, hb1⟩
  go_wp2_with fail
  refine (HU.out _).mono ?_
  rintro e w2 ⟨rfl, hb2⟩
  have hbel2 : Below w.heap.size w w2 := hb1.trans (hb2.mono hb1.size)
  clear hb1 hb2
  go_wp2_with (at_make; refine wpList_make_full _ rfl _ _ 65 rfl w.heap.size 4 i0 _ 1 Try.underlying65 hi hz0 hz1 _ _ _ _ s.size rfl rfl rfl rfl (by rw [hz2]; omega) (by unfold maxLen; omega) hbel2.size ?_; intro w3 hown hgrow)
  have hown3 : w3.ownsRow w.heap.size 4 1 (.slice (some ⟨w2.heap.size, 0, none⟩) s.size s.size) s.size ((List.replicate s.size false).map Value.bool) := by rw [bools_made] at hown; exact hown
  have hbel3 : Below w.heap.size w w3 := hbel2.grown hgrow hbel2.size (by simp)
  have hzz := hbel2.size
  clear hown hgrow hbel2
  go_loopw [7, 8, 9, 30] (fun _ _ _ i wr => ∃ (k : Nat) (L : List Bool), k ≤ s.size ∧ i = .int .i64 k ∧ L.length = s.size ∧ wr.ownsRow w.heap.size 4 1 (.slice (some ⟨w2.heap.size, 0, none⟩) s.size s.size) s.size (L.map Value.bool) ∧ Below w.heap.size w wr ∧ Hid (goW (wordN s W) (s.size - k) k L = allW s W)) (fun _ _ _ i _ => s.size - (intOf i).toNat)
  case atStart => exact ⟨0, _, Nat.zero_le _, rfl, by simp, hown3, hbel3, rfl⟩
  case round =>
    obtain ⟨k, L, hk, rfl, hL, hown, hbel, HG⟩ := hrel
    clear hown3 hbel3
    by_cases hlt : k < s.size
    · obtain ⟨v1, v2⟩ := HW.out k
      obtain ⟨f, hf⟩ : ∃ f, s.size - k = f + 1 := ⟨s.size - k - 1, by omega⟩
      obtain ⟨V, hV⟩ : ∃ V, wordN s W k = V := ⟨_, rfl⟩
      have HG2 : Hid ((if L.getD V false = true then false else goW (wordN s W) f (k + 1) (L.set V true)) = allW s W) := by
        have h := HG.out
        rw [hf, goW, hV] at h
        exact h
      have HF : Hid (s.size - (k + 1) = f) := by unfold Hid; omega
      have hcz : ((twice s).extract k (k + W)).size = W := by rw [ByteArray.size_extract, hz]; omega
      have HNm : Hid (∀ w : World, Calls Try.prog 65 #[.string ((twice s).extract k (k + W))] w fun e w' => e = .returned (.tuple #[.int .i64 V, .bool true]) ∧ Below w.heap.size w w') := fun w => by
        have := number_yes ((twice s).extract k (k + W)) w (by omega) (all_cut HA.out h0 hlt hlW)
        rw [hcz, num_cut h0 hlt hlW W (Nat.le_refl _), ← v1, hV] at this
        exact this
      rw [hV] at v2
      clear hf hV hcz v1 HG
      go_wp2_with fail
      refine (HNm.out _).mono ?_
      rintro e w4 ⟨rfl, hb4⟩
      have hown4 := own_belowU hown hb4
      have hbel4 := hbel.trans (hb4.mono hbel.size)
      clear hown hbel hb4
      obtain ⟨hc, hfz⟩ := bool_at hown4 hL v2
      obtain ⟨b, hb⟩ : ∃ b, L.getD V false = b := ⟨_, rfl⟩
      rw [hb] at hc HG2
      clear hb
      cases b
      · go_wp2
        go_roundw
        case rel => exact ⟨k + 1, L.set V true, by omega, by go_num, by rw [List.length_set]; exact hL, bool_set hown4, hbel4.setCell (by simp; omega) _, by rw [HF.out]; exact HG2.out⟩
        case measure => simp [intOf]; omega
      · have HR : Hid (allW s W = false) := HG2.out.symm
        go_wp2
        go_ret
        exact ⟨by rw [HR.out]; rfl, hbel4⟩
    · obtain rfl : k = s.size := by omega
      have HR : Hid (allW s W = true) := by
        have h := HG.out
        rw [Nat.sub_self] at h
        exact h.symm
      go_wp2
      go_ret
      exact ⟨by rw [HR.out]; rfl, hbel⟩
theorem isAll_no (s : ByteArray) (W : Int) (w : World) (hm : s.size ≤ maxLen) (h : ¬ ((1 ≤ W ∧ W ≤ 6) ∧ BitsP s ∧ (s.size : Int) = 2 ^ W.toNat)) :
    Calls Try.prog 35 #[.int .i64 W, .string s] w fun e w' => e = .returned (.bool false) ∧ Below w.heap.size w w' := by
  by_cases hW : 1 ≤ W ∧ W ≤ 6
  · have HI : Hid (∀ w : World, Calls Try.prog 41 #[.int .i64 W, .int .i64 1, .int .i64 6] w fun e w' => e = .returned (.bool true) ∧ w = w') := fun w => btw64_b _ _ _ _ (decide_eq_true hW) w
    obtain ⟨V, rfl⟩ := Int.eq_ofNat_of_zero_le (show 0 ≤ W by omega)
    obtain ⟨P, hP⟩ : ∃ P : Int, 2 ^ V = P := ⟨_, rfl⟩
    obtain ⟨p1, p2⟩ := pow62 V (by omega)
    have HBs : Hid (∀ w : World, Calls Try.prog 63 #[.string s, .int .i64 P] w fun e w' => e = .returned (.bool false) ∧ Below w.heap.size w w') := fun w => isBitsOf_no s P w hm (fun x => h ⟨hW, x.2, by rw [Int.toNat_natCast, hP]; exact x.1⟩)
    rw [hP] at p1 p2
    clear h
    go_enter Try.func35, Try.ntmps35
    go_wp2_with (go_at_call 41; with_reducible refine (HI.out _).mono ?_; rintro e w3 ⟨rfl, rfl⟩)
    refine (HBs.out _).mono ?_
    rintro e w1 ⟨rfl, hb1⟩
    go_wp2
    go_ret
    exact ⟨rfl, hb1⟩
  · have HI : Hid (∀ w : World, Calls Try.prog 41 #[.int .i64 W, .int .i64 1, .int .i64 6] w fun e w' => e = .returned (.bool false) ∧ w = w') := fun w => btw64_b _ _ _ _ (decide_eq_false hW) w
    clear h hW
    go_enter Try.func35, Try.ntmps35
    go_wp2_with (go_at_call 41; with_reducible refine (HI.out _).mono ?_; rintro e w3 ⟨rfl, rfl⟩)
    go_ret
    exact ⟨rfl, Below.refl _ _⟩
theorem l02All_yes (s : ByteArray) (W : Nat) (w : World) (W1 : 1 ≤ W) (W6 : W ≤ 6) (hs : BitsP s) (hn : s.size = 2 ^ W) :
    Calls Try.prog 62 #[.int .i64 W, .string s] w fun e w' => e = .returned (.bool (allW s W)) ∧ Below w.heap.size w w' := by
  obtain ⟨i0, hi, hz0, hz1, hz2⟩ := info_parts Try.info4
  have e : ((2 ^ W : Nat) : Int) = (2 : Int) ^ W := by simp
  have hP : (2 : Int) ^ W = (s.size : Int) := by omega
  have hp6 : 2 ^ W ≤ 2 ^ 6 := Nat.pow_le_pow_right (by omega) W6
  have h64 : s.size ≤ 64 := by omega
  have h0 : 0 < s.size := by rw [hn]; exact Nat.pow_pos (by omega)
  have hw1 : wrap64 (s.size : Int) = (s.size : Int) := wrap64_nat _ (by omega)
  have hne : ((s.size : Int) != (s.size : Int)) = false := by simp
  have HA := Lib.hid hs.all
  have HW : Hid (∀ k, (wordN s W k : Int) = wd s s.size k W ∧ wordN s W k < s.size) := wordN_lt hs.all hn
  have HD : Hid (∀ k j, j ≤ W → 0 ≤ wd s s.size k j ∧ wd s s.size k j ≤ 64) := by
    intro k j hj
    have h1 := wd_in hs.all h0 k j
    have h2 : (2 : Nat) ^ j ≤ 2 ^ 6 := Nat.pow_le_pow_right (by omega) (by omega)
    have e2 : ((2 ^ j : Nat) : Int) = (2 : Int) ^ j := by simp
    omega
  clear e hn hp6 hs
  go_enter Try.func62, Try.ntmps62
  go_wp2_with (at_make; refine wpList_make_full _ rfl _ _ 65 rfl w.heap.size 4 i0 _ 1 Try.underlying65 hi hz0 hz1 _ _ _ _ s.size rfl rfl rfl rfl (by rw [hz2]; omega) (by unfold maxLen; omega) (Nat.le_refl _) ?_; intro w3 hown hgrow)
  have hown3 : w3.ownsRow w.heap.size 4 1 (.slice (some ⟨w.heap.size, 0, none⟩) s.size s.size) s.size ((List.replicate s.size false).map Value.bool) := by rw [bools_made] at hown; exact hown
  have hbel3 : Below w.heap.size w w3 := (Below.refl _ _).grown hgrow (Nat.le_refl _) (by simp)
  clear hown hgrow
  go_loopw [7, 8, 9] (fun i _ _ wr => ∃ (k : Nat) (L : List Bool), k ≤ s.size ∧ i = .int .i64 k ∧ L.length = s.size ∧ wr.ownsRow w.heap.size 4 1 (.slice (some ⟨w.heap.size, 0, none⟩) s.size s.size) s.size (L.map Value.bool) ∧ Below w.heap.size w wr ∧ Hid (goW (wordN s W) (s.size - k) k L = allW s W)) (fun i _ _ _ => s.size - (intOf i).toNat)
  case atStart => exact ⟨0, _, Nat.zero_le _, rfl, by simp, hown3, hbel3, rfl⟩
  case round =>
    obtain ⟨k, L, hk, rfl, hL, hown, hbel, HG⟩ := hrel
    clear hown3 hbel3
    by_cases hlt : k < s.size
    · obtain ⟨v1, v2⟩ := HW.out k
      obtain ⟨f, hf⟩ : ∃ f, s.size - k = f + 1 := ⟨s.size - k - 1, by omega⟩
      obtain ⟨V, hV⟩ : ∃ V, wordN s W k = V := ⟨_, rfl⟩
      have HG2 : Hid ((if L.getD V false = true then false else goW (wordN s W) f (k + 1) (L.set V true)) = allW s W) := by
        have h := HG.out
        rw [hf, goW, hV] at h
        exact h
      have HF : Hid (s.size - (k + 1) = f) := by unfold Hid; omega
      have HV : Hid (wd s s.size k W = (V : Int)) := by unfold Hid; rw [← v1, hV]
      rw [hV] at v2
      clear hf hV v1 HG
      obtain ⟨hc, hfz⟩ := bool_at hown hL v2
      obtain ⟨b, hb⟩ : ∃ b, L.getD V false = b := ⟨_, rfl⟩
      rw [hb] at hc HG2
      clear hb
      go_wp2
      go_loop [8, 9] (fun x jv => ∃ j : Nat, j ≤ W ∧ x = .int .i64 (wd s s.size k j) ∧ jv = .int .i64 j) (fun _ jv => W - (intOf jv).toNat)
      case atStart => exact ⟨0, Nat.zero_le _, rfl, rfl⟩
      case round =>
        obtain ⟨j, hj, rfl, rfl⟩ := hrel
        by_cases hjt : j < W
        · obtain ⟨q, hq, hm, hqe⟩ : ∃ q, ∃ _ : q < s.size, ((k : Int) + (j : Int)).tmod (s.size : Int) = (q : Int) ∧ (k + j) % s.size = q := by
            refine ⟨(k + j) % s.size, Nat.mod_lt _ h0, ?_, rfl⟩
            rw [show (k : Int) + (j : Int) = ((k + j : Nat) : Int) by omega, Int.tmod_eq_emod_of_nonneg (by omega)]
            exact (Int.natCast_emod _ _).symm
          obtain ⟨x1, x2⟩ := HA.out q hq
          obtain ⟨d1, d2⟩ := HD.out k j hj
          have HN : Hid (wd s s.size k (j + 1) = 2 * wd s s.size k j + (((s[q]'hq).toNat : Int) - 48)) := by
            unfold Hid
            rw [get_bt s q hq, ← hqe]
            rfl
          obtain ⟨X, hX⟩ : ∃ X, wd s s.size k j = X := ⟨_, rfl⟩
          have hx : ((s[q]'hq).toNat : Int) = 48 ∨ ((s[q]'hq).toNat : Int) = 49 := by omega
          rw [hX] at d1 d2 HN ⊢
          clear hX hqe x1 x2
          rcases hx with hx | hx
          · rw [hx] at HN
            go_wp2
            go_round
            case rel => exact ⟨j + 1, by omega, by rw [HN.out]; go_num, by go_num⟩
            case measure => simp [intOf]; omega
          · rw [hx] at HN
            go_wp2
            go_round
            case rel => exact ⟨j + 1, by omega, by rw [HN.out]; go_num, by go_num⟩
            case measure => simp [intOf]; omega
        · have HVj : wd s s.size k j = (V : Int) := by rw [show j = W by omega]; exact HV.out
          rw [HVj]
          clear HVj
          cases b
          · go_wp2
            go_roundw
            case rel => exact ⟨k + 1, L.set V true, by omega, by go_num, by rw [List.length_set]; exact hL, bool_set hown, hbel.setCell (by simp) _, by rw [HF.out]; exact HG2.out⟩
            case measure => simp [intOf]; omega
          · have HR : Hid (allW s W = false) := HG2.out.symm
            go_wp2
            go_ret
            exact ⟨by rw [HR.out]; rfl, hbel⟩
    · obtain rfl : k = s.size := by omega
      have HR : Hid (allW s W = true) := by
        have h := HG.out
        rw [Nat.sub_self] at h
        exact h.symm
      go_wp2
      go_ret
      exact ⟨by rw [HR.out]; rfl, hbel⟩
theorem l02All_no (s : ByteArray) (W : Nat) (w : World) (W6 : W ≤ 6) (hm : s.size ≤ 400) (hn : ¬ s.size = 2 ^ W) :
    Calls Try.prog 62 #[.int .i64 W, .string s] w fun e w' => e = .returned (.bool false) ∧ Below w.heap.size w w' := by
  obtain ⟨P, hP⟩ : ∃ P : Int, 2 ^ W = P := ⟨_, rfl⟩
  obtain ⟨p1, p2⟩ := pow62 W (by omega)
  have e : ((2 ^ W : Nat) : Int) = (2 : Int) ^ W := by simp
  have hne : ((s.size : Int) != P) = true := by
    rw [bne_iff_ne]
    omega
  rw [hP] at p1 p2
  clear e hn
  go_enter Try.func62, Try.ntmps62
  go_wp2
  go_ret
  exact ⟨rfl, Below.refl _ _⟩
theorem specAll_yes (s : ByteArray) (W : Nat) (w : World) (W1 : 1 ≤ W) (W6 : W ≤ 6) (hs : BitsP s) (hn : s.size = 2 ^ W) :
    Calls Try.prog 34 #[.int .i64 W, .string s] w fun e w' => e = .returned (.bool (allW s W)) ∧ Below w.heap.size w w' := by
  have HI : Hid (∀ w : World, Calls Try.prog 47 #[.int .i64 W, .int .i64 1, .int .i64 6] w fun e w' => e = .returned (.bool true) ∧ w = w') := fun w => l00In_b _ _ _ _ (decide_eq_true (by omega)) w
  have HB := Lib.hid hs
  obtain ⟨b, hb⟩ : ∃ b, allW s W = b := ⟨_, rfl⟩
  have HL : Hid (∀ w : World, Calls Try.prog 62 #[.int .i64 W, .string s] w fun e w' => e = .returned (.bool b) ∧ Below w.heap.size w w') := fun w => by rw [← hb]; exact l02All_yes s W w W1 W6 hs hn
  rw [hb]
  clear hb hs hn
  cases b
  all_goals
    go_enter Try.func34, Try.ntmps34
    go_wp2_with (first | (go_at_call 47; with_reducible refine (HI.out _).mono ?_; rintro e w3 ⟨rfl, rfl⟩) | (go_at_call 60; refine (l01Bits_yes s _ HB.out).mono ?_; rintro e w3 ⟨rfl, rfl⟩) | (go_at_call 62; with_reducible refine (HL.out _).mono ?_; rintro e w3 ⟨rfl, hbl⟩))
    go_ret
    exact ⟨rfl, hbl⟩
theorem specAll_no (s : ByteArray) (W : Int) (w : World) (hm : s.size ≤ maxLen) (h : ¬ ((1 ≤ W ∧ W ≤ 6) ∧ BitsP s ∧ (s.size : Int) = 2 ^ W.toNat)) :
    Calls Try.prog 34 #[.int .i64 W, .string s] w fun e w' => e = .returned (.bool false) ∧ Below w.heap.size w w' := by
  by_cases hW : 1 ≤ W ∧ W ≤ 6
  · have HI : Hid (∀ w : World, Calls Try.prog 47 #[.int .i64 W, .int .i64 1, .int .i64 6] w fun e w' => e = .returned (.bool true) ∧ w = w') := fun w => l00In_b _ _ _ _ (decide_eq_true hW) w
    by_cases hs : BitsP s
    · obtain ⟨V, rfl⟩ := Int.eq_ofNat_of_zero_le (show 0 ≤ W by omega)
      have HB := Lib.hid hs
      have HL : Hid (∀ w : World, Calls Try.prog 62 #[.int .i64 V, .string s] w fun e w' => e = .returned (.bool false) ∧ Below w.heap.size w w') := fun w => l02All_no s V w (by omega) hs.len (fun x => h ⟨hW, hs, by
        rw [Int.toNat_natCast, x]
        simp⟩)
      clear h hs hW
      go_enter Try.func34, Try.ntmps34
      go_wp2_with (first | (go_at_call 47; with_reducible refine (HI.out _).mono ?_; rintro e w3 ⟨rfl, rfl⟩) | (go_at_call 60; refine (l01Bits_yes s _ HB.out).mono ?_; rintro e w3 ⟨rfl, rfl⟩) | (go_at_call 62; with_reducible refine (HL.out _).mono ?_; rintro e w3 ⟨rfl, hbl⟩))
      go_ret
      exact ⟨rfl, hbl⟩
    · have HB := Lib.hid hs
      clear h hs hW
      go_enter Try.func34, Try.ntmps34
      go_wp2_with (first | (go_at_call 47; with_reducible refine (HI.out _).mono ?_; rintro e w3 ⟨rfl, rfl⟩) | (go_at_call 60; refine (l01Bits_no s _ hm HB.out).mono ?_; rintro e w3 ⟨rfl, rfl⟩))
      go_ret
      exact ⟨rfl, Below.refl _ _⟩
  · have HI : Hid (∀ w : World, Calls Try.prog 47 #[.int .i64 W, .int .i64 1, .int .i64 6] w fun e w' => e = .returned (.bool false) ∧ w = w') := fun w => l00In_b _ _ _ _ (decide_eq_false hW) w
    clear h hW
    go_enter Try.func34, Try.ntmps34
    go_wp2_with (go_at_call 47; with_reducible refine (HI.out _).mono ?_; rintro e w3 ⟨rfl, rfl⟩)
    go_ret
    exact ⟨rfl, Below.refl _ _⟩
theorem lawAll_of (s : ByteArray) (W : Int) (r : Bool) (w : World) (hs : s.size ≤ 1048576)
    (S : Hid (∀ w : World, Calls Try.prog 34 #[.int .i64 W, .string s] w fun e w' => e = .returned (.bool r) ∧ Below w.heap.size w w'))
    (I : Hid (∀ w : World, Calls Try.prog 35 #[.int .i64 W, .string s] w fun e w' => e = .returned (.bool r) ∧ Below w.heap.size w w')) :
    Calls Try.prog 12 #[.int .i64 W, .string s] w fun e w' => e = .returned (.bool true) ∧ Below w.heap.size w w' := by
  have e3 : (r != r) = false := by simp
  go_enter Try.func12, Try.ntmps12
  go_wp2_with fail
  refine (S.out _).mono ?_
  rintro e w1 ⟨rfl, hb1⟩
  go_wp2_with fail
  refine (I.out _).mono ?_
  rintro e w2 ⟨rfl, hb2⟩
  have hb := hb1.trans (hb2.mono hb1.size)
  clear hb1 hb2
  go_wp2
  go_ret
  exact ⟨rfl, hb⟩
theorem lawAll (W : Int) (s : ByteArray) (w : World) (hm : s.size ≤ maxLen) :
    Calls Try.prog 12 #[.int .i64 W, .string s] w fun e w' => e = .returned (.bool true) ∧ Below w.heap.size w w' := by
  by_cases hl : s.size ≤ 1048576
  · by_cases h : (1 ≤ W ∧ W ≤ 6) ∧ BitsP s ∧ (s.size : Int) = 2 ^ W.toNat
    · obtain ⟨⟨W1, W6⟩, hs, hn⟩ := h
      obtain ⟨V, rfl⟩ := Int.eq_ofNat_of_zero_le (show 0 ≤ W by omega)
      rw [Int.toNat_natCast] at hn
      have e : ((2 ^ V : Nat) : Int) = (2 : Int) ^ V := by simp
      exact lawAll_of s _ _ w hl (fun w => specAll_yes s V w (by omega) (by omega) hs (by omega)) (fun w => isAll_yes s V w (by omega) (by omega) hs (by omega))
    · exact lawAll_of s _ _ w hl (fun w => specAll_no s W w hm h) (fun w => isAll_no s W w hm h)
  · unfold maxLen at hm
    go_enter Try.func12, Try.ntmps12
    go_wp2
    go_ret
    exact ⟨rfl, Below.refl _ _⟩
end Go.Proofs.Ytapccbplmbbnnaa
