/- The bits of a number: impl.BitsOf, spec.l01Digits, spec.BitsOf, and the law FnExactBitsOf. -/
import Derived.Test.YtapccbplmbbnnaaBtw
import Derived.Test.YtapccbplmbbnnaaBytes
import Derived.Laws.Pointers
import Derived.OpenShut
namespace Go.Proofs.Ytapccbplmbbnnaa
open Go.RowKit Go.PlainAid
set_option maxHeartbeats 400000

/-- bit i of n as a byte -/
def dig (n : Int) (i : Nat) : Int := 48 + n / 2 ^ i % 2
/-- the lowest k bits, the greatest one first -/
def low (n : Int) : Nat → List Int
  | 0 => []
  | k + 1 => dig n k :: low n k
theorem low_length (n : Int) (k : Nat) : (low n k).length = k := by
  induction k with
  | zero => rfl
  | succ k ih => simp [low, ih]
/-- the first k of W digits -/
def top (n : Int) (W k : Nat) : List Int := (List.range k).map fun t => dig n (W - 1 - t)
theorem top_length (n : Int) (W k : Nat) : (top n W k).length = k := by simp [top]
theorem top_succ (n : Int) (W k : Nat) : top n W (k + 1) = top n W k ++ [dig n (W - 1 - k)] := by simp [top, List.range_succ]
theorem top_all (n : Int) (W : Nat) : top n W W = low n W := by
  induction W with
  | zero => rfl
  | succ W ih =>
    rw [low, ← ih]
    unfold top
    rw [List.range_succ_eq_map, List.map_cons, List.map_map]
    congr 1
    apply List.map_congr_left
    intro t ht
    have := List.mem_range.1 ht
    simp only [Function.comp]
    congr 1
    omega

theorem and_one_i64 (q : Int) : bits .and .i64 q 1 = q % 2 := by
  have h1 : (BitVec.ofInt 64 1).toNat = 2 ^ 1 - 1 := by decide
  have key : (BitVec.ofInt 64 q &&& BitVec.ofInt 64 1).toNat = (q % ((2 ^ 64 : Nat) : Int)).toNat % 2 ^ 1 := by
    rw [BitVec.toNat_and, BitVec.toNat_ofInt, h1, Nat.and_two_pow_sub_one_eq_mod]
  show IntKind.i64.wrap ((BitVec.ofInt 64 q &&& BitVec.ofInt 64 1).toNat : Nat) = q % 2
  rw [key, IntKind.wrap_i64]
  omega

theorem l01Digits_any (n : Int) (W : Nat) (w : World) (h0 : 0 ≤ n) (h1 : n ≤ 9223372036854775807) (hW : W ≤ 60) :
    Calls Try.prog 66 #[.int .i64 n, .int .i64 W] w fun e w' => e = .returned (.string (strOfNums (low n W))) ∧ Below w.heap.size w w' := by
  obtain ⟨i0, hi, hz0, hz1, hz2⟩ := info_parts Try.info5
  go_enter Try.func66, Try.ntmps66
  go_wp2
  go_loopw [5, 6] (fun v i wr => ∃ k : Nat, k ≤ W ∧ i = .int .i64 ((W : Int) - 1 - k) ∧ wr.ownsRow w.heap.size 5 1 v k ((top n W k).map (Value.int .u8)) ∧ Below w.heap.size w wr) (fun _ i _ => (intOf i + 1).toNat)
  case atStart => exact ⟨0, Nat.zero_le _, by simp, ownsRow_empty w _ _, (Below.refl _ _).alloc (Nat.le_refl _) _⟩
  case round =>
    obtain ⟨k, hk, rfl, hown, hbel⟩ := hrel
    by_cases hlt : k < W
    · obtain ⟨q, hq⟩ : ∃ q : Int, n / 2 ^ (W - 1 - k) = q := ⟨_, rfl⟩
      have hq2 : n / 2 ^ ((W : Int) - 1 - (k : Int)).toNat = q := by rw [← hq]; congr 2; omega
      have hq0 : 0 ≤ q := by rw [← hq]; exact Int.ediv_nonneg h0 (Int.le_of_lt (Int.pow_pos (by omega)))
      have hq1 : q ≤ 9223372036854775807 := by
        rw [← hq]
        exact Int.le_trans (Int.ediv_le_self _ h0) h1
      have hb := and_one_i64 q
      have HT : Hid (top n W (k + 1) = top n W k ++ [48 + q % 2]) := by
        unfold Hid
        rw [top_succ, ← hq]
        rfl
      go_wp2_with (at_builtin; refine wpList_append_own _ rfl _ _ 52 rfl w.heap.size 5 i0 (.int .u8 0) 1 1 Try.underlying52 hi hz0 hz1 hz2 rfl (by decide) _ _ _ rfl (hown.alloc _) ⟨wr.heap.size, 0, none⟩ 1 1 [.int .u8 (48 + q % 2)] rfl rfl (cell_one_new _ _ _) (by intro u hu; simp at hu; subst hu; rfl) (by unfold maxLen; omega) (by omega) (by have := hbel.size; simp; omega) ?_; intro v1 w1 hown1 hgrow _)
      have hb1 : Below w.heap.size w w1 := (hbel.alloc hbel.size _).grown hgrow (by have := hbel.size; simp; omega) (own_block hown)
      have HO : Hid (w1.ownsRow w.heap.size 5 1 v1 (k + 1) ((top n W (k + 1)).map (Value.int .u8))) := by
        unfold Hid
        rw [HT.out]
        simpa using hown1
      clear hown1 hgrow hown hbel hq hq2 hb hq0 hq1
      go_wp2
      go_roundw
      case rel => exact ⟨k + 1, by omega, by go_num, HO.out, hb1⟩
      case measure => simp [intOf]; omega
    · obtain rfl : k = W := by omega
      rw [top_all] at hown
      have hcv := conv_own (P := Try.prog) (dst := 9) Try.underlying52 Try.underlying5 Try.underlying9 hown
      clear hown
      go_wp2
      go_ret
      exact ⟨rfl, hbel⟩

theorem pow_in (W : Nat) (hW : W ≤ 60) : (1 : Int) ≤ 2 ^ W ∧ (2 : Int) ^ W ≤ 1152921504606846976 := by
  have h : (2 : Nat) ^ W ≤ 2 ^ 60 := Nat.pow_le_pow_right (by omega) hW
  have h2 : 0 < (2 : Nat) ^ W := Nat.pow_pos (by omega)
  have e : ((2 ^ W : Nat) : Int) = (2 : Int) ^ W := by simp
  rw [← e]
  have : (2 : Nat) ^ 60 = 1152921504606846976 := by decide
  omega

theorem onesD_any (W : Nat) (P : Int) (w : World) (hW : W ≤ 60) (hP : 2 ^ W = P) :
    Calls Try.prog 42 #[.int .i64 W] w fun e w' => e = .returned (.int .i64 (P - 1)) ∧ w = w' := by
  obtain ⟨p1, p2⟩ := pow_in W hW
  rw [hP] at p1 p2
  go_enter Try.func42, Try.ntmps42
  go_wp2
  go_ret
  exact ⟨rfl, rfl⟩

theorem bits_yes (n : Int) (W : Nat) (w : World) (h0 : 0 ≤ n) (hW : W ≤ 60) (h1 : n < 2 ^ W) :
    Calls Try.prog 37 #[.int .i64 n, .int .i64 W] w fun e w' => e = .returned (.tuple #[.string (strOfNums (low n W)), .bool true]) ∧ Below w.heap.size w w' := by
  obtain ⟨i0, hi, hz0, hz1, hz2⟩ := info_parts Try.info5
  obtain ⟨p1, p2⟩ := pow_in W hW
  obtain ⟨P, hP⟩ : ∃ P : Int, 2 ^ W = P := ⟨_, rfl⟩
  rw [hP] at h1 p1 p2
  go_enter Try.func37, Try.ntmps37
  go_wp2_with fail
  refine (btw64_yes _ _ _ _ (by omega) (by omega)).mono ?_
  rintro e w1 ⟨rfl, rfl⟩
  go_wp2_with fail
  refine (onesD_any W P _ hW hP).mono ?_
  rintro e w1 ⟨rfl, rfl⟩
  go_wp2_with fail
  refine (btw64_yes _ _ _ _ (by omega) (by omega)).mono ?_
  rintro e w1 ⟨rfl, rfl⟩
  clear hP
  go_wp2_with (at_make; refine wpList_make_full _ rfl _ _ 52 rfl w.heap.size 5 i0 _ 1 Try.underlying52 hi hz0 hz1 _ _ _ _ W rfl rfl rfl rfl (by rw [hz2]; omega) (by unfold maxLen; omega) (Nat.le_refl _) ?_; intro w3 hown hgrow)
  have hown3 : w3.ownsRow w.heap.size 5 1 (.slice (some ⟨w.heap.size, 0, none⟩) W W) W ((padL (low n 0) W).map (Value.int .u8)) := by rw [padL_made] at hown; exact hown
  have hbel3 : Below w.heap.size w w3 := (Below.refl _ _).grown hgrow (Nat.le_refl _) (by simp)
  clear hown hgrow
  go_loopw [7, 21] (fun _ i wr => ∃ k : Nat, k ≤ W ∧ i = .int .i64 k ∧ wr.ownsRow w.heap.size 5 1 (.slice (some ⟨w.heap.size, 0, none⟩) W W) W ((padL (low n k) W).map (Value.int .u8)) ∧ Below w.heap.size w wr) (fun _ i _ => W - (intOf i).toNat)
  case atStart => exact ⟨0, Nat.zero_le _, rfl, hown3, hbel3⟩
  case round =>
    obtain ⟨k, hk, rfl, hown, hbel⟩ := hrel
    clear hown3 hbel3
    by_cases hlt : k < W
    · obtain ⟨q, hq⟩ : ∃ q : Int, n / 2 ^ k = q := ⟨_, rfl⟩
      have hq0 : 0 ≤ q := by rw [← hq]; exact Int.ediv_nonneg h0 (Int.le_of_lt (Int.pow_pos (by omega)))
      have hq1 : q ≤ n := by rw [← hq]; exact Int.ediv_le_self _ h0
      have hb := and_one_i64 q
      have HT : Hid (low n (k + 1) = (48 + q % 2) :: low n k) := by
        unfold Hid
        rw [← hq]
        rfl
      obtain ⟨hc, hf⟩ := own_nextL hown (low_length n k) hlt
      go_wp2
      go_roundw
      case rel => exact ⟨k + 1, by omega, by go_num, by rw [HT.out]; exact own_stepL hown (low_length n k) hlt _, hbel.setCell (Nat.le_refl _) _⟩
      case measure => simp [intOf]; omega
    · obtain rfl : k = W := by omega
      have hp : Hid (padL (low n k) k = low n k) := by
        unfold Hid
        have := padL_full (low n k)
        rwa [low_length] at this
      rw [hp.out] at hown
      have hcv := conv_own (P := Try.prog) (dst := 9) Try.underlying52 Try.underlying5 Try.underlying9 hown
      clear hown
      go_wp2
      go_ret2
      exact ⟨rfl, hbel⟩

/-- a number that has its bits at a width -/
def FitsIn (n wd : Int) : Prop := 0 ≤ wd ∧ wd ≤ 60 ∧ 0 ≤ n ∧ n < 2 ^ wd.toNat

theorem bits_no (n wd : Int) (w : World) (h : ¬ FitsIn n wd) :
    Calls Try.prog 37 #[.int .i64 n, .int .i64 wd] w fun e w' => e = .returned (.tuple #[.string ⟨#[]⟩, .bool false]) ∧ w = w' := by
  by_cases hw : 0 ≤ wd ∧ wd ≤ 60
  · obtain ⟨hw0, hw1⟩ := hw
    obtain ⟨W, rfl⟩ := Int.eq_ofNat_of_zero_le hw0
    obtain ⟨p1, p2⟩ := pow_in W (by omega)
    obtain ⟨P, hP⟩ : ∃ P : Int, 2 ^ W = P := ⟨_, rfl⟩
    have HN : Hid (¬ (0 ≤ n ∧ n ≤ P - 1)) := fun x => h ⟨hw0, hw1, x.1, by rw [Int.toNat_natCast, hP]; omega⟩
    rw [hP] at p1 p2
    clear h
    go_enter Try.func37, Try.ntmps37
    go_wp2_with fail
    refine (btw64_yes _ _ _ _ (by omega) (by omega)).mono ?_
    rintro e w1 ⟨rfl, rfl⟩
    go_wp2_with fail
    refine (onesD_any W P _ (by omega) hP).mono ?_
    rintro e w1 ⟨rfl, rfl⟩
    go_wp2_with fail
    refine (btw64_no _ _ _ _ HN.out).mono ?_
    rintro e w1 ⟨rfl, rfl⟩
    go_wp2
    go_ret2
    exact ⟨rfl, rfl⟩
  · have HW := Lib.hid hw
    clear h hw
    go_enter Try.func37, Try.ntmps37
    go_wp2_with (go_at_call 41; refine (btw64_no _ _ _ _ HW.out).mono ?_; rintro e w1 ⟨rfl, rfl⟩)
    go_ret2
    exact ⟨rfl, rfl⟩

theorem specBits_yes (n : Int) (W : Nat) (w : World) (h0 : 0 ≤ n) (hW : W ≤ 60) (h1 : n < 2 ^ W) :
    Calls Try.prog 36 #[.int .i64 n, .int .i64 W] w fun e w' => e = .returned (.tuple #[.string (strOfNums (low n W)), .bool true]) ∧ Below w.heap.size w w' := by
  obtain ⟨p1, p2⟩ := pow_in W hW
  have hq : n / 2 ^ W = 0 := Int.ediv_eq_zero_of_lt h0 h1
  have h2 : n ≤ 1152921504606846976 := by omega
  clear h1 p1 p2
  go_enter Try.func36, Try.ntmps36
  go_wp2_with fail
  refine (l00In_yes _ _ _ _ (by omega) (by omega)).mono ?_
  rintro e w1 ⟨rfl, rfl⟩
  go_wp2_with fail
  refine (l01Digits_any n W _ h0 (by omega) hW).mono ?_
  rintro e w1 ⟨rfl, hb⟩
  go_wp2
  go_ret2
  exact ⟨rfl, hb⟩
theorem specBits_no (n wd : Int) (w : World) (hn : n ≤ 9223372036854775807) (h : ¬ FitsIn n wd) :
    Calls Try.prog 36 #[.int .i64 n, .int .i64 wd] w fun e w' => e = .returned (.tuple #[.string ⟨#[]⟩, .bool false]) ∧ w = w' := by
  by_cases hw : 0 ≤ wd ∧ wd ≤ 60
  · obtain ⟨hw0, hw1⟩ := hw
    obtain ⟨W, rfl⟩ := Int.eq_ofNat_of_zero_le hw0
    obtain ⟨p1, p2⟩ := pow_in W (by omega)
    by_cases hneg : n < 0
    · clear h
      go_enter Try.func36, Try.ntmps36
      go_wp2_with fail
      refine (l00In_yes _ _ _ _ (by omega) (by omega)).mono ?_
      rintro e w1 ⟨rfl, rfl⟩
      go_wp2
      go_ret2
      exact ⟨rfl, rfl⟩
    · have hq : (n / 2 ^ W != 0) = true := by
        have h2 : ¬ n < 2 ^ W := fun x => h ⟨hw0, hw1, by omega, by rw [Int.toNat_natCast]; exact x⟩
        have h3 : 1 ≤ n / 2 ^ W := (Int.le_ediv_iff_mul_le (by omega)).2 (by omega)
        simp
        omega
      clear h p1 p2
      go_enter Try.func36, Try.ntmps36
      go_wp2_with fail
      refine (l00In_yes _ _ _ _ (by omega) (by omega)).mono ?_
      rintro e w1 ⟨rfl, rfl⟩
      go_wp2
      go_ret2
      exact ⟨rfl, rfl⟩
  · have HW := Lib.hid hw
    clear h hw
    go_enter Try.func36, Try.ntmps36
    go_wp2_with (go_at_call 47; refine (l00In_no _ _ _ _ HW.out).mono ?_; rintro e w1 ⟨rfl, rfl⟩)
    go_ret2
    exact ⟨rfl, rfl⟩

theorem lawBits (n wd : Int) (w : World) (hwf : (Lit.int .i64 n).wf = true) :
    Calls Try.prog 13 #[.int .i64 n, .int .i64 wd] w fun e w' => e = .returned (.bool true) ∧ Below w.heap.size w w' := by
  have hn : n ≤ 9223372036854775807 := (bounds_i64 hwf).2
  by_cases h : FitsIn n wd
  · obtain ⟨h0, h1, h2, h3⟩ := h
    obtain ⟨W, rfl⟩ := Int.eq_ofNat_of_zero_le h0
    rw [Int.toNat_natCast] at h3
    have H3 := Lib.hid h3
    clear h3
    have hne : ((strOfNums (low n W)).toList == (strOfNums (low n W)).toList) = true := by simp
    go_enter Try.func13, Try.ntmps13
    go_wp2_with fail
    refine (specBits_yes _ _ _ h2 (by omega) H3.out).mono ?_
    rintro e w1 ⟨rfl, hb1⟩
    go_wp2_with fail
    refine (bits_yes _ _ _ h2 (by omega) H3.out).mono ?_
    rintro e w2 ⟨rfl, hb2⟩
    have hbel2 : Below w.heap.size w w2 := hb1.trans (hb2.mono hb1.size)
    clear hb1 hb2
    go_wp2
    go_ret
    exact ⟨rfl, hbel2⟩
  · have H := Lib.hid h
    clear h
    go_enter Try.func13, Try.ntmps13
    go_wp2_with fail
    refine (specBits_no _ _ _ hn H.out).mono ?_
    rintro e w1 ⟨rfl, rfl⟩
    go_wp2_with fail
    refine (bits_no _ _ _ H.out).mono ?_
    rintro e w2 ⟨rfl, rfl⟩
    go_wp2
    go_ret
    exact ⟨rfl, Below.refl _ _⟩
end Go.Proofs.Ytapccbplmbbnnaa
