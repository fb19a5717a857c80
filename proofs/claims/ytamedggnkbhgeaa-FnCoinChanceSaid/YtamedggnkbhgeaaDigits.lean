/- The bits of a number: impl.BitsOf, spec.l01Digits, spec.BitsOf, and the law FnExactBitsOf. -/
import Derived.Test.YtamedggnkbhgeaaBtw
import Derived.Test.YtamedggnkbhgeaaBytes
import Derived.Laws.Pointers
import Derived.OpenShut
namespace Go.Proofs.Ytamedggnkbhgeaa
open Go.RowKit Go.PlainAid
set_option maxHeartbeats 400000

/-- bit i of n as a byte -/
def dig (n : Int) (i : Nat) : Int := 48 + n / 2 ^ i % 2
/-- the lowest k bits, the greatest one first -/
def low (n : Int) : Nat → List Int
  | 0 => []
  | k + 1 => dig n k :: low n k
theorem low_length (n : Int) (k : Nat) : (low n k).length = k := by
  induction k with
  | zero => rfl
  | succ k ih => simp [low, ih]
/-- the first k of W digits -/
def top (n : Int) (W k : Nat) : List Int := (List.range k).map fun t => dig n (W - 1 - t)
theorem top_length (n : Int) (W k : Nat) : (top n W k).length = k := by simp [top]
theorem top_succ (n : Int) (W k : Nat) : top n W (k + 1) = top n W k ++ [dig n (W - 1 - k)] := by simp [top, List.range_succ]
theorem top_all (n : Int) (W : Nat) : top n W W = low n W := by
  induction W with
  | zero => rfl
  | succ W ih =>
    rw [low, ← ih]
    unfold top
    rw [List.range_succ_eq_map, List.map_cons, List.map_map]
    congr 1
    apply List.map_congr_left
    intro t ht
    have := List.mem_range.1 ht
    simp only [Function.comp]
    congr 1
    omega

theorem and_one_i64 (q : Int) : bits .and .i64 q 1 = q % 2 := by
  have h1 : (BitVec.ofInt 64 1).toNat = 2 ^ 1 - 1 := by decide
  have key : (BitVec.ofInt 64 q &&& BitVec.ofInt 64 1).toNat = (q % ((2 ^ 64 : Nat) : Int)).toNat % 2 ^ 1 := by
    rw [BitVec.toNat_and, BitVec.toNat_ofInt, h1, Nat.and_two_pow_sub_one_eq_mod]
  show IntKind.i64.wrap ((BitVec.ofInt 64 q &&& BitVec.ofInt 64 1).toNat : Nat) = q % 2
  rw [key, IntKind.wrap_i64]
  omega

theorem pow_in (W : Nat) (hW : W ≤ 60) : (1 : Int) ≤ 2 ^ W ∧ (2 : Int) ^ W ≤ 1152921504606846976 := by
  have h : (2 : Nat) ^ W ≤ 2 ^ 60 := Nat.pow_le_pow_right (by omega) hW
  have h2 : 0 < (2 : Nat) ^ W := Nat.pow_pos (by omega)
  have e : ((2 ^ W : Nat) : Int) = (2 : Int) ^ W := by simp
  rw [← e]
  have : (2 : Nat) ^ 60 = 1152921504606846976 := by decide
  omega

theorem onesD_any (W : Nat) (P : Int) (w : World) (hW : W ≤ 60) (hP : 2 ^ W = P) :
    Calls Try.prog 52 #[.int .i64 W] w fun e w' => e = .returned (.int .i64 (P - 1)) ∧ w = w' := by
  obtain ⟨p1, p2⟩ := pow_in W hW
  rw [hP] at p1 p2
  go_enter Try.func52, Try.ntmps52
  go_wp2
  go_ret
  exact ⟨rfl, rfl⟩

theorem bits_yes (n : Int) (W : Nat) (w : World) (h0 : 0 ≤ n) (hW : W ≤ 60) (h1 : n < 2 ^ W) :
    Calls Try.prog 68 #[.int .i64 n, .int .i64 W] w fun e w' => e = .returned (.tuple #[.string (strOfNums (low n W)), .bool true]) ∧ Below w.heap.size w w' := by
  obtain ⟨i0, hi, hz0, hz1, hz2⟩ := info_parts Try.info5
  obtain ⟨p1, p2⟩ := pow_in W hW
  obtain ⟨P, hP⟩ : ∃ P : Int, 2 ^ W = P := ⟨_, rfl⟩
  rw [hP] at h1 p1 p2
  go_enter Try.func68, Try.ntmps68
  go_wp2_with fail
  refine (btw64_yes _ _ _ _ (by omega) (by omega)).mono ?_
  rintro e w1 ⟨rfl, rfl⟩
  go_wp2_with fail
  refine (onesD_any W P _ hW hP).mono ?_
  rintro e w1 ⟨rfl, rfl⟩
  go_wp2_with fail
  refine (btw64_yes _ _ _ _ (by omega) (by omega)).mono ?_
  rintro e w1 ⟨rfl, rfl⟩
  clear hP
  go_wp2_with (at_make; refine wpList_make_full _ rfl _ _ 22 rfl w.heap.size 5 i0 _ 1 Try.underlying22 hi hz0 hz1 _ _ _ _ W rfl rfl rfl rfl (by rw [hz2]; omega) (by unfold maxLen; omega) (Nat.le_refl _) ?_; intro w3 hown hgrow)
  have hown3 : w3.ownsRow w.heap.size 5 1 (.slice (some ⟨w.heap.size, 0, none⟩) W W) W ((padL (low n 0) W).map (Value.int .u8)) := by rw [padL_made] at hown; exact hown
  have hbel3 : Below w.heap.size w w3 := (Below.refl _ _).grown hgrow (Nat.le_refl _) (by simp)
  clear hown hgrow
  go_loopw [7, 21] (fun _ i wr => ∃ k : Nat, k ≤ W ∧ i = .int .i64 k ∧ wr.ownsRow w.heap.size 5 1 (.slice (some ⟨w.heap.size, 0, none⟩) W W) W ((padL (low n k) W).map (Value.int .u8)) ∧ Below w.heap.size w wr) (fun _ i _ => W - (intOf i).toNat)
  case atStart => exact ⟨0, Nat.zero_le _, rfl, hown3, hbel3⟩
  case round =>
    obtain ⟨k, hk, rfl, hown, hbel⟩ := hrel
    clear hown3 hbel3
    by_cases hlt : k < W
    · obtain ⟨q, hq⟩ : ∃ q : Int, n / 2 ^ k = q := ⟨_, rfl⟩
      have hq0 : 0 ≤ q := by rw [← hq]; exact Int.ediv_nonneg h0 (Int.le_of_lt (Int.pow_pos (by omega)))
      have hq1 : q ≤ n := by rw [← hq]; exact Int.ediv_le_self _ h0
      have hb := and_one_i64 q
      have HT : Hid (low n (k + 1) = (48 + q % 2) :: low n k) := by
        unfold Hid
        rw [← hq]
        rfl
      obtain ⟨hc, hf⟩ := own_nextL hown (low_length n k) hlt
      go_wp2
      go_roundw
      case rel => exact ⟨k + 1, by omega, by go_num, by rw [HT.out]; exact own_stepL hown (low_length n k) hlt _, hbel.setCell (Nat.le_refl _) _⟩
      case measure => simp [intOf]; omega
    · obtain rfl : k = W := by omega
      have hp : Hid (padL (low n k) k = low n k) := by
        unfold Hid
        have := padL_full (low n k)
        rwa [low_length] at this
      rw [hp.out] at hown
      have hcv := conv_own (P := Try.prog) (dst := 9) Try.underlying22 Try.underlying5 Try.underlying9 hown
      clear hown
      go_wp2
      go_ret2
      exact ⟨rfl, hbel⟩

/-- a number that has its bits at a width -/
def FitsIn (n wd : Int) : Prop := 0 ≤ wd ∧ wd ≤ 60 ∧ 0 ≤ n ∧ n < 2 ^ wd.toNat

theorem bits_no (n wd : Int) (w : World) (h : ¬ FitsIn n wd) :
    Calls Try.prog 68 #[.int .i64 n, .int .i64 wd] w fun e w' => e = .returned (.tuple #[.string ⟨#[]⟩, .bool false]) ∧ w = w' := by
  by_cases hw : 0 ≤ wd ∧ wd ≤ 60
  · obtain ⟨hw0, hw1⟩ := hw
    obtain ⟨W, rfl⟩ := Int.eq_ofNat_of_zero_le hw0
    obtain ⟨p1, p2⟩ := pow_in W (by omega)
    obtain ⟨P, hP⟩ : ∃ P : Int, 2 ^ W = P := ⟨_, rfl⟩
    have HN : Hid (¬ (0 ≤ n ∧ n ≤ P - 1)) := fun x => h ⟨hw0, hw1, x.1, by rw [Int.toNat_natCast, hP]; omega⟩
    rw [hP] at p1 p2
    clear h
    go_enter Try.func68, Try.ntmps68
    go_wp2_with fail
    refine (btw64_yes _ _ _ _ (by omega) (by omega)).mono ?_
    rintro e w1 ⟨rfl, rfl⟩
    go_wp2_with fail
    refine (onesD_any W P _ (by omega) hP).mono ?_
    rintro e w1 ⟨rfl, rfl⟩
    go_wp2_with fail
    refine (btw64_no _ _ _ _ HN.out).mono ?_
    rintro e w1 ⟨rfl, rfl⟩
    go_wp2
    go_ret2
    exact ⟨rfl, rfl⟩
  · have HW := Lib.hid hw
    clear h hw
    go_enter Try.func68, Try.ntmps68
    go_wp2_with (go_at_call 43; refine (btw64_no _ _ _ _ HW.out).mono ?_; rintro e w1 ⟨rfl, rfl⟩)
    go_ret2
    exact ⟨rfl, rfl⟩

end Go.Proofs.Ytamedggnkbhgeaa
