/- The bits at the multiples of a step: impl.TakeEvery, spec.TakeEvery, the law FnExactTakeEvery. -/
import Derived.Test.YtapccbplmbbnnaaBits
import Derived.Test.YtapccbplmbbnnaaBytes
import Derived.Test.YtapccbplmbbnnaaPolyMul
namespace Go.Proofs.Ytapccbplmbbnnaa
open Go.RowKit Go.PlainAid
set_option maxHeartbeats 400000

/-- the bits at the first k multiples of d -/
def takeTo (s : ByteArray) (d : Nat) : Nat → List Int
  | 0 => []
  | k + 1 => takeTo s d k ++ [bt s (k * d % s.size)]
theorem takeTo_length (s : ByteArray) (d : Nat) : ∀ k, (takeTo s d k).length = k := by
  intro k
  induction k with
  | zero => rfl
  | succ k ih => simp [takeTo, ih]
theorem toList_ne {s : ByteArray} (h : 0 < s.size) : ¬ s.toList = [] := by
  intro x
  rw [ByteArray.toList_eq] at x
  have : s.data.size = 0 := by rw [← Array.length_toList, x]; rfl
  have h2 : s.data.size = s.size := rfl
  omega
theorem toList_nil {s : ByteArray} (h : s.size = 0) : s.toList = [] := by
  rw [ByteArray.toList_eq]
  have h2 : s.data.size = s.size := rfl
  exact List.eq_nil_of_length_eq_zero (by rw [Array.length_toList]; omega)
theorem take_ix {s : ByteArray} {k d : Nat} (hk : k < s.size) (hs : s.size ≤ 400) (hd : d ≤ 400) : ∃ q, ∃ _ : q < s.size, (wrap64 ((k : Int) * (d : Int))).tmod (s.size : Int) = (q : Int) ∧ k * d % s.size = q := by
  have h1 : k * d ≤ 400 * 400 := Nat.mul_le_mul (by omega) hd
  refine ⟨k * d % s.size, Nat.mod_lt _ (by omega), ?_, rfl⟩
  rw [show (k : Int) * (d : Int) = ((k * d : Nat) : Int) by push_cast; rfl, wrap64_nat _ (by omega), Int.tmod_eq_emod_of_nonneg (by omega)]
  exact (Int.natCast_emod _ _).symm

theorem take_yes (s : ByteArray) (d : Nat) (w : World) (hs : BitsP s) (h0 : 0 < s.size) (d0 : 1 ≤ d) (d1 : d ≤ 400) :
    Calls Try.prog 33 #[.string s, .int .i64 d] w fun e w' => e = .returned (.tuple #[.string (strOfNums (takeTo s d s.size)), .bool true]) ∧ Below w.heap.size w w' := by
  obtain ⟨i0, hi, hz0, hz1, hz2⟩ := info_parts Try.info5
  have h1 := hs.len
  have HB := Lib.hid hs
  have HI : Hid (∀ w : World, Calls Try.prog 41 #[.int .i64 d, .int .i64 1, .int .i64 400] w fun e w' => e = .returned (.bool true) ∧ w = w') := fun w => btw64_b _ _ _ _ (decide_eq_true (by omega)) w
  have hne := toList_ne h0
  have hne2 : s.toList.isEmpty = false := by simpa using hne
  have hne3 : (s.toList == []) = false := by simpa using hne
  clear hs
  go_enter Try.func33, Try.ntmps33
  go_wp2_with fail
  refine (isBits_yes _ _ HB.out).mono ?_
  rintro e w2 ⟨rfl, hb2⟩
  go_wp2_with (first | (go_at_call 41; with_reducible refine (HI.out _).mono ?_; rintro e w3 ⟨rfl, rfl⟩) | (at_make; refine wpList_make_full _ rfl _ _ 52 rfl w.heap.size 5 i0 _ 1 Try.underlying52 hi hz0 hz1 _ _ _ _ s.size rfl rfl rfl rfl (by rw [hz2]; omega) (by unfold maxLen; omega) hb2.size ?_; intro w3 hown hgrow))
  have hown3 : w3.ownsRow w.heap.size 5 1 (.slice (some ⟨w2.heap.size, 0, none⟩) s.size s.size) s.size ((pad (takeTo s d 0) s.size).map (Value.int .u8)) := by rw [pad_made] at hown; exact hown
  have hbel3 : Below w.heap.size w w3 := hb2.grown hgrow hb2.size (by simp)
  have hz := hb2.size
  clear hown hgrow hb2
  go_loopw [7, 25] (fun _ i wr => ∃ k : Nat, k ≤ s.size ∧ i = .int .i64 k ∧ wr.ownsRow w.heap.size 5 1 (.slice (some ⟨w2.heap.size, 0, none⟩) s.size s.size) s.size ((pad (takeTo s d k) s.size).map (Value.int .u8)) ∧ Below w.heap.size w wr) (fun _ i _ => s.size - (intOf i).toNat)
  case atStart => exact ⟨0, Nat.zero_le _, rfl, hown3, hbel3⟩
  case round =>
    obtain ⟨k, hk, rfl, hown, hbel⟩ := hrel
    clear hown3 hbel3
    by_cases hlt : k < s.size
    · obtain ⟨hc, hf⟩ := own_next hown (takeTo_length s d k) hlt
      obtain ⟨q, hq, hm, hqe⟩ := take_ix hlt h1 d1
      have HT : Hid (takeTo s d (k + 1) = takeTo s d k ++ [((s[q]'hq).toNat : Int)]) := by unfold Hid; rw [get_bt s q hq, ← hqe]; rfl
      clear hqe
      go_wp2
      go_roundw
      case rel => exact ⟨k + 1, by omega, by go_num, by rw [HT.out]; exact own_step hown (takeTo_length s d k) hlt _, hbel.setCell (by simp; omega) _⟩
      case measure => simp [intOf]; omega
    · obtain rfl : k = s.size := by omega
      have hp : Hid (pad (takeTo s d s.size) s.size = takeTo s d s.size) := by
        unfold Hid
        have := pad_full (takeTo s d s.size)
        rwa [takeTo_length] at this
      rw [hp.out] at hown
      have hcv := conv_own (P := Try.prog) (dst := 9) Try.underlying52 Try.underlying5 Try.underlying9 hown
      clear hown
      go_wp2
      go_ret2
      exact ⟨rfl, hbel⟩
theorem take_no (s : ByteArray) (d : Int) (w : World) (hm : s.size ≤ maxLen) (h : ¬ (BitsP s ∧ 0 < s.size ∧ 1 ≤ d ∧ d ≤ 400)) :
    Calls Try.prog 33 #[.string s, .int .i64 d] w fun e w' => e = .returned (.tuple #[.string ⟨#[]⟩, .bool false]) ∧ Below w.heap.size w w' := by
  by_cases h0 : 0 < s.size
  · have hne := toList_ne h0
    have hne2 : s.toList.isEmpty = false := by simpa using hne
    have hne3 : (s.toList == []) = false := by simpa using hne
    by_cases hs : BitsP s
    · have HB := Lib.hid hs
      have HI : Hid (∀ w : World, Calls Try.prog 41 #[.int .i64 d, .int .i64 1, .int .i64 400] w fun e w' => e = .returned (.bool false) ∧ w = w') := fun w => btw64_b _ _ _ _ (decide_eq_false fun y => h ⟨hs, h0, y⟩) w
      clear h hs
      go_enter Try.func33, Try.ntmps33
      go_wp2_with fail
      refine (isBits_yes _ _ HB.out).mono ?_
      rintro e w2 ⟨rfl, hb2⟩
      go_wp2_with (go_at_call 41; with_reducible refine (HI.out _).mono ?_; rintro e w3 ⟨rfl, rfl⟩)
      go_ret2
      exact ⟨rfl, hb2⟩
    · have HB := Lib.hid hs
      clear h hs
      go_enter Try.func33, Try.ntmps33
      go_wp2_with fail
      refine (isBits_no _ _ hm HB.out).mono ?_
      rintro e w2 ⟨rfl, hb2⟩
      go_wp2
      go_ret2
      exact ⟨rfl, hb2⟩
  · have hne := toList_nil (show s.size = 0 by omega)
    have hne2 : s.toList.isEmpty = true := by rw [hne]; rfl
    have hne3 : (s.toList == []) = true := by rw [hne]; rfl
    clear h
    go_enter Try.func33, Try.ntmps33
    go_wp2
    go_ret2
    exact ⟨rfl, Below.refl _ _⟩
theorem specTake_yes (s : ByteArray) (d : Nat) (w : World) (hs : BitsP s) (h0 : 0 < s.size) (d0 : 1 ≤ d) (d1 : d ≤ 400) :
    Calls Try.prog 32 #[.string s, .int .i64 d] w fun e w' => e = .returned (.tuple #[.string (strOfNums (takeTo s d s.size)), .bool true]) ∧ Below w.heap.size w w' := by
  obtain ⟨i0, hi, hz0, hz1, hz2⟩ := info_parts Try.info5
  have h1 := hs.len
  have HB := Lib.hid hs
  have HI : Hid (∀ w : World, Calls Try.prog 47 #[.int .i64 d, .int .i64 1, .int .i64 400] w fun e w' => e = .returned (.bool true) ∧ w = w') := fun w => l00In_b _ _ _ _ (decide_eq_true (by omega)) w
  have hne : ((s.size : Int) == 0) = false := by rw [beq_eq_false_iff_ne]; omega
  have HO := Lib.hid (ownsRow_empty w 5 1)
  clear hs
  go_enter Try.func32, Try.ntmps32
  go_wp2_with (first | (go_at_call 60; refine (l01Bits_yes s _ HB.out).mono ?_; rintro e w3 ⟨rfl, rfl⟩) | (go_at_call 47; with_reducible refine (HI.out _).mono ?_; rintro e w3 ⟨rfl, rfl⟩))
  go_loopw [6, 7] (fun v i wr => ∃ k : Nat, k ≤ s.size ∧ i = .int .i64 k ∧ wr.ownsRow w.heap.size 5 1 v k ((takeTo s d k).map (Value.int .u8)) ∧ Below w.heap.size w wr) (fun _ i _ => s.size - (intOf i).toNat)
  case atStart => exact ⟨0, Nat.zero_le _, rfl, HO.out, (Below.refl _ _).alloc (Nat.le_refl _) _⟩
  case round =>
    obtain ⟨k, hk, rfl, hown, hbel⟩ := hrel
    by_cases hlt : k < s.size
    · obtain ⟨q, hq, hm, hqe⟩ := take_ix hlt h1 d1
      have HT : Hid (takeTo s d (k + 1) = takeTo s d k ++ [((s[q]'hq).toNat : Int)]) := by unfold Hid; rw [get_bt s q hq, ← hqe]; rfl
      clear hqe
      go_wp2_with (at_builtin; refine wpList_append_own _ rfl _ _ 52 rfl w.heap.size 5 i0 (.int .u8 0) 1 1 Try.underlying52 hi hz0 hz1 hz2 rfl (by decide) _ _ _ rfl (hown.alloc _) ⟨wr.heap.size, 0, none⟩ 1 1 [.int .u8 ((s[q]'hq).toNat : Int)] rfl rfl (cell_one_new _ _ _) (by intro u hu; simp at hu; subst hu; rfl) (by unfold maxLen; omega) (by omega) (by have := hbel.size; simp; omega) ?_; intro v1 w1 hown1 hgrow _)
      have hb1 : Below w.heap.size w w1 := (hbel.alloc hbel.size _).grown hgrow (by have := hbel.size; simp; omega) (own_block hown)
      have HO1 : Hid (w1.ownsRow w.heap.size 5 1 v1 (k + 1) ((takeTo s d (k + 1)).map (Value.int .u8))) := by
        unfold Hid
        rw [HT.out]
        simpa using hown1
      clear hown1 hgrow hown hbel
      go_wp2
      go_roundw
      case rel => exact ⟨k + 1, by omega, by go_num, HO1.out, hb1⟩
      case measure => simp [intOf]; omega
    · obtain rfl : k = s.size := by omega
      have hcv := conv_own (P := Try.prog) (dst := 9) Try.underlying52 Try.underlying5 Try.underlying9 hown
      clear hown
      go_wp2
      go_ret2
      exact ⟨rfl, hbel⟩
theorem specTake_no (s : ByteArray) (d : Int) (w : World) (hm : s.size ≤ maxLen) (h : ¬ (BitsP s ∧ 0 < s.size ∧ 1 ≤ d ∧ d ≤ 400)) :
    Calls Try.prog 32 #[.string s, .int .i64 d] w fun e w' => e = .returned (.tuple #[.string ⟨#[]⟩, .bool false]) ∧ Below w.heap.size w w' := by
  by_cases hs : BitsP s
  · have HB := Lib.hid hs
    by_cases h0 : 0 < s.size
    · have hne : ((s.size : Int) == 0) = false := by rw [beq_eq_false_iff_ne]; omega
      have HI : Hid (∀ w : World, Calls Try.prog 47 #[.int .i64 d, .int .i64 1, .int .i64 400] w fun e w' => e = .returned (.bool false) ∧ w = w') := fun w => l00In_b _ _ _ _ (decide_eq_false fun y => h ⟨hs, h0, y⟩) w
      clear h hs
      go_enter Try.func32, Try.ntmps32
      go_wp2_with (first | (go_at_call 60; refine (l01Bits_yes s _ HB.out).mono ?_; rintro e w3 ⟨rfl, rfl⟩) | (go_at_call 47; with_reducible refine (HI.out _).mono ?_; rintro e w3 ⟨rfl, rfl⟩))
      go_ret2
      exact ⟨rfl, Below.refl _ _⟩
    · have hz : s.size = 0 := by omega
      clear h hs
      go_enter Try.func32, Try.ntmps32
      go_wp2_with (go_at_call 60; refine (l01Bits_yes s _ HB.out).mono ?_; rintro e w3 ⟨rfl, rfl⟩)
      go_ret2
      exact ⟨rfl, Below.refl _ _⟩
  · have HB := Lib.hid hs
    clear h hs
    go_enter Try.func32, Try.ntmps32
    go_wp2_with (go_at_call 60; refine (l01Bits_no s _ hm HB.out).mono ?_; rintro e w3 ⟨rfl, rfl⟩)
    go_ret2
    exact ⟨rfl, Below.refl _ _⟩
theorem lawTake_of (s : ByteArray) (d : Int) (v : ByteArray) (r : Bool) (w : World) (hs : s.size ≤ 1048576)
    (S : Hid (∀ w : World, Calls Try.prog 32 #[.string s, .int .i64 d] w fun e w' => e = .returned (.tuple #[.string v, .bool r]) ∧ Below w.heap.size w w'))
    (I : Hid (∀ w : World, Calls Try.prog 33 #[.string s, .int .i64 d] w fun e w' => e = .returned (.tuple #[.string v, .bool r]) ∧ Below w.heap.size w w')) :
    Calls Try.prog 11 #[.string s, .int .i64 d] w fun e w' => e = .returned (.bool true) ∧ Below w.heap.size w w' := by
  have e1 : (v.toList == v.toList) = true := by simp
  have e3 : (r != r) = false := by simp
  go_enter Try.func11, Try.ntmps11
  go_wp2_with fail
  refine (S.out _).mono ?_
  rintro e w1 ⟨rfl, hb1⟩
  go_wp2_with fail
  refine (I.out _).mono ?_
  rintro e w2 ⟨rfl, hb2⟩
  have hb := hb1.trans (hb2.mono hb1.size)
  clear hb1 hb2
  go_wp2
  go_ret
  exact ⟨rfl, hb⟩
theorem lawTake (s : ByteArray) (d : Int) (w : World) (hm : s.size ≤ maxLen) :
    Calls Try.prog 11 #[.string s, .int .i64 d] w fun e w' => e = .returned (.bool true) ∧ Below w.heap.size w w' := by
  by_cases hl : s.size ≤ 1048576
  · by_cases h : BitsP s ∧ 0 < s.size ∧ 1 ≤ d ∧ d ≤ 400
    · obtain ⟨hs, h0, d0, d1⟩ := h
      obtain ⟨D, rfl⟩ := Int.eq_ofNat_of_zero_le (show 0 ≤ d by omega)
      exact lawTake_of s _ _ _ w hl (fun w => specTake_yes s D w hs h0 (by omega) (by omega)) (fun w => take_yes s D w hs h0 (by omega) (by omega))
    · exact lawTake_of s _ _ _ w hl (fun w => specTake_no s d w hm h) (fun w => take_no s d w hm h)
  · unfold maxLen at hm
    go_enter Try.func11, Try.ntmps11
    go_wp2
    go_ret
    exact ⟨rfl, Below.refl _ _⟩
end Go.Proofs.Ytapccbplmbbnnaa
