/- The law FnRegisterSteps. -/
import Derived.Test.YtapccbplmbbnnabJumpMath
import Derived.Test.YtapccbplmbbnnabRegDraw
namespace Go.Proofs.Ytapccbplmbbnnab
open Go.RowKit Go.PlainAid
set_option maxHeartbeats 800000

theorem StateP.of {W T S : Nat} (hW : W ≤ 16) (hT : T < 2 ^ W) (hS : S < 2 ^ W) : StateP W T S := by
  have e : ((2 ^ W : Nat) : Int) = (2 : Int) ^ W := by simp
  refine ⟨⟨⟨by omega, by omega⟩, ?_⟩, ?_⟩ <;> (unfold InP; rw [Int.toNat_natCast, ← e]; omega)
theorem lt_16 {W S : Nat} (hW : W ≤ 16) (h : S < 2 ^ W) : S < 65536 := by
  have : 2 ^ W ≤ 2 ^ 16 := Nat.pow_le_pow_right (by omega) hW
  omega
theorem jump_itr (W T S n : Nat) (w : World) (hW : W ≤ 16) (hT : T < 2 ^ W) (hS : S < 2 ^ W) (hn : n ≤ 1000000000000000000) :
    Calls Try.prog 29 #[.agg #[.int .i64 W, .int .i64 T], .int .i64 S, .int .i64 n] w fun e w' => e = .returned (.tuple #[.int .i64 (itr W T S n), .bool true]) ∧ Below w.heap.size w w' := by
  rw [← jmp_itr hW hT hS n]
  exact jump_yes W T S n w hW hT (lt_16 hW hS) hn (StateP.of hW hT hS)
theorem step_itr (W T S : Nat) (w : World) (hW : W ≤ 16) (hT : T < 2 ^ W) (hS : S < 2 ^ W) :
    Calls Try.prog 30 #[.agg #[.int .i64 W, .int .i64 T], .int .i64 S] w fun e w' => e = .returned (.tuple #[.int .i64 (nxt W T S), .int .i64 (S % 2 : Nat), .bool true]) ∧ Below w.heap.size w w' :=
  step_yes W T S w hW hT hS (StateP.of hW hT hS)
theorem rbits_get (W T S : Nat) : ∀ N k, (h : k < (rbits W T S N).length) → (rbits W T S N)[k] = 48 + (itr W T S k : Int) % 2 := by
  intro N
  induction N with
  | zero => intro k h; simp [rbits] at h
  | succ N ih =>
    intro k h
    by_cases hk : k < N
    · have := ih k (by rw [rbits_length]; exact hk)
      simp only [rbits]
      rw [List.getElem_append_left (by rw [rbits_length]; exact hk)]
      exact this
    · rw [rbits_length] at h
      obtain rfl : k = N := by omega
      simp only [rbits]
      rw [List.getElem_append_right (by rw [rbits_length]; omega)]
      simp
/-- the bits of a register as a text -/
def TextOf (W T S N : Nat) (bs : ByteArray) : Prop := bs.size = N ∧ ∀ k, (h : k < bs.size) → ((bs[k]'h).toNat : Int) = 48 + (itr W T S k : Int) % 2
theorem text_of (W T S N : Nat) : TextOf W T S N (strOfNums (rbits W T S N)) := by
  refine ⟨by rw [strOfNums_size, rbits_length], fun k h => ?_⟩
  have hl : k < (rbits W T S N).length := by rw [strOfNums_size] at h; exact h
  have hg := rbits_get W T S N k hl
  have e : (strOfNums (rbits W T S N))[k]'h = UInt8.ofNat ((rbits W T S N)[k]).toNat := by
    show (strOfNums (rbits W T S N)).data[k]'_ = _
    simp [strOfNums]
  rw [e, hg, UInt8.toNat_ofNat']
  omega
theorem bits_itr (W T S N : Nat) (w : World) (hW : W ≤ 16) (hT : T < 2 ^ W) (hS : S < 2 ^ W) (hN : N ≤ 400) : ∃ bs : ByteArray, TextOf W T S N bs ∧
    Calls Try.prog 28 #[.agg #[.int .i64 W, .int .i64 T], .int .i64 S, .int .i64 N] w fun e w' => e = .returned (.tuple #[.string bs, .bool true]) ∧ Below w.heap.size w w' :=
  ⟨_, text_of W T S N, regBits_yes W T S N w hW hT hS hN (StateP.of hW hT hS)⟩

theorem RegIn.drewM {w wr w1 : World} {g : Nat} {x t : Int} (h : RegIn w wr g x t) (hm : ∃ m, w1 = wr.drewN m) : RegIn w w1 g x t := by
  obtain ⟨m, rfl⟩ := hm
  exact h.drewN m

theorem lawSteps (a0 : Option Addr) (len0 cap0 : Nat) (a1 : Option Addr) (len1 cap1 : Nat) (w : World) (C0 : Code w w.heap.size a0 len0) (C1 : Code w w.heap.size a1 len1) (l0 : len0 ≤ 9223372036854775807) (l1 : len1 ≤ 9223372036854775807) :
    Calls Try.prog 4 #[.slice a0 len0 cap0, .slice a1 len1 cap1] w fun e w' => e = .returned (.bool true) ∧ Below w.heap.size w w' := by
  by_cases hl : len0 ≤ 48 ∧ len1 ≤ 48
  · obtain ⟨h0, h1⟩ := hl
    have HC0 := Lib.hid C0
    have HC1 := Lib.hid C1
    clear C0 C1
    go_enter Try.func4, Try.ntmps4
    go_wp2_with fail
    refine (r8Long_no _ _ _ _ _ _ _ h0 h1).mono ?_
    rintro e w1 ⟨rfl, rfl⟩
    go_wp2_with fail
    refine (r8Register_any _ _ _ _ HC0.out (by omega)).mono ?_
    rintro e w1 ⟨W, T, rfl, hW, hT, hb1⟩
    obtain ⟨P, hP⟩ : ∃ P : Int, 2 ^ W = P := ⟨_, rfl⟩
    obtain ⟨p1, p2⟩ := pow62 W (by omega)
    have HT := Lib.hid hT
    have HP := Lib.hid hP
    rw [hP] at p1 p2
    have HB1 := Lib.hid hb1
    clear hT hb1
    go_wp2_with fail
    obtain ⟨g, hg⟩ : ∃ g, w1.heap.size = g := ⟨_, rfl⟩
    obtain ⟨w2, hw2⟩ : ∃ x, w1.alloc (.cells #[.int .i64 W, .int .i64 T] 37) = x := ⟨_, rfl⟩
    have R2 : Hid (RegIn w w2 g W T) := by
      rw [← hw2, ← hg]
      exact ⟨by simp [go_sem], by simp [go_sem], HB1.out.alloc HB1.out.size _, HB1.out.size⟩
    rw [hw2, hg]
    clear hw2 hg HB1
    have hW16 : W ≤ 16 := by omega
    have B2 := R2.out.2.2.1
    refine (r8Number_any a1 len1 cap1 P w2 ((HC1.out.below B2).mono B2.size) (by omega) p1 (by omega)).mono ?_
    rintro e w3 ⟨S, rfl, hS, hb3⟩
    have HS : Hid (S < 2 ^ W) := by
      have h := HP.out
      have e : ((2 ^ W : Nat) : Int) = (2 : Int) ^ W := by simp
      unfold Hid
      omega
    have hS2 : S < 65536 := lt_16 hW16 HS.out
    have R3 := Lib.hid (R2.out.call hb3)
    clear R2 B2 hb3 hS hP
    obtain ⟨c0, c1, _, _⟩ := R3.out
    go_wp2_with fail
    obtain ⟨bs, htx, hc⟩ := bits_itr W T S 20 w3 hW16 HT.out HS.out (by omega)
    have hsz := htx.1
    have HX := Lib.hid htx.2
    have hne : ((bs.size : Int) != 20) = false := by rw [hsz]; rfl
    refine hc.mono ?_
    rintro e w4 ⟨rfl, hb4⟩
    have R4 := Lib.hid (R3.out.call hb4)
    clear R3 c0 c1 hb4 hc htx
    go_wp2
    go_loopw [9, 10, 11, 12, 13, 14, 15] (fun now i _ _ _ _ _ wr => ∃ k : Nat, k ≤ 20 ∧ now = .int .i64 (itr W T S k) ∧ i = .int .i64 k ∧ Hid (RegIn w wr g W T)) (fun _ i _ _ _ _ _ _ => 20 - (intOf i).toNat)
    case atStart => exact ⟨0, Nat.zero_le _, rfl, rfl, R4.out⟩
    case round =>
      obtain ⟨k, hk, rfl, rfl, R5⟩ := hrel
      clear R4
      by_cases hlt : k < 20
      · have HXl : Hid (itr W T S k < 2 ^ W) := itr_lt HS.out k
        have hx := HX.out k (by omega)
        obtain ⟨X, hX⟩ : ∃ X, itr W T S k = X := ⟨_, rfl⟩
        have HJ := fun w => jump_itr W T S k w hW16 HT.out HS.out (by omega)
        have HN : Hid (itr W T S (k + 1) = nxt W T X) := by unfold Hid; rw [← hX]; rfl
        rw [hX] at hx HXl ⊢
        simp only [hX] at HJ
        have HJ := Lib.hid HJ
        clear hX
        obtain ⟨c0, c1, _, _⟩ := R5.out
        go_wp2_with fail
        refine (HJ.out _).mono ?_
        rintro e w5 ⟨rfl, hb5⟩
        have R6 := Lib.hid (R5.out.call hb5)
        clear R5 c0 c1 hb5
        obtain ⟨c0, c1, _, _⟩ := R6.out
        go_wp2_with fail
        refine (step_itr W T X _ hW16 HT.out HXl.out).mono ?_
        rintro e w6 ⟨rfl, hb6⟩
        have R7 := Lib.hid (R6.out.call hb6)
        clear R6 c0 c1 hb6
        have e1 : ((X : Int) != (X : Int)) = false := by simp
        have e2 : ((X : Int) % 2 != (X : Int) % 2) = false := by simp
        have hlt2 : k < bs.size := by omega
        go_wp2
        go_roundw
        case rel => exact ⟨k + 1, by omega, by rw [HN.out], by go_num, R7.out⟩
        case measure => simp [intOf]; omega
      · obtain rfl : k = 20 := by omega
        go_wp2_with fail
        refine (r8At_any a1 len1 cap1 2 256 w.heap.size _ (HC1.out.below R5.out.2.2.1) (by omega) (by omega) (by omega) (by omega)).mono ?_
        rintro e wz1 ⟨v1, rfl, hv1, hm⟩
        have R6 := Lib.hid (R5.out.drewM hm)
        clear hm
        clear R5
        go_wp2_with fail
        refine (r8At_any a1 len1 cap1 3 256 w.heap.size _ (HC1.out.below R6.out.2.2.1) (by omega) (by omega) (by omega) (by omega)).mono ?_
        rintro e wz2 ⟨v2, rfl, hv2, hm⟩
        have R7 := Lib.hid (R6.out.drewM hm)
        clear hm
        clear R6
        obtain ⟨N, hN⟩ := Int.eq_ofNat_of_zero_le (show 0 ≤ (v1 : Int) * 1000000007 + (v2 : Int) by omega)
        have hN2 : N ≤ 255000002040 := by omega
        go_wp2_with fail
        refine (r8At_any a1 len1 cap1 4 256 w.heap.size _ (HC1.out.below R7.out.2.2.1) (by omega) (by omega) (by omega) (by omega)).mono ?_
        rintro e wz3 ⟨v3, rfl, hv3, hm⟩
        have R8 := Lib.hid (R7.out.drewM hm)
        clear hm
        clear R7
        go_wp2_with fail
        refine (r8At_any a1 len1 cap1 5 256 w.heap.size _ (HC1.out.below R8.out.2.2.1) (by omega) (by omega) (by omega) (by omega)).mono ?_
        rintro e wz4 ⟨v4, rfl, hv4, hm⟩
        have R9 := Lib.hid (R8.out.drewM hm)
        clear hm
        clear R8
        obtain ⟨M, hM⟩ := Int.eq_ofNat_of_zero_le (show 0 ≤ (v3 : Int) * 998244353 + (v4 : Int) by omega)
        have hM2 : M ≤ 255000002040 := by omega
        have hA0 := itr_lt (t := T) HS.out N
        have HJ3 : Hid (∀ w : World, Calls Try.prog 29 #[.agg #[.int .i64 W, .int .i64 T], .int .i64 S, .int .i64 ((N : Int) + (M : Int))] w fun e w' => e = .returned (.tuple #[.int .i64 (itr W T (itr W T S N) M), .bool true]) ∧ Below w.heap.size w w') := fun w => by
          have := jump_itr W T S (N + M) w hW16 HT.out HS.out (by omega)
          rw [itr_add] at this
          exact this
        have HJ1 : Hid (∀ w : World, Calls Try.prog 29 #[.agg #[.int .i64 W, .int .i64 T], .int .i64 S, .int .i64 N] w fun e w' => e = .returned (.tuple #[.int .i64 (itr W T S N), .bool true]) ∧ Below w.heap.size w w') := fun w => jump_itr W T S N w hW16 HT.out HS.out (by omega)
        obtain ⟨A, hA⟩ : ∃ A, itr W T S N = A := ⟨_, rfl⟩
        rw [hA] at HJ1 HJ3 hA0
        have HJ2 : Hid (∀ w : World, Calls Try.prog 29 #[.agg #[.int .i64 W, .int .i64 T], .int .i64 A, .int .i64 M] w fun e w' => e = .returned (.tuple #[.int .i64 (itr W T A M), .bool true]) ∧ Below w.heap.size w w') := fun w => jump_itr W T A M w hW16 HT.out hA0 (by omega)
        obtain ⟨B, hB⟩ : ∃ B, itr W T A M = B := ⟨_, rfl⟩
        rw [hB] at HJ2 HJ3
        have eB : ((B : Int) == (B : Int)) = true := by simp
        clear hA hB hA0
        obtain ⟨c0, c1, _, _⟩ := R9.out
        go_wp2_with fail
        refine (HJ1.out _).mono ?_
        rintro e wx0 ⟨rfl, hb⟩
        have R10 := Lib.hid (R9.out.call hb)
        clear R9 c0 c1 hb
        obtain ⟨c0, c1, _, _⟩ := R10.out
        go_wp2_with fail
        refine (HJ2.out _).mono ?_
        rintro e wx1 ⟨rfl, hb⟩
        have R11 := Lib.hid (R10.out.call hb)
        clear R10 c0 c1 hb
        obtain ⟨c0, c1, _, _⟩ := R11.out
        go_wp2_with fail
        refine (HJ3.out _).mono ?_
        rintro e wx2 ⟨rfl, hb⟩
        have R12 := Lib.hid (R11.out.call hb)
        clear R11 c0 c1 hb
        go_wp2
        go_ret
        exact ⟨rfl, R12.out.2.2.1⟩
  · have HL := Lib.hid hl
    clear hl C0 C1
    go_enter Try.func4, Try.ntmps4
    go_wp2_with fail
    refine (r8Long_yes _ _ _ _ _ _ _ l0 l1 HL.out).mono ?_
    rintro e w1 ⟨rfl, rfl⟩
    go_wp2
    go_ret
    exact ⟨rfl, Below.refl _ _⟩
end Go.Proofs.Ytapccbplmbbnnab
