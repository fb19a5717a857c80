/- The law FnPowers. -/
import Derived.Test.YtapccbplmbbnnabOrder
import Derived.Test.YtapccbplmbbnnabRegDraw
namespace Go.Proofs.Ytapccbplmbbnnab
open Go.RowKit Go.PlainAid
set_option maxHeartbeats 800000

theorem OrdP.le {p c : Nat} (h : OrdP p c) (h0 : 3 ≤ p) (hp : p < 131072) (h1 : p % 2 = 1) : c ≤ 65536 := by
  obtain ⟨N, hN0, hN1, hN⟩ := again0 h0 hp h1
  apply Nat.le_of_not_lt
  intro hlt
  exact h.2.2 N hN0 (by omega) hN
theorem power_is (p n : Nat) (h0 : 3 ≤ p) (hp : p < 1024) (hn : n ≤ 1000000000000000000) (v : Int) (hv : (Pl.pw p n : Int) = v) (W : World) :
    Calls Try.prog 41 #[.int .i64 n, .int .i64 p] W fun e w' => e = .returned (.tuple #[.int .i64 v, .bool true]) ∧ W = w' := by
  subst hv
  exact impl_PowerOfX_yes n p hn (by omega) (by omega) W
theorem pw_1024 {p : Nat} (h0 : 3 ≤ p) (hp : p < 1024) (n : Nat) : Pl.pw p n < 2 ^ 10 := by
  have h1 := Pl.rem_lt (p := p) (by omega) (2 ^ n)
  have h2 := Pl.len_of_lt 10 p hp
  have h3 : 2 ^ (Pl.len p - 1) ≤ 2 ^ 9 := Nat.pow_le_pow_right (by omega) (by omega)
  have h4 : Pl.pw p n = Pl.rem p (2 ^ n) := rfl
  omega
theorem product_is (p n m : Nat) (h0 : 3 ≤ p) (hp : p < 1024) : ∃ P : Nat, P < 1048576 ∧ Pl.rem p P = Pl.pw p (n + m) ∧ ∀ W : World,
    Calls Try.prog 37 #[.int .i64 (Pl.pw p n), .int .i64 (Pl.pw p m)] W fun e w' => e = .returned (.tuple #[.int .i64 P, .bool true]) ∧ W = w' := by
  have h1 := pw_1024 h0 hp n
  have h2 := pw_1024 h0 hp m
  have e : Pl.mulTo (Pl.pw p n) (Pl.pw p m) 32 = Pl.mulTo (Pl.pw p n) (Pl.pw p m) 10 := Pl.mulTo_ge h2 22
  have h3 : Pl.mulTo (Pl.pw p n) (Pl.pw p m) 10 < 2 ^ (10 + 10) := Pl.mulTo_lt h1 10
  refine ⟨Pl.mulTo (Pl.pw p n) (Pl.pw p m) 32, by omega, pw_mul (by omega) (by omega) n m, fun W => ?_⟩
  exact impl_MulPolys_any _ _ true _ (by omega) (by omega) (decide_eq_true (by omega)) rfl W

theorem lawPowers (a0 : Option Addr) (len0 cap0 : Nat) (a1 : Option Addr) (len1 cap1 : Nat) (w : World) (C0 : Code w w.heap.size a0 len0) (C1 : Code w w.heap.size a1 len1) (l0 : len0 ≤ 9223372036854775807) (l1 : len1 ≤ 9223372036854775807) :
    Calls Try.prog 8 #[.slice a0 len0 cap0, .slice a1 len1 cap1] w fun e w' => e = .returned (.bool true) ∧ Below w.heap.size w w' := by
  by_cases hl : len0 ≤ 48 ∧ len1 ≤ 48
  · obtain ⟨h0, h1⟩ := hl
    have HC0 := Lib.hid C0
    have HC1 := Lib.hid C1
    clear C0 C1
    go_enter Try.func8, Try.ntmps8
    go_wp2_with fail
    refine (r8Long_no _ _ _ _ _ _ _ h0 h1).mono ?_
    rintro e w1 ⟨rfl, rfl⟩
    go_wp2_with fail
    refine (r8Number_any a0 len0 cap0 500 w HC0.out (by omega) (by omega) (by omega)).mono ?_
    rintro e w1 ⟨v0, rfl, hv0, hb1⟩
    have B1 := Lib.hid hb1
    clear hb1
    obtain ⟨p, hp⟩ := Int.eq_ofNat_of_zero_le (show 0 ≤ 2 * (v0 : Int) + 3 by omega)
    have hp0 : 3 ≤ p := by omega
    have hp1 : p < 1024 := by omega
    have hodd : Hid (p % 2 = 1) := by unfold Hid; omega
    go_wp2_with fail
    refine (r8At_any a1 len1 cap1 0 256 w.heap.size _ (HC1.out.below B1.out) (by omega) (by omega) (by omega) (by omega)).mono ?_
    rintro e w2 ⟨v1, rfl, hv1, m1, rfl⟩
    have B2 := Lib.hid (below_drewN B1.out m1)
    clear B1
    go_wp2_with fail
    refine (r8At_any a1 len1 cap1 1 256 w.heap.size _ (HC1.out.below B2.out) (by omega) (by omega) (by omega) (by omega)).mono ?_
    rintro e w3 ⟨v2, rfl, hv2, hm⟩
    have B3 : Hid (Below w.heap.size w w3) := by obtain ⟨m, rfl⟩ := hm; exact below_drewN B2.out m
    clear B2 hm
    obtain ⟨N, hN⟩ := Int.eq_ofNat_of_zero_le (show 0 ≤ (v1 : Int) * 1000003 + (v2 : Int) by omega)
    have hN2 : N ≤ 256001000 := by omega
    go_wp2_with fail
    refine (r8At_any a1 len1 cap1 2 256 w.heap.size _ (HC1.out.below B3.out) (by omega) (by omega) (by omega) (by omega)).mono ?_
    rintro e w4 ⟨v3, rfl, hv3, hm⟩
    have B4 : Hid (Below w.heap.size w w4) := by obtain ⟨m, rfl⟩ := hm; exact below_drewN B3.out m
    clear B3 hm
    go_wp2_with fail
    refine (r8At_any a1 len1 cap1 3 256 w.heap.size _ (HC1.out.below B4.out) (by omega) (by omega) (by omega) (by omega)).mono ?_
    rintro e w5 ⟨v4, rfl, hv4, hm⟩
    have B5 : Hid (Below w.heap.size w w5) := by obtain ⟨m, rfl⟩ := hm; exact below_drewN B4.out m
    clear B4 hm
    obtain ⟨M, hM⟩ := Int.eq_ofNat_of_zero_le (show 0 ≤ (v3 : Int) * 999983 + (v4 : Int) by omega)
    have hM2 : M ≤ 256001000 := by omega
    obtain ⟨P, hP, hR, hQ⟩ := product_is p N M hp0 hp1
    obtain ⟨A, hA⟩ : ∃ A, Pl.pw p N = A := ⟨_, rfl⟩
    obtain ⟨B, hB⟩ : ∃ B, Pl.pw p M = B := ⟨_, rfl⟩
    obtain ⟨C, hC⟩ : ∃ C, Pl.pw p (N + M) = C := ⟨_, rfl⟩
    have H1 := Lib.hid (power_is p N hp0 hp1 (by omega) A (by rw [hA]))
    have H2 := Lib.hid (power_is p M hp0 hp1 (by omega) B (by rw [hB]))
    have H3 : Hid (∀ W : World, Calls Try.prog 41 #[.int .i64 ((N : Int) + (M : Int)), .int .i64 p] W fun e w' => e = .returned (.tuple #[.int .i64 C, .bool true]) ∧ W = w') := power_is p (N + M) hp0 hp1 (by omega) C (by rw [hC])
    rw [hA, hB] at hQ
    have H4 := Lib.hid hQ
    have H5 : Hid (∀ W : World, Calls Try.prog 38 #[.int .i64 P, .int .i64 p] W fun e w' => e = .returned (.tuple #[.int .i64 (Pl.quo p P), .int .i64 C, .bool true]) ∧ W = w') := fun W => by
      have := impl_DividePolys_yes P p (by omega) (by omega) (by omega) W
      rwa [hR, hC] at this
    have eC : ((C : Int) != (C : Int)) = false := by simp
    obtain ⟨Q, hQ2⟩ : ∃ Q, Pl.quo p P = Q := ⟨_, rfl⟩
    rw [hQ2] at H5
    have H6 := Lib.hid (impl_OrderOfX_yes p · hp0 (by omega) hodd.out)
    clear hA hB hC hQ hR hQ2 hP
    go_wp2_with (first | (go_at_call 41; first | (with_reducible refine (H1.out _).mono ?_; rintro e w6 ⟨rfl, rfl⟩) | (with_reducible refine (H2.out _).mono ?_; rintro e w6 ⟨rfl, rfl⟩) | (with_reducible refine (H3.out _).mono ?_; rintro e w6 ⟨rfl, rfl⟩)) | (go_at_call 37; with_reducible refine (H4.out _).mono ?_; rintro e w6 ⟨rfl, rfl⟩) | (go_at_call 38; with_reducible refine (H5.out _).mono ?_; rintro e w6 ⟨rfl, rfl⟩))
    refine (H6.out _).mono ?_
    rintro e w6 ⟨c, rfl, ho, hb⟩
    have B6 := Lib.hid (B5.out.trans (hb.mono B5.out.size))
    have HO := Lib.hid ho
    have hc0 : 1 ≤ c := ho.1
    have hc1 : c ≤ 65536 := ho.le hp0 (by omega) hodd.out
    have dc : decide ((c : Int) < 1) = false := by simp; omega
    have H7 := Lib.hid (power_is p c hp0 hp1 (by omega) 1 (by rw [ho.2.1, pw_one hp0]; rfl))
    clear ho hb B5
    go_wp2_with (go_at_call 41; with_reducible refine (H7.out _).mono ?_; rintro e w7 ⟨rfl, rfl⟩)
    refine (r8At_any a1 len1 cap1 4 c w.heap.size _ (HC1.out.below B6.out) (by omega) (by omega) (by omega) (by omega)).mono ?_
    rintro e w7 ⟨v5, rfl, hv5, hm⟩
    have B7 : Hid (Below w.heap.size w w7) := by obtain ⟨m, rfl⟩ := hm; exact below_drewN B6.out m
    clear B6 hm
    obtain ⟨E, hE⟩ : ∃ E, Pl.pw p (v5 + 1) = E := ⟨_, rfl⟩
    have H8 : Hid (∀ W : World, Calls Try.prog 41 #[.int .i64 (1 + (v5 : Int)), .int .i64 p] W fun e w' => e = .returned (.tuple #[.int .i64 E, .bool true]) ∧ W = w') := fun W => by
      have := power_is p (v5 + 1) hp0 hp1 (by omega) E (by rw [hE]) W
      rwa [show ((v5 + 1 : Nat) : Int) = 1 + (v5 : Int) by omega] at this
    by_cases hlast : v5 + 1 = c
    · have t1 : ((1 + (v5 : Int)) == (c : Int)) = true := by rw [beq_iff_eq]; omega
      clear hE hlast
      go_wp2_with (go_at_call 41; with_reducible refine (H8.out _).mono ?_; rintro e w8 ⟨rfl, rfl⟩)
      go_ret
      exact ⟨rfl, B7.out⟩
    · have t1 : ((1 + (v5 : Int)) == (c : Int)) = false := by rw [beq_eq_false_iff_ne]; omega
      have t2 : ((E : Int) != 1) = true := by
        have h := HO.out.2.2 (v5 + 1) (by omega) (by omega)
        rw [hE, pw_one hp0] at h
        rw [bne_iff_ne]
        omega
      clear hE hlast
      go_wp2_with (go_at_call 41; with_reducible refine (H8.out _).mono ?_; rintro e w8 ⟨rfl, rfl⟩)
      go_ret
      exact ⟨rfl, B7.out⟩
  · have HL := Lib.hid hl
    clear hl C0 C1
    go_enter Try.func8, Try.ntmps8
    go_wp2_with fail
    refine (r8Long_yes _ _ _ _ _ _ _ l0 l1 HL.out).mono ?_
    rintro e w1 ⟨rfl, rfl⟩
    go_wp2
    go_ret
    exact ⟨rfl, Below.refl _ _⟩
end Go.Proofs.Ytapccbplmbbnnab
