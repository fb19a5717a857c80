/- How far riffles are from even chances: impl.RiffleDistance. -/
import Derived.Test.YtjbojamhnapkpabS7H
import Derived.Test.YtjbojamhnapkpabS7U
import Derived.Test.YtjbojamhnapkpabBinomial
namespace Go.Proofs.Ytjbojamhnapkpab
open Go.RowKit Go.PlainAid
set_option maxHeartbeats 800000

theorem t_cases {t : Nat} (h : t ≤ 5) : t = 0 ∨ t = 1 ∨ t = 2 ∨ t = 3 ∨ t = 4 ∨ t = 5 := by omega
theorem ways_at (n t r p : Nat) (P : Int) (hP : P = (p : Int)) (hp : 2 ^ t = p) (hp2 : p ≤ 32) (h2 : n ≤ 12) :
    ∀ W : World, Calls Try.prog 96 #[.int .i64 (P + n - r), .int .i64 n] W fun e w' => ∃ ok, e = .returned (.tuple #[.int .i64 (rfW n t r : Nat), .bool ok]) ∧ W = w' := by
  intro W
  subst hP
  unfold rfW
  rw [hp]
  by_cases h : r ≤ p
  · rw [if_pos h, ← cF_eq _ _ (by omega)]
    have := binom_yes (p + n - r) n W (by omega) (by omega)
    rw [show (((p + n - r : Nat)) : Int) = (p : Int) + n - r by omega] at this
    exact this.mono fun e w' h => ⟨_, h⟩
  · rw [if_neg h]
    exact (binom_no ((p : Int) + n - r) n W (by omega)).mono fun e w' h => ⟨_, h⟩
theorem ways_any (n t r : Nat) (w : World) (h2 : n ≤ 12) (ht : t ≤ 5) (hr : r ≤ 13) :
    Calls Try.prog 78 #[.int .i64 n, .int .i64 t, .int .i64 r] w fun e w' => e = .returned (.int .i64 (rfW n t r : Nat)) ∧ w = w' := by
  rcases t_cases ht with rfl | rfl | rfl | rfl | rfl | rfl
  · have HB := Lib.hid (ways_at n 0 r 1 1 rfl rfl (by decide) h2)
    generalize rfW n 0 r = q at HB ⊢
    go_enter Try.func78, Try.ntmps78
    go_wp2_with fail
    refine (HB.out _).mono ?_
    rintro e w1 ⟨ok, rfl, rfl⟩
    go_wp2
    go_ret
    exact ⟨rfl, rfl⟩
  · have HB := Lib.hid (ways_at n 1 r 2 2 rfl rfl (by decide) h2)
    generalize rfW n 1 r = q at HB ⊢
    go_enter Try.func78, Try.ntmps78
    go_wp2_with fail
    refine (HB.out _).mono ?_
    rintro e w1 ⟨ok, rfl, rfl⟩
    go_wp2
    go_ret
    exact ⟨rfl, rfl⟩
  · have HB := Lib.hid (ways_at n 2 r 4 4 rfl rfl (by decide) h2)
    generalize rfW n 2 r = q at HB ⊢
    go_enter Try.func78, Try.ntmps78
    go_wp2_with fail
    refine (HB.out _).mono ?_
    rintro e w1 ⟨ok, rfl, rfl⟩
    go_wp2
    go_ret
    exact ⟨rfl, rfl⟩
  · have HB := Lib.hid (ways_at n 3 r 8 8 rfl rfl (by decide) h2)
    generalize rfW n 3 r = q at HB ⊢
    go_enter Try.func78, Try.ntmps78
    go_wp2_with fail
    refine (HB.out _).mono ?_
    rintro e w1 ⟨ok, rfl, rfl⟩
    go_wp2
    go_ret
    exact ⟨rfl, rfl⟩
  · have HB := Lib.hid (ways_at n 4 r 16 16 rfl rfl (by decide) h2)
    generalize rfW n 4 r = q at HB ⊢
    go_enter Try.func78, Try.ntmps78
    go_wp2_with fail
    refine (HB.out _).mono ?_
    rintro e w1 ⟨ok, rfl, rfl⟩
    go_wp2
    go_ret
    exact ⟨rfl, rfl⟩
  · have HB := Lib.hid (ways_at n 5 r 32 32 rfl rfl (by decide) h2)
    generalize rfW n 5 r = q at HB ⊢
    go_enter Try.func78, Try.ntmps78
    go_wp2_with fail
    refine (HB.out _).mono ?_
    rintro e w1 ⟨ok, rfl, rfl⟩
    go_wp2
    go_ret
    exact ⟨rfl, rfl⟩
theorem allR_any (n t : Nat) (w : World) (h2 : n ≤ 12) (ht : t ≤ 5) :
    Calls Try.prog 81 #[.int .i64 n, .int .i64 t] w fun e w' => e = .returned (.int .i64 (rfA n t : Nat)) ∧ w = w' := by
  unfold rfA
  have hm : n * t ≤ 12 * 5 := Nat.mul_le_mul h2 ht
  obtain ⟨m, hm2⟩ : ∃ m, n * t = m := ⟨_, rfl⟩
  have hm3 : (n : Int) * (t : Int) = (m : Int) := by rw [← hm2]; simp
  rw [hm2] at hm ⊢
  have hb : 2 ^ m ≤ 2 ^ 60 := Nat.pow_le_pow_right (by decide) hm
  have e : wrap64 ((2 : Int) ^ m) = ((2 ^ m : Nat) : Int) := by
    have hc : ((2 ^ m : Nat) : Int) = (2 : Int) ^ m := by simp
    rw [← hc]
    generalize 2 ^ m = q at hb ⊢
    exact IntWalk.wrap64_in _ (by omega)
  have HE := Lib.hid e
  clear hm2 hb e
  go_enter Try.func81, Try.ntmps81
  go_wp2
  go_ret
  exact ⟨congrArg (fun z => Ending.returned (.int .i64 z)) HE.out, rfl⟩
set_option maxRecDepth 10000 in
theorem dist_yes (n t : Nat) (w : World) (h1 : 1 ≤ n) (h2 : n ≤ 8) (ht : t ≤ 5) :
    Calls Try.prog 46 #[.int .i64 n, .int .i64 t] w fun e w' => e = .returned (.tuple #[.agg #[.int .i64 (rfR n t).1, .int .i64 (rfR n t).2], .bool true]) ∧ Below w.heap.size w w' := by
  have HI : Hid (∀ W : World, Calls Try.prog 63 #[.int .i64 n, .int .i64 1, .int .i64 8] W fun e w' => e = .returned (.bool true) ∧ W = w') := fun W => btw64_yes _ _ _ W (by omega) (by omega)
  have HJ : Hid (∀ W : World, Calls Try.prog 63 #[.int .i64 t, .int .i64 0, .int .i64 5] W fun e w' => e = .returned (.bool true) ∧ W = w') := fun W => btw64_yes _ _ _ W (by omega) (by omega)
  obtain ⟨a1, a2, a3, a4, a5, a6, a7⟩ := rf_all n (by omega) t (by omega) h1
  have HFa : Hid (∀ W : World, Calls Try.prog 64 #[.int .i64 n] W fun e w' => e = .returned (.int .i64 (fac n : Nat)) ∧ W = w') := fun W => fact_any n W (by omega)
  have HAl : Hid (∀ W : World, Calls Try.prog 81 #[.int .i64 n, .int .i64 t] W fun e w' => e = .returned (.int .i64 (rfA n t : Nat)) ∧ W = w') := fun W => allR_any n t W (by omega) ht
  have HC := Lib.hid (byRising_any n · (by omega : n ≤ 12))
  have HK : Hid (∀ (k : Nat) (W : World), k < 13 → (Instr.index 73 (aggOf (cnRow kpR n)) (.int .i64 (k : Int))).run Try.prog W = .ok (.int .i64 ((cnRow kpR n).getD k 0)) W) := fun k W hk => index_agg _ hk W
  have HW : Hid (∀ (k : Nat) (W : World), k < 13 → Calls Try.prog 78 #[.int .i64 n, .int .i64 t, .int .i64 k] W fun e w' => e = .returned (.int .i64 (rfW n t k : Nat)) ∧ W = w') := fun k W hk => ways_any n t k W (by omega) ht (by omega)
  have HIN : Hid (∀ k, k < 13 → rfW n t k ≤ 1000000000000 ∧ rfW n t k * fac n ≤ 100000000000000000 ∧ (rfD n t k).natAbs ≤ 100000000000000000 ∧ 0 ≤ (cnRow kpR n).getD k 0 ∧ 0 ≤ (cnRow kpR n).getD k 0 * ((rfD n t k).natAbs : Nat) ∧ (cnRow kpR n).getD k 0 * ((rfD n t k).natAbs : Nat) ≤ 500000000000000000 ∧ 0 ≤ rfS n t k ∧ rfS n t k ≤ 500000000000000000) := fun k hk => rf_in n (by omega) t (by omega) h1 k hk
  have HD : Hid (∀ k, rfD n t k = (rfW n t k : Int) * fac n - rfA n t) := fun k => rfl
  have HSS : Hid (∀ k, rfS n t (k + 1) = rfS n t k + (cnRow kpR n).getD k 0 * ((rfD n t k).natAbs : Nat)) := fun k => rfl
  have HM : Hid (∀ W : World, Calls Try.prog 87 #[.int .i64 (rfS n t 13), .int .i64 ((2 * fac n * rfA n t : Nat) : Int)] W fun e w' => e = .returned (.tuple #[.agg #[.int .i64 (rfR n t).1, .int .i64 (rfR n t).2], .bool true]) ∧ Below W.heap.size W w') := fun W =>
    make_yes (rfS n t 13) ((2 * fac n * rfA n t : Nat) : Int) W (by have : 0 < 2 * fac n * rfA n t := Nat.mul_pos (Nat.mul_pos (by decide) a1) a3; omega) (by omega) a7 (by omega) (by omega)
  obtain ⟨v, hv⟩ : ∃ v, aggOf (cnRow kpR n) = v := ⟨_, rfl⟩
  rw [hv] at HC HK
  obtain ⟨F, hF⟩ : ∃ F, fac n = F := ⟨_, rfl⟩
  obtain ⟨A, hA⟩ : ∃ A, rfA n t = A := ⟨_, rfl⟩
  have hFA : (2 : Int) * (F : Int) * (A : Int) = ((2 * F * A : Nat) : Int) := by simp
  rw [hF] at a1 a2 a5 HFa HIN HD HM
  rw [hA] at a3 a4 a5 HAl HD HM
  have hFA2 : 2 * F * A ≤ 1000000000000000000 := a5
  generalize 2 * F * A = FA at hFA hFA2 HM
  clear hv hF hA a5 a6 a7
  go_enter Try.func46, Try.ntmps46
  have A0 := D2.new w (.int .i64 0) (.int .i64 0) 42
  have B := (Below.refl w.heap.size w).alloc (Nat.le_refl _) (.cells #[.int .i64 0, .int .i64 0] 42)
  go_wp2_with (first | (go_at_call 63; with_reducible refine (HI.out _).mono ?_; rintro e w1 ⟨rfl, rfl⟩) | (go_at_call 63; with_reducible refine (HJ.out _).mono ?_; rintro e w1 ⟨rfl, rfl⟩) | (go_at_call 64; with_reducible refine (HFa.out _).mono ?_; rintro e w1 ⟨rfl, rfl⟩) | (go_at_call 81; with_reducible refine (HAl.out _).mono ?_; rintro e w1 ⟨rfl, rfl⟩) | (go_at_call 75; with_reducible refine (HC.out _).mono ?_; rintro e w1 ⟨rfl, hb⟩))
  replace A0 := Lib.hid (A0.far hb)
  replace B := Lib.hid (B.trans (hb.mono B.size))
  clear hb
  go_loop [8, 28] (fun sv iv => ∃ k : Nat, k ≤ 13 ∧ iv = .int .i64 k ∧ sv = .int .i64 (rfS n t k)) (fun _ iv => 13 - (intOf iv).toNat)
  case atStart => exact ⟨0, by omega, rfl, rfl⟩
  case round =>
    obtain ⟨k, hk, rfl, rfl⟩ := hrel
    by_cases hlt : k < 13
    · obtain ⟨b1, b2, b3, b4, b5, b6, b7, b8⟩ := HIN.out k hlt
      have hHW : Hid (∀ W : World, Calls Try.prog 78 #[.int .i64 n, .int .i64 t, .int .i64 k] W fun e w' => e = .returned (.int .i64 (rfW n t k : Nat)) ∧ W = w') := fun W => HW.out k W hlt
      have hx := fun W => HK.out k W hlt
      have hdd := HD.out k
      have HS1 := Lib.hid (HSS.out k)
      obtain ⟨y, hy⟩ : ∃ y, rfW n t k = y := ⟨_, rfl⟩
      rw [hy] at hHW hdd b1 b2
      obtain ⟨P, hP⟩ : ∃ P, y * F = P := ⟨_, rfl⟩
      have hP2 : (y : Int) * (F : Int) = (P : Int) := by rw [← hP]; simp
      rw [hP] at b2
      rw [hP2] at hdd
      generalize rfD n t k = d at hdd b3 b5 b6 HS1
      generalize (cnRow kpR n).getD k 0 = c at hx b4 b5 b6 HS1
      generalize rfS n t k = s at b7 b8 HS1
      have hd1 : (P : Int) - (A : Int) = d := hdd.symm
      have hk3 : (k : Int) < 13 := by omega
      clear hdd hy hP
      have HB := Lib.hid (And.intro b5 (And.intro b6 (And.intro b7 b8)))
      clear b5 b6
      go_wp2_with (go_at_call 78; with_reducible refine (hHW.out _).mono ?_; rintro e w2 ⟨rfl, rfl⟩)
      go_round
      case rel =>
        refine ⟨k + 1, by omega, by go_num, ?_⟩
        have hmx : max d (-d) = ((d.natAbs : Nat) : Int) := by omega
        obtain ⟨b5, b6, b7, b8⟩ := HB.out
        rw [HS1.out, hmx, IntWalk.wrap64_in (c * ((d.natAbs : Nat) : Int)) (by omega), IntWalk.wrap64_in _ (by omega)]
      case measure => first | (simp [intOf]; done) | (simp [intOf]; omega)
    · obtain rfl : k = 13 := by omega
      go_wp2_with fail
      refine (HM.out _).mono ?_
      rintro e w2 ⟨rfl, hb⟩
      have A1 := A0.out.far hb
      have B1 := B.out.trans (hb.mono B.out.size)
      clear hb
      obtain ⟨p0, p1⟩ := (A1.put (.int .i64 (rfR n t).1) (.int .i64 (rfR n t).2)).1
      obtain ⟨⟨x0, x1⟩, x2, x3⟩ := id A1
      go_wp2
      unfold putD at p0 p1
      exact bodyPost_ret (v := .tuple #[.agg #[.int .i64 (rfR n t).1, .int .i64 (rfR n t).2], .bool true]) (by simp [results, Try.results46, go_sem, p0, p1]) rfl ⟨rfl, below_putD B1 (Nat.le_refl _) _ _⟩
end Go.Proofs.Ytjbojamhnapkpab
