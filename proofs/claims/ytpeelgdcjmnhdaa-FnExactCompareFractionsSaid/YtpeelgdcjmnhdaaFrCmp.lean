/- Fractions compared: spec.l01FCmp, spec.CompareFractions, and the law. -/
import Derived.Test.YtpeelgdcjmnhdaaFrLaw
namespace Go.Proofs.Ytpeelgdcjmnhdaa
open Go.RowKit Go.PlainAid
set_option maxHeartbeats 800000

theorem less_dec (X Y : Int) (w : World) (hX : Nat126 X) (hY : Nat126 Y) :
    Calls Try.prog 47 #[.agg #[.int .u64 (hiU X), .int .u64 (loU X)], .agg #[.int .u64 (hiU Y), .int .u64 (loU Y)]] w fun e w' => e = .returned (.bool (decide (X < Y))) ∧ Below w.heap.size w w' := by
  by_cases h : X < Y
  · rw [show decide (X < Y) = true by simp [h]]; exact less_yes X Y w hX hY h
  · rw [show decide (X < Y) = false by simp; omega]; exact less_no X Y w hX hY h

theorem fcmp_core (fn fd gn gd A B' xh xl yh yl r : Int) (s p q : Bool) (w : World) (d1 : decide (fn < 0) = s) (d2 : decide (gn < 0) = s) (f1 : -1000000000000000000 ≤ fn) (f2 : fn ≤ 1000000000000000000) (g1 : -1000000000000000000 ≤ gn) (g2 : gn ≤ 1000000000000000000)
    (hr : Hid (r = if q then 1 else if p then -1 else 0)) (r1 : -1 ≤ r) (r2 : r ≤ 1)
    (M1 : Hid (∀ W : World, Calls Try.prog 44 #[.int .i64 fn, .int .i64 (-fn)] W fun e w' => e = .returned (.int .i64 A) ∧ Below W.heap.size W w'))
    (M2 : Hid (∀ W : World, Calls Try.prog 45 #[.int .i64 A, .int .i64 gd] W fun e w' => e = .returned (.agg #[.int .u64 xh, .int .u64 xl]) ∧ Below W.heap.size W w'))
    (M3 : Hid (∀ W : World, Calls Try.prog 44 #[.int .i64 gn, .int .i64 (-gn)] W fun e w' => e = .returned (.int .i64 B') ∧ Below W.heap.size W w'))
    (M4 : Hid (∀ W : World, Calls Try.prog 45 #[.int .i64 B', .int .i64 fd] W fun e w' => e = .returned (.agg #[.int .u64 yh, .int .u64 yl]) ∧ Below W.heap.size W w'))
    (L1 : Hid (∀ W : World, Calls Try.prog 47 #[.agg #[.int .u64 xh, .int .u64 xl], .agg #[.int .u64 yh, .int .u64 yl]] W fun e w' => e = .returned (.bool p) ∧ Below W.heap.size W w'))
    (L2 : Hid (∀ W : World, Calls Try.prog 47 #[.agg #[.int .u64 yh, .int .u64 yl], .agg #[.int .u64 xh, .int .u64 xl]] W fun e w' => e = .returned (.bool q) ∧ Below W.heap.size W w')) :
    Calls Try.prog 38 #[.agg #[.int .i64 fn, .int .i64 fd], .agg #[.int .i64 gn, .int .i64 gd]] w fun e w' => e = .returned (.int .i64 (if s then -r else r)) ∧ Below w.heap.size w w' := by
  have n1 : IntKind.i64.wrap (-fn) = -fn := IntWalk.i64_in _ (by omega)
  have n2 : IntKind.i64.wrap (-gn) = -gn := IntWalk.i64_in _ (by omega)
  have n3 : IntKind.i64.wrap (-r) = -r := IntWalk.i64_in _ (by omega)
  clear f1 f2 g1 g2 r1 r2
  go_enter Try.func38, Try.ntmps38
  have A0 := (D2.new w (.int .i64 fn) (.int .i64 fd) 24).alloc (.cells #[.int .i64 gn, .int .i64 gd] 24)
  have A1 := D2.new (w.alloc (.cells #[.int .i64 fn, .int .i64 fd] 24)) (.int .i64 gn) (.int .i64 gd) 24
  have B : Below w.heap.size w ((w.alloc (.cells #[.int .i64 fn, .int .i64 fd] 24)).alloc (.cells #[.int .i64 gn, .int .i64 gd] 24)) := ((Below.refl _ w).alloc (Nat.le_refl _) _).alloc (by simp) _
  simp only [World.size_alloc] at A1
  obtain ⟨⟨x0, x1⟩, _, _⟩ := id A0
  obtain ⟨⟨x2, x3⟩, _, _⟩ := id A1
  cases s
  all_goals
    go_wp2_with fail
    clear x0 x1 x2 x3
    generalize ((w.alloc (.cells #[.int .i64 fn, .int .i64 fd] 24)).alloc (.cells #[.int .i64 gn, .int .i64 gd] 24)) = w1 at A0 A1 B ⊢
    obtain ⟨q0, q1⟩ := (A0.drew).gr (rw := none) (by simp)
    obtain ⟨q2, q3⟩ := (A1.drew).gr (rw := none) (by simp)
    refine wp_region_mix (none) [0, 1, 2, 3, 4, 5, 6, 7, 8] [9, 10] (by kernel_rfl) (by kernel_rfl) ?_
    simp only [pickOps, List.filterMap_cons, List.filterMap_nil, List.getElem?_toArray, List.getElem?_cons_succ, List.getElem?_cons_zero]
    repeat (refine wpQuietG_step (fun K hK => ?_); go_simp; first | (refine hK _ ?_; clear hK K) | (apply Exists.intro; refine ⟨fun _ => ?_, hK _ ?_⟩; (first | (with_reducible exact M1.out _) | (with_reducible exact M2.out _)); clear hK K))
    refine wpQuietG_nil ?_
    clear q0 q1 q2 q3 M1 M2
    intro W2 hW1 hW2
    go_wp2
    refine ⟨gr_alloc hW1 _, ?_⟩
    intro W3 hW3 hW4
    have A3 := (D2.new W2 (.int .u64 0) (.int .u64 0) 56).far hW4
    obtain ⟨⟨x0, x1⟩, x2, x3⟩ := id A3
    have s3 : w1.heap.size ≤ W2.heap.size := hW1.size
    go_wp2
    refine ⟨gr_put hW3 (.inr s3) _ _, ?_⟩
    intro W4 hW5 hW6
    replace hW5 := gr_undrew hW5
    replace A3 := (A3.put (.int .u64 xh) (.int .u64 xl)).far hW6
    replace A0 := A0.grow hW5 (by simp)
    replace A1 := A1.grow hW5 (by simp)
    replace B := B.grown hW5 B.size (by simp)
    clear hW1 hW2 hW3 hW4 hW5 hW6 x0 x1 x2 x3 s3
    generalize W2.heap.size = g3 at A3 ⊢
    go_wp2_with fail
    obtain ⟨q0, q1⟩ := (A0.drew).gr (rw := none) (by simp)
    obtain ⟨q2, q3⟩ := (A1.drew).gr (rw := none) (by simp)
    refine wp_region_mix (none) [0, 1, 2, 3, 4, 5, 6, 7, 8] [9, 10] (by kernel_rfl) (by kernel_rfl) ?_
    simp only [pickOps, List.filterMap_cons, List.filterMap_nil, List.getElem?_toArray, List.getElem?_cons_succ, List.getElem?_cons_zero]
    repeat (refine wpQuietG_step (fun K hK => ?_); go_simp; first | (refine hK _ ?_; clear hK K) | (apply Exists.intro; refine ⟨fun _ => ?_, hK _ ?_⟩; (first | (with_reducible exact M3.out _) | (with_reducible exact M4.out _)); clear hK K))
    refine wpQuietG_nil ?_
    clear q0 q1 q2 q3 M3 M4
    intro W5 hW1 hW2
    go_wp2
    refine ⟨gr_alloc hW1 _, ?_⟩
    intro W6 hW3 hW4
    have A4 := (D2.new W5 (.int .u64 0) (.int .u64 0) 56).far hW4
    obtain ⟨⟨x0, x1⟩, x2, x3⟩ := id A4
    have s3 : W4.heap.size ≤ W5.heap.size := hW1.size
    go_wp2
    refine ⟨gr_put hW3 (.inr s3) _ _, ?_⟩
    intro W7 hW5 hW6
    replace hW5 := gr_undrew hW5
    replace A4 := (A4.put (.int .u64 yh) (.int .u64 yl)).far hW6
    replace A0 := A0.grow hW5 (by simp)
    replace A3 := A3.grow hW5 (by simp)
    replace B := B.grown hW5 B.size (by simp)
    clear hW1 hW2 hW3 hW4 hW5 hW6 x0 x1 x2 x3 s3 A1
    generalize W5.heap.size = g4 at A4 ⊢
    obtain ⟨⟨x0, x1⟩, _, _⟩ := id A3
    obtain ⟨⟨x2, x3⟩, _, _⟩ := id A4
    go_wp2_with fail
    refine (L1.out _).mono ?_
    rintro e w8 ⟨rfl, hb⟩
    replace A0 := A0.far hb
    replace A3 := A3.far hb
    replace A4 := A4.far hb
    replace B := B.trans (hb.mono B.size)
    clear hb x0 x1 x2 x3 L1
    obtain ⟨⟨x0, x1⟩, _, _⟩ := id A3
    obtain ⟨⟨x2, x3⟩, _, _⟩ := id A4
    cases p
    all_goals
      go_wp2_with fail
      refine (L2.out _).mono ?_
      rintro e w9 ⟨rfl, hb⟩
      replace A0 := A0.far hb
      replace B := B.trans (hb.mono B.size)
      clear hb x0 x1 x2 x3 A3 A4 L2
      obtain ⟨⟨x0, x1⟩, _, _⟩ := id A0
      cases q
      all_goals
        have hr2 := hr.out
        simp only [Bool.false_eq_true, if_true, if_false] at hr2
        subst hr2
        go_wp2
        go_ret
        exact ⟨rfl, B⟩

theorem fcmp_any (fn fd gn gd : Int) (w : World) (hf : VF fn fd) (hg : VF gn gd) :
    Calls Try.prog 38 #[.agg #[.int .i64 fn, .int .i64 fd], .agg #[.int .i64 gn, .int .i64 gd]] w fun e w' => e = .returned (.int .i64 (sgn (fn * gd + -gn * fd))) ∧ Below w.heap.size w w' := by
  obtain ⟨⟨f1, f2, f3, f4⟩, _⟩ := hf.out
  obtain ⟨⟨g1, g2, g3, g4⟩, _⟩ := hg.out
  obtain ⟨k1, k2⟩ := abs_mul fn gd g1
  obtain ⟨k3, k4⟩ := abs_mul gn fd f1
  obtain ⟨X, hX⟩ : ∃ X, ((fn.natAbs : Nat) : Int) * gd = X := ⟨_, rfl⟩
  obtain ⟨Y, hY⟩ : ∃ X, ((gn.natAbs : Nat) : Int) * fd = X := ⟨_, rfl⟩
  have px := prod60 (fn.natAbs : Nat) gd (by omega) (by omega) (by omega) g2
  have py := prod60 (gn.natAbs : Nat) fd (by omega) (by omega) (by omega) f2
  have p0x : 0 ≤ ((fn.natAbs : Nat) : Int) * gd := Int.mul_nonneg (by omega) (by omega)
  have p0y : 0 ≤ ((gn.natAbs : Nat) : Int) * fd := Int.mul_nonneg (by omega) (by omega)
  by_cases hs : fn < 0 ↔ gn < 0
  · have HM1 : Hid (∀ W : World, Calls Try.prog 44 #[.int .i64 fn, .int .i64 (-fn)] W fun e w' => e = .returned (.int .i64 (fn.natAbs : Nat)) ∧ Below W.heap.size W w') := fun W => (l00Max_abs fn W (by omega) (by omega)).mono fun _ _ ⟨h1, h2⟩ => ⟨h1, by rw [← h2]; exact Below.refl _ _⟩
    have HM3 : Hid (∀ W : World, Calls Try.prog 44 #[.int .i64 gn, .int .i64 (-gn)] W fun e w' => e = .returned (.int .i64 (gn.natAbs : Nat)) ∧ Below W.heap.size W w') := fun W => (l00Max_abs gn W (by omega) (by omega)).mono fun _ _ ⟨h1, h2⟩ => ⟨h1, by rw [← h2]; exact Below.refl _ _⟩
    have d2 : decide (gn < 0) = decide (fn < 0) := by simp [hs]
    refine (fcmp_core fn fd gn gd _ _ (hiU X) (loU X) (hiU Y) (loU Y) (if decide (Y < X) then 1 else if decide (X < Y) then -1 else 0) (decide (fn < 0)) (decide (X < Y)) (decide (Y < X)) w rfl d2 f3 f4 g3 g4 rfl ?_ ?_ HM1 ?_ HM3 ?_ ?_ ?_).mono ?_
    · split <;> (try split) <;> omega
    · split <;> (try split) <;> omega
    · intro W; rw [← hX]; exact times_any _ _ W (by omega) (by omega) (by omega) (by omega)
    · intro W; rw [← hY]; exact times_any _ _ W (by omega) (by omega) (by omega) (by omega)
    · intro W; exact less_dec X Y W ⟨by omega, by omega⟩ ⟨by omega, by omega⟩
    · intro W; exact less_dec Y X W ⟨by omega, by omega⟩ ⟨by omega, by omega⟩
    · rintro e w' ⟨rfl, hb⟩
      refine ⟨?_, hb⟩
      rw [hX] at k1 k2
      rw [hY] at k3 k4
      congr 2
      rw [Int.neg_mul]
      unfold sgn
      by_cases h1 : fn < 0
      · have h2 : gn < 0 := hs.1 h1
        rw [k1 h1, k3 h2]
        simp only [h1, decide_true, if_true, decide_eq_true_eq]
        split <;> split <;> (try split) <;> omega
      · have h2 : ¬ gn < 0 := fun x => h1 (hs.2 x)
        rw [k2 h1, k4 h2]
        simp only [h1, decide_false, Bool.false_eq_true, if_false, decide_eq_true_eq]
        split <;> (try split) <;> (try split) <;> omega
  · rw [hX] at k1 k2 p0x
    rw [hY] at k3 k4 p0y
    by_cases h1 : fn < 0
    · have h2 : ¬ gn < 0 := fun x => hs ⟨fun _ => x, fun _ => h1⟩
      have HS : Hid (sgn (fn * gd + -gn * fd) = -1) := by
        unfold Hid
        have : fn * gd < 0 := Int.mul_neg_of_neg_of_pos h1 (by omega)
        rw [Int.neg_mul, k4 h2]
        unfold sgn
        rw [if_pos (by omega)]
      clear k1 k2 k3 k4 hs px py p0x p0y hX hY f1 f2 f3 f4 g1 g2 g3 g4 hf hg
      go_enter Try.func38, Try.ntmps38
      have A0 := (D2.new w (.int .i64 fn) (.int .i64 fd) 24).alloc (.cells #[.int .i64 gn, .int .i64 gd] 24)
      have A1 := D2.new (w.alloc (.cells #[.int .i64 fn, .int .i64 fd] 24)) (.int .i64 gn) (.int .i64 gd) 24
      have B : Below w.heap.size w ((w.alloc (.cells #[.int .i64 fn, .int .i64 fd] 24)).alloc (.cells #[.int .i64 gn, .int .i64 gd] 24)) := ((Below.refl _ w).alloc (Nat.le_refl _) _).alloc (by simp) _
      simp only [World.size_alloc] at A1
      obtain ⟨⟨x0, x1⟩, _, _⟩ := id A0
      obtain ⟨⟨x2, x3⟩, _, _⟩ := id A1
      go_wp2
      go_ret
      exact ⟨by rw [HS.out]; rfl, B⟩
    · have h2 : gn < 0 := by
        by_cases x : gn < 0
        · exact x
        · exact absurd ⟨fun y => absurd y h1, fun y => absurd y x⟩ hs
      have HS : Hid (sgn (fn * gd + -gn * fd) = 1) := by
        unfold Hid
        have : 0 < -gn * fd := Int.mul_pos (by omega) (by omega)
        rw [k2 h1]
        unfold sgn
        rw [if_neg (by omega), if_neg (by omega)]
      clear k1 k2 k3 k4 hs px py p0x p0y hX hY f1 f2 f3 f4 g1 g2 g3 g4 hf hg
      go_enter Try.func38, Try.ntmps38
      have A0 := (D2.new w (.int .i64 fn) (.int .i64 fd) 24).alloc (.cells #[.int .i64 gn, .int .i64 gd] 24)
      have A1 := D2.new (w.alloc (.cells #[.int .i64 fn, .int .i64 fd] 24)) (.int .i64 gn) (.int .i64 gd) 24
      have B : Below w.heap.size w ((w.alloc (.cells #[.int .i64 fn, .int .i64 fd] 24)).alloc (.cells #[.int .i64 gn, .int .i64 gd] 24)) := ((Below.refl _ w).alloc (Nat.le_refl _) _).alloc (by simp) _
      simp only [World.size_alloc] at A1
      obtain ⟨⟨x0, x1⟩, _, _⟩ := id A0
      obtain ⟨⟨x2, x3⟩, _, _⟩ := id A1
      go_wp2
      go_ret
      exact ⟨by rw [HS.out]; rfl, B⟩
end Go.Proofs.Ytpeelgdcjmnhdaa
