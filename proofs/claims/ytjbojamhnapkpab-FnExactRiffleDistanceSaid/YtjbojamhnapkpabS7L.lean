/- How far riffles are from even chances: spec.RiffleDistance, the law. -/
import Derived.Test.YtjbojamhnapkpabS7J
namespace Go.Proofs.Ytjbojamhnapkpab
open Go.RowKit Go.PlainAid
set_option maxHeartbeats 800000

theorem zero_any (w : World) : Calls Try.prog 83 #[] w fun e w' => e = .returned (.agg #[.int .i64 0, .int .i64 1]) ∧ Below w.heap.size w w' := by
  go_enter Try.func83, Try.ntmps83
  go_wp2
  go_returns
  exact ⟨rfl, by go_grown⟩
theorem fneg7_any (n d : Int) (w : World) (h1 : -1000000000000000000 ≤ n) (h2 : n ≤ 1000000000000000000) :
    Calls Try.prog 85 #[.agg #[.int .i64 n, .int .i64 d]] w fun e w' => e = .returned (.agg #[.int .i64 (-n), .int .i64 d]) ∧ Below w.heap.size w w' := by
  have w1 : IntKind.i64.wrap (-n) = -n := IntWalk.i64_in _ (by omega)
  clear h1 h2
  go_enter Try.func85, Try.ntmps85
  go_wp2
  go_returns
  exact ⟨rfl, by go_grown⟩
theorem shl7 (n t m : Nat) (hm : t * n = m) (h2 : n ≤ 8) (ht : t ≤ 5) : wrap64 ((2 : Int) ^ m) = (rfA n t : Nat) := by
  have h0 : t * n ≤ 5 * 8 := Nat.mul_le_mul ht h2
  have e : rfA n t = 2 ^ m := by unfold rfA; rw [Nat.mul_comm, hm]
  have hb : 2 ^ m ≤ 2 ^ 40 := Nat.pow_le_pow_right (by decide) (by omega)
  have hc : ((2 ^ m : Nat) : Int) = (2 : Int) ^ m := by simp
  rw [e, ← hc]
  generalize 2 ^ m = q at hb ⊢
  exact IntWalk.wrap64_in _ (by omega)
theorem chance_make (n t r : Nat) (h1 : 1 ≤ n) (h2 : n ≤ 8) (ht : t ≤ 5) (hr : r ≤ 2 ^ t) (hr2 : r < 13) (W : World) :
    Calls Try.prog 82 #[.int .i64 (rfW n t r : Nat), .int .i64 (rfA n t : Nat)] W fun e w' => e = .returned (.agg #[.int .i64 (rfC n t r).1, .int .i64 (rfC n t r).2]) ∧ Below W.heap.size W w' := by
  obtain ⟨a1, a2, a3, a4, a5, a6, a7⟩ := rf_all n (by omega) t (by omega) h1
  obtain ⟨b1, _⟩ := rf_in n (by omega) t (by omega) h1 r hr2
  have := fmake_any (rfW n t r : Nat) (rfA n t : Nat) W (by omega) (by omega) (by omega) (by omega) (by omega)
  unfold rfC
  rw [if_pos hr]
  exact this
theorem chance_ways (n t r p : Nat) (P : Int) (hP : P = (p : Int)) (hp : 2 ^ t = p) (hp2 : p ≤ 32) (h2 : n ≤ 8) (hr : r ≤ 2 ^ t) (W : World) :
    Calls Try.prog 95 #[.int .i64 (P + n - r), .int .i64 n] W fun e w' => e = .returned (.int .i64 (rfW n t r : Nat)) ∧ Below W.heap.size W w' := by
  subst hP
  rw [hp] at hr
  have := choose_any (p + n - r) n W (by omega) (by omega)
  unfold rfW
  rw [hp, if_pos hr, ← cF_eq _ _ (by omega)]
  rw [show (((p + n - r : Nat)) : Int) = (p : Int) + n - r by omega] at this
  exact this
theorem chance_any (n t r : Nat) (w : World) (h1 : 1 ≤ n) (h2 : n ≤ 8) (ht : t ≤ 5) (hr2 : r < 13) :
    Calls Try.prog 77 #[.int .i64 n, .int .i64 r, .int .i64 t] w fun e w' => e = .returned (.agg #[.int .i64 (rfC n t r).1, .int .i64 (rfC n t r).2]) ∧ Below w.heap.size w w' := by
  by_cases hr : r ≤ 2 ^ t
  · have HM := Lib.hid (chance_make n t r h1 h2 ht hr hr2)
    obtain ⟨m, hm⟩ : ∃ m, t * n = m := ⟨_, rfl⟩
    have HS := Lib.hid (shl7 n t m hm h2 ht)
    have hm3 : (t : Int) * (n : Int) = (m : Int) := by rw [← hm]; simp
    have hm4 : m ≤ 40 := by rw [← hm]; exact Nat.mul_le_mul ht h2
    clear hm
    rcases t_cases ht with rfl | rfl | rfl | rfl | rfl | rfl
    · have HW := Lib.hid (chance_ways n 0 r 1 1 rfl rfl (by decide) h2 hr)
      have hr9 : r ≤ 1 := hr
      have HS2 : Hid ((rfA n 0 : Nat) = 1) := by unfold Hid rfA; simp
      generalize rfW n 0 r = q at HM HW
      generalize rfC n 0 r = z at HM ⊢
      go_enter Try.func77, Try.ntmps77
      have A0 := D2.new w (.int .i64 0) (.int .i64 0) 42
      have B := (Below.refl w.heap.size w).alloc (Nat.le_refl _) (.cells #[.int .i64 0, .int .i64 0] 42)
      go_wp2_with fail
      refine (HW.out _).mono ?_
      rintro e w1 ⟨rfl, hb⟩
      replace A0 := A0.far hb
      replace B := B.trans (hb.mono B.size)
      clear hb
      go_wp2_with fail
      rw [HS2.out] at HM
      refine (HM.out _).mono ?_
      rintro e w1 ⟨rfl, hb⟩
      replace A0 := A0.far hb
      replace B := B.trans (hb.mono B.size)
      clear hb
      obtain ⟨p0, p1⟩ := (A0.put (.int .i64 z.1) (.int .i64 z.2)).1
      obtain ⟨⟨x0, x1⟩, x2, x3⟩ := id A0
      go_wp2
      unfold putD at p0 p1
      exact bodyPost_ret (v := .agg #[.int .i64 z.1, .int .i64 z.2]) (by simp [results, Try.results77, go_sem, p0, p1]) rfl ⟨rfl, below_putD B (Nat.le_refl _) _ _⟩
    · have HW := Lib.hid (chance_ways n 1 r 2 2 rfl rfl (by decide) h2 hr)
      have hr9 : r ≤ 2 := hr
      obtain rfl : n = m := by omega
      generalize rfW n 1 r = q at HM HW
      generalize rfC n 1 r = z at HM ⊢
      go_enter Try.func77, Try.ntmps77
      have A0 := D2.new w (.int .i64 0) (.int .i64 0) 42
      have B := (Below.refl w.heap.size w).alloc (Nat.le_refl _) (.cells #[.int .i64 0, .int .i64 0] 42)
      go_wp2_with fail
      refine (HW.out _).mono ?_
      rintro e w1 ⟨rfl, hb⟩
      replace A0 := A0.far hb
      replace B := B.trans (hb.mono B.size)
      clear hb
      go_wp2_with fail
      rw [HS.out]
      refine (HM.out _).mono ?_
      rintro e w1 ⟨rfl, hb⟩
      replace A0 := A0.far hb
      replace B := B.trans (hb.mono B.size)
      clear hb
      obtain ⟨p0, p1⟩ := (A0.put (.int .i64 z.1) (.int .i64 z.2)).1
      obtain ⟨⟨x0, x1⟩, x2, x3⟩ := id A0
      go_wp2
      unfold putD at p0 p1
      exact bodyPost_ret (v := .agg #[.int .i64 z.1, .int .i64 z.2]) (by simp [results, Try.results77, go_sem, p0, p1]) rfl ⟨rfl, below_putD B (Nat.le_refl _) _ _⟩
    · have HW := Lib.hid (chance_ways n 2 r 4 4 rfl rfl (by decide) h2 hr)
      have hr9 : r ≤ 4 := hr
      replace hm3 : (2 : Int) * (n : Int) = (m : Int) := hm3
      generalize rfW n 2 r = q at HM HW
      generalize rfC n 2 r = z at HM ⊢
      go_enter Try.func77, Try.ntmps77
      have A0 := D2.new w (.int .i64 0) (.int .i64 0) 42
      have B := (Below.refl w.heap.size w).alloc (Nat.le_refl _) (.cells #[.int .i64 0, .int .i64 0] 42)
      go_wp2_with fail
      refine (HW.out _).mono ?_
      rintro e w1 ⟨rfl, hb⟩
      replace A0 := A0.far hb
      replace B := B.trans (hb.mono B.size)
      clear hb
      go_wp2_with fail
      rw [HS.out]
      refine (HM.out _).mono ?_
      rintro e w1 ⟨rfl, hb⟩
      replace A0 := A0.far hb
      replace B := B.trans (hb.mono B.size)
      clear hb
      obtain ⟨p0, p1⟩ := (A0.put (.int .i64 z.1) (.int .i64 z.2)).1
      obtain ⟨⟨x0, x1⟩, x2, x3⟩ := id A0
      go_wp2
      unfold putD at p0 p1
      exact bodyPost_ret (v := .agg #[.int .i64 z.1, .int .i64 z.2]) (by simp [results, Try.results77, go_sem, p0, p1]) rfl ⟨rfl, below_putD B (Nat.le_refl _) _ _⟩
    · have HW := Lib.hid (chance_ways n 3 r 8 8 rfl rfl (by decide) h2 hr)
      have hr9 : r ≤ 8 := hr
      replace hm3 : (3 : Int) * (n : Int) = (m : Int) := hm3
      generalize rfW n 3 r = q at HM HW
      generalize rfC n 3 r = z at HM ⊢
      go_enter Try.func77, Try.ntmps77
      have A0 := D2.new w (.int .i64 0) (.int .i64 0) 42
      have B := (Below.refl w.heap.size w).alloc (Nat.le_refl _) (.cells #[.int .i64 0, .int .i64 0] 42)
      go_wp2_with fail
      refine (HW.out _).mono ?_
      rintro e w1 ⟨rfl, hb⟩
      replace A0 := A0.far hb
      replace B := B.trans (hb.mono B.size)
      clear hb
      go_wp2_with fail
      rw [HS.out]
      refine (HM.out _).mono ?_
      rintro e w1 ⟨rfl, hb⟩
      replace A0 := A0.far hb
      replace B := B.trans (hb.mono B.size)
      clear hb
      obtain ⟨p0, p1⟩ := (A0.put (.int .i64 z.1) (.int .i64 z.2)).1
      obtain ⟨⟨x0, x1⟩, x2, x3⟩ := id A0
      go_wp2
      unfold putD at p0 p1
      exact bodyPost_ret (v := .agg #[.int .i64 z.1, .int .i64 z.2]) (by simp [results, Try.results77, go_sem, p0, p1]) rfl ⟨rfl, below_putD B (Nat.le_refl _) _ _⟩
    · have HW := Lib.hid (chance_ways n 4 r 16 16 rfl rfl (by decide) h2 hr)
      have hr9 : r ≤ 16 := hr
      replace hm3 : (4 : Int) * (n : Int) = (m : Int) := hm3
      generalize rfW n 4 r = q at HM HW
      generalize rfC n 4 r = z at HM ⊢
      go_enter Try.func77, Try.ntmps77
      have A0 := D2.new w (.int .i64 0) (.int .i64 0) 42
      have B := (Below.refl w.heap.size w).alloc (Nat.le_refl _) (.cells #[.int .i64 0, .int .i64 0] 42)
      go_wp2_with fail
      refine (HW.out _).mono ?_
      rintro e w1 ⟨rfl, hb⟩
      replace A0 := A0.far hb
      replace B := B.trans (hb.mono B.size)
      clear hb
      go_wp2_with fail
      rw [HS.out]
      refine (HM.out _).mono ?_
      rintro e w1 ⟨rfl, hb⟩
      replace A0 := A0.far hb
      replace B := B.trans (hb.mono B.size)
      clear hb
      obtain ⟨p0, p1⟩ := (A0.put (.int .i64 z.1) (.int .i64 z.2)).1
      obtain ⟨⟨x0, x1⟩, x2, x3⟩ := id A0
      go_wp2
      unfold putD at p0 p1
      exact bodyPost_ret (v := .agg #[.int .i64 z.1, .int .i64 z.2]) (by simp [results, Try.results77, go_sem, p0, p1]) rfl ⟨rfl, below_putD B (Nat.le_refl _) _ _⟩
    · have HW := Lib.hid (chance_ways n 5 r 32 32 rfl rfl (by decide) h2 hr)
      have hr9 : r ≤ 32 := hr
      replace hm3 : (5 : Int) * (n : Int) = (m : Int) := hm3
      generalize rfW n 5 r = q at HM HW
      generalize rfC n 5 r = z at HM ⊢
      go_enter Try.func77, Try.ntmps77
      have A0 := D2.new w (.int .i64 0) (.int .i64 0) 42
      have B := (Below.refl w.heap.size w).alloc (Nat.le_refl _) (.cells #[.int .i64 0, .int .i64 0] 42)
      go_wp2_with fail
      refine (HW.out _).mono ?_
      rintro e w1 ⟨rfl, hb⟩
      replace A0 := A0.far hb
      replace B := B.trans (hb.mono B.size)
      clear hb
      go_wp2_with fail
      rw [HS.out]
      refine (HM.out _).mono ?_
      rintro e w1 ⟨rfl, hb⟩
      replace A0 := A0.far hb
      replace B := B.trans (hb.mono B.size)
      clear hb
      obtain ⟨p0, p1⟩ := (A0.put (.int .i64 z.1) (.int .i64 z.2)).1
      obtain ⟨⟨x0, x1⟩, x2, x3⟩ := id A0
      go_wp2
      unfold putD at p0 p1
      exact bodyPost_ret (v := .agg #[.int .i64 z.1, .int .i64 z.2]) (by simp [results, Try.results77, go_sem, p0, p1]) rfl ⟨rfl, below_putD B (Nat.le_refl _) _ _⟩
  · have HZ : Hid (∀ W : World, Calls Try.prog 83 #[] W fun e w' => e = .returned (.agg #[.int .i64 (rfC n t r).1, .int .i64 (rfC n t r).2]) ∧ Below W.heap.size W w') := fun W => by
      have := zero_any W
      unfold rfC
      rw [if_neg hr]
      exact this
    generalize rfC n t r = z at HZ ⊢
    rcases t_cases ht with rfl | rfl | rfl | rfl | rfl | rfl
    · have hr9 : ¬ r ≤ 1 := hr
      go_enter Try.func77, Try.ntmps77
      have A0 := D2.new w (.int .i64 0) (.int .i64 0) 42
      have B := (Below.refl w.heap.size w).alloc (Nat.le_refl _) (.cells #[.int .i64 0, .int .i64 0] 42)
      go_wp2_with fail
      refine (HZ.out _).mono ?_
      rintro e w1 ⟨rfl, hb⟩
      replace A0 := A0.far hb
      replace B := B.trans (hb.mono B.size)
      clear hb
      obtain ⟨p0, p1⟩ := (A0.put (.int .i64 z.1) (.int .i64 z.2)).1
      obtain ⟨⟨x0, x1⟩, x2, x3⟩ := id A0
      go_wp2
      unfold putD at p0 p1
      exact bodyPost_ret (v := .agg #[.int .i64 z.1, .int .i64 z.2]) (by simp [results, Try.results77, go_sem, p0, p1]) rfl ⟨rfl, below_putD B (Nat.le_refl _) _ _⟩
    · have hr9 : ¬ r ≤ 2 := hr
      go_enter Try.func77, Try.ntmps77
      have A0 := D2.new w (.int .i64 0) (.int .i64 0) 42
      have B := (Below.refl w.heap.size w).alloc (Nat.le_refl _) (.cells #[.int .i64 0, .int .i64 0] 42)
      go_wp2_with fail
      refine (HZ.out _).mono ?_
      rintro e w1 ⟨rfl, hb⟩
      replace A0 := A0.far hb
      replace B := B.trans (hb.mono B.size)
      clear hb
      obtain ⟨p0, p1⟩ := (A0.put (.int .i64 z.1) (.int .i64 z.2)).1
      obtain ⟨⟨x0, x1⟩, x2, x3⟩ := id A0
      go_wp2
      unfold putD at p0 p1
      exact bodyPost_ret (v := .agg #[.int .i64 z.1, .int .i64 z.2]) (by simp [results, Try.results77, go_sem, p0, p1]) rfl ⟨rfl, below_putD B (Nat.le_refl _) _ _⟩
    · have hr9 : ¬ r ≤ 4 := hr
      go_enter Try.func77, Try.ntmps77
      have A0 := D2.new w (.int .i64 0) (.int .i64 0) 42
      have B := (Below.refl w.heap.size w).alloc (Nat.le_refl _) (.cells #[.int .i64 0, .int .i64 0] 42)
      go_wp2_with fail
      refine (HZ.out _).mono ?_
      rintro e w1 ⟨rfl, hb⟩
      replace A0 := A0.far hb
      replace B := B.trans (hb.mono B.size)
      clear hb
      obtain ⟨p0, p1⟩ := (A0.put (.int .i64 z.1) (.int .i64 z.2)).1
      obtain ⟨⟨x0, x1⟩, x2, x3⟩ := id A0
      go_wp2
      unfold putD at p0 p1
      exact bodyPost_ret (v := .agg #[.int .i64 z.1, .int .i64 z.2]) (by simp [results, Try.results77, go_sem, p0, p1]) rfl ⟨rfl, below_putD B (Nat.le_refl _) _ _⟩
    · have hr9 : ¬ r ≤ 8 := hr
      go_enter Try.func77, Try.ntmps77
      have A0 := D2.new w (.int .i64 0) (.int .i64 0) 42
      have B := (Below.refl w.heap.size w).alloc (Nat.le_refl _) (.cells #[.int .i64 0, .int .i64 0] 42)
      go_wp2_with fail
      refine (HZ.out _).mono ?_
      rintro e w1 ⟨rfl, hb⟩
      replace A0 := A0.far hb
      replace B := B.trans (hb.mono B.size)
      clear hb
      obtain ⟨p0, p1⟩ := (A0.put (.int .i64 z.1) (.int .i64 z.2)).1
      obtain ⟨⟨x0, x1⟩, x2, x3⟩ := id A0
      go_wp2
      unfold putD at p0 p1
      exact bodyPost_ret (v := .agg #[.int .i64 z.1, .int .i64 z.2]) (by simp [results, Try.results77, go_sem, p0, p1]) rfl ⟨rfl, below_putD B (Nat.le_refl _) _ _⟩
    · exact absurd (show r ≤ 16 by omega) hr
    · exact absurd (show r ≤ 32 by omega) hr
theorem fadd_is (fn fd gn gd : Int) (hf : VF fn fd) (hg : VF gn gd) (h : addOk fn fd gn gd) (W : World) :
    Calls Try.prog 84 #[.agg #[.int .i64 fn, .int .i64 fd], .agg #[.int .i64 gn, .int .i64 gd]] W fun e w' => e = .returned (.tuple #[.agg #[.int .i64 (addN fn fd gn gd), .int .i64 (addD fn fd gn gd)], .bool true]) ∧ Below W.heap.size W w' := by
  refine (fadd_any fn fd gn gd hf hg W).mono ?_
  rintro e w' ⟨n, d, ok, he, hv, hb⟩
  rcases hv.out with ⟨_, rfl, rfl, rfl⟩ | ⟨h0, _⟩
  · exact ⟨he, hb⟩
  · exact absurd h h0
theorem fmul_is (fn fd gn gd : Int) (hf : VF fn fd) (hg : VF gn gd) (h : mulOk fn fd gn gd) (W : World) :
    Calls Try.prog 86 #[.agg #[.int .i64 fn, .int .i64 fd], .agg #[.int .i64 gn, .int .i64 gd]] W fun e w' => e = .returned (.tuple #[.agg #[.int .i64 (mulN fn fd gn gd), .int .i64 (mulD fn fd gn gd)], .bool true]) ∧ Below W.heap.size W w' := by
  refine (fmul_any fn fd gn gd hf hg W).mono ?_
  rintro e w' ⟨n, d, ok, he, hv, hb⟩
  rcases hv.out with ⟨_, rfl, rfl, rfl⟩ | ⟨h0, _⟩
  · exact ⟨he, hb⟩
  · exact absurd h h0
/-- the cells of the walk: the result, the even chance, the sum, the row of counts -/
def Rd (be bs gr cr n t F k : Nat) (w W : World) : Prop := (D2 W w.heap.size (.int .i64 0) (.int .i64 0) ∧ D2 W be (.int .i64 1) (.int .i64 F) ∧ D2 W bs (.int .i64 (rfT n t k).1) (.int .i64 (rfT n t k).2)) ∧ Rw w.heap.size gr (n + 1) cr (rowT kpR n) W ∧ Below w.heap.size w W ∧ (w.heap.size < be ∧ be < bs ∧ gr ≠ bs)
set_option maxRecDepth 10000 in
theorem specDist_yes (n t : Nat) (w : World) (h1 : 1 ≤ n) (h2 : n ≤ 8) (ht : t ≤ 5) :
    Calls Try.prog 45 #[.int .i64 n, .int .i64 t] w fun e w' => e = .returned (.tuple #[.agg #[.int .i64 (rfR n t).1, .int .i64 (rfR n t).2], .bool true]) ∧ Below w.heap.size w w' := by
  have HI : Hid (∀ W : World, Calls Try.prog 56 #[.int .i64 n, .int .i64 1, .int .i64 8] W fun e w' => e = .returned (.bool true) ∧ W = w') := fun W => l00In_yes _ _ _ W (by omega) (by omega)
  have HJ : Hid (∀ W : World, Calls Try.prog 56 #[.int .i64 t, .int .i64 0, .int .i64 5] W fun e w' => e = .returned (.bool true) ∧ W = w') := fun W => l00In_yes _ _ _ W (by omega) (by omega)
  have HA : Hid (∀ W : World, Calls Try.prog 61 #[.int .i64 n] W fun e w' => e = .returned (.int .i64 (fac n : Nat)) ∧ W = w') := fun W => all_any n W (by omega)
  obtain ⟨a1, a2, a3, a4, a5, a6, a7⟩ := rf_all n (by omega) t (by omega) h1
  obtain ⟨e1, e2, e3⟩ := rf_even n (by omega) h1
  have HM : Hid (∀ W : World, Calls Try.prog 82 #[.int .i64 1, .int .i64 (fac n : Nat)] W fun e w' => e = .returned (.agg #[.int .i64 1, .int .i64 (fac n : Nat)]) ∧ Below W.heap.size W w') := fun W => by
    have := fmake_any 1 (fac n : Nat) W (by omega) (by omega) (by omega) (by omega) (by omega)
    rw [e1, e2] at this
    exact this
  have HE : Hid (∀ W : World, Calls Try.prog 74 #[.int .i64 n] W fun e w' => ∃ gr cr, e = .returned (.slice (some ⟨gr, 0, none⟩) (n + 1) cr) ∧ Rw W.heap.size gr (n + 1) cr (rowT kpR n) w' ∧ Below W.heap.size W w') := fun W => euler_any n W h1 (by omega)
  have HFR : Hid (∀ r, r < n + 1 → 1 ≤ r → VF (rfC n t r).1 (rfC n t r).2 ∧ addOk (rfC n t r).1 (rfC n t r).2 (-1) (fac n) ∧ VF (rfE n t r).1 (rfE n t r).2 ∧ VF ((rfE n t r).1.natAbs : Nat) (rfE n t r).2 ∧ VF (rfH n r).1 (rfH n r).2 ∧ mulOk ((rfE n t r).1.natAbs : Nat) (rfE n t r).2 (rfH n r).1 (rfH n r).2 ∧ VF (rfP n t r).1 (rfP n t r).2) := rf_frac n (by omega) t (by omega) h1
  have HSU : Hid (∀ k, k < n → VF (rfT n t k).1 (rfT n t k).2 ∧ addOk (rfT n t k).1 (rfT n t k).2 (rfP n t (k + 1)).1 (rfP n t (k + 1)).2) := rf_sum n (by omega) t (by omega) h1
  have HEND : Hid (rfT n t n = rfR n t) := rf_same n (by omega) t (by omega) h1
  have HE3 := Lib.hid e3
  obtain ⟨F, hF⟩ : ∃ F, fac n = F := ⟨_, rfl⟩
  have HF := Lib.hid hF
  rw [hF] at a1 a2 HA HM
  clear a3 a4 a5 a6 a7 e1 e2 e3 hF
  go_enter Try.func45, Try.ntmps45
  have A0 := D2.new w (.int .i64 0) (.int .i64 0) 42
  have B := (Below.refl w.heap.size w).alloc (Nat.le_refl _) (.cells #[.int .i64 0, .int .i64 0] 42)
  go_wp2_with (first | (go_at_call 56; with_reducible refine (HI.out _).mono ?_; rintro e w1 ⟨rfl, rfl⟩) | (go_at_call 56; with_reducible refine (HJ.out _).mono ?_; rintro e w1 ⟨rfl, rfl⟩) | (go_at_call 61; with_reducible refine (HA.out _).mono ?_; rintro e w1 ⟨rfl, rfl⟩) | (go_at_call 82; with_reducible refine (HM.out _).mono ?_; rintro e w1 ⟨rfl, hb⟩))
  replace A0 := A0.far hb
  replace B := B.trans (hb.mono B.size)
  replace A0 := A0.alloc (.cells #[.int .i64 1, .int .i64 F] 42)
  have AE := D2.new w1 (.int .i64 1) (.int .i64 F) 42
  have hbe : w.heap.size < w1.heap.size := by have := B.size; have := A0.lt; rw [World.size_alloc] at this; have hq := hb.size; rw [World.size_alloc] at hq; omega
  replace B := B.alloc B.size (.cells #[.int .i64 1, .int .i64 F] 42)
  clear hb
  generalize hgw : w1.alloc (.cells #[.int .i64 1, .int .i64 F] 42) = w2 at A0 AE B ⊢
  obtain ⟨be, hbe2⟩ : ∃ be, w1.heap.size = be := ⟨_, rfl⟩
  rw [hbe2] at hbe AE ⊢
  refine (HE.out _).mono ?_
  rintro e w3 ⟨gr, cr, rfl, hrw, hb⟩
  have hlb := AE.lt
  replace A0 := A0.far hb
  replace AE := AE.far hb
  replace hrw := hrw.base B.size
  replace B := B.trans (hb.mono B.size)
  have hl2 := hb.size
  clear hb hgw hbe2
  have HZ : Hid (∀ W : World, Calls Try.prog 83 #[] W fun e w' => e = .returned (.agg #[.int .i64 0, .int .i64 1]) ∧ Below W.heap.size W w') := fun W => zero_any W
  go_wp2_with fail
  refine (HZ.out _).mono ?_
  rintro e w4 ⟨rfl, hb⟩
  replace A0 := (A0.far hb).alloc (.cells #[.int .i64 0, .int .i64 1] 42)
  replace AE := (AE.far hb).alloc (.cells #[.int .i64 0, .int .i64 1] 42)
  have hl3 := hb.size
  have hgl := hrw.lt
  have AS := D2.new w4 (.int .i64 0) (.int .i64 1) 42
  have HRW := (hrw.far hb).far ((Below.refl _ w4).alloc (Nat.le_refl _) (.cells #[.int .i64 0, .int .i64 1] 42))
  replace B := B.trans (hb.mono B.size)
  replace B := B.alloc B.size (.cells #[.int .i64 0, .int .i64 1] 42)
  have HR0 : Hid (∃ bs, w4.heap.size = bs ∧ Rd be bs gr cr n t F 0 w (w4.alloc (.cells #[.int .i64 0, .int .i64 1] 42))) := ⟨_, rfl, ⟨A0, AE, AS⟩, HRW, B, by omega, by omega, by omega⟩
  clear A0 AE AS HRW B hb hl2 hl3 hgl hrw hlb hbe HZ HI HJ HA HM HE
  go_wp2_with fail
  obtain ⟨bs, hbs, HR1⟩ := HR0.out
  rw [hbs]
  clear HR0
  generalize w4.alloc (.cells #[.int .i64 0, .int .i64 1] 42) = w5 at HR1 ⊢
  replace HR1 := Lib.hid HR1
  clear hbs
  go_loopw [9] (fun rv wr => ∃ k : Nat, k ≤ n ∧ rv = .int .i64 ((k : Int) + 1) ∧ Hid (Rd be bs gr cr n t F k w wr)) (fun rv _ => n + 1 - (intOf rv).toNat)
  case atStart => exact ⟨0, Nat.zero_le _, rfl, HR1⟩
  case round =>
    obtain ⟨k, hk, rfl, HR⟩ := hrel
    clear HR1
    by_cases hlt : k < n
    · obtain ⟨r, hr⟩ : ∃ r, k + 1 = r := ⟨_, rfl⟩
      have hri : (k : Int) + 1 = (r : Int) := by omega
      have hrn : r < n + 1 := by omega
      have hr1 : 1 ≤ r := by omega
      obtain ⟨v1, v2, v3, v4, v5, v6, v7⟩ := HFR.out r hrn hr1
      obtain ⟨u1, u2⟩ := HSU.out k hlt
      rw [hr] at u2
      have HC1 : Hid (∀ W : World, Calls Try.prog 77 #[.int .i64 n, .int .i64 r, .int .i64 t] W fun e w' => e = .returned (.agg #[.int .i64 (rfC n t r).1, .int .i64 (rfC n t r).2]) ∧ Below W.heap.size W w') := fun W => chance_any n t r W h1 h2 ht (by omega)
      have HN1 : Hid (∀ W : World, Calls Try.prog 85 #[.agg #[.int .i64 1, .int .i64 F]] W fun e w' => e = .returned (.agg #[.int .i64 (-1), .int .i64 F]) ∧ Below W.heap.size W w') := fun W => fneg7_any 1 F W (by omega) (by omega)
      have HA1 : Hid (∀ W : World, Calls Try.prog 84 #[.agg #[.int .i64 (rfC n t r).1, .int .i64 (rfC n t r).2], .agg #[.int .i64 (-1), .int .i64 F]] W fun e w' => e = .returned (.tuple #[.agg #[.int .i64 (rfE n t r).1, .int .i64 (rfE n t r).2], .bool true]) ∧ Below W.heap.size W w') := fun W => by
        have := fadd_is _ _ _ _ v1 HE3.out v2 W
        rw [← HF.out]
        exact this
      have HN2 : Hid (∀ W : World, Calls Try.prog 85 #[.agg #[.int .i64 (rfE n t r).1, .int .i64 (rfE n t r).2]] W fun e w' => e = .returned (.agg #[.int .i64 (-(rfE n t r).1), .int .i64 (rfE n t r).2]) ∧ Below W.heap.size W w') := fun W => fneg7_any _ _ W v3.2.2.1 v3.2.2.2.1
      have hct : 0 ≤ (cnRow kpR n).getD r 0 ∧ (cnRow kpR n).getD r 0 ≤ 479001600 := ⟨(cnR_in n (by omega) r (by omega)).1, (cnR_in n (by omega) r (by omega)).2.1⟩
      have HM2 : Hid (∀ W : World, Calls Try.prog 82 #[.int .i64 ((cnRow kpR n).getD r 0), .int .i64 2] W fun e w' => e = .returned (.agg #[.int .i64 (rfH n r).1, .int .i64 (rfH n r).2]) ∧ Below W.heap.size W w') := fun W => fmake_any ((cnRow kpR n).getD r 0) 2 W (by omega) (by omega) (by omega) (by omega) (by omega)
      have HP : Hid (∀ W : World, Calls Try.prog 86 #[.agg #[.int .i64 ((rfE n t r).1.natAbs : Nat), .int .i64 (rfE n t r).2], .agg #[.int .i64 (rfH n r).1, .int .i64 (rfH n r).2]] W fun e w' => e = .returned (.tuple #[.agg #[.int .i64 (rfP n t r).1, .int .i64 (rfP n t r).2], .bool true]) ∧ Below W.heap.size W w') := fun W => fmul_is _ _ _ _ v4 v5 v6 W
      have HA2 : Hid (∀ W : World, Calls Try.prog 84 #[.agg #[.int .i64 (rfT n t k).1, .int .i64 (rfT n t k).2], .agg #[.int .i64 (rfP n t r).1, .int .i64 (rfP n t r).2]] W fun e w' => e = .returned (.tuple #[.agg #[.int .i64 (rfT n t r).1, .int .i64 (rfT n t r).2], .bool true]) ∧ Below W.heap.size W w') := fun W => by
        have := fadd_is _ _ _ _ u1 v7 u2 W
        rw [← hr] at this ⊢
        exact this
      obtain ⟨⟨A0, AE, AS⟩, hrw, B, z1, z2, z3⟩ := HR.out
      have hrg := hrw.lt
      have t0 := A0.lt
      have t1 := AE.lt
      have t2 := AS.lt
      obtain ⟨c, hcc⟩ : ∃ c, (cnRow kpR n).getD r 0 = c := ⟨_, rfl⟩
      rw [hcc] at HM2
      have HCC := Lib.hid hcc
      generalize rfC n t r = C at HC1 HA1
      generalize rfE n t r = E at HA1 HN2 HP
      generalize rfH n r = H at HM2 HP
      generalize rfP n t r = P at HP HA2
      rw [hri]
      clear v1 v2 v3 v4 v5 v6 v7 u1 u2 hct HR hcc
      go_wp2
      obtain ⟨q0, q1⟩ := (AE.drew).gr (rw := none) (by simp)
      refine wp_region_mix (none) [0, 1, 2, 3, 4, 5, 6, 7, 8, 9] [10, 11, 12] (by kernel_rfl) (by kernel_rfl) ?_
      simp only [pickOps, List.filterMap_cons, List.filterMap_nil, List.getElem?_toArray, List.getElem?_cons_succ, List.getElem?_cons_zero]
      repeat (refine wpQuietG_step (fun K hK => ?_); go_simp; first | (refine hK _ ?_; clear hK K) | (apply Exists.intro; refine ⟨fun _ => ?_, hK _ ?_⟩; (first | (with_reducible exact HC1.out _) | (with_reducible exact HN1.out _) | (with_reducible exact HA1.out _)); clear hK K))
      refine wpQuietG_nil ?_
      clear q0 q1
      intro W2 hW1 hW2
      go_wp2
      refine ⟨gr_alloc hW1 _, ?_⟩
      intro W3 hW3 hW4
      have A2 := (D2.new W2 (.int .i64 0) (.int .i64 0) 42).far hW4
      obtain ⟨⟨x0, x1⟩, x2, x3⟩ := id A2
      have s3 : wr.heap.size ≤ W2.heap.size := hW1.size
      go_wp2
      refine ⟨gr_put hW3 (.inr s3) _ _, ?_⟩
      intro W4 hW5 hW6
      replace A2 := (A2.put (.int .i64 E.1) (.int .i64 E.2)).far hW6
      clear hW1 hW2 hW3 hW4 hW6 x0 x1 x2 x3
      go_wp2
      try refine ⟨hW5, ?_⟩
      intro W5 hW7 hW8
      replace hW7 := gr_undrew hW7
      replace A2 := A2.far hW8
      replace A0 := A0.grow hW7 (by simp)
      replace AE := AE.grow hW7 (by simp)
      replace AS := AS.grow hW7 (by simp)
      replace hrw := hrw.grown hW7 (by simp)
      replace B := B.grown hW7 B.size (by simp)
      have s4 := AS.lt
      clear hW5 hW7 hW8
      generalize W2.heap.size = g3 at A2 s3 ⊢
      by_cases hneg : E.1 < 0
      · have hab : ((E.1.natAbs : Nat) : Int) = -E.1 := by omega
        rw [hab] at HP
        obtain ⟨⟨x0, x1⟩, x2, x3⟩ := id A2
        go_wp2_with fail
        refine (HN2.out _).mono ?_
        rintro e W6 ⟨rfl, hb⟩
        clear x0 x1 x2 x3
        replace A2 := A2.far hb
        obtain ⟨⟨x0, x1⟩, x2, x3⟩ := id A2
        replace A0 := (A0.far hb).away (show g3 ≠ w.heap.size by omega) (.int .i64 (-E.1)) (.int .i64 E.2)
        replace AE := (AE.far hb).away (show g3 ≠ be by omega) (.int .i64 (-E.1)) (.int .i64 E.2)
        replace AS := (AS.far hb).away (show g3 ≠ bs by omega) (.int .i64 (-E.1)) (.int .i64 E.2)
        replace A2 := A2.put (.int .i64 (-E.1)) (.int .i64 E.2)
        replace hrw := (hrw.far hb).grown (show W6.grownBy (putD W6 g3 (.int .i64 (-E.1)) (.int .i64 E.2)) (some g3) from grow_set (grow_set (World.grownBy.refl _ _) _ _) _ _) (by simp; omega)
        replace B := below_putD (B.trans (hb.mono B.size)) (show w.heap.size ≤ g3 by omega) (.int .i64 (-E.1)) (.int .i64 E.2)
        clear hb
        have HALL := Lib.hid (And.intro A0 (And.intro AE (And.intro AS (And.intro A2 (And.intro hrw B)))))
        clear A0 AE AS A2 hrw B
        go_wp2_with fail
        clear x0 x1 x2 x3
        replace HALL := HALL.out
        unfold putD at HALL
        generalize (W6.setCell ⟨g3, 0, none⟩ (.int .i64 (-E.1))).setCell ⟨g3, 1, none⟩ (.int .i64 E.2) = W at HALL ⊢
        obtain ⟨A0, AE, AS, A2, hrw, B⟩ := HALL
        obtain ⟨s5, s6, s7, s8⟩ : W.heap.size ≤ W.heap.size ∧ g3 < W.heap.size ∧ be < W.heap.size ∧ bs < W.heap.size := ⟨Nat.le_refl _, A2.lt, AE.lt, AS.lt⟩
        have hrg2 := hrw.lt
        have hcell := hrw.cell hrn
        rw [rowT_get hrn, HCC.out] at hcell
        have q4 : ∀ q : GR W.drew none, q.w.cell? ⟨gr, r, none⟩ = some (.int .i64 c) := fun q => gt_cell (W0 := W.drew) hcell ⟨q.w, (Below.refl _ W.drew).grown q.h (Nat.le_refl _) (by simp)⟩
        obtain ⟨q0, q1⟩ := (A2.drew).gr (rw := none) (by simp)
        clear hcell
        go_wp2
        refine wp_region_mix (none) [0, 1, 2, 3, 4, 5, 6, 7, 8, 9] [10, 11, 12] (by kernel_rfl) (by kernel_rfl) ?_
        simp only [pickOps, List.filterMap_cons, List.filterMap_nil, List.getElem?_toArray, List.getElem?_cons_succ, List.getElem?_cons_zero]
        repeat (refine wpQuietG_step (fun K hK => ?_); go_simp; first | (refine hK _ ?_; clear hK K) | (apply Exists.intro; refine ⟨fun _ => ?_, hK _ ?_⟩; (first | (with_reducible exact HM2.out _) | (with_reducible exact HP.out _)); clear hK K))
        refine wpQuietG_nil ?_
        clear q0 q1 q4
        intro V2 hW1 hW2
        go_wp2
        refine ⟨gr_alloc hW1 _, ?_⟩
        intro V3 hW3 hW4
        have A4 := (D2.new V2 (.int .i64 0) (.int .i64 0) 42).far hW4
        obtain ⟨⟨x0, x1⟩, x2, x3⟩ := id A4
        have s9 : W.heap.size ≤ V2.heap.size := hW1.size
        go_wp2
        refine ⟨gr_put hW3 (.inr s9) _ _, ?_⟩
        intro V4 hW5 hW6
        replace A4 := (A4.put (.int .i64 P.1) (.int .i64 P.2)).far hW6
        clear hW1 hW2 hW3 hW4 hW6 x0 x1 x2 x3
        go_wp2
        try refine ⟨hW5, ?_⟩
        intro V5 hW7 hW8
        replace hW7 := gr_undrew hW7
        replace A4 := A4.far hW8
        replace A0 := A0.grow hW7 (by simp)
        replace AE := AE.grow hW7 (by simp)
        replace AS := AS.grow hW7 (by simp)
        replace hrw := hrw.grown hW7 (by simp)
        replace B := B.grown hW7 B.size (by simp)
        clear hW5 hW7 hW8 A2
        generalize V2.heap.size = g5 at A4 s9 ⊢
        obtain ⟨⟨x0, x1⟩, x2, x3⟩ := id AS
        obtain ⟨⟨x4, x5⟩, x6, x7⟩ := id A4
        go_wp2_with fail
        refine (HA2.out _).mono ?_
        rintro e V6 ⟨rfl, hb⟩
        clear x0 x1 x2 x3 x4 x5 x6 x7 A4
        replace A0 := (A0.far hb).alloc (.cells #[.int .i64 (rfT n t r).1, .int .i64 (rfT n t r).2] 42)
        replace AE := (AE.far hb).alloc (.cells #[.int .i64 (rfT n t r).1, .int .i64 (rfT n t r).2] 42)
        replace AS := (AS.far hb).alloc (.cells #[.int .i64 (rfT n t r).1, .int .i64 (rfT n t r).2] 42)
        have A6 := D2.new V6 (.int .i64 (rfT n t r).1) (.int .i64 (rfT n t r).2) 42
        replace hrw := (hrw.far hb).far ((Below.refl _ V6).alloc (Nat.le_refl _) (.cells #[.int .i64 (rfT n t r).1, .int .i64 (rfT n t r).2] 42))
        replace B := B.trans (hb.mono B.size)
        replace B := B.alloc B.size (.cells #[.int .i64 (rfT n t r).1, .int .i64 (rfT n t r).2] 42)
        clear hb
        obtain ⟨⟨x0, x1⟩, x2, x3⟩ := id AS
        obtain ⟨⟨x4, x5⟩, x6, x7⟩ := id A6
        have HX : Hid (Rd be bs gr cr n t F (k + 1) w (putD (V6.alloc (.cells #[.int .i64 (rfT n t r).1, .int .i64 (rfT n t r).2] 42)) bs (.int .i64 (rfT n t r).1) (.int .i64 (rfT n t r).2))) := by
          unfold Hid Rd
          rw [hr]
          exact ⟨⟨A0.away (by omega) _ _, AE.away (by omega) _ _, AS.put _ _⟩, hrw.grown (grow_set (grow_set (World.grownBy.refl _ _) _ _) _ _) (by simp; omega), below_putD B (by omega) _ _, z1, z2, z3⟩
        clear A0 AE AS A6 hrw B
        go_wp2
        go_roundw
        case rel => exact ⟨k + 1, by omega, by first | rfl | go_num, HX⟩
        case measure => first | (simp [intOf]; done) | (simp [intOf]; omega)
      · have hab : ((E.1.natAbs : Nat) : Int) = E.1 := by omega
        rw [hab] at HP
        obtain ⟨⟨x0, x1⟩, x2, x3⟩ := id A2
        go_wp2_with fail
        clear x0 x1 x2 x3
        obtain ⟨W, hWW⟩ : ∃ W, W = W5 := ⟨_, rfl⟩
        rw [← hWW] at A0 AE AS A2 hrw B ⊢
        clear hWW
        obtain ⟨s5, s6, s7, s8⟩ : W.heap.size ≤ W.heap.size ∧ g3 < W.heap.size ∧ be < W.heap.size ∧ bs < W.heap.size := ⟨Nat.le_refl _, A2.lt, AE.lt, AS.lt⟩
        have hrg2 := hrw.lt
        have hcell := hrw.cell hrn
        rw [rowT_get hrn, HCC.out] at hcell
        have q4 : ∀ q : GR W.drew none, q.w.cell? ⟨gr, r, none⟩ = some (.int .i64 c) := fun q => gt_cell (W0 := W.drew) hcell ⟨q.w, (Below.refl _ W.drew).grown q.h (Nat.le_refl _) (by simp)⟩
        obtain ⟨q0, q1⟩ := (A2.drew).gr (rw := none) (by simp)
        clear hcell
        go_wp2
        refine wp_region_mix (none) [0, 1, 2, 3, 4, 5, 6, 7, 8, 9] [10, 11, 12] (by kernel_rfl) (by kernel_rfl) ?_
        simp only [pickOps, List.filterMap_cons, List.filterMap_nil, List.getElem?_toArray, List.getElem?_cons_succ, List.getElem?_cons_zero]
        repeat (refine wpQuietG_step (fun K hK => ?_); go_simp; first | (refine hK _ ?_; clear hK K) | (apply Exists.intro; refine ⟨fun _ => ?_, hK _ ?_⟩; (first | (with_reducible exact HM2.out _) | (with_reducible exact HP.out _)); clear hK K))
        refine wpQuietG_nil ?_
        clear q0 q1 q4
        intro V2 hW1 hW2
        go_wp2
        refine ⟨gr_alloc hW1 _, ?_⟩
        intro V3 hW3 hW4
        have A4 := (D2.new V2 (.int .i64 0) (.int .i64 0) 42).far hW4
        obtain ⟨⟨x0, x1⟩, x2, x3⟩ := id A4
        have s9 : W.heap.size ≤ V2.heap.size := hW1.size
        go_wp2
        refine ⟨gr_put hW3 (.inr s9) _ _, ?_⟩
        intro V4 hW5 hW6
        replace A4 := (A4.put (.int .i64 P.1) (.int .i64 P.2)).far hW6
        clear hW1 hW2 hW3 hW4 hW6 x0 x1 x2 x3
        go_wp2
        try refine ⟨hW5, ?_⟩
        intro V5 hW7 hW8
        replace hW7 := gr_undrew hW7
        replace A4 := A4.far hW8
        replace A0 := A0.grow hW7 (by simp)
        replace AE := AE.grow hW7 (by simp)
        replace AS := AS.grow hW7 (by simp)
        replace hrw := hrw.grown hW7 (by simp)
        replace B := B.grown hW7 B.size (by simp)
        clear hW5 hW7 hW8 A2
        generalize V2.heap.size = g5 at A4 s9 ⊢
        obtain ⟨⟨x0, x1⟩, x2, x3⟩ := id AS
        obtain ⟨⟨x4, x5⟩, x6, x7⟩ := id A4
        go_wp2_with fail
        refine (HA2.out _).mono ?_
        rintro e V6 ⟨rfl, hb⟩
        clear x0 x1 x2 x3 x4 x5 x6 x7 A4
        replace A0 := (A0.far hb).alloc (.cells #[.int .i64 (rfT n t r).1, .int .i64 (rfT n t r).2] 42)
        replace AE := (AE.far hb).alloc (.cells #[.int .i64 (rfT n t r).1, .int .i64 (rfT n t r).2] 42)
        replace AS := (AS.far hb).alloc (.cells #[.int .i64 (rfT n t r).1, .int .i64 (rfT n t r).2] 42)
        have A6 := D2.new V6 (.int .i64 (rfT n t r).1) (.int .i64 (rfT n t r).2) 42
        replace hrw := (hrw.far hb).far ((Below.refl _ V6).alloc (Nat.le_refl _) (.cells #[.int .i64 (rfT n t r).1, .int .i64 (rfT n t r).2] 42))
        replace B := B.trans (hb.mono B.size)
        replace B := B.alloc B.size (.cells #[.int .i64 (rfT n t r).1, .int .i64 (rfT n t r).2] 42)
        clear hb
        obtain ⟨⟨x0, x1⟩, x2, x3⟩ := id AS
        obtain ⟨⟨x4, x5⟩, x6, x7⟩ := id A6
        have HX : Hid (Rd be bs gr cr n t F (k + 1) w (putD (V6.alloc (.cells #[.int .i64 (rfT n t r).1, .int .i64 (rfT n t r).2] 42)) bs (.int .i64 (rfT n t r).1) (.int .i64 (rfT n t r).2))) := by
          unfold Hid Rd
          rw [hr]
          exact ⟨⟨A0.away (by omega) _ _, AE.away (by omega) _ _, AS.put _ _⟩, hrw.grown (grow_set (grow_set (World.grownBy.refl _ _) _ _) _ _) (by simp; omega), below_putD B (by omega) _ _, z1, z2, z3⟩
        clear A0 AE AS A6 hrw B
        go_wp2
        go_roundw
        case rel => exact ⟨k + 1, by omega, by first | rfl | go_num, HX⟩
        case measure => first | (simp [intOf]; done) | (simp [intOf]; omega)
    · obtain rfl : k = n := by omega
      obtain ⟨⟨A0, AE, AS⟩, hrw, B, _⟩ := HR.out
      rw [HEND.out] at AS
      obtain ⟨p0, p1⟩ := (A0.put (.int .i64 (rfR k t).1) (.int .i64 (rfR k t).2)).1
      obtain ⟨⟨x4, x5⟩, x6, x7⟩ := id A0
      obtain ⟨⟨x0, x1⟩, _, _⟩ := id AS
      clear HR
      go_wp2
      unfold putD at p0 p1
      exact bodyPost_ret (v := .tuple #[.agg #[.int .i64 (rfR k t).1, .int .i64 (rfR k t).2], .bool true]) (by simp [results, Try.results45, go_sem, p0, p1]) rfl ⟨rfl, below_putD B (Nat.le_refl _) _ _⟩
theorem dist_no (n t : Int) (w : World) (h : ¬ ((1 ≤ n ∧ n ≤ 8) ∧ 0 ≤ t ∧ t ≤ 5)) :
    Calls Try.prog 46 #[.int .i64 n, .int .i64 t] w fun e w' => e = .returned (.tuple #[.agg #[.int .i64 0, .int .i64 0], .bool false]) ∧ Below w.heap.size w w' := by
  by_cases h1 : 1 ≤ n ∧ n ≤ 8
  · have HI : Hid (∀ W : World, Calls Try.prog 63 #[.int .i64 n, .int .i64 1, .int .i64 8] W fun e w' => e = .returned (.bool true) ∧ W = w') := fun W => btw64_yes _ _ _ W h1.1 h1.2
    have HJ : Hid (∀ W : World, Calls Try.prog 63 #[.int .i64 t, .int .i64 0, .int .i64 5] W fun e w' => e = .returned (.bool false) ∧ W = w') := fun W => btw64_no _ _ _ W (fun y => h ⟨h1, y⟩)
    clear h h1
    go_enter Try.func46, Try.ntmps46
    go_wp2_with (first | (go_at_call 63; with_reducible refine (HI.out _).mono ?_; rintro e w1 ⟨rfl, rfl⟩) | (go_at_call 63; with_reducible refine (HJ.out _).mono ?_; rintro e w1 ⟨rfl, rfl⟩))
    go_returns
    exact ⟨rfl, by go_grown⟩
  · have HI : Hid (∀ W : World, Calls Try.prog 63 #[.int .i64 n, .int .i64 1, .int .i64 8] W fun e w' => e = .returned (.bool false) ∧ W = w') := fun W => btw64_no _ _ _ W h1
    clear h h1
    go_enter Try.func46, Try.ntmps46
    go_wp2_with (go_at_call 63; with_reducible refine (HI.out _).mono ?_; rintro e w1 ⟨rfl, rfl⟩)
    go_returns
    exact ⟨rfl, by go_grown⟩
theorem specDist_no (n t : Int) (w : World) (h : ¬ ((1 ≤ n ∧ n ≤ 8) ∧ 0 ≤ t ∧ t ≤ 5)) :
    Calls Try.prog 45 #[.int .i64 n, .int .i64 t] w fun e w' => e = .returned (.tuple #[.agg #[.int .i64 0, .int .i64 0], .bool false]) ∧ Below w.heap.size w w' := by
  by_cases h1 : 1 ≤ n ∧ n ≤ 8
  · have HI : Hid (∀ W : World, Calls Try.prog 56 #[.int .i64 n, .int .i64 1, .int .i64 8] W fun e w' => e = .returned (.bool true) ∧ W = w') := fun W => l00In_yes _ _ _ W h1.1 h1.2
    have HJ : Hid (∀ W : World, Calls Try.prog 56 #[.int .i64 t, .int .i64 0, .int .i64 5] W fun e w' => e = .returned (.bool false) ∧ W = w') := fun W => l00In_no _ _ _ W (fun y => h ⟨h1, y⟩)
    clear h h1
    go_enter Try.func45, Try.ntmps45
    go_wp2_with (first | (go_at_call 56; with_reducible refine (HI.out _).mono ?_; rintro e w1 ⟨rfl, rfl⟩) | (go_at_call 56; with_reducible refine (HJ.out _).mono ?_; rintro e w1 ⟨rfl, rfl⟩))
    go_returns
    exact ⟨rfl, by go_grown⟩
  · have HI : Hid (∀ W : World, Calls Try.prog 56 #[.int .i64 n, .int .i64 1, .int .i64 8] W fun e w' => e = .returned (.bool false) ∧ W = w') := fun W => l00In_no _ _ _ W h1
    clear h h1
    go_enter Try.func45, Try.ntmps45
    go_wp2_with (go_at_call 56; with_reducible refine (HI.out _).mono ?_; rintro e w1 ⟨rfl, rfl⟩)
    go_returns
    exact ⟨rfl, by go_grown⟩
theorem lawDist_core (n t : Int) (w : World) (a b : Int) (ok : Bool)
    (HS : Hid (∀ W : World, Calls Try.prog 45 #[.int .i64 n, .int .i64 t] W fun e w' => e = .returned (.tuple #[.agg #[.int .i64 a, .int .i64 b], .bool ok]) ∧ Below W.heap.size W w'))
    (HI : Hid (∀ W : World, Calls Try.prog 46 #[.int .i64 n, .int .i64 t] W fun e w' => e = .returned (.tuple #[.agg #[.int .i64 a, .int .i64 b], .bool ok]) ∧ Below W.heap.size W w')) :
    Calls Try.prog 14 #[.int .i64 n, .int .i64 t] w fun e w' => e = .returned (.bool true) ∧ Below w.heap.size w w' := by
  have hok : (ok != ok) = false := by simp
  go_enter Try.func14, Try.ntmps14
  go_wp2_with fail
  refine (HS.out _).mono ?_
  rintro e w1 ⟨rfl, hb1⟩
  have z1 := hb1.size
  go_wp2_with fail
  refine (HI.out _).mono ?_
  rintro e w2 ⟨rfl, hb⟩
  obtain ⟨b2, z2, c2, d2⟩ := keep2 (b := w1.heap.size) (x := .int .i64 a) (y := .int .i64 b) (hb1.alloc hb1.size _) hb hb1.size (by simp) (by simp [go_sem]) (by simp [go_sem])
  clear hb hb1
  go_wp2_with fail
  refine (eqFrac_yes _ _ _).mono ?_
  rintro e w3 ⟨rfl, hb⟩
  go_wp2
  go_ret
  exact ⟨rfl, (b2.alloc (by omega) _).trans (hb.mono (by simp; omega))⟩
theorem lawRiffleDistance (n t : Int) (w : World) :
    Calls Try.prog 14 #[.int .i64 n, .int .i64 t] w fun e w' => e = .returned (.bool true) ∧ Below w.heap.size w w' := by
  by_cases h : (1 ≤ n ∧ n ≤ 8) ∧ 0 ≤ t ∧ t ≤ 5
  · obtain ⟨N, rfl⟩ := Int.eq_ofNat_of_zero_le (show 0 ≤ n by omega)
    obtain ⟨T, rfl⟩ := Int.eq_ofNat_of_zero_le h.2.1
    exact lawDist_core N T w _ _ true (fun W => specDist_yes N T W (by omega) (by omega) (by omega)) (fun W => dist_yes N T W (by omega) (by omega) (by omega))
  · exact lawDist_core n t w 0 0 false (fun W => specDist_no n t W h) (fun W => dist_no n t W h)
end Go.Proofs.Ytjbojamhnapkpab
