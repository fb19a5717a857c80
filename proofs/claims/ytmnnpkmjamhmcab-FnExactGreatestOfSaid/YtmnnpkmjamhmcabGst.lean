/- FrCmp, Gst in one text (tools/merge.py). -/
import Derived.Test.YtmnnpkmjamhmcabFrLaw
import Derived.Test.YtmnnpkmjamhmcabLawJ
import Derived.Test.YtmnnpkmjamhmcabCmp
namespace Go.Proofs.Ytmnnpkmjamhmcab
open Go.RowKit Go.PlainAid
set_option maxHeartbeats 800000

theorem less_dec (X Y : Int) (w : World) (hX : Nat126 X) (hY : Nat126 Y) :
    Calls Try.prog 145 #[.agg #[.int .u64 (hiU X), .int .u64 (loU X)], .agg #[.int .u64 (hiU Y), .int .u64 (loU Y)]] w fun e w' => e = .returned (.bool (decide (X < Y))) ∧ Below w.heap.size w w' := by
  by_cases h : X < Y
  · rw [show decide (X < Y) = true by simp [h]]; exact less_yes X Y w hX hY h
  · rw [show decide (X < Y) = false by simp; omega]; exact less_no X Y w hX hY h

theorem fcmp_core (fn fd gn gd A B' xh xl yh yl r : Int) (s p q : Bool) (w : World) (d1 : decide (fn < 0) = s) (d2 : decide (gn < 0) = s) (f1 : -1000000000000000000 ≤ fn) (f2 : fn ≤ 1000000000000000000) (g1 : -1000000000000000000 ≤ gn) (g2 : gn ≤ 1000000000000000000)
    (hr : Hid (r = if q then 1 else if p then -1 else 0)) (r1 : -1 ≤ r) (r2 : r ≤ 1)
    (M1 : Hid (∀ W : World, Calls Try.prog 65 #[.int .i64 fn, .int .i64 (-fn)] W fun e w' => e = .returned (.int .i64 A) ∧ Below W.heap.size W w'))
    (M2 : Hid (∀ W : World, Calls Try.prog 144 #[.int .i64 A, .int .i64 gd] W fun e w' => e = .returned (.agg #[.int .u64 xh, .int .u64 xl]) ∧ Below W.heap.size W w'))
    (M3 : Hid (∀ W : World, Calls Try.prog 65 #[.int .i64 gn, .int .i64 (-gn)] W fun e w' => e = .returned (.int .i64 B') ∧ Below W.heap.size W w'))
    (M4 : Hid (∀ W : World, Calls Try.prog 144 #[.int .i64 B', .int .i64 fd] W fun e w' => e = .returned (.agg #[.int .u64 yh, .int .u64 yl]) ∧ Below W.heap.size W w'))
    (L1 : Hid (∀ W : World, Calls Try.prog 145 #[.agg #[.int .u64 xh, .int .u64 xl], .agg #[.int .u64 yh, .int .u64 yl]] W fun e w' => e = .returned (.bool p) ∧ Below W.heap.size W w'))
    (L2 : Hid (∀ W : World, Calls Try.prog 145 #[.agg #[.int .u64 yh, .int .u64 yl], .agg #[.int .u64 xh, .int .u64 xl]] W fun e w' => e = .returned (.bool q) ∧ Below W.heap.size W w')) :
    Calls Try.prog 89 #[.agg #[.int .i64 fn, .int .i64 fd], .agg #[.int .i64 gn, .int .i64 gd]] w fun e w' => e = .returned (.int .i64 (if s then -r else r)) ∧ Below w.heap.size w w' := by
  have n1 : IntKind.i64.wrap (-fn) = -fn := IntWalk.i64_in _ (by omega)
  have n2 : IntKind.i64.wrap (-gn) = -gn := IntWalk.i64_in _ (by omega)
  have n3 : IntKind.i64.wrap (-r) = -r := IntWalk.i64_in _ (by omega)
  clear f1 f2 g1 g2 r1 r2
  go_enter Try.func89, Try.ntmps89
  have A0 := (D2.new w (.int .i64 fn) (.int .i64 fd) 27).alloc (.cells #[.int .i64 gn, .int .i64 gd] 27)
  have A1 := D2.new (w.alloc (.cells #[.int .i64 fn, .int .i64 fd] 27)) (.int .i64 gn) (.int .i64 gd) 27
  have B : Below w.heap.size w ((w.alloc (.cells #[.int .i64 fn, .int .i64 fd] 27)).alloc (.cells #[.int .i64 gn, .int .i64 gd] 27)) := ((Below.refl _ w).alloc (Nat.le_refl _) _).alloc (by simp) _
  simp only [World.size_alloc] at A1
  obtain ⟨⟨x0, x1⟩, _, _⟩ := id A0
  obtain ⟨⟨x2, x3⟩, _, _⟩ := id A1
  cases s
  all_goals
    go_wp2_with fail
    clear x0 x1 x2 x3
    generalize ((w.alloc (.cells #[.int .i64 fn, .int .i64 fd] 27)).alloc (.cells #[.int .i64 gn, .int .i64 gd] 27)) = w1 at A0 A1 B ⊢
    obtain ⟨q0, q1⟩ := (A0.drew).gr (rw := none) (by simp)
    obtain ⟨q2, q3⟩ := (A1.drew).gr (rw := none) (by simp)
    refine wp_region_mix (none) [0, 1, 2, 3, 4, 5, 6, 7, 8] [9, 10] (by kernel_rfl) (by kernel_rfl) ?_
    simp only [pickOps, List.filterMap_cons, List.filterMap_nil, List.getElem?_toArray, List.getElem?_cons_succ, List.getElem?_cons_zero]
    repeat (refine wpQuietG_step (fun K hK => ?_); go_simp; first | (refine hK _ ?_; clear hK K) | (apply Exists.intro; refine ⟨fun _ => ?_, hK _ ?_⟩; (first | (with_reducible exact M1.out _) | (with_reducible exact M2.out _)); clear hK K))
    refine wpQuietG_nil ?_
    clear q0 q1 q2 q3 M1 M2
    intro W2 hW1 hW2
    go_wp2
    refine ⟨gr_alloc hW1 _, ?_⟩
    intro W3 hW3 hW4
    have A3 := (D2.new W2 (.int .u64 0) (.int .u64 0) 189).far hW4
    obtain ⟨⟨x0, x1⟩, x2, x3⟩ := id A3
    have s3 : w1.heap.size ≤ W2.heap.size := hW1.size
    go_wp2
    refine ⟨gr_put hW3 (.inr s3) _ _, ?_⟩
    intro W4 hW5 hW6
    replace hW5 := gr_undrew hW5
    replace A3 := (A3.put (.int .u64 xh) (.int .u64 xl)).far hW6
    replace A0 := A0.grow hW5 (by simp)
    replace A1 := A1.grow hW5 (by simp)
    replace B := B.grown hW5 B.size (by simp)
    clear hW1 hW2 hW3 hW4 hW5 hW6 x0 x1 x2 x3 s3
    generalize W2.heap.size = g3 at A3 ⊢
    go_wp2_with fail
    obtain ⟨q0, q1⟩ := (A0.drew).gr (rw := none) (by simp)
    obtain ⟨q2, q3⟩ := (A1.drew).gr (rw := none) (by simp)
    refine wp_region_mix (none) [0, 1, 2, 3, 4, 5, 6, 7, 8] [9, 10] (by kernel_rfl) (by kernel_rfl) ?_
    simp only [pickOps, List.filterMap_cons, List.filterMap_nil, List.getElem?_toArray, List.getElem?_cons_succ, List.getElem?_cons_zero]
    repeat (refine wpQuietG_step (fun K hK => ?_); go_simp; first | (refine hK _ ?_; clear hK K) | (apply Exists.intro; refine ⟨fun _ => ?_, hK _ ?_⟩; (first | (with_reducible exact M3.out _) | (with_reducible exact M4.out _)); clear hK K))
    refine wpQuietG_nil ?_
    clear q0 q1 q2 q3 M3 M4
    intro W5 hW1 hW2
    go_wp2
    refine ⟨gr_alloc hW1 _, ?_⟩
    intro W6 hW3 hW4
    have A4 := (D2.new W5 (.int .u64 0) (.int .u64 0) 189).far hW4
    obtain ⟨⟨x0, x1⟩, x2, x3⟩ := id A4
    have s3 : W4.heap.size ≤ W5.heap.size := hW1.size
    go_wp2
    refine ⟨gr_put hW3 (.inr s3) _ _, ?_⟩
    intro W7 hW5 hW6
    replace hW5 := gr_undrew hW5
    replace A4 := (A4.put (.int .u64 yh) (.int .u64 yl)).far hW6
    replace A0 := A0.grow hW5 (by simp)
    replace A3 := A3.grow hW5 (by simp)
    replace B := B.grown hW5 B.size (by simp)
    clear hW1 hW2 hW3 hW4 hW5 hW6 x0 x1 x2 x3 s3 A1
    generalize W5.heap.size = g4 at A4 ⊢
    obtain ⟨⟨x0, x1⟩, _, _⟩ := id A3
    obtain ⟨⟨x2, x3⟩, _, _⟩ := id A4
    go_wp2_with fail
    refine (L1.out _).mono ?_
    rintro e w8 ⟨rfl, hb⟩
    replace A0 := A0.far hb
    replace A3 := A3.far hb
    replace A4 := A4.far hb
    replace B := B.trans (hb.mono B.size)
    clear hb x0 x1 x2 x3 L1
    obtain ⟨⟨x0, x1⟩, _, _⟩ := id A3
    obtain ⟨⟨x2, x3⟩, _, _⟩ := id A4
    cases p
    all_goals
      go_wp2_with fail
      refine (L2.out _).mono ?_
      rintro e w9 ⟨rfl, hb⟩
      replace A0 := A0.far hb
      replace B := B.trans (hb.mono B.size)
      clear hb x0 x1 x2 x3 A3 A4 L2
      obtain ⟨⟨x0, x1⟩, _, _⟩ := id A0
      cases q
      all_goals
        have hr2 := hr.out
        simp only [Bool.false_eq_true, if_true, if_false] at hr2
        subst hr2
        go_wp2
        go_ret
        exact ⟨rfl, B⟩

theorem fcmp_any (fn fd gn gd : Int) (w : World) (hf : VF fn fd) (hg : VF gn gd) :
    Calls Try.prog 89 #[.agg #[.int .i64 fn, .int .i64 fd], .agg #[.int .i64 gn, .int .i64 gd]] w fun e w' => e = .returned (.int .i64 (sgn (fn * gd + -gn * fd))) ∧ Below w.heap.size w w' := by
  obtain ⟨⟨f1, f2, f3, f4⟩, _⟩ := hf.out
  obtain ⟨⟨g1, g2, g3, g4⟩, _⟩ := hg.out
  obtain ⟨k1, k2⟩ := abs_mul fn gd g1
  obtain ⟨k3, k4⟩ := abs_mul gn fd f1
  obtain ⟨X, hX⟩ : ∃ X, ((fn.natAbs : Nat) : Int) * gd = X := ⟨_, rfl⟩
  obtain ⟨Y, hY⟩ : ∃ X, ((gn.natAbs : Nat) : Int) * fd = X := ⟨_, rfl⟩
  have px := prod60 (fn.natAbs : Nat) gd (by omega) (by omega) (by omega) g2
  have py := prod60 (gn.natAbs : Nat) fd (by omega) (by omega) (by omega) f2
  have p0x : 0 ≤ ((fn.natAbs : Nat) : Int) * gd := Int.mul_nonneg (by omega) (by omega)
  have p0y : 0 ≤ ((gn.natAbs : Nat) : Int) * fd := Int.mul_nonneg (by omega) (by omega)
  by_cases hs : fn < 0 ↔ gn < 0
  · have HM1 : Hid (∀ W : World, Calls Try.prog 65 #[.int .i64 fn, .int .i64 (-fn)] W fun e w' => e = .returned (.int .i64 (fn.natAbs : Nat)) ∧ Below W.heap.size W w') := fun W => (l00Max_abs fn W (by omega) (by omega)).mono fun _ _ ⟨h1, h2⟩ => ⟨h1, by rw [← h2]; exact Below.refl _ _⟩
    have HM3 : Hid (∀ W : World, Calls Try.prog 65 #[.int .i64 gn, .int .i64 (-gn)] W fun e w' => e = .returned (.int .i64 (gn.natAbs : Nat)) ∧ Below W.heap.size W w') := fun W => (l00Max_abs gn W (by omega) (by omega)).mono fun _ _ ⟨h1, h2⟩ => ⟨h1, by rw [← h2]; exact Below.refl _ _⟩
    have d2 : decide (gn < 0) = decide (fn < 0) := by simp [hs]
    refine (fcmp_core fn fd gn gd _ _ (hiU X) (loU X) (hiU Y) (loU Y) (if decide (Y < X) then 1 else if decide (X < Y) then -1 else 0) (decide (fn < 0)) (decide (X < Y)) (decide (Y < X)) w rfl d2 f3 f4 g3 g4 rfl ?_ ?_ HM1 ?_ HM3 ?_ ?_ ?_).mono ?_
    · split <;> (try split) <;> omega
    · split <;> (try split) <;> omega
    · intro W; rw [← hX]; exact times_any _ _ W (by omega) (by omega) (by omega) (by omega)
    · intro W; rw [← hY]; exact times_any _ _ W (by omega) (by omega) (by omega) (by omega)
    · intro W; exact less_dec X Y W ⟨by omega, by omega⟩ ⟨by omega, by omega⟩
    · intro W; exact less_dec Y X W ⟨by omega, by omega⟩ ⟨by omega, by omega⟩
    · rintro e w' ⟨rfl, hb⟩
      refine ⟨?_, hb⟩
      rw [hX] at k1 k2
      rw [hY] at k3 k4
      congr 2
      rw [Int.neg_mul]
      unfold sgn
      by_cases h1 : fn < 0
      · have h2 : gn < 0 := hs.1 h1
        rw [k1 h1, k3 h2]
        simp only [h1, decide_true, if_true, decide_eq_true_eq]
        split <;> split <;> (try split) <;> omega
      · have h2 : ¬ gn < 0 := fun x => h1 (hs.2 x)
        rw [k2 h1, k4 h2]
        simp only [h1, decide_false, Bool.false_eq_true, if_false, decide_eq_true_eq]
        split <;> (try split) <;> (try split) <;> omega
  · rw [hX] at k1 k2 p0x
    rw [hY] at k3 k4 p0y
    by_cases h1 : fn < 0
    · have h2 : ¬ gn < 0 := fun x => hs ⟨fun _ => x, fun _ => h1⟩
      have HS : Hid (sgn (fn * gd + -gn * fd) = -1) := by
        unfold Hid
        have : fn * gd < 0 := Int.mul_neg_of_neg_of_pos h1 (by omega)
        rw [Int.neg_mul, k4 h2]
        unfold sgn
        rw [if_pos (by omega)]
      clear k1 k2 k3 k4 hs px py p0x p0y hX hY f1 f2 f3 f4 g1 g2 g3 g4 hf hg
      go_enter Try.func89, Try.ntmps89
      have A0 := (D2.new w (.int .i64 fn) (.int .i64 fd) 27).alloc (.cells #[.int .i64 gn, .int .i64 gd] 27)
      have A1 := D2.new (w.alloc (.cells #[.int .i64 fn, .int .i64 fd] 27)) (.int .i64 gn) (.int .i64 gd) 27
      have B : Below w.heap.size w ((w.alloc (.cells #[.int .i64 fn, .int .i64 fd] 27)).alloc (.cells #[.int .i64 gn, .int .i64 gd] 27)) := ((Below.refl _ w).alloc (Nat.le_refl _) _).alloc (by simp) _
      simp only [World.size_alloc] at A1
      obtain ⟨⟨x0, x1⟩, _, _⟩ := id A0
      obtain ⟨⟨x2, x3⟩, _, _⟩ := id A1
      go_wp2
      go_ret
      exact ⟨by rw [HS.out]; rfl, B⟩
    · have h2 : gn < 0 := by
        by_cases x : gn < 0
        · exact x
        · exact absurd ⟨fun y => absurd y h1, fun y => absurd y x⟩ hs
      have HS : Hid (sgn (fn * gd + -gn * fd) = 1) := by
        unfold Hid
        have : 0 < -gn * fd := Int.mul_pos (by omega) (by omega)
        rw [k2 h1]
        unfold sgn
        rw [if_neg (by omega), if_neg (by omega)]
      clear k1 k2 k3 k4 hs px py p0x p0y hX hY f1 f2 f3 f4 g1 g2 g3 g4 hf hg
      go_enter Try.func89, Try.ntmps89
      have A0 := (D2.new w (.int .i64 fn) (.int .i64 fd) 27).alloc (.cells #[.int .i64 gn, .int .i64 gd] 27)
      have A1 := D2.new (w.alloc (.cells #[.int .i64 fn, .int .i64 fd] 27)) (.int .i64 gn) (.int .i64 gd) 27
      have B : Below w.heap.size w ((w.alloc (.cells #[.int .i64 fn, .int .i64 fd] 27)).alloc (.cells #[.int .i64 gn, .int .i64 gd] 27)) := ((Below.refl _ w).alloc (Nat.le_refl _) _).alloc (by simp) _
      simp only [World.size_alloc] at A1
      obtain ⟨⟨x0, x1⟩, _, _⟩ := id A0
      obtain ⟨⟨x2, x3⟩, _, _⟩ := id A1
      go_wp2
      go_ret
      exact ⟨by rw [HS.out]; rfl, B⟩
end Go.Proofs.Ytmnnpkmjamhmcab

namespace Go.Proofs.Ytmnnpkmjamhmcab
open Go.RowKit Go.PlainAid
set_option maxHeartbeats 1600000
set_option maxRecDepth 20000

/-- the greatest of the first fractions -/
def bst (xs : List (Int × Int)) : Nat → Int × Int
  | 0 => xs.getD 0 (0, 1)
  | k + 1 => if 0 < sgn ((xs.getD (k + 1) (0, 1)).1 * (bst xs k).2 + -(bst xs k).1 * (xs.getD (k + 1) (0, 1)).2) then xs.getD (k + 1) (0, 1) else bst xs k
theorem bst_vf {xs : List (Int × Int)} (h : AllVF xs) : ∀ k, k < xs.length → VF (bst xs k).1 (bst xs k).2 := by
  intro k
  induction k with
  | zero =>
    intro hk
    unfold bst
    rw [List.getD_eq_getElem?_getD, List.getElem?_eq_getElem hk, Option.getD_some]
    exact h _ (List.getElem_mem hk)
  | succ k ih =>
    intro hk
    unfold bst
    split
    · rw [List.getD_eq_getElem?_getD, List.getElem?_eq_getElem hk, Option.getD_some]
      exact h _ (List.getElem_mem hk)
    · exact ih (by omega)
theorem src_long {xs : List (Int × Int)} {m : Nat} (h : SrcB xs m) (h0 : 0 < m) : 1 ≤ xs.length ∧ xs.length ≤ 16 ∧ AllVF xs := by
  rcases h with ⟨_, _, _, hc⟩ | ⟨rfl, _⟩
  · exact ⟨hc.1, hc.2.1, hc.2.2.1⟩
  · omega
def grN (xs : List (Int × Int)) (m : Nat) : Int × Int := if 0 < m then bst xs (xs.length - 1) else (0, 0)
theorem FIn.val {w : World} {b o n : Nat} {xs : List (Int × Int)} (h : FIn w (some ⟨b, o, none⟩) n xs) {k : Nat} (hk : k < n) : ∃ x y : Int, xs.getD k (0, 1) = (x, y) ∧ xs[k]? = some (x, y) ∧ w.cell? ⟨b, o + k * 2, none⟩ = some (.int .i64 x) ∧ w.cell? ⟨b, o + k * 2 + 1, none⟩ = some (.int .i64 y) ∧
    (⟨b, o, none⟩ : Addr).add (k * 2) = ⟨b, o + k * 2, none⟩ := by
  obtain ⟨b', o', x, y, e, h1, h2, h3, h4⟩ := h.at hk
  cases e
  exact ⟨x, y, by rw [List.getD_eq_getElem?_getD, h1]; rfl, h1, h2, h3, h4⟩
theorem FIn.block {w : World} {a : Option Addr} {n : Nat} {xs : List (Int × Int)} (h : FIn w a n xs) (hn : 1 ≤ n) : ∃ b o : Nat, a = some ⟨b, o, none⟩ := by
  obtain ⟨b', o', x, y, e, _⟩ := h.at (k := 0) (by omega)
  exact ⟨b', o', e⟩
theorem specGr_any (a : Option Addr) (n cap : Nat) (xs : List (Int × Int)) (m : Nat) (w : World) (hx : FIn w a n xs) (hn : n ≤ 1048576) (hm : SrcB xs m) :
    Calls Try.prog 44 #[.slice a n cap] w fun e w' => e = .returned (.tuple #[.agg #[.int .i64 (grN xs m).1, .int .i64 (grN xs m).2], .bool (decide (0 < m))]) ∧ Below w.heap.size w w' := by
  have HX := Lib.hid hx
  have HM := Lib.hid hm
  have hl := hx.1
  obtain ⟨⟨N0, D0⟩, hR⟩ : ∃ p, grN xs m = p := ⟨_, rfl⟩
  obtain ⟨rb, hrb⟩ : ∃ rb, decide (0 < m) = rb := ⟨_, rfl⟩
  rw [hR, hrb]
  show Calls _ _ _ _ fun e w' => e = .returned (.tuple #[.agg #[.int .i64 N0, .int .i64 D0], .bool rb]) ∧ Below w.heap.size w w'
  have HR := Lib.hid hR
  have HRB := Lib.hid hrb
  clear hx hm hR hrb
  have A0 := D2.new w (.int .i64 0) (.int .i64 0) 27
  have B : Below w.heap.size w (w.alloc (.cells #[.int .i64 0, .int .i64 0] 27)) := (Below.refl _ w).alloc (Nat.le_refl _) _
  go_enter Try.func44, Try.ntmps44
  go_wp2_with fail
  generalize w.alloc (.cells #[.int .i64 0, .int .i64 0] 27) = w1 at A0 B ⊢
  refine (bits_any a n cap xs w1 (HX.out.far B) hn).mono ?_
  rintro e w2 ⟨m', rfl, hm', hb⟩
  obtain rfl : m = m' := HM.out.uniq hm'
  replace A0 := A0.far hb
  replace B := B.trans (hb.mono B.size)
  clear hb hm'
  rcases Nat.eq_zero_or_pos m with h0 | h0
  · subst h0
    obtain rfl : rb = false := HRB.out.symm
    obtain ⟨rfl, rfl⟩ : 0 = N0 ∧ 0 = D0 := Prod.mk.inj (show ((0 : Int), (0 : Int)) = (N0, D0) from HR.out)
    obtain ⟨p0, p1⟩ := (A0.put (.int .i64 0) (.int .i64 0)).1
    obtain ⟨⟨x4, x5⟩, x6, x7⟩ := id A0
    go_wp2
    unfold putD at p0 p1
    exact bodyPost_ret (v := .tuple #[.agg #[.int .i64 0, .int .i64 0], .bool false]) (by simp [results, Try.results44, go_sem, p0, p1]) rfl ⟨rfl, below_putD B (Nat.le_refl _) _ _⟩
  obtain ⟨l1, l2, hall⟩ := src_long HM.out h0
  have HV : Hid (∀ k, k < n → VF (bst xs k).1 (bst xs k).2) := fun k hk => bst_vf hall k (by omega)
  have HA := Lib.hid hall
  have HRR : Hid (bst xs (n - 1) = (N0, D0)) := by
    have := HR.out
    unfold grN at this
    rwa [if_pos h0, hl] at this
  obtain rfl : rb = true := HRB.out.symm.trans (decide_eq_true h0)
  have hm0 : ((m : Int) == 0) = false := by simp; omega
  have h1 : 1 ≤ n := by omega
  have h16 : n ≤ 16 := by omega
  clear hall h0 HM HR HRB
  obtain ⟨b', o, rfl⟩ := (HX.out).block h1
  obtain ⟨x, y, hg, _, c0, c1, hadd⟩ := (HX.out.far B).val (k := 0) (by omega)
  simp only [Nat.zero_mul, Nat.add_zero] at c0 c1 hadd
  have lt0 := A0.lt
  have P1 := Lib.hid (D2.new w2 (.int .i64 x) (.int .i64 y) 27)
  have P0 := Lib.hid (A0.alloc (.cells #[.int .i64 x, .int .i64 y] 27))
  have PB := Lib.hid (B.alloc B.size (.cells #[.int .i64 x, .int .i64 y] 27))
  have HG : Hid (bst xs 0 = (x, y)) := hg
  clear hg A0 B
  go_wp2
  go_loopw [5] (fun i wr => ∃ (k q : Nat) (N D : Int), Hid (k = q + 1) ∧ k ≤ n ∧ i = .int .i64 k ∧ Hid (bst xs q = (N, D)) ∧ D2 wr w.heap.size (.int .i64 0) (.int .i64 0) ∧ D2 wr w2.heap.size (.int .i64 N) (.int .i64 D) ∧ Below w.heap.size w wr) (fun i _ => n - (intOf i).toNat)
  case atStart => exact ⟨1, 0, x, y, rfl, h1, rfl, HG, P0.out, P1.out, PB.out⟩
  case round =>
    clear P0 P1 PB HG c0 c1 hadd
    obtain ⟨k, q, N, D, hkq, hk, rfl, HB, A0, A1, B⟩ := hrel
    by_cases hlt : k < n
    · obtain ⟨x, y, hg, hxy, c0, c1, hadd⟩ := (HX.out.far B).val hlt
      have hv : VF N D := by have := HV.out q (by have := hkq.out; omega); rwa [HB.out] at this
      have hvf : VF x y := HA.out (x, y) (List.mem_of_getElem? hxy)
      have hb : bst xs (q + 1) = if 0 < sgn (x * D + -N * y) then (x, y) else (N, D) := by
        show (if _ then _ else _) = _
        rw [← hkq.out, hg, HB.out]
      have HC := Lib.hid (fun W => fcmp_any x y N D W hvf hv)
      obtain ⟨c, hc⟩ : ∃ c, sgn (x * D + -N * y) = c := ⟨_, rfl⟩
      rw [hc] at HC hb
      have q4 : ∀ q : GR wr.drew none, q.w.cell? ⟨b', o + k * 2, none⟩ = some (.int .i64 x) := fun q => gt_cell (W0 := wr.drew) c0 ⟨q.w, (Below.refl _ wr.drew).grown q.h (Nat.le_refl _) (by simp)⟩
      have q5 : ∀ q : GR wr.drew none, q.w.cell? ⟨b', o + k * 2 + 1, none⟩ = some (.int .i64 y) := fun q => gt_cell (W0 := wr.drew) c1 ⟨q.w, (Below.refl _ wr.drew).grown q.h (Nat.le_refl _) (by simp)⟩
      have HXY := Lib.hid hxy
      clear hxy hvf hv hc c0 c1 hg
      obtain ⟨q0, q1⟩ := (A1.drew).gr (rw := none) (by simp)
      go_wp2
      refine wp_region_mix (none) [0, 1, 2, 3, 4, 5] [6] (by kernel_rfl) (by kernel_rfl) ?_
      simp only [pickOps, List.filterMap_cons, List.filterMap_nil, List.getElem?_toArray, List.getElem?_cons_succ, List.getElem?_cons_zero]
      repeat (refine wpQuietG_step (fun K hK => ?_); go_simp; first | (refine hK _ ?_; clear hK K) | (apply Exists.intro; refine ⟨fun _ => ?_, hK _ ?_⟩; (first | (with_reducible exact HC.out _)); clear hK K))
      refine wpQuietG_nil ?_
      clear q0 q1 q4 q5 HC
      intro W2 hW1 hW2
      go_wp2
      try refine ⟨hW1, ?_⟩
      intro W3 hW3 hW4
      replace hW3 := gr_undrew hW3
      replace A0 := A0.grow hW3 (by simp)
      replace A1 := A1.grow hW3 (by simp)
      replace B := B.grown hW3 B.size (by simp)
      clear hW1 hW2 hW3 hW4 hadd
      by_cases hc : 0 < c
      · rw [if_pos hc] at hb
        have HB2 : Hid (bst xs k = (x, y)) := by rw [hkq.out]; exact hb
        obtain ⟨x', y', _, hxy', c0, c1, hadd⟩ := (HX.out.far B).val hlt
        rw [HXY.out] at hxy'
        cases hxy'
        have P0 := Lib.hid (A0.away (show w2.heap.size ≠ w.heap.size by omega) (.int .i64 x) (.int .i64 y))
        have P1 := Lib.hid (A1.put (.int .i64 x) (.int .i64 y))
        have PB := Lib.hid (below_putD B (show w.heap.size ≤ w2.heap.size by omega) (.int .i64 x) (.int .i64 y))
        obtain ⟨⟨x0, x1⟩, x2, x3⟩ := id A1
        clear hb A0 A1 B
        go_wp2
        go_roundw
        case rel => exact ⟨k + 1, k, x, y, rfl, by omega, by go_num, HB2, P0.out, P1.out, PB.out⟩
        case measure => first | (simp [intOf]; done) | (simp [intOf]; omega)
      · rw [if_neg hc] at hb
        have HB2 : Hid (bst xs k = (N, D)) := by rw [hkq.out]; exact hb
        have P0 := Lib.hid A0
        have P1 := Lib.hid A1
        have PB := Lib.hid B
        clear hb A0 A1 B
        go_wp2
        go_roundw
        case rel => exact ⟨k + 1, k, N, D, rfl, by omega, by go_num, HB2, P0.out, P1.out, PB.out⟩
        case measure => first | (simp [intOf]; done) | (simp [intOf]; omega)
    · obtain rfl : k = n := by omega
      obtain ⟨rfl, rfl⟩ : N = N0 ∧ D = D0 := by
        have h1 := HB.out
        rw [show q = k - 1 by have := hkq.out; omega, HRR.out] at h1
        cases h1
        exact ⟨rfl, rfl⟩
      obtain ⟨p0, p1⟩ := (A0.put (.int .i64 N) (.int .i64 D)).1
      obtain ⟨⟨x4, x5⟩, x6, x7⟩ := id A0
      obtain ⟨⟨x0, x1⟩, _, _⟩ := id A1
      go_wp2
      unfold putD at p0 p1
      exact bodyPost_ret (v := .tuple #[.agg #[.int .i64 N, .int .i64 D], .bool true]) (by simp [results, Try.results44, go_sem, p0, p1]) rfl ⟨rfl, below_putD B (Nat.le_refl _) _ _⟩
theorem clo_any (fn fd gn gd : Int) (w : World) (hf : VF fn fd) (hg : VF gn gd) :
    Calls Try.prog 92 #[.agg #[.int .i64 fn, .int .i64 fd], .agg #[.int .i64 gn, .int .i64 gd]] w fun e w' => e = .returned (.int .i64 (sgn (fn * gd + -gn * fd))) ∧ Below w.heap.size w w' := by
  have HC := Lib.hid (fun W => compare_yes fn fd gn gd W hf hg)
  obtain ⟨c, hc⟩ : ∃ c, sgn (fn * gd + -gn * fd) = c := ⟨_, rfl⟩
  rw [hc] at HC ⊢
  clear hc hf hg
  have A0 := (D2.new w (.int .i64 fn) (.int .i64 fd) 27).alloc (.cells #[.int .i64 gn, .int .i64 gd] 27)
  have A1 := D2.new (w.alloc (.cells #[.int .i64 fn, .int .i64 fd] 27)) (.int .i64 gn) (.int .i64 gd) 27
  have B : Below w.heap.size w ((w.alloc (.cells #[.int .i64 fn, .int .i64 fd] 27)).alloc (.cells #[.int .i64 gn, .int .i64 gd] 27)) := ((Below.refl _ w).alloc (Nat.le_refl _) _).alloc (by simp) _
  simp only [World.size_alloc] at A1
  obtain ⟨⟨x0, x1⟩, _, _⟩ := id A0
  obtain ⟨⟨x2, x3⟩, _, _⟩ := id A1
  go_enter Try.func92, Try.ntmps92
  go_wp2_with fail
  refine (HC.out _).mono ?_
  rintro e w3 ⟨rfl, hb⟩
  go_wp2
  go_ret
  exact ⟨rfl, B.trans (hb.mono B.size)⟩
theorem maxF_any (a : Option Addr) (n cap : Nat) (xs : List (Int × Int)) (N0 D0 : Int) (w : World) (hx : FIn w a n xs) (h1 : 1 ≤ n) (h16 : n ≤ 16) (hall : AllVF xs) (hr : bst xs (n - 1) = (N0, D0)) :
    Calls Try.prog 91 #[.slice a n cap, .func (Fn.func 92) #[] #[]] w fun e w' => e = .returned (.agg #[.int .i64 N0, .int .i64 D0]) ∧ Below w.heap.size w w' := by
  have HX := Lib.hid hx
  have hl := hx.1
  have HRR := Lib.hid hr
  have HV : Hid (∀ k, k < n → VF (bst xs k).1 (bst xs k).2) := fun k hk => bst_vf hall k (by omega)
  have HA := Lib.hid hall
  clear hx hr hall
  obtain ⟨b', o, rfl⟩ := (HX.out).block h1
  have A0 := D2.new w (.int .i64 0) (.int .i64 0) 27
  have B : Below w.heap.size w (w.alloc (.cells #[.int .i64 0, .int .i64 0] 27)) := (Below.refl _ w).alloc (Nat.le_refl _) _
  go_enter Try.func91, Try.ntmps91
  obtain ⟨w2, hw2⟩ : ∃ w2, w.alloc (.cells #[.int .i64 0, .int .i64 0] 27) = w2 := ⟨_, rfl⟩
  have hsz : w2.heap.size = w.heap.size + 1 := by rw [← hw2]; simp
  rw [hw2] at A0 B
  obtain ⟨x, y, hg, _, c0, c1, hadd⟩ := (HX.out.far B).val (k := 0) (by omega)
  simp only [Nat.zero_mul, Nat.add_zero] at c0 c1 hadd
  have lt0 := A0.lt
  have P1 := Lib.hid (D2.new w2 (.int .i64 x) (.int .i64 y) 27)
  have P0 := Lib.hid (A0.alloc (.cells #[.int .i64 x, .int .i64 y] 27))
  have PB := Lib.hid (B.alloc B.size (.cells #[.int .i64 x, .int .i64 y] 27))
  have HG : Hid (bst xs 0 = (x, y)) := hg
  have HW2 := Lib.hid hw2
  clear hg A0 B hsz hw2
  go_upto_region 1 with fail
  rw [HW2.out]
  go_wp2
  go_loopw [6] (fun i wr => ∃ (k q : Nat) (N D : Int), Hid (k = q + 1) ∧ k ≤ n ∧ i = .int .i64 k ∧ Hid (bst xs q = (N, D)) ∧ D2 wr w.heap.size (.int .i64 0) (.int .i64 0) ∧ D2 wr w2.heap.size (.int .i64 N) (.int .i64 D) ∧ Below w.heap.size w wr) (fun i _ => n - (intOf i).toNat)
  case atStart => exact ⟨1, 0, x, y, rfl, h1, rfl, HG, P0.out, P1.out, PB.out⟩
  case round =>
    clear P0 P1 PB HG c0 c1 hadd
    obtain ⟨k, q, N, D, hkq, hk, rfl, HB, A0, A1, B⟩ := hrel
    by_cases hlt : k < n
    · obtain ⟨x, y, hg, hxy, c0, c1, hadd⟩ := (HX.out.far B).val hlt
      have hv : VF N D := by have := HV.out q (by have := hkq.out; omega); rwa [HB.out] at this
      have hvf : VF x y := HA.out (x, y) (List.mem_of_getElem? hxy)
      have hb : bst xs (q + 1) = if 0 < sgn (x * D + -N * y) then (x, y) else (N, D) := by
        show (if _ then _ else _) = _
        rw [← hkq.out, hg, HB.out]
      have HC := Lib.hid (fun W => clo_any x y N D W hvf hv)
      obtain ⟨c, hc⟩ : ∃ c, sgn (x * D + -N * y) = c := ⟨_, rfl⟩
      rw [hc] at HC hb
      have q4 : ∀ q : GR wr.drew none, q.w.cell? ⟨b', o + k * 2, none⟩ = some (.int .i64 x) := fun q => gt_cell (W0 := wr.drew) c0 ⟨q.w, (Below.refl _ wr.drew).grown q.h (Nat.le_refl _) (by simp)⟩
      have q5 : ∀ q : GR wr.drew none, q.w.cell? ⟨b', o + k * 2 + 1, none⟩ = some (.int .i64 y) := fun q => gt_cell (W0 := wr.drew) c1 ⟨q.w, (Below.refl _ wr.drew).grown q.h (Nat.le_refl _) (by simp)⟩
      have HXY := Lib.hid hxy
      clear hxy hvf hv hc c0 c1 hg
      obtain ⟨q0, q1⟩ := (A1.drew).gr (rw := none) (by simp)
      go_wp2
      refine wp_region_mix (none) [0, 1, 2, 3, 4, 5, 6] [7] (by kernel_rfl) (by kernel_rfl) ?_
      simp only [pickOps, List.filterMap_cons, List.filterMap_nil, List.getElem?_toArray, List.getElem?_cons_succ, List.getElem?_cons_zero]
      repeat (refine wpQuietG_step (fun K hK => ?_); go_simp; first | (refine hK _ ?_; clear hK K) | (apply Exists.intro; refine ⟨fun _ => ?_, hK _ ?_⟩; (first | (with_reducible exact HC.out _)); clear hK K))
      refine wpQuietG_nil ?_
      clear q0 q1 q4 q5 HC
      intro W2 hW1 hW2
      go_wp2
      try refine ⟨hW1, ?_⟩
      intro W3 hW3 hW4
      replace hW3 := gr_undrew hW3
      replace A0 := A0.grow hW3 (by simp)
      replace A1 := A1.grow hW3 (by simp)
      replace B := B.grown hW3 B.size (by simp)
      clear hW1 hW2 hW3 hW4 hadd
      by_cases hc : 0 < c
      · rw [if_pos hc] at hb
        have HB2 : Hid (bst xs k = (x, y)) := by rw [hkq.out]; exact hb
        obtain ⟨x', y', _, hxy', c0, c1, hadd⟩ := (HX.out.far B).val hlt
        rw [HXY.out] at hxy'
        cases hxy'
        have P0 := Lib.hid (A0.away (show w2.heap.size ≠ w.heap.size by omega) (.int .i64 x) (.int .i64 y))
        have P1 := Lib.hid (A1.put (.int .i64 x) (.int .i64 y))
        have PB := Lib.hid (below_putD B (show w.heap.size ≤ w2.heap.size by omega) (.int .i64 x) (.int .i64 y))
        obtain ⟨⟨x0, x1⟩, x2, x3⟩ := id A1
        clear hb A0 A1 B
        go_wp2
        go_roundw
        case rel => exact ⟨k + 1, k, x, y, rfl, by omega, by go_num, HB2, P0.out, P1.out, PB.out⟩
        case measure => first | (simp [intOf]; done) | (simp [intOf]; omega)
      · rw [if_neg hc] at hb
        have HB2 : Hid (bst xs k = (N, D)) := by rw [hkq.out]; exact hb
        have P0 := Lib.hid A0
        have P1 := Lib.hid A1
        have PB := Lib.hid B
        clear hb A0 A1 B
        go_wp2
        go_roundw
        case rel => exact ⟨k + 1, k, N, D, rfl, by omega, by go_num, HB2, P0.out, P1.out, PB.out⟩
        case measure => first | (simp [intOf]; done) | (simp [intOf]; omega)
    · obtain rfl : k = n := by omega
      obtain ⟨rfl, rfl⟩ : N = N0 ∧ D = D0 := by
        have h1 := HB.out
        rw [show q = k - 1 by have := hkq.out; omega, HRR.out] at h1
        cases h1
        exact ⟨rfl, rfl⟩
      obtain ⟨p0, p1⟩ := (A0.put (.int .i64 N) (.int .i64 D)).1
      obtain ⟨⟨x4, x5⟩, x6, x7⟩ := id A0
      obtain ⟨⟨x0, x1⟩, _, _⟩ := id A1
      go_wp2
      unfold putD at p0 p1
      exact bodyPost_ret (v := .agg #[.int .i64 N, .int .i64 D]) (by simp [results, Try.results91, go_sem, p0, p1]) rfl ⟨rfl, below_putD B (Nat.le_refl _) _ _⟩
theorem gr_any (a : Option Addr) (n cap : Nat) (xs : List (Int × Int)) (m : Nat) (w : World) (hx : FIn w a n xs) (hn : n ≤ 1048576) (hm : SrcB xs m) :
    Calls Try.prog 45 #[.slice a n cap] w fun e w' => e = .returned (.tuple #[.agg #[.int .i64 (grN xs m).1, .int .i64 (grN xs m).2], .bool (decide (0 < m))]) ∧ Below w.heap.size w w' := by
  have HX := Lib.hid hx
  have HM := Lib.hid hm
  have hl := hx.1
  obtain ⟨⟨N0, D0⟩, hR⟩ : ∃ p, grN xs m = p := ⟨_, rfl⟩
  obtain ⟨rb, hrb⟩ : ∃ rb, decide (0 < m) = rb := ⟨_, rfl⟩
  rw [hR, hrb]
  show Calls _ _ _ _ fun e w' => e = .returned (.tuple #[.agg #[.int .i64 N0, .int .i64 D0], .bool rb]) ∧ Below w.heap.size w w'
  have HR := Lib.hid hR
  have HRB := Lib.hid hrb
  clear hx hm hR hrb
  have A0 := D2.new w (.int .i64 0) (.int .i64 0) 27
  have B : Below w.heap.size w (w.alloc (.cells #[.int .i64 0, .int .i64 0] 27)) := (Below.refl _ w).alloc (Nat.le_refl _) _
  go_enter Try.func45, Try.ntmps45
  go_wp2_with fail
  generalize w.alloc (.cells #[.int .i64 0, .int .i64 0] 27) = w1 at A0 B ⊢
  refine (isSrc_any a n cap xs w1 (HX.out.far B) hn).mono ?_
  rintro e w2 ⟨m', rfl, hm', hb⟩
  obtain rfl : m = m' := HM.out.uniq hm'
  replace A0 := A0.far hb
  replace B := B.trans (hb.mono B.size)
  rw [HRB.out]
  clear hb hm'
  rcases Nat.eq_zero_or_pos m with h0 | h0
  · subst h0
    obtain rfl : rb = false := HRB.out.symm
    obtain ⟨rfl, rfl⟩ : 0 = N0 ∧ 0 = D0 := Prod.mk.inj (show ((0 : Int), (0 : Int)) = (N0, D0) from HR.out)
    obtain ⟨p0, p1⟩ := (A0.put (.int .i64 0) (.int .i64 0)).1
    obtain ⟨⟨x4, x5⟩, x6, x7⟩ := id A0
    go_wp2
    unfold putD at p0 p1
    exact bodyPost_ret (v := .tuple #[.agg #[.int .i64 0, .int .i64 0], .bool false]) (by simp [results, Try.results45, go_sem, p0, p1]) rfl ⟨rfl, below_putD B (Nat.le_refl _) _ _⟩
  obtain ⟨l1, l2, hall⟩ := src_long HM.out h0
  have HRR : Hid (bst xs (n - 1) = (N0, D0)) := by
    have := HR.out
    unfold grN at this
    rwa [if_pos h0, hl] at this
  have HA := Lib.hid hall
  obtain rfl : rb = true := HRB.out.symm.trans (decide_eq_true h0)
  clear hall h0 HM HR HRB
  go_wp2_with fail
  refine (maxF_any a n cap xs N0 D0 w2 (HX.out.far B) (by omega) (by omega) HA.out HRR.out).mono ?_
  rintro e w3 ⟨rfl, hb⟩
  replace A0 := A0.far hb
  replace B := B.trans (hb.mono B.size)
  clear hb
  obtain ⟨p0, p1⟩ := (A0.put (.int .i64 N0) (.int .i64 D0)).1
  obtain ⟨⟨x4, x5⟩, x6, x7⟩ := id A0
  go_wp2
  unfold putD at p0 p1
  exact bodyPost_ret (v := .tuple #[.agg #[.int .i64 N0, .int .i64 D0], .bool true]) (by simp [results, Try.results45, go_sem, p0, p1]) rfl ⟨rfl, below_putD B (Nat.le_refl _) _ _⟩
theorem lawGreatestOf (a : Option Addr) (n cap : Nat) (xs : List (Int × Int)) (w : World) (hx : FIn w a n xs) (hm : n ≤ maxLen) :
    Calls Try.prog 11 #[.slice a n cap] w fun e w' => e = .returned (.bool true) ∧ Below w.heap.size w w' := by
  obtain ⟨m, hS⟩ := src_ex xs
  exact lawGreatestOf_core a n cap xs (grN xs m).1 (grN xs m).2 (decide (0 < m)) w hx hm (fun g c W hn hF => specGr_any _ n c xs m W hF hn hS) (fun g c W hn hF => gr_any _ n c xs m W hF hn hS)
end Go.Proofs.Ytmnnpkmjamhmcab
