/- The cost of rejection: impl.RejectCost, spec.RejectCost, and the law. -/
import Derived.Test.YtamedggnkbhgeabWidth
import Derived.Test.YtamedggnkbhgeabMake
import Derived.Test.YtamedggnkbhgeabMix
namespace Go.Proofs.Ytamedggnkbhgeab
open Go.RowKit Go.PlainAid
set_option maxHeartbeats 800000

theorem shl_in (L : Nat) (hle : L ≤ 20) : 0 ≤ (L : Int) * 2 ^ L ∧ (L : Int) * 2 ^ L ≤ 20971520 := by
  have h : (2 : Nat) ^ L ≤ 2 ^ 20 := Nat.pow_le_pow_right (by omega) hle
  have h2 : L * 2 ^ L ≤ 20 * 2 ^ 20 := Nat.mul_le_mul hle h
  have e : ((L * 2 ^ L : Nat) : Int) = (L : Int) * 2 ^ L := by simp
  rw [← e]
  omega
theorem make_wrap (f : FuncId) (L n : Nat) (hle : L ≤ 20) (X : Ending → World → World → Prop) (H : ∀ W : World, Calls Try.prog f #[.int .i64 ((L : Int) * 2 ^ L), .int .i64 n] W (fun e w' => X e W w')) :
    ∀ W : World, Calls Try.prog f #[.int .i64 (wrap64 ((L : Int) * 2 ^ L)), .int .i64 n] W (fun e w' => X e W w') := by
  have := shl_in L hle
  rw [IntWalk.wrap64_in _ (by omega)]
  exact H
theorem rcost_yes (n : Nat) (w : World) (h1 : 1 ≤ n) (hn : n ≤ 1000000) (a b : Int) (ha : a = mkN (Pl.len (n - 1) * 2 ^ Pl.len (n - 1)) n) (hb : b = mkD (Pl.len (n - 1) * 2 ^ Pl.len (n - 1)) n) :
    Calls Try.prog 12 #[.int .i64 n] w fun e w' => e = .returned (.tuple #[.agg #[.int .i64 a, .int .i64 b], .bool true]) ∧ Below w.heap.size w w' := by
  have hle : Pl.len (n - 1) ≤ 20 := (len_iff h1).2 (by omega)
  have HW : Hid (∀ W : World, Calls Try.prog 33 #[.int .i64 n] W fun e w' => e = .returned (.int .i64 (Pl.len (n - 1))) ∧ W = w') := fun W => widthBelow_any n W h1 hn
  generalize Pl.len (n - 1) = L at hle HW ha hb
  have HM : Hid (∀ W : World, Calls Try.prog 34 #[.int .i64 (wrap64 ((L : Int) * 2 ^ L)), .int .i64 n] W fun e w' => e = .returned (.tuple #[.agg #[.int .i64 a, .int .i64 b], .bool true]) ∧ Below W.heap.size W w') := by
    have hp := shl_in L hle
    subst ha
    subst hb
    exact make_wrap _ L n hle (fun e W w' => e = .returned (.tuple #[.agg #[.int .i64 (mkN (L * 2 ^ L) n), .int .i64 (mkD (L * 2 ^ L) n)], .bool true]) ∧ Below W.heap.size W w') fun W => make_yes _ _ W (by omega) (by omega) (by omega) (by omega) (by omega)
  clear ha hb
  go_enter Try.func12, Try.ntmps12
  have A0 := D2.new w (.int .i64 0) (.int .i64 0) 23
  have B := (Below.refl w.heap.size w).alloc (Nat.le_refl _) (.cells #[.int .i64 0, .int .i64 0] 23)
  go_wp2_with fail
  refine (btw64_yes n 1 1000000 _ (by omega) (by omega)).mono ?_
  rintro e w1 ⟨rfl, rfl⟩
  go_wp2_with fail
  refine (HW.out _).mono ?_
  rintro e w1 ⟨rfl, rfl⟩
  go_wp2_with fail
  refine (HM.out _).mono ?_
  rintro e w1 ⟨rfl, hb⟩
  replace A0 := A0.far hb
  replace B := B.trans (hb.mono B.size)
  clear hb
  obtain ⟨p0, p1⟩ := (A0.put (.int .i64 a) (.int .i64 b)).1
  obtain ⟨⟨x0, x1⟩, x2, x3⟩ := id A0
  go_wp2
  unfold putD at p0 p1
  exact bodyPost_ret (v := .tuple #[.agg #[.int .i64 a, .int .i64 b], .bool true]) (by simp [results, Try.results12, go_sem, p0, p1]) rfl ⟨rfl, below_putD B (Nat.le_refl _) _ _⟩
theorem rcost_no (n : Int) (w : World) (h : ¬ (1 ≤ n ∧ n ≤ 1000000)) :
    Calls Try.prog 12 #[.int .i64 n] w fun e w' => e = .returned (.tuple #[.agg #[.int .i64 0, .int .i64 0], .bool false]) ∧ Below w.heap.size w w' := by
  have HB : Hid (∀ W : World, Calls Try.prog 32 #[.int .i64 n, .int .i64 1, .int .i64 1000000] W fun e w' => e = .returned (.bool false) ∧ W = w') := fun W => btw64_no n 1 1000000 W h
  clear h
  go_enter Try.func12, Try.ntmps12
  go_wp2_with fail
  refine (HB.out _).mono ?_
  rintro e w1 ⟨rfl, rfl⟩
  go_wp2
  go_returns
  exact ⟨rfl, by go_grown⟩
theorem specRCost_yes (n : Nat) (w : World) (h1 : 1 ≤ n) (hn : n ≤ 1000000) (a b : Int) (ha : a = mkN (Pl.len (n - 1) * 2 ^ Pl.len (n - 1)) n) (hb : b = mkD (Pl.len (n - 1) * 2 ^ Pl.len (n - 1)) n) :
    Calls Try.prog 11 #[.int .i64 n] w fun e w' => e = .returned (.tuple #[.agg #[.int .i64 a, .int .i64 b], .bool true]) ∧ Below w.heap.size w w' := by
  have hle : Pl.len (n - 1) ≤ 20 := (len_iff h1).2 (by omega)
  have HN : Hid (∀ W : World, Calls Try.prog 29 #[.int .i64 n] W fun e w' => e = .returned (.bool true) ∧ W = w') := fun W => l06Number_b n true (by simp; omega) W
  have HW : Hid (∀ W : World, Calls Try.prog 30 #[.int .i64 n] W fun e w' => e = .returned (.int .i64 (Pl.len (n - 1))) ∧ W = w') := fun W => l06Width_any n W h1 hn
  generalize Pl.len (n - 1) = L at hle HW ha hb
  have HM : Hid (∀ W : World, Calls Try.prog 31 #[.int .i64 (wrap64 ((L : Int) * 2 ^ L)), .int .i64 n] W fun e w' => e = .returned (.agg #[.int .i64 a, .int .i64 b]) ∧ Below W.heap.size W w') := by
    have hp := shl_in L hle
    subst ha
    subst hb
    exact make_wrap _ L n hle (fun e W w' => e = .returned (.agg #[.int .i64 (mkN (L * 2 ^ L) n), .int .i64 (mkD (L * 2 ^ L) n)]) ∧ Below W.heap.size W w') fun W => fmake_any _ _ W (by omega) (by omega) (by omega) (by omega) (by omega)
  clear ha hb
  go_enter Try.func11, Try.ntmps11
  have A0 := D2.new w (.int .i64 0) (.int .i64 0) 23
  have B := (Below.refl w.heap.size w).alloc (Nat.le_refl _) (.cells #[.int .i64 0, .int .i64 0] 23)
  go_wp2_with fail
  refine (HN.out _).mono ?_
  rintro e w1 ⟨rfl, rfl⟩
  go_wp2_with fail
  refine (HW.out _).mono ?_
  rintro e w1 ⟨rfl, rfl⟩
  go_wp2_with fail
  refine (HM.out _).mono ?_
  rintro e w1 ⟨rfl, hb⟩
  replace A0 := A0.far hb
  replace B := B.trans (hb.mono B.size)
  clear hb
  obtain ⟨p0, p1⟩ := (A0.put (.int .i64 a) (.int .i64 b)).1
  obtain ⟨⟨x0, x1⟩, x2, x3⟩ := id A0
  go_wp2
  unfold putD at p0 p1
  exact bodyPost_ret (v := .tuple #[.agg #[.int .i64 a, .int .i64 b], .bool true]) (by simp [results, Try.results11, go_sem, p0, p1]) rfl ⟨rfl, below_putD B (Nat.le_refl _) _ _⟩
theorem specRCost_no (n : Int) (w : World) (h : ¬ (1 ≤ n ∧ n ≤ 1000000)) :
    Calls Try.prog 11 #[.int .i64 n] w fun e w' => e = .returned (.tuple #[.agg #[.int .i64 0, .int .i64 0], .bool false]) ∧ Below w.heap.size w w' := by
  have HB : Hid (∀ W : World, Calls Try.prog 29 #[.int .i64 n] W fun e w' => e = .returned (.bool false) ∧ W = w') := fun W => l06Number_b n false (decide_eq_false h) W
  clear h
  go_enter Try.func11, Try.ntmps11
  go_wp2_with fail
  refine (HB.out _).mono ?_
  rintro e w1 ⟨rfl, rfl⟩
  go_wp2
  go_returns
  exact ⟨rfl, by go_grown⟩
theorem lawRCost_core (n : Int) (w : World) (a b : Int) (ok : Bool)
    (HS : Hid (∀ W : World, Calls Try.prog 11 #[.int .i64 n] W fun e w' => e = .returned (.tuple #[.agg #[.int .i64 a, .int .i64 b], .bool ok]) ∧ Below W.heap.size W w'))
    (HI : Hid (∀ W : World, Calls Try.prog 12 #[.int .i64 n] W fun e w' => e = .returned (.tuple #[.agg #[.int .i64 a, .int .i64 b], .bool ok]) ∧ Below W.heap.size W w')) :
    Calls Try.prog 3 #[.int .i64 n] w fun e w' => e = .returned (.bool true) ∧ Below w.heap.size w w' := by
  have hok : (ok != ok) = false := by simp
  go_enter Try.func3, Try.ntmps3
  go_wp2_with fail
  refine (HS.out _).mono ?_
  rintro e w1 ⟨rfl, hb1⟩
  have z1 := hb1.size
  go_wp2_with fail
  refine (HI.out _).mono ?_
  rintro e w2 ⟨rfl, hb⟩
  obtain ⟨b2, z2, c2, d2⟩ := keep2 (b := w1.heap.size) (x := .int .i64 a) (y := .int .i64 b) (hb1.alloc hb1.size _) hb hb1.size (by simp) (by simp [go_sem]) (by simp [go_sem])
  clear hb hb1
  go_wp2_with fail
  refine (eqFrac_yes _ _ _).mono ?_
  rintro e w3 ⟨rfl, hb⟩
  go_wp2
  go_ret
  exact ⟨rfl, (b2.alloc (by omega) _).trans (hb.mono (by simp; omega))⟩
theorem lawRCost (n : Int) (w : World) :
    Calls Try.prog 3 #[.int .i64 n] w fun e w' => e = .returned (.bool true) ∧ Below w.heap.size w w' := by
  by_cases h : 1 ≤ n ∧ n ≤ 1000000
  · obtain ⟨m, rfl⟩ := Int.eq_ofNat_of_zero_le (a := n) (by omega)
    exact lawRCost_core m w _ _ true (fun W => specRCost_yes m W (by omega) (by omega) _ _ rfl rfl) (fun W => rcost_yes m W (by omega) (by omega) _ _ rfl rfl)
  · exact lawRCost_core n w 0 0 false (fun W => specRCost_no n W h) (fun W => rcost_no n W h)
end Go.Proofs.Ytamedggnkbhgeab
