/- L9, LawJ in one text (tools/merge.py). -/
import Derived.Test.YtmnnpkmjamhmcabFrSumE
import Derived.Test.YtmnnpkmjamhmcabNuY
namespace Go.Proofs.Ytmnnpkmjamhmcab
open Go.RowKit Go.PlainAid
set_option maxHeartbeats 800000
set_option maxRecDepth 20000
theorem lawDistanceOf_core (a0 : Option Addr) (n0 cap0 : Nat) (xs0 : List (Int × Int)) (a1 : Option Addr) (n1 cap1 : Nat) (xs1 : List (Int × Int)) (N D : Int) (ok : Bool) (w : World) (hx0 : FIn w a0 n0 xs0) (hm0 : n0 ≤ maxLen) (hx1 : FIn w a1 n1 xs1) (hm1 : n1 ≤ maxLen) (HS : Hid (∀ (g0 c0 g1 c1 : Nat) (W : World), n0 ≤ 1048576 → n1 ≤ 1048576 → FIn W (some ⟨g0, 0, none⟩) n0 xs0 → FIn W (some ⟨g1, 0, none⟩) n1 xs1 → Calls Try.prog 40 #[.slice (some ⟨g0, 0, none⟩) n0 c0, .slice (some ⟨g1, 0, none⟩) n1 c1] W fun e w' => e = .returned (.tuple #[.agg #[.int .i64 N, .int .i64 D], .bool ok]) ∧ Below W.heap.size W w')) (HI : Hid (∀ (g0 c0 g1 c1 : Nat) (W : World), n0 ≤ 1048576 → n1 ≤ 1048576 → FIn W (some ⟨g0, 0, none⟩) n0 xs0 → FIn W (some ⟨g1, 0, none⟩) n1 xs1 → Calls Try.prog 42 #[.slice (some ⟨g0, 0, none⟩) n0 c0, .slice (some ⟨g1, 0, none⟩) n1 c1] W fun e w' => e = .returned (.tuple #[.agg #[.int .i64 N, .int .i64 D], .bool ok]) ∧ Below W.heap.size W w')) :
    Calls Try.prog 10 #[.slice a0 n0 cap0, .slice a1 n1 cap1] w fun e w' => e = .returned (.bool true) ∧ Below w.heap.size w w' := by
  have HX0 := Lib.hid hx0
  have HX1 := Lib.hid hx1
  clear hx0 hx1
  by_cases hb0 : (1048576 : Int) - n0 < 0
  · have h0 : (1048576 : Int) - n0 < 0 := by omega
    have HZ0 : Hid (∀ W : World, Calls Try.prog 39 #[.slice a0 n0 cap0, .int .i64 (1048576)] W fun e w' => e = .returned (.int .i64 (-1)) ∧ W = w') := fun W => by
      have := szFrS_any a0 n0 cap0 (1048576) W (by omega) (by omega) hm0
      rwa [if_pos h0] at this
    go_enter Try.func10, Try.ntmps10
    go_wp2_with fail
    refine (HZ0.out _).mono ?_
    rintro e w0 ⟨rfl, rfl⟩
    go_wp2
    go_ret
    exact ⟨rfl, Below.refl _ _⟩
  by_cases hb1 : (1048576 - n0 : Int) - n1 < 0
  · have h0 : ¬ (1048576 : Int) - n0 < 0 := by omega
    have HZ0 : Hid (∀ W : World, Calls Try.prog 39 #[.slice a0 n0 cap0, .int .i64 (1048576)] W fun e w' => e = .returned (.int .i64 (1048576 - n0)) ∧ W = w') := fun W => by
      have := szFrS_any a0 n0 cap0 (1048576) W (by omega) (by omega) hm0
      rwa [if_neg h0] at this
    have h1 : (1048576 - n0 : Int) - n1 < 0 := by omega
    have HZ1 : Hid (∀ W : World, Calls Try.prog 39 #[.slice a1 n1 cap1, .int .i64 (1048576 - n0)] W fun e w' => e = .returned (.int .i64 (-1)) ∧ W = w') := fun W => by
      have := szFrS_any a1 n1 cap1 (1048576 - n0) W (by omega) (by omega) hm1
      rwa [if_pos h1] at this
    go_enter Try.func10, Try.ntmps10
    go_wp2_with fail
    refine (HZ0.out _).mono ?_
    rintro e w0 ⟨rfl, rfl⟩
    go_wp2_with fail
    refine (HZ1.out _).mono ?_
    rintro e w0 ⟨rfl, rfl⟩
    go_wp2
    go_ret
    exact ⟨rfl, Below.refl _ _⟩
  have hn0 : n0 ≤ 1048576 := by omega
  have hn1 : n1 ≤ 1048576 := by omega
  have h0 := hb0
  have HZ0 : Hid (∀ W : World, Calls Try.prog 39 #[.slice a0 n0 cap0, .int .i64 (1048576)] W fun e w' => e = .returned (.int .i64 (1048576 - n0)) ∧ W = w') := fun W => by
    have := szFrS_any a0 n0 cap0 (1048576) W (by omega) (by omega) hm0
    rwa [if_neg h0] at this
  have h1 := hb1
  have HZ1 : Hid (∀ W : World, Calls Try.prog 39 #[.slice a1 n1 cap1, .int .i64 (1048576 - n0)] W fun e w' => e = .returned (.int .i64 (1048576 - n0 - n1)) ∧ W = w') := fun W => by
    have := szFrS_any a1 n1 cap1 (1048576 - n0) W (by omega) (by omega) hm1
    rwa [if_neg h1] at this
  clear hb0 hb1
  have hok : (ok != ok) = false := by simp
  have B0 : Below w.heap.size w w := Below.refl _ _
  go_enter Try.func10, Try.ntmps10
  go_wp2_with fail
  refine (HZ0.out _).mono ?_
  rintro e w0 ⟨rfl, rfl⟩
  go_wp2_with fail
  refine (HZ1.out _).mono ?_
  rintro e w0 ⟨rfl, rfl⟩
  go_wp2_with fail
  refine (toFrS_any a0 n0 cap0 xs0 _ (HX0.out.far B0) hn0).mono ?_
  rintro e w1 ⟨gs0, rfl, hgs0, _, hb⟩
  have B1 := B0.trans (hb.mono B0.size)
  clear hb B0
  go_wp2_with fail
  refine (toFrS_any a1 n1 cap1 xs1 _ (HX1.out.far B1) hn1).mono ?_
  rintro e w2 ⟨gs1, rfl, hgs1, _, hb⟩
  replace hgs0 := hgs0.far hb
  have B2 := B1.trans (hb.mono B1.size)
  clear hb B1
  go_wp2_with fail
  refine (HS.out gs0 n0 gs1 n1 _ hn0 hn1 hgs0 hgs1).mono ?_
  rintro e w3 ⟨rfl, hb⟩
  replace hgs0 := hgs0.far hb
  replace hgs1 := hgs1.far hb
  have B3 := B2.trans (hb.mono B2.size)
  clear hb B2
  clear HS
  clear hgs0 hgs1
  have A1 := D2.new w3 (.int .i64 N) (.int .i64 D) 27
  replace B3 := B3.alloc B3.size (.cells #[.int .i64 N, .int .i64 D] 27)
  go_wp2_with fail
  generalize hw9 : w3.alloc (.cells #[.int .i64 N, .int .i64 D] 27) = w9 at A1 B3 ⊢
  refine (toFrS_any a0 n0 cap0 xs0 _ (HX0.out.far B3) hn0).mono ?_
  rintro e w4 ⟨gi0, rfl, hgi0, _, hb⟩
  replace A1 := A1.far hb
  have B4 := B3.trans (hb.mono B3.size)
  clear hb B3 hw9
  go_wp2_with fail
  refine (toFrS_any a1 n1 cap1 xs1 _ (HX1.out.far B4) hn1).mono ?_
  rintro e w5 ⟨gi1, rfl, hgi1, _, hb⟩
  replace hgi0 := hgi0.far hb
  replace A1 := A1.far hb
  have B5 := B4.trans (hb.mono B4.size)
  clear hb B4
  go_wp2_with fail
  refine (HI.out gi0 n0 gi1 n1 _ hn0 hn1 hgi0 hgi1).mono ?_
  rintro e w6 ⟨rfl, hb⟩
  replace hgi0 := hgi0.far hb
  replace hgi1 := hgi1.far hb
  replace A1 := A1.far hb
  have B6 := B5.trans (hb.mono B5.size)
  clear hb B5
  clear HI
  have A2 := D2.new w6 (.int .i64 N) (.int .i64 D) 27
  replace hgi0 := hgi0.far ((Below.refl _ w6).alloc (Nat.le_refl _) (.cells #[.int .i64 N, .int .i64 D] 27))
  replace hgi1 := hgi1.far ((Below.refl _ w6).alloc (Nat.le_refl _) (.cells #[.int .i64 N, .int .i64 D] 27))
  have lA1 := A1.lt
  replace A1 := A1.alloc (.cells #[.int .i64 N, .int .i64 D] 27)
  replace B6 := B6.alloc B6.size (.cells #[.int .i64 N, .int .i64 D] 27)
  generalize w3.heap.size = g3 at A1 lA1 ⊢
  obtain ⟨⟨x0, x1⟩, _, _⟩ := id A1
  obtain ⟨⟨x2, x3⟩, _, _⟩ := id A2
  clear A1 A2
  go_wp2_with fail
  refine (eqFrac_yes N D _).mono ?_
  rintro e w7 ⟨rfl, hb⟩
  replace hgi0 := hgi0.far hb
  replace hgi1 := hgi1.far hb
  have B7 := B6.trans (hb.mono B6.size)
  clear hb B6
  clear x0 x1 x2 x3
  go_wp2_with fail
  refine (toFrS_any a0 n0 cap0 xs0 _ (HX0.out.far B7) hn0).mono ?_
  rintro e w8 ⟨ge0, rfl, hge0, _, hb⟩
  replace hgi0 := hgi0.far hb
  replace hgi1 := hgi1.far hb
  have B8 := B7.trans (hb.mono B7.size)
  clear hb B7
  go_wp2_with fail
  refine (eqFrS_any _ _ n0 n0 n0 xs0 _ hgi0 hge0 hn0).mono ?_
  rintro e w9 ⟨rfl, hb⟩
  replace hgi0 := hgi0.far hb
  replace hgi1 := hgi1.far hb
  replace hge0 := hge0.far hb
  have B9 := B8.trans (hb.mono B8.size)
  clear hb B8
  go_wp2_with fail
  refine (toFrS_any a1 n1 cap1 xs1 _ (HX1.out.far B9) hn1).mono ?_
  rintro e w10 ⟨ge1, rfl, hge1, _, hb⟩
  replace hgi0 := hgi0.far hb
  replace hgi1 := hgi1.far hb
  replace hge0 := hge0.far hb
  have B10 := B9.trans (hb.mono B9.size)
  clear hb B9
  go_wp2_with fail
  refine (eqFrS_any _ _ n1 n1 n1 xs1 _ hgi1 hge1 hn1).mono ?_
  rintro e w11 ⟨rfl, hb⟩
  replace hgi0 := hgi0.far hb
  replace hgi1 := hgi1.far hb
  replace hge0 := hge0.far hb
  replace hge1 := hge1.far hb
  have B11 := B10.trans (hb.mono B10.size)
  clear hb B10
  go_wp2
  go_ret
  exact ⟨rfl, B11⟩
theorem lawGreatestOf_core (a0 : Option Addr) (n0 cap0 : Nat) (xs0 : List (Int × Int)) (N D : Int) (ok : Bool) (w : World) (hx0 : FIn w a0 n0 xs0) (hm0 : n0 ≤ maxLen) (HS : Hid (∀ (g0 c0 : Nat) (W : World), n0 ≤ 1048576 → FIn W (some ⟨g0, 0, none⟩) n0 xs0 → Calls Try.prog 44 #[.slice (some ⟨g0, 0, none⟩) n0 c0] W fun e w' => e = .returned (.tuple #[.agg #[.int .i64 N, .int .i64 D], .bool ok]) ∧ Below W.heap.size W w')) (HI : Hid (∀ (g0 c0 : Nat) (W : World), n0 ≤ 1048576 → FIn W (some ⟨g0, 0, none⟩) n0 xs0 → Calls Try.prog 45 #[.slice (some ⟨g0, 0, none⟩) n0 c0] W fun e w' => e = .returned (.tuple #[.agg #[.int .i64 N, .int .i64 D], .bool ok]) ∧ Below W.heap.size W w')) :
    Calls Try.prog 11 #[.slice a0 n0 cap0] w fun e w' => e = .returned (.bool true) ∧ Below w.heap.size w w' := by
  have HX0 := Lib.hid hx0
  clear hx0
  by_cases hb0 : (1048576 : Int) - n0 < 0
  · have h0 : (1048576 : Int) - n0 < 0 := by omega
    have HZ0 : Hid (∀ W : World, Calls Try.prog 39 #[.slice a0 n0 cap0, .int .i64 (1048576)] W fun e w' => e = .returned (.int .i64 (-1)) ∧ W = w') := fun W => by
      have := szFrS_any a0 n0 cap0 (1048576) W (by omega) (by omega) hm0
      rwa [if_pos h0] at this
    go_enter Try.func11, Try.ntmps11
    go_wp2_with fail
    refine (HZ0.out _).mono ?_
    rintro e w0 ⟨rfl, rfl⟩
    go_wp2
    go_ret
    exact ⟨rfl, Below.refl _ _⟩
  have hn0 : n0 ≤ 1048576 := by omega
  have h0 := hb0
  have HZ0 : Hid (∀ W : World, Calls Try.prog 39 #[.slice a0 n0 cap0, .int .i64 (1048576)] W fun e w' => e = .returned (.int .i64 (1048576 - n0)) ∧ W = w') := fun W => by
    have := szFrS_any a0 n0 cap0 (1048576) W (by omega) (by omega) hm0
    rwa [if_neg h0] at this
  clear hb0
  have hok : (ok != ok) = false := by simp
  have B0 : Below w.heap.size w w := Below.refl _ _
  go_enter Try.func11, Try.ntmps11
  go_wp2_with fail
  refine (HZ0.out _).mono ?_
  rintro e w0 ⟨rfl, rfl⟩
  go_wp2_with fail
  refine (toFrS_any a0 n0 cap0 xs0 _ (HX0.out.far B0) hn0).mono ?_
  rintro e w1 ⟨gs0, rfl, hgs0, _, hb⟩
  have B1 := B0.trans (hb.mono B0.size)
  clear hb B0
  go_wp2_with fail
  refine (HS.out gs0 n0 _ hn0 hgs0).mono ?_
  rintro e w2 ⟨rfl, hb⟩
  replace hgs0 := hgs0.far hb
  have B2 := B1.trans (hb.mono B1.size)
  clear hb B1
  clear HS
  clear hgs0
  have A1 := D2.new w2 (.int .i64 N) (.int .i64 D) 27
  replace B2 := B2.alloc B2.size (.cells #[.int .i64 N, .int .i64 D] 27)
  go_wp2_with fail
  generalize hw9 : w2.alloc (.cells #[.int .i64 N, .int .i64 D] 27) = w9 at A1 B2 ⊢
  refine (toFrS_any a0 n0 cap0 xs0 _ (HX0.out.far B2) hn0).mono ?_
  rintro e w3 ⟨gi0, rfl, hgi0, _, hb⟩
  replace A1 := A1.far hb
  have B3 := B2.trans (hb.mono B2.size)
  clear hb B2 hw9
  go_wp2_with fail
  refine (HI.out gi0 n0 _ hn0 hgi0).mono ?_
  rintro e w4 ⟨rfl, hb⟩
  replace hgi0 := hgi0.far hb
  replace A1 := A1.far hb
  have B4 := B3.trans (hb.mono B3.size)
  clear hb B3
  clear HI
  have A2 := D2.new w4 (.int .i64 N) (.int .i64 D) 27
  replace hgi0 := hgi0.far ((Below.refl _ w4).alloc (Nat.le_refl _) (.cells #[.int .i64 N, .int .i64 D] 27))
  have lA1 := A1.lt
  replace A1 := A1.alloc (.cells #[.int .i64 N, .int .i64 D] 27)
  replace B4 := B4.alloc B4.size (.cells #[.int .i64 N, .int .i64 D] 27)
  generalize w2.heap.size = g3 at A1 lA1 ⊢
  obtain ⟨⟨x0, x1⟩, _, _⟩ := id A1
  obtain ⟨⟨x2, x3⟩, _, _⟩ := id A2
  clear A1 A2
  go_wp2_with fail
  refine (eqFrac_yes N D _).mono ?_
  rintro e w5 ⟨rfl, hb⟩
  replace hgi0 := hgi0.far hb
  have B5 := B4.trans (hb.mono B4.size)
  clear hb B4
  clear x0 x1 x2 x3
  go_wp2_with fail
  refine (toFrS_any a0 n0 cap0 xs0 _ (HX0.out.far B5) hn0).mono ?_
  rintro e w6 ⟨ge0, rfl, hge0, _, hb⟩
  replace hgi0 := hgi0.far hb
  have B6 := B5.trans (hb.mono B5.size)
  clear hb B5
  go_wp2_with fail
  refine (eqFrS_any _ _ n0 n0 n0 xs0 _ hgi0 hge0 hn0).mono ?_
  rintro e w7 ⟨rfl, hb⟩
  replace hgi0 := hgi0.far hb
  replace hge0 := hge0.far hb
  have B7 := B6.trans (hb.mono B6.size)
  clear hb B6
  go_wp2
  go_ret
  exact ⟨rfl, B7⟩
end Go.Proofs.Ytmnnpkmjamhmcab

namespace Go.Proofs.Ytmnnpkmjamhmcab
open Go.RowKit Go.PlainAid
set_option maxHeartbeats 800000

theorem src_ex (xs : List (Int × Int)) : ∃ m, SrcB xs m := by
  by_cases h : ∃ m, 1 ≤ m ∧ m ≤ 4 ∧ xs.length = 2 ^ m ∧ IsCh xs
  · obtain ⟨m, h1, h2, h3, h4⟩ := h
    exact ⟨m, .inl ⟨h1, h2, h3, h4⟩⟩
  · exact ⟨0, .inr ⟨rfl, fun k h1 h2 h3 h4 => h ⟨k, h1, h2, h3, h4⟩⟩⟩
end Go.Proofs.Ytmnnpkmjamhmcab
