/- The law of SumFractions. -/
import Derived.Test.YtpeelgdcjmnhdaaFrTo
import Derived.Test.YtpeelgdcjmnhdaaFrSum2
namespace Go.Proofs.Ytpeelgdcjmnhdaa
open Go.RowKit Go.PlainAid
set_option maxHeartbeats 800000

theorem szFrS_any (a : Option Addr) (n cap : Nat) (left : Int) (w : World) (h1 : 0 ≤ left) (h2 : left ≤ 1048576) (hn : n ≤ maxLen) :
    Calls Try.prog 21 #[.slice a n cap, .int .i64 left] w fun e w' => e = .returned (.int .i64 (if left - n < 0 then -1 else left - n)) ∧ w = w' := by
  unfold maxLen at hn
  have w1 : IntKind.i64.wrap (left - n) = left - n := IntWalk.i64_in _ (by omega)
  by_cases h : left - n < 0
  · rw [if_pos h]
    go_enter Try.func21, Try.ntmps21
    go_wp2
    go_ret
    exact ⟨rfl, rfl⟩
  · rw [if_neg h]
    go_enter Try.func21, Try.ntmps21
    go_wp2
    go_ret
    exact ⟨rfl, rfl⟩

theorem eqFrS_any (a a' : Option Addr) (n cap cap' : Nat) (xs : List (Int × Int)) (w : World) (hx : FIn w a n xs) (hx' : FIn w a' n xs) (hn : n ≤ 1048576) :
    Calls Try.prog 25 #[.slice a n cap, .slice a' n cap'] w fun e w' => e = .returned (.bool true) ∧ Below w.heap.size w w' := by
  have HX := Lib.hid hx
  have HX' := Lib.hid hx'
  clear hx hx'
  have HE : Hid (∀ (n d : Int) (W : World), Calls Try.prog 12 #[.agg #[.int .i64 n, .int .i64 d], .agg #[.int .i64 n, .int .i64 d]] W fun e w' => e = .returned (.bool true) ∧ Below W.heap.size W w') := fun n d W => eqFrac_yes n d W
  go_enter Try.func25, Try.ntmps25
  go_wp2
  go_loopw [5] (fun i wr => ∃ k : Nat, k ≤ n ∧ i = .int .i64 k ∧ Below w.heap.size w wr) (fun i _ => n - (intOf i).toNat)
  case atStart => exact ⟨0, Nat.zero_le _, rfl, Below.refl _ _⟩
  case round =>
    obtain ⟨k, hk, rfl, B⟩ := hrel
    by_cases hlt : k < n
    · obtain ⟨b', o, x, y, rfl, hxy, c0, c1, hadd⟩ := (HX.out.far B).at hlt
      obtain ⟨b2, o2, x2, y2, rfl, hxy2, c2, c3, hadd2⟩ := (HX'.out.far B).at hlt
      rw [hxy] at hxy2
      cases hxy2
      have q0 : ∀ q : GR wr.drew none, q.w.cell? ⟨b', o + k * 2, none⟩ = some (.int .i64 x) := fun q => gt_cell (W0 := wr.drew) c0 ⟨q.w, (Below.refl _ wr.drew).grown q.h (Nat.le_refl _) (by simp)⟩
      have q1 : ∀ q : GR wr.drew none, q.w.cell? ⟨b', o + k * 2 + 1, none⟩ = some (.int .i64 y) := fun q => gt_cell (W0 := wr.drew) c1 ⟨q.w, (Below.refl _ wr.drew).grown q.h (Nat.le_refl _) (by simp)⟩
      have q2 : ∀ q : GR wr.drew none, q.w.cell? ⟨b2, o2 + k * 2, none⟩ = some (.int .i64 x) := fun q => gt_cell (W0 := wr.drew) c2 ⟨q.w, (Below.refl _ wr.drew).grown q.h (Nat.le_refl _) (by simp)⟩
      have q3 : ∀ q : GR wr.drew none, q.w.cell? ⟨b2, o2 + k * 2 + 1, none⟩ = some (.int .i64 y) := fun q => gt_cell (W0 := wr.drew) c3 ⟨q.w, (Below.refl _ wr.drew).grown q.h (Nat.le_refl _) (by simp)⟩
      clear hxy c0 c1 c2 c3
      go_wp2
      refine wp_region_mix (none) [0, 1, 2, 3, 4, 5, 6, 7, 8, 9] [] (by kernel_rfl) (by kernel_rfl) ?_
      simp only [pickOps, List.filterMap_cons, List.filterMap_nil, List.getElem?_toArray, List.getElem?_cons_succ, List.getElem?_cons_zero]
      repeat (refine wpQuietG_step (fun K hK => ?_); go_simp; first | (refine hK _ ?_; clear hK K) | (apply Exists.intro; refine ⟨fun _ => ?_, hK _ ?_⟩; (first | (with_reducible exact HE.out _ _ _)); clear hK K))
      refine wpQuietG_nil ?_
      clear q0 q1 q2 q3
      intro W2 hW1 hW2
      replace hW1 := gr_undrew hW1
      replace B := B.grown hW1 B.size (by simp)
      clear hW1 hW2
      go_wp2
      go_roundw
      case rel => exact ⟨k + 1, by omega, by go_num, B⟩
      case measure => first | (simp [intOf]; done) | (simp [intOf]; omega)
    · obtain rfl : k = n := by omega
      go_wp2
      go_ret
      exact ⟨rfl, B⟩

theorem lawSumFr (a : Option Addr) (n cap : Nat) (xs : List (Int × Int)) (w : World) (hx : FIn w a n xs) (hm : n ≤ maxLen) :
    Calls Try.prog 8 #[.slice a n cap] w fun e w' => e = .returned (.bool true) ∧ Below w.heap.size w w' := by
  have HX := Lib.hid hx
  clear hx
  by_cases hn : n ≤ 1048576
  · have h0 : ¬ (1048576 : Int) - n < 0 := by omega
    have HZ : Hid (∀ W : World, Calls Try.prog 21 #[.slice a n cap, .int .i64 1048576] W fun e w' => e = .returned (.int .i64 (1048576 - n)) ∧ W = w') := fun W => by
      have := szFrS_any a n cap 1048576 W (by omega) (by omega) hm
      rwa [if_neg h0] at this
    go_enter Try.func8, Try.ntmps8
    go_wp2_with fail
    refine (HZ.out _).mono ?_
    rintro e w0 ⟨rfl, rfl⟩
    go_wp2_with fail
    refine (toFrS_any a n cap xs _ HX.out hn).mono ?_
    rintro e w1 ⟨g1, rfl, hg1, _, B1⟩
    have K : ∃ N D ok, Hid (∀ (g cap : Nat) (W : World), FIn W (some ⟨g, 0, none⟩) n xs → Calls Try.prog 22 #[.slice (some ⟨g, 0, none⟩) n cap] W fun e w' => e = .returned (.tuple #[.agg #[.int .i64 N, .int .i64 D], .bool ok]) ∧ Below W.heap.size W w') ∧
        Hid (∀ (g cap : Nat) (W : World), FIn W (some ⟨g, 0, none⟩) n xs → Calls Try.prog 24 #[.slice (some ⟨g, 0, none⟩) n cap] W fun e w' => e = .returned (.tuple #[.agg #[.int .i64 N, .int .i64 D], .bool ok]) ∧ Below W.heap.size W w') := by
      by_cases h64 : n ≤ 64
      · have key : ∃ N D ok, SumV xs N D ok := by
          by_cases h : AllVF xs ∧ ∃ s, sumR xs xs.length = some s
          · obtain ⟨h1, ⟨N, D⟩, h2⟩ := h
            exact ⟨N, D, true, .inl ⟨rfl, h1, h2⟩⟩
          · exact ⟨0, 0, false, .inr ⟨rfl, rfl, rfl, h⟩⟩
        obtain ⟨N, D, ok, hv⟩ := key
        refine ⟨N, D, ok, fun g cap W hW => (ssum_any _ n cap xs W hW h64).mono ?_, fun g cap W hW => (isum_any _ n cap xs W hW h64).mono ?_⟩
        · rintro e w' ⟨N', D', ok', he, hv', hb⟩
          obtain ⟨rfl, rfl, rfl⟩ := hv.uniq hv'.out
          exact ⟨he, hb⟩
        · rintro e w' ⟨N', D', ok', he, hv', hb⟩
          obtain ⟨rfl, rfl, rfl⟩ := hv.uniq hv'.out
          exact ⟨he, hb⟩
      · exact ⟨0, 0, false, fun g cap W _ => ssum_long _ n cap W (by omega), fun g cap W _ => isum_long _ n cap W (by omega)⟩
    obtain ⟨N, D, ok, HS, HI⟩ := K
    have hok : (ok != ok) = false := by simp
    go_wp2_with fail
    refine (HS.out g1 n _ hg1).mono ?_
    rintro e w2 ⟨rfl, hb⟩
    have B2 := B1.trans (hb.mono B1.size)
    clear hb B1 hg1 HS
    have A1 := D2.new w2 (.int .i64 N) (.int .i64 D) 24
    replace B2 := B2.alloc B2.size (.cells #[.int .i64 N, .int .i64 D] 24)
    go_wp2_with fail
    generalize hw3 : w2.alloc (.cells #[.int .i64 N, .int .i64 D] 24) = w3 at A1 B2 ⊢
    refine (toFrS_any a n cap xs _ (HX.out.far B2) hn).mono ?_
    rintro e w4 ⟨g2, rfl, hg2, _, hb⟩
    replace A1 := A1.far hb
    have B4 := B2.trans (hb.mono B2.size)
    clear hb B2 hw3
    go_wp2_with fail
    refine (HI.out g2 n _ hg2).mono ?_
    rintro e w5 ⟨rfl, hb⟩
    replace A1 := A1.far hb
    replace hg2 := hg2.far hb
    have B5 := B4.trans (hb.mono B4.size)
    clear hb B4 HI
    have A2 := D2.new w5 (.int .i64 N) (.int .i64 D) 24
    have l1 := A1.lt
    replace A1 := A1.alloc (.cells #[.int .i64 N, .int .i64 D] 24)
    replace hg2 := hg2.far ((Below.refl _ w5).alloc (Nat.le_refl _) (.cells #[.int .i64 N, .int .i64 D] 24))
    replace B5 := B5.alloc B5.size (.cells #[.int .i64 N, .int .i64 D] 24)
    generalize w2.heap.size = g3 at A1 l1 ⊢
    obtain ⟨⟨x0, x1⟩, _, _⟩ := id A1
    obtain ⟨⟨x2, x3⟩, _, _⟩ := id A2
    go_wp2_with fail
    refine (eqFrac_yes N D _).mono ?_
    rintro e w6 ⟨rfl, hb⟩
    replace hg2 := hg2.far hb
    have B6 := B5.trans (hb.mono B5.size)
    clear hb B5 x0 x1 x2 x3 A1 A2
    go_wp2_with fail
    refine (toFrS_any a n cap xs _ (HX.out.far B6) hn).mono ?_
    rintro e w7 ⟨g4, rfl, hg4, _, hb⟩
    replace hg2 := hg2.far hb
    have B7 := B6.trans (hb.mono B6.size)
    clear hb B6
    go_wp2_with fail
    refine (eqFrS_any _ _ n n n xs _ hg2 hg4 hn).mono ?_
    rintro e w8 ⟨rfl, hb⟩
    go_wp2
    go_ret
    exact ⟨rfl, B7.trans (hb.mono B7.size)⟩
  · have h0 : (1048576 : Int) - n < 0 := by omega
    have HZ : Hid (∀ W : World, Calls Try.prog 21 #[.slice a n cap, .int .i64 1048576] W fun e w' => e = .returned (.int .i64 (-1)) ∧ W = w') := fun W => by
      have := szFrS_any a n cap 1048576 W (by omega) (by omega) hm
      rwa [if_pos h0] at this
    go_enter Try.func8, Try.ntmps8
    go_wp2_with fail
    refine (HZ.out _).mono ?_
    rintro e w0 ⟨rfl, rfl⟩
    go_wp2
    go_ret
    exact ⟨rfl, Below.refl _ _⟩
end Go.Proofs.Ytpeelgdcjmnhdaa
