/- Sums of lists of fractions in the specification: spec.l01FSum, spec.SumFractions; lists that are too long. -/
import Derived.Test.YtpeelgdcjmnhdaaFrSum
namespace Go.Proofs.Ytpeelgdcjmnhdaa
open Go.RowKit Go.PlainAid
set_option maxHeartbeats 800000

theorem isum_long (a : Option Addr) (n cap : Nat) (w : World) (hn : 64 < n) :
    Calls Try.prog 24 #[.slice a n cap] w fun e w' => e = .returned (.tuple #[.agg #[.int .i64 0, .int .i64 0], .bool false]) ∧ Below w.heap.size w w' := by
  go_enter Try.func24, Try.ntmps24
  go_wp2
  go_returns
  exact ⟨rfl, by go_grown⟩

theorem fsum_any (a : Option Addr) (n cap : Nat) (xs : List (Int × Int)) (w : World) (hx : FIn w a n xs) (hn : n ≤ 1048576) (ha : AllVF xs) :
    Calls Try.prog 41 #[.slice a n cap] w fun e w' => ∃ N D ok, e = .returned (.tuple #[.agg #[.int .i64 N, .int .i64 D], .bool ok]) ∧ Hid (SumV xs N D ok) ∧ Below w.heap.size w w' := by
  have HX := Lib.hid hx
  have HA := Lib.hid ha
  have hl := hx.1
  clear hx ha
  go_enter Try.func41, Try.ntmps41
  have A0 := (D2.new w (.int .i64 0) (.int .i64 0) 24).alloc (.cells #[.int .i64 0, .int .i64 1] 24)
  have A1 := D2.new (w.alloc (.cells #[.int .i64 0, .int .i64 0] 24)) (.int .i64 0) (.int .i64 1) 24
  have B : Below w.heap.size w ((w.alloc (.cells #[.int .i64 0, .int .i64 0] 24)).alloc (.cells #[.int .i64 0, .int .i64 1] 24)) := ((Below.refl _ w).alloc (Nat.le_refl _) _).alloc (by simp) _
  simp only [World.size_alloc] at A1
  go_wp2
  generalize ((w.alloc (.cells #[.int .i64 0, .int .i64 0] 24)).alloc (.cells #[.int .i64 0, .int .i64 1] 24)) = w1 at A0 A1 B ⊢
  go_loopw [5, 6, 7] (fun i _ _ wr => ∃ (k : Nat) (N D : Int), k ≤ n ∧ i = .int .i64 k ∧ Hid (VF N D ∧ sumR xs k = some (N, D)) ∧ D2 wr w.heap.size (.int .i64 0) (.int .i64 0) ∧ D2 wr (w.heap.size + 1) (.int .i64 N) (.int .i64 D) ∧ Below w.heap.size w wr) (fun i _ _ _ => n - (intOf i).toNat)
  case atStart => exact ⟨0, 0, 1, Nat.zero_le _, rfl, ⟨⟨by decide, by decide, by decide, by decide, by decide⟩, rfl⟩, A0, A1, B⟩
  case round =>
    clear A0 A1 B
    obtain ⟨k, N, D, hk, rfl, hv, A0, A1, B⟩ := hrel
    by_cases hlt : k < n
    · obtain ⟨b', o, x, y, rfl, hxy, c0, c1, hadd⟩ := (HX.out.far B).at hlt
      have HXY := Lib.hid hxy
      have hvf := HA.out (x, y) (List.mem_of_getElem? HXY.out)
      obtain ⟨n2, d2, ok, hav, _, hc⟩ := add_gives N D x y hv.out.1 hvf
      have HC : Hid (∀ W : World, Calls Try.prog 27 #[.agg #[.int .i64 N, .int .i64 D], .agg #[.int .i64 x, .int .i64 y]] W fun e w' => e = .returned (.tuple #[.agg #[.int .i64 n2, .int .i64 d2], .bool ok]) ∧ Below W.heap.size W w') := hc
      have hK := Lib.hid (addR_of hav)
      have hk1 : Hid (sumR xs (k + 1) = addR (N, D) (x, y)) := by
        show (sumR xs k).bind _ = _
        rw [hv.out.2]
        show addR (N, D) (xs.getD k (0, 1)) = _
        rw [List.getD_eq_getElem?_getD, HXY.out]
        rfl
      have HV2 : Hid (∀ s, addR (N, D) (x, y) = some s → VF s.1 s.2) := fun s hs => addR_VF (f := (N, D)) (g := (x, y)) hv.out.1 hvf hs
      have q4 : ∀ q : GR wr.drew none, q.w.cell? ⟨b', o + k * 2, none⟩ = some (.int .i64 x) := fun q => gt_cell (W0 := wr.drew) c0 ⟨q.w, (Below.refl _ wr.drew).grown q.h (Nat.le_refl _) (by simp)⟩
      have q5 : ∀ q : GR wr.drew none, q.w.cell? ⟨b', o + k * 2 + 1, none⟩ = some (.int .i64 y) := fun q => gt_cell (W0 := wr.drew) c1 ⟨q.w, (Below.refl _ wr.drew).grown q.h (Nat.le_refl _) (by simp)⟩
      clear hxy hvf hav hc c0 c1
      obtain ⟨q0, q1⟩ := (A1.drew).gr (rw := none) (by simp)
      go_wp2
      refine wp_region_mix (none) [0, 1, 2, 3, 4, 5, 6, 7, 8] [9, 10, 11] (by kernel_rfl) (by kernel_rfl) ?_
      simp only [pickOps, List.filterMap_cons, List.filterMap_nil, List.getElem?_toArray, List.getElem?_cons_succ, List.getElem?_cons_zero]
      repeat (refine wpQuietG_step (fun K hK => ?_); go_simp; first | (refine hK _ ?_; clear hK K) | (apply Exists.intro; refine ⟨fun _ => ?_, hK _ ?_⟩; (first | (with_reducible exact HC.out _)); clear hK K))
      refine wpQuietG_nil ?_
      clear q0 q1 q4 q5
      intro W2 hW1 hW2
      go_wp2
      refine ⟨gr_alloc hW1 _, ?_⟩
      intro W3 hW3 hW4
      have A2 := (D2.new W2 (.int .i64 0) (.int .i64 0) 24).far hW4
      obtain ⟨⟨x0, x1⟩, x2, x3⟩ := id A2
      have s3 : wr.heap.size ≤ W2.heap.size := hW1.size
      go_wp2
      refine ⟨gr_put hW3 (.inr s3) _ _, ?_⟩
      intro W4 hW5 hW6
      replace A2 := (A2.put (.int .i64 n2) (.int .i64 d2)).far hW6
      clear hW1 hW2 hW3 hW4 hW6 x0 x1 x2 x3
      go_wp2
      try refine ⟨hW5, ?_⟩
      intro W5 hW7 hW8
      replace hW7 := gr_undrew hW7
      replace A2 := A2.far hW8
      replace A0 := A0.grow hW7 (by simp)
      replace A1 := A1.grow hW7 (by simp)
      replace B := B.grown hW7 B.size (by simp)
      clear hW5 hW7 hW8 s3 HC
      generalize W2.heap.size = g3 at A2 ⊢
      cases ok
      · have HV : Hid (SumV xs 0 0 false) := by
          refine .inr ⟨rfl, rfl, rfl, fun h => ?_⟩
          obtain ⟨_, s, hs⟩ := h
          rcases hK.out with ⟨e1, _⟩ | ⟨_, _, _, e4⟩
          · cases e1
          · have h1 := hk1.out
            rw [e4] at h1
            have := sumR_none h1 (xs.length - (k + 1))
            rw [show k + 1 + (xs.length - (k + 1)) = xs.length by omega, hs] at this
            cases this
        clear hK hk1 HV2 A1 A2
        obtain ⟨p0, p1⟩ := (A0.put (.int .i64 0) (.int .i64 0)).1
        obtain ⟨⟨x4, x5⟩, x6, x7⟩ := id A0
        go_wp2
        unfold putD at p0 p1
        exact bodyPost_ret (v := .tuple #[.agg #[.int .i64 0, .int .i64 0], .bool false]) (by simp [results, Try.results41, go_sem, p0, p1]) rfl ⟨0, 0, false, rfl, HV, below_putD B (Nat.le_refl _) _ _⟩
      · have HV : Hid (VF n2 d2 ∧ sumR xs (k + 1) = some (n2, d2)) := by
          rcases hK.out with ⟨_, e2⟩ | ⟨e1, _⟩
          · exact ⟨HV2.out _ e2, by rw [hk1.out, e2]⟩
          · cases e1
        have P0 := Lib.hid (A0.away (show w.heap.size + 1 ≠ w.heap.size by omega) (.int .i64 n2) (.int .i64 d2))
        have P1 := Lib.hid (A1.put (.int .i64 n2) (.int .i64 d2))
        have PB := Lib.hid (below_putD B (show w.heap.size ≤ w.heap.size + 1 by omega) (.int .i64 n2) (.int .i64 d2))
        obtain ⟨⟨x0, x1⟩, x2, x3⟩ := id A1
        obtain ⟨⟨x4, x5⟩, _, _⟩ := id A2
        clear hK hk1 HV2 A0 A1 A2 B
        go_wp2
        go_roundw
        case rel => exact ⟨k + 1, n2, d2, by omega, by go_num, HV, P0.out, P1.out, PB.out⟩
        case measure => first | (simp [intOf]; done) | (simp [intOf]; omega)
    · obtain rfl : k = n := by omega
      have HV : Hid (SumV xs N D true) := .inl ⟨rfl, HA.out, by rw [hl]; exact hv.out.2⟩
      obtain ⟨p0, p1⟩ := (A0.put (.int .i64 N) (.int .i64 D)).1
      obtain ⟨⟨x4, x5⟩, x6, x7⟩ := id A0
      obtain ⟨⟨x0, x1⟩, _, _⟩ := id A1
      go_wp2
      unfold putD at p0 p1
      exact bodyPost_ret (v := .tuple #[.agg #[.int .i64 N, .int .i64 D], .bool true]) (by simp [results, Try.results41, go_sem, p0, p1]) rfl ⟨N, D, true, rfl, HV, below_putD B (Nat.le_refl _) _ _⟩

theorem ssum_any (a : Option Addr) (n cap : Nat) (xs : List (Int × Int)) (w : World) (hx : FIn w a n xs) (hn : n ≤ 64) :
    Calls Try.prog 22 #[.slice a n cap] w fun e w' => ∃ N D ok, e = .returned (.tuple #[.agg #[.int .i64 N, .int .i64 D], .bool ok]) ∧ Hid (SumV xs N D ok) ∧ Below w.heap.size w w' := by
  have HX := Lib.hid hx
  clear hx
  by_cases ha : AllVF xs
  · have HA := Lib.hid ha
    clear ha
    go_enter Try.func22, Try.ntmps22
    have B0 : Below w.heap.size w (w.alloc (.cells #[.int .i64 0, .int .i64 0] 24)) := (Below.refl _ w).alloc (Nat.le_refl _) _
    have A0 := D2.new w (.int .i64 0) (.int .i64 0) 24
    go_wp2_with fail
    refine ((fall_any a n cap xs _ (HX.out.far B0) (by omega)).1 HA.out).mono ?_
    rintro e w1 ⟨rfl, hb⟩
    replace A0 := A0.far hb
    have B := B0.trans (hb.mono B0.size)
    clear hb B0
    go_wp2_with fail
    refine (fsum_any a n cap xs _ (HX.out.far B) (by omega) HA.out).mono ?_
    rintro e w2 ⟨N, D, ok, rfl, HV, hb⟩
    replace A0 := A0.far hb
    replace B := B.trans (hb.mono B.size)
    clear hb
    obtain ⟨p0, p1⟩ := (A0.put (.int .i64 N) (.int .i64 D)).1
    obtain ⟨⟨x4, x5⟩, x6, x7⟩ := id A0
    go_wp2
    unfold putD at p0 p1
    exact bodyPost_ret (v := .tuple #[.agg #[.int .i64 N, .int .i64 D], .bool ok]) (by simp [results, Try.results22, go_sem, p0, p1]) rfl ⟨N, D, ok, rfl, HV, below_putD B (Nat.le_refl _) _ _⟩
  · have HV : Hid (SumV xs 0 0 false) := .inr ⟨rfl, rfl, rfl, fun h => ha h.1⟩
    have HA := Lib.hid ha
    clear ha
    go_enter Try.func22, Try.ntmps22
    have B0 : Below w.heap.size w (w.alloc (.cells #[.int .i64 0, .int .i64 0] 24)) := (Below.refl _ w).alloc (Nat.le_refl _) _
    have A0 := D2.new w (.int .i64 0) (.int .i64 0) 24
    go_wp2_with fail
    refine ((fall_any a n cap xs _ (HX.out.far B0) (by omega)).2 HA.out).mono ?_
    rintro e w1 ⟨rfl, hb⟩
    replace A0 := A0.far hb
    have B := B0.trans (hb.mono B0.size)
    clear hb B0
    obtain ⟨p0, p1⟩ := (A0.put (.int .i64 0) (.int .i64 0)).1
    obtain ⟨⟨x4, x5⟩, x6, x7⟩ := id A0
    go_wp2
    unfold putD at p0 p1
    exact bodyPost_ret (v := .tuple #[.agg #[.int .i64 0, .int .i64 0], .bool false]) (by simp [results, Try.results22, go_sem, p0, p1]) rfl ⟨0, 0, false, rfl, HV, below_putD B (Nat.le_refl _) _ _⟩
theorem ssum_long (a : Option Addr) (n cap : Nat) (w : World) (hn : 64 < n) :
    Calls Try.prog 22 #[.slice a n cap] w fun e w' => e = .returned (.tuple #[.agg #[.int .i64 0, .int .i64 0], .bool false]) ∧ Below w.heap.size w w' := by
  go_enter Try.func22, Try.ntmps22
  go_wp2
  go_returns
  exact ⟨rfl, by go_grown⟩
end Go.Proofs.Ytpeelgdcjmnhdaa
