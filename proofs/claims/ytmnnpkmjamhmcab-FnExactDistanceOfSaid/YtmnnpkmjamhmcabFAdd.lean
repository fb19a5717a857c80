/- Sums of fractions in the specification: spec.l01FAdd. -/
import Derived.Test.YtmnnpkmjamhmcabSplit
import Derived.Test.YtmnnpkmjamhmcabAddFr
import Derived.Deep.CutBlock
import Derived.Deep.DeepCutAuto
namespace Go.Proofs.Ytmnnpkmjamhmcab
open Go.RowKit Go.PlainAid
set_option maxHeartbeats 1600000

theorem abs_mul (f b : Int) (_hb : 1 ≤ b) : (f < 0 → f * b = -((f.natAbs : Nat) * b)) ∧ (¬ f < 0 → f * b = (f.natAbs : Nat) * b) := by
  constructor
  · intro h
    rw [show f = -((f.natAbs : Nat) : Int) by omega, Int.neg_mul, Int.natAbs_neg, Int.natAbs_natCast]
  · intro h
    rw [show ((f.natAbs : Nat) : Int) = f by omega]

/-- the size of a sum, and its sign -/
def Sized (S T : Int) (m : Bool) : Prop := 0 ≤ T ∧ (m = true → S = -T) ∧ (m = false → S = T)

theorem small_abs (N : Int) : Small ((N.natAbs : Nat) : Int) ↔ Small N := by unfold Small; omega

set_option maxRecDepth 10000 in
theorem fadd_any (fn fd gn gd : Int) (hf : VF fn fd) (hg : VF gn gd) (w : World) :
    Calls Try.prog 184 #[.agg #[.int .i64 fn, .int .i64 fd], .agg #[.int .i64 gn, .int .i64 gd]] w fun e w' =>
      ∃ n d ok, e = .returned (.tuple #[.agg #[.int .i64 n, .int .i64 d], .bool ok]) ∧ Hid (addV fn fd gn gd n d ok) ∧ Below w.heap.size w w' := by
  obtain ⟨G, a, b, c, e, S, N, D, hG, G1, G2, ha, hb, a1, a2, b1, b2, hS, c1, c2, hc, he, e1, e2, hN, hD, eN, eD, D1, gND, ia, ib, ie⟩ := add_all fn fd gn gd hf hg
  obtain ⟨⟨f1, f2, f3, f4⟩, _⟩ := hf.out
  obtain ⟨⟨g1, g2, g3, g4⟩, _⟩ := hg.out
  obtain ⟨S1, S2⟩ := bound_sum f3 f4 g3 g4 a1 a2 b1 b2
  rw [hS] at S1 S2
  obtain ⟨k1, k2⟩ := abs_mul fn b b1
  obtain ⟨k3, k4⟩ := abs_mul gn a a1
  have px := prod60 (fn.natAbs : Nat) b (by omega) (by omega) (by omega) b2
  have py := prod60 (gn.natAbs : Nat) a (by omega) (by omega) (by omega) a2
  have p0x : 0 ≤ ((fn.natAbs : Nat) : Int) * b := Int.mul_nonneg (by omega) (by omega)
  have p0y : 0 ≤ ((gn.natAbs : Nat) : Int) * a := Int.mul_nonneg (by omega) (by omega)
  have P := prod60 a e (by omega) a2 (by omega) e2
  rw [hD] at P
  have T1 : Hid (∀ W : World, Calls Try.prog 144 #[.int .i64 (fn.natAbs : Nat), .int .i64 b] W fun e w' => e = .returned (.agg #[.int .u64 (hiU ((fn.natAbs : Nat) * b)), .int .u64 (loU ((fn.natAbs : Nat) * b))]) ∧ Below W.heap.size W w') := fun W => times_any _ _ W (by omega) (by omega) (by omega) (by omega)
  have T2 : Hid (∀ W : World, Calls Try.prog 144 #[.int .i64 (gn.natAbs : Nat), .int .i64 a] W fun e w' => e = .returned (.agg #[.int .u64 (hiU ((gn.natAbs : Nat) * a)), .int .u64 (loU ((gn.natAbs : Nat) * a))]) ∧ Below W.heap.size W w') := fun W => times_any _ _ W (by omega) (by omega) (by omega) (by omega)
  have T3 : Hid (∀ W : World, Calls Try.prog 144 #[.int .i64 a, .int .i64 e] W fun e w' => e = .returned (.agg #[.int .u64 (hiU D), .int .u64 (loU D)]) ∧ Below W.heap.size W w') := fun W => by
    have := times_any a e W (by omega) (by omega) (by omega) (by omega)
    rwa [hD] at this
  have L1 : Hid (∀ W : World, Calls Try.prog 65 #[.int .i64 fn, .int .i64 (-fn)] W fun e w' => e = .returned (.int .i64 (fn.natAbs : Nat)) ∧ W = w') := fun W => l00Max_abs fn W (by omega) (by omega)
  have L2 : Hid (∀ W : World, Calls Try.prog 65 #[.int .i64 gn, .int .i64 (-gn)] W fun e w' => e = .returned (.int .i64 (gn.natAbs : Nat)) ∧ W = w') := fun W => l00Max_abs gn W (by omega) (by omega)
  have M0 : Hid (∀ W : World, Calls Try.prog 117 #[.int .i64 fd, .int .i64 gd] W fun e w' => e = .returned (.int .i64 G) ∧ W = w') := fun W => by
    have := l01Gcd_any fd gd W (by omega) (by omega) (by omega) (by omega)
    rwa [hG] at this
  obtain ⟨X, hX⟩ : ∃ X, ((fn.natAbs : Nat) : Int) * b = X := ⟨_, rfl⟩
  obtain ⟨Y, hY⟩ : ∃ X, ((gn.natAbs : Nat) : Int) * a = X := ⟨_, rfl⟩
  rw [hX] at T1 k1 k2 px p0x
  rw [hY] at T2 k3 k4 py p0y
  obtain ⟨A', hA'⟩ : ∃ X : Int, (fn.natAbs : Nat) = X := ⟨_, rfl⟩
  obtain ⟨B', hB'⟩ : ∃ X : Int, (gn.natAbs : Nat) = X := ⟨_, rfl⟩
  rw [hA'] at T1 L1
  rw [hB'] at T2 L2
  have n1 : IntKind.i64.wrap (-fn) = -fn := IntWalk.i64_in _ (by omega)
  have n2 : IntKind.i64.wrap (-gn) = -gn := IntWalk.i64_in _ (by omega)
  have w1 : IntKind.i64.wrap (gd.tdiv G) = b := by rw [hb]; exact IntWalk.i64_in _ (by omega)
  have w2 : IntKind.i64.wrap (fd.tdiv G) = a := by rw [ha]; exact IntWalk.i64_in _ (by omega)
  have w3 : IntKind.i64.wrap (gd.tdiv c) = e := by rw [he]; exact IntWalk.i64_in _ (by omega)
  have z1 : ¬ G = 0 := by omega
  have z2 : ¬ c = 0 := by omega
  have NX : Nat126 X := ⟨p0x, by omega⟩
  have NY : Nat126 Y := ⟨p0y, by omega⟩
  have HS : Hid (Sized S S.natAbs (decide (S < 0))) := by
    refine ⟨by omega, fun h => ?_, fun h => ?_⟩
    · have := of_decide_eq_true h; omega
    · have := of_decide_eq_false h; omega
  -- the rest, by the size T
  have HK : Hid (S = fn * b + gn * a ∧ (fn < 0 → fn * b = -X) ∧ (¬ fn < 0 → fn * b = X) ∧ (gn < 0 → gn * a = -Y) ∧ (¬ gn < 0 → gn * a = Y)) := ⟨hS.symm, k1, k2, k3, k4⟩
  have HR : Hid (gcdI S G = c ∧ S.tdiv c = N ∧ addN fn fd gn gd = N ∧ addD fn fd gn gd = D ∧ gcdI N D = 1) := ⟨hc, hN, eN, eD, gND⟩
  have HB : Hid ((1 ≤ G ∧ G ≤ 1000000000000000000) ∧ (1 ≤ c ∧ c ≤ 1000000000000000000) ∧ (-85070591730234615865843651857942052864 < S ∧ S < 85070591730234615865843651857942052864) ∧ (-1000000000000000000000000000000000000 ≤ D ∧ D ≤ 1000000000000000000000000000000000000) ∧ 1 ≤ D) := ⟨⟨G1, G2⟩, ⟨c1, c2⟩, ⟨S1, S2⟩, P, D1⟩
  have HA : Hid (fd.tdiv G = a ∧ gd.tdiv c = e ∧ 1 ≤ a ∧ a ≤ 1000000000000000000 ∧ 1 ≤ e ∧ e ≤ 1000000000000000000) := ⟨ha, he, a1, a2, e1, e2⟩
  clear k1 k2 k3 k4 hX hY hA' hB' HS hf hg hG ha hb hS hc he hN hD eN eD gND ia ib ie G1 G2 c1 c2 S1 S2 P D1 a1 a2 b1 b2 e1 e2 px py p0x p0y f1 f2 f3 f4 g1 g2 g3 g4
  go_enter Try.func184, Try.ntmps184
  generalize hQ : bodyPost Try.prog Try.f184 (fun e w' => ∃ n d ok, e = .returned (.tuple #[.agg #[.int .i64 n, .int .i64 d], .bool ok]) ∧ Hid (addV fn fd gn gd n d ok) ∧ Below w.heap.size w w') = Q0
  replace hQ := Lib.hid hQ
  have A0 := ((D2.new w (.int .i64 fn) (.int .i64 fd) 27).alloc (.cells #[.int .i64 gn, .int .i64 gd] 27)).alloc (.cells #[.int .i64 0, .int .i64 0] 27)
  have A1 := (D2.new (w.alloc (.cells #[.int .i64 fn, .int .i64 fd] 27)) (.int .i64 gn) (.int .i64 gd) 27).alloc (.cells #[.int .i64 0, .int .i64 0] 27)
  have A2 := (D2.new ((w.alloc (.cells #[.int .i64 fn, .int .i64 fd] 27)).alloc (.cells #[.int .i64 gn, .int .i64 gd] 27)) (.int .i64 0) (.int .i64 0) 27)
  have B : Below w.heap.size w (((w.alloc (.cells #[.int .i64 fn, .int .i64 fd] 27)).alloc (.cells #[.int .i64 gn, .int .i64 gd] 27)).alloc (.cells #[.int .i64 0, .int .i64 0] 27)) :=
    (((Below.refl _ w).alloc (Nat.le_refl _) _).alloc (by simp) _).alloc (by simp; omega) _
  simp only [World.size_alloc] at A1 A2
  go_wp2_with fail
  refine (M0.out _).mono ?_
  rintro e w1 ⟨rfl, rfl⟩
  generalize (((w.alloc (.cells #[.int .i64 fn, .int .i64 fd] 27)).alloc (.cells #[.int .i64 gn, .int .i64 gd] 27)).alloc (.cells #[.int .i64 0, .int .i64 0] 27)) = w1 at A0 A1 A2 B ⊢
  go_wp2_with fail
  obtain ⟨q0, q1⟩ := (A0.drew).gr (rw := none) (by simp)
  obtain ⟨q2, q3⟩ := (A1.drew).gr (rw := none) (by simp)
  have still : ∀ {f : FuncId} {args : Array Value} {v : Value} {W : World}, (Calls Try.prog f args W fun e w' => e = .returned v ∧ W = w') → Calls Try.prog f args W fun e w' => e = .returned v ∧ Below W.heap.size W w' := fun h => h.mono fun _ _ ⟨h1, h2⟩ => ⟨h1, by rw [← h2]; exact Below.refl _ _⟩
  have L1' := Lib.hid fun W => still (L1.out W)
  have L2' := Lib.hid fun W => still (L2.out W)
  refine wp_region_mix (none) [0, 1, 2, 3, 4, 5, 6, 7, 8, 9, 10] [11, 12] (by kernel_rfl) (by kernel_rfl) ?_
  simp only [pickOps, List.filterMap_cons, List.filterMap_nil, List.getElem?_toArray, List.getElem?_cons_succ, List.getElem?_cons_zero]
  repeat (refine wpQuietG_step (fun K hK => ?_); go_simp; first | (refine hK _ ?_; clear hK K) | (apply Exists.intro; refine ⟨fun _ => ?_, hK _ ?_⟩; (first | (with_reducible exact L1'.out _) | (with_reducible exact T1.out _)); clear hK K))
  refine wpQuietG_nil ?_
  clear q0 q1 q2 q3
  have z4 := A2.lt
  intro W2 hW1 hW2
  go_wp2
  refine ⟨gr_alloc hW1 _, ?_⟩
  intro W3 hW3 hW4
  have A3 := (D2.new W2 (.int .u64 0) (.int .u64 0) 189).far hW4
  obtain ⟨⟨x0, x1⟩, x2, x3⟩ := id A3
  have s3 : w1.heap.size ≤ W2.heap.size := hW1.size
  go_wp2
  refine ⟨gr_put hW3 (.inr s3) _ _, ?_⟩
  intro W4 hW5 hW6
  replace hW5 := gr_undrew hW5
  replace A3 := (A3.put (.int .u64 (hiU X)) (.int .u64 (loU X))).far hW6
  replace A0 := A0.grow hW5 (by simp)
  replace A1 := A1.grow hW5 (by simp)
  replace A2 := A2.grow hW5 (by simp)
  replace B := B.grown hW5 B.size (by simp)
  clear hW1 hW2 hW3 hW4 hW5 hW6 x0 x1 x2 x3 T1 s3 z4 L1'
  generalize W2.heap.size = g3 at A3 ⊢
  go_wp2_with fail
  obtain ⟨q0, q1⟩ := (A0.drew).gr (rw := none) (by simp)
  obtain ⟨q2, q3⟩ := (A1.drew).gr (rw := none) (by simp)
  refine wp_region_mix (none) [0, 1, 2, 3, 4, 5, 6, 7, 8, 9, 10] [11, 12] (by kernel_rfl) (by kernel_rfl) ?_
  simp only [pickOps, List.filterMap_cons, List.filterMap_nil, List.getElem?_toArray, List.getElem?_cons_succ, List.getElem?_cons_zero]
  repeat (refine wpQuietG_step (fun K hK => ?_); go_simp; first | (refine hK _ ?_; clear hK K) | (apply Exists.intro; refine ⟨fun _ => ?_, hK _ ?_⟩; (first | (with_reducible exact L2'.out _) | (with_reducible exact T2.out _)); clear hK K))
  refine wpQuietG_nil ?_
  clear q0 q1 q2 q3
  intro W5 hW1 hW2
  go_wp2
  refine ⟨gr_alloc hW1 _, ?_⟩
  intro W6 hW3 hW4
  have A4 := (D2.new W5 (.int .u64 0) (.int .u64 0) 189).far hW4
  obtain ⟨⟨x0, x1⟩, x2, x3⟩ := id A4
  have s3 : W4.heap.size ≤ W5.heap.size := hW1.size
  go_wp2
  refine ⟨gr_put hW3 (.inr s3) _ _, ?_⟩
  intro W7 hW5 hW6
  replace hW5 := gr_undrew hW5
  replace A4 := (A4.put (.int .u64 (hiU Y)) (.int .u64 (loU Y))).far hW6
  replace A0 := A0.grow hW5 (by simp)
  replace A1 := A1.grow hW5 (by simp)
  replace A2 := A2.grow hW5 (by simp)
  replace A3 := A3.grow hW5 (by simp)
  replace B := B.grown hW5 B.size (by simp)
  clear hW1 hW2 hW3 hW4 hW5 hW6 x0 x1 x2 x3 T2 s3 L2'
  generalize W5.heap.size = g4 at A4 ⊢
  have A5 := D2.new W7 (.int .u64 0) (.int .u64 0) 189
  have l0 := A0.lt
  have l1 := A1.lt
  have l2 := A2.lt
  have l3 := A3.lt
  have l4 := A4.lt
  obtain ⟨⟨x0, x1⟩, _, _⟩ := id A0
  obtain ⟨⟨x2, x3⟩, _, _⟩ := id A1
  go_upto_block 0 with fail
  have s7 : w.heap.size ≤ W7.heap.size := B.size
  have n0 := A2.lt
  have n3 := A3.lt
  have n4 := A4.lt
  clear x0 x1 x2 x3 l0 l1 l2 l3 l4
  replace A0 := A0.alloc (.cells #[.int .u64 0, .int .u64 0] 189)
  replace A1 := A1.alloc (.cells #[.int .u64 0, .int .u64 0] 189)
  replace A2 := A2.alloc (.cells #[.int .u64 0, .int .u64 0] 189)
  replace A3 := A3.alloc (.cells #[.int .u64 0, .int .u64 0] 189)
  replace A4 := A4.alloc (.cells #[.int .u64 0, .int .u64 0] 189)
  replace B := B.alloc B.size (.cells #[.int .u64 0, .int .u64 0] 189)
  obtain ⟨g5, hg5⟩ : ∃ g, W7.heap.size = g := ⟨_, rfl⟩
  generalize W7.alloc (.cells #[.int .u64 0, .int .u64 0] 189) = W8 at A0 A1 A2 A3 A4 A5 B ⊢
  rw [hg5] at A5 s7 n0 n3 n4 ⊢
  clear hg5
  go_cut [9] from 20 (fun m wx => ∃ (T : Int) (mb : Bool), m = .bool mb ∧ Hid (Sized S T mb) ∧ D2 wx g5 (.int .u64 (hiU T)) (.int .u64 (loU T)) ∧ D2 wx w.heap.size (.int .i64 fn) (.int .i64 fd) ∧ D2 wx (w.heap.size + 1) (.int .i64 gn) (.int .i64 gd) ∧ D2 wx (w.heap.size + 1 + 1) (.int .i64 0) (.int .i64 0) ∧ Below w.heap.size w wx)
  case first =>
    obtain ⟨hS, k1, k2, k3, k4⟩ := HK.out
    clear HK
    obtain ⟨⟨x0, x1⟩, _, _⟩ := id A0
    obtain ⟨⟨x2, x3⟩, _, _⟩ := id A1
    obtain ⟨⟨x4, x5⟩, _, _⟩ := id A3
    obtain ⟨⟨x6, x7⟩, _, _⟩ := id A4
    have hX0 := NX.1
    have hY0 := NY.1
    replace NX := Lib.hid NX
    replace NY := Lib.hid NY
    by_cases hs : fn < 0
    · have k1' := k1 (by omega)
      by_cases hs2 : gn < 0
      · have k3' := k3 (by omega)
        have HT : Hid (Sized S (X + Y) true) := ⟨by omega, fun _ => by omega, fun h => Bool.noConfusion h⟩
        clear k1 k2 k3 k4 k1' k3' hS
        go_wp2_with fail
        refine (plusL_any X Y _ _ _ _ _ rfl rfl rfl rfl NX.out NY.out).mono ?_
        rintro e w9 ⟨rfl, hb⟩
        replace A0 := A0.far hb
        replace A1 := A1.far hb
        replace A2 := A2.far hb
        replace A5 := A5.far hb
        replace B := B.trans (hb.mono B.size)
        clear hb x0 x1 x2 x3 x4 x5 x6 x7
        obtain ⟨⟨x0, x1⟩, x2, x3⟩ := id A5
        go_wp2
        go_meet
        case rel => exact ⟨X + Y, true, by first | rfl | (simp; omega), HT, A5.put _ _, A0.away (by omega) _ _, A1.away (by omega) _ _, A2.away (by omega) _ _, below_putD B (by omega) _ _⟩
      · have k3' := k4 (by omega)
        by_cases hlt : X < Y
        · have HT : Hid (Sized S (Y - X) false) := ⟨by omega, fun h => Bool.noConfusion h, fun _ => by omega⟩
          have HLT := Lib.hid hlt
          clear k1 k2 k3 k4 k1' k3' hS hlt
          go_wp2_with fail
          refine (less_yes X Y _ NX.out NY.out HLT.out).mono ?_
          rintro e w10 ⟨rfl, hb⟩
          replace A0 := A0.far hb
          replace A1 := A1.far hb
          replace A2 := A2.far hb
          replace A3 := A3.far hb
          replace A4 := A4.far hb
          replace A5 := A5.far hb
          replace B := B.trans (hb.mono B.size)
          clear hb x0 x1 x2 x3 x4 x5 x6 x7
          obtain ⟨⟨x0, x1⟩, _, _⟩ := id A0
          obtain ⟨⟨x2, x3⟩, _, _⟩ := id A1
          obtain ⟨⟨x4, x5⟩, _, _⟩ := id A3
          obtain ⟨⟨x6, x7⟩, _, _⟩ := id A4
          go_wp2_with fail
          refine (minusL_any Y X _ _ _ _ _ rfl rfl rfl rfl NY.out NX.out (by have := HLT.out; omega)).mono ?_
          rintro e w9 ⟨rfl, hb⟩
          replace A0 := A0.far hb
          replace A1 := A1.far hb
          replace A2 := A2.far hb
          replace A5 := A5.far hb
          replace B := B.trans (hb.mono B.size)
          clear hb x0 x1 x2 x3 x4 x5 x6 x7
          obtain ⟨⟨x0, x1⟩, x2, x3⟩ := id A5
          have y0 := (A1.away (show g5 ≠ w.heap.size + 1 by omega) (.int .u64 (hiU (Y - X))) (.int .u64 (loU (Y - X)))).1.1
          unfold putD at y0
          go_wp2
          go_meet
          case rel => exact ⟨Y - X, false, by first | rfl | (simp; omega), HT, A5.put _ _, A0.away (by omega) _ _, A1.away (by omega) _ _, A2.away (by omega) _ _, below_putD B (by omega) _ _⟩
        · have HT : Hid (Sized S (X - Y) true) := ⟨by omega, fun _ => by omega, fun h => Bool.noConfusion h⟩
          have HLT := Lib.hid hlt
          clear k1 k2 k3 k4 k1' k3' hS hlt
          go_wp2_with fail
          refine (less_no X Y _ NX.out NY.out (by have := HLT.out; omega)).mono ?_
          rintro e w10 ⟨rfl, hb⟩
          replace A0 := A0.far hb
          replace A1 := A1.far hb
          replace A2 := A2.far hb
          replace A3 := A3.far hb
          replace A4 := A4.far hb
          replace A5 := A5.far hb
          replace B := B.trans (hb.mono B.size)
          clear hb x0 x1 x2 x3 x4 x5 x6 x7
          obtain ⟨⟨x0, x1⟩, _, _⟩ := id A0
          obtain ⟨⟨x2, x3⟩, _, _⟩ := id A1
          obtain ⟨⟨x4, x5⟩, _, _⟩ := id A3
          obtain ⟨⟨x6, x7⟩, _, _⟩ := id A4
          go_wp2_with fail
          refine (minusL_any X Y _ _ _ _ _ rfl rfl rfl rfl NX.out NY.out (by have := HLT.out; omega)).mono ?_
          rintro e w9 ⟨rfl, hb⟩
          replace A0 := A0.far hb
          replace A1 := A1.far hb
          replace A2 := A2.far hb
          replace A5 := A5.far hb
          replace B := B.trans (hb.mono B.size)
          clear hb x0 x1 x2 x3 x4 x5 x6 x7
          obtain ⟨⟨x0, x1⟩, x2, x3⟩ := id A5
          go_wp2
          go_meet
          case rel => exact ⟨X - Y, true, by first | rfl | (simp; omega), HT, A5.put _ _, A0.away (by omega) _ _, A1.away (by omega) _ _, A2.away (by omega) _ _, below_putD B (by omega) _ _⟩
    · have k1' := k2 (by omega)
      by_cases hs2 : gn < 0
      · have k3' := k3 (by omega)
        by_cases hlt : X < Y
        · have HT : Hid (Sized S (Y - X) true) := ⟨by omega, fun _ => by omega, fun h => Bool.noConfusion h⟩
          have HLT := Lib.hid hlt
          clear k1 k2 k3 k4 k1' k3' hS hlt
          go_wp2_with fail
          refine (less_yes X Y _ NX.out NY.out HLT.out).mono ?_
          rintro e w10 ⟨rfl, hb⟩
          replace A0 := A0.far hb
          replace A1 := A1.far hb
          replace A2 := A2.far hb
          replace A3 := A3.far hb
          replace A4 := A4.far hb
          replace A5 := A5.far hb
          replace B := B.trans (hb.mono B.size)
          clear hb x0 x1 x2 x3 x4 x5 x6 x7
          obtain ⟨⟨x0, x1⟩, _, _⟩ := id A0
          obtain ⟨⟨x2, x3⟩, _, _⟩ := id A1
          obtain ⟨⟨x4, x5⟩, _, _⟩ := id A3
          obtain ⟨⟨x6, x7⟩, _, _⟩ := id A4
          go_wp2_with fail
          refine (minusL_any Y X _ _ _ _ _ rfl rfl rfl rfl NY.out NX.out (by have := HLT.out; omega)).mono ?_
          rintro e w9 ⟨rfl, hb⟩
          replace A0 := A0.far hb
          replace A1 := A1.far hb
          replace A2 := A2.far hb
          replace A5 := A5.far hb
          replace B := B.trans (hb.mono B.size)
          clear hb x0 x1 x2 x3 x4 x5 x6 x7
          obtain ⟨⟨x0, x1⟩, x2, x3⟩ := id A5
          have y0 := (A1.away (show g5 ≠ w.heap.size + 1 by omega) (.int .u64 (hiU (Y - X))) (.int .u64 (loU (Y - X)))).1.1
          unfold putD at y0
          go_wp2
          go_meet
          case rel => exact ⟨Y - X, true, by first | rfl | (simp; omega), HT, A5.put _ _, A0.away (by omega) _ _, A1.away (by omega) _ _, A2.away (by omega) _ _, below_putD B (by omega) _ _⟩
        · have HT : Hid (Sized S (X - Y) false) := ⟨by omega, fun h => Bool.noConfusion h, fun _ => by omega⟩
          have HLT := Lib.hid hlt
          clear k1 k2 k3 k4 k1' k3' hS hlt
          go_wp2_with fail
          refine (less_no X Y _ NX.out NY.out (by have := HLT.out; omega)).mono ?_
          rintro e w10 ⟨rfl, hb⟩
          replace A0 := A0.far hb
          replace A1 := A1.far hb
          replace A2 := A2.far hb
          replace A3 := A3.far hb
          replace A4 := A4.far hb
          replace A5 := A5.far hb
          replace B := B.trans (hb.mono B.size)
          clear hb x0 x1 x2 x3 x4 x5 x6 x7
          obtain ⟨⟨x0, x1⟩, _, _⟩ := id A0
          obtain ⟨⟨x2, x3⟩, _, _⟩ := id A1
          obtain ⟨⟨x4, x5⟩, _, _⟩ := id A3
          obtain ⟨⟨x6, x7⟩, _, _⟩ := id A4
          go_wp2_with fail
          refine (minusL_any X Y _ _ _ _ _ rfl rfl rfl rfl NX.out NY.out (by have := HLT.out; omega)).mono ?_
          rintro e w9 ⟨rfl, hb⟩
          replace A0 := A0.far hb
          replace A1 := A1.far hb
          replace A2 := A2.far hb
          replace A5 := A5.far hb
          replace B := B.trans (hb.mono B.size)
          clear hb x0 x1 x2 x3 x4 x5 x6 x7
          obtain ⟨⟨x0, x1⟩, x2, x3⟩ := id A5
          go_wp2
          go_meet
          case rel => exact ⟨X - Y, false, by first | rfl | (simp; omega), HT, A5.put _ _, A0.away (by omega) _ _, A1.away (by omega) _ _, A2.away (by omega) _ _, below_putD B (by omega) _ _⟩
      · have k3' := k4 (by omega)
        have HT : Hid (Sized S (X + Y) false) := ⟨by omega, fun h => Bool.noConfusion h, fun _ => by omega⟩
        clear k1 k2 k3 k4 k1' k3' hS
        go_wp2_with fail
        refine (plusL_any X Y _ _ _ _ _ rfl rfl rfl rfl NX.out NY.out).mono ?_
        rintro e w9 ⟨rfl, hb⟩
        replace A0 := A0.far hb
        replace A1 := A1.far hb
        replace A2 := A2.far hb
        replace A5 := A5.far hb
        replace B := B.trans (hb.mono B.size)
        clear hb x0 x1 x2 x3 x4 x5 x6 x7
        obtain ⟨⟨x0, x1⟩, x2, x3⟩ := id A5
        go_wp2
        go_meet
        case rel => exact ⟨X + Y, false, by first | rfl | (simp; omega), HT, A5.put _ _, A0.away (by omega) _ _, A1.away (by omega) _ _, A2.away (by omega) _ _, below_putD B (by omega) _ _⟩
  case rest =>
    obtain ⟨T, mb, rfl, hT, A5', A0', A1', A2', B'⟩ := hcut
    clear A0 A1 A2 A3 A4 A5 B n3 n4 NX NY HK L1 L2 M0 n1 n2 w1 w2
    obtain ⟨⟨G1, G2⟩, ⟨c1, c2⟩, ⟨S1, S2⟩, P, D1⟩ := HB.out
    obtain ⟨hc, hN, eN, eD, gND⟩ := HR.out
    obtain ⟨t0, t1, t2⟩ := hT.out
    obtain ⟨Tn, rfl⟩ := Int.eq_ofNat_of_zero_le t0
    have hTn : Tn = S.natAbs := by cases mb; (have := t2 rfl; omega); (have := t1 rfl; omega)
    obtain ⟨Gn, rfl⟩ := Int.eq_ofNat_of_zero_le (show 0 ≤ G by omega)
    obtain ⟨cn, rfl⟩ := Int.eq_ofNat_of_zero_le (show 0 ≤ c by omega)
    have V1 : Hid (∀ W : World, Calls Try.prog 219 #[.agg #[.int .u64 (hiU Tn), .int .u64 (loU Tn)], .int .i64 Gn] W fun e w' => e = .returned (.tuple #[.agg #[.int .u64 (hiU (Tn / Gn : Nat)), .int .u64 (loU (Tn / Gn : Nat))], .int .i64 (Tn % Gn : Nat)]) ∧ Below W.heap.size W w') :=
      fun W => split_any Tn Gn _ _ W rfl rfl (by omega) (by omega) (by omega)
    have V2 : Hid (∀ W : World, Calls Try.prog 117 #[.int .i64 Gn, .int .i64 (Tn % Gn : Nat)] W fun e w' => e = .returned (.int .i64 cn) ∧ W = w') := fun W => by
      have hm := Nat.mod_lt Tn (show 0 < Gn by omega)
      have := l01Gcd_any Gn (Tn % Gn : Nat) W (by omega) (by omega) (by omega) (by omega)
      rw [gcdI_comm] at this
      have h2 := gcdI_mod S Gn (by omega)
      rw [Int.toNat_natCast, ← hTn, hc] at h2
      rwa [h2] at this
    have V3 : Hid (∀ W : World, Calls Try.prog 219 #[.agg #[.int .u64 (hiU Tn), .int .u64 (loU Tn)], .int .i64 cn] W fun e w' => e = .returned (.tuple #[.agg #[.int .u64 (hiU (Tn / cn : Nat)), .int .u64 (loU (Tn / cn : Nat))], .int .i64 (Tn % cn : Nat)]) ∧ Below W.heap.size W w') :=
      fun W => split_any Tn cn _ _ W rfl rfl (by omega) (by omega) (by omega)
    have hq : ((Tn / cn : Nat) : Int) = (N.natAbs : Nat) := by
      rw [← hN, Int.natAbs_tdiv, hTn]
      rfl
    have nle : N.natAbs ≤ Tn := by have := Nat.div_le_self Tn cn; omega
    have hNS : (mb = true → N = -((N.natAbs : Nat) : Int)) ∧ (mb = false → N = ((N.natAbs : Nat) : Int)) := by
      refine ⟨fun h => ?_, fun h => ?_⟩
      · have := t1 h
        rw [← hN, this, Int.neg_tdiv, Int.tdiv_eq_ediv_of_nonneg (by omega), ← Int.natCast_ediv]
        omega
      · have := t2 h
        rw [← hN, this, Int.tdiv_eq_ediv_of_nonneg (by omega), ← Int.natCast_ediv]
        omega
    rw [hq] at V3
    obtain ⟨n, o1, sn, C1⟩ := small_any (N.natAbs : Nat) (hiU (N.natAbs : Nat)) (loU (N.natAbs : Nat)) rfl rfl (by omega) ⟨by omega, by omega⟩
    obtain ⟨d, o2, sd, C2⟩ := small_any D (hiU D) (loU D) rfl rfl (by omega) ⟨by omega, by omega⟩
    replace C1 := Lib.hid C1
    replace C2 := Lib.hid C2
    generalize hiU (Tn / Gn : Nat) = j1 at V1
    generalize loU (Tn / Gn : Nat) = j2 at V1
    generalize ((Tn % Gn : Nat) : Int) = j3 at V1 V2
    generalize ((Tn % cn : Nat) : Int) = j4 at V3
    generalize hiU (N.natAbs : Nat) = j5 at V3 C1
    generalize loU (N.natAbs : Nat) = j6 at V3 C1
    generalize hiU D = j7 at T3 C2
    generalize loU D = j8 at T3 C2
    have hDN : N = 0 → D = 1 := fun h => by
      rw [h] at gND
      unfold gcdI Int.gcd at gND
      simp at gND
      omega
    have HD : Hid ((∀ x : Int, partV (N.natAbs : Nat) n o1 → True) ∧ (N = 0 → D = 1)) := ⟨fun _ _ => trivial, hDN⟩
    have HF : Hid (partV (N.natAbs : Nat) n o1 ∧ partV D d o2 ∧ (mb = true → N = -((N.natAbs : Nat) : Int)) ∧ (mb = false → N = ((N.natAbs : Nat) : Int)) ∧ addN fn fd gn gd = N ∧ addD fn fd gn gd = D) := ⟨sn, sd, hNS.1, hNS.2, eN, eD⟩
    have nb : -1000000000000000000 ≤ n ∧ n ≤ 1000000000000000000 := by
      rcases sn with ⟨h, h2, _⟩ | ⟨_, h2, _⟩
      · rw [h2]; exact h.out
      · omega
    have n1 : IntKind.i64.wrap (-n) = -n := IntWalk.i64_in _ (by omega)
    have z3 : ¬ (cn : Int) = 0 := by omega
    have z4 : ¬ cn = 0 := by omega
    have z5 : ¬ Gn = 0 := by omega
    clear hDN sn sd hNS eN eD gND hN hc hq nle hTn t0 t1 t2 hT S1 S2 P D1 G1 G2 c1 c2 HR HB nb
    obtain ⟨⟨x0, x1⟩, _, _⟩ := id A5'
    go_wp2_with fail
    refine (V1.out _).mono ?_
    rintro e w9 ⟨rfl, hb⟩
    replace A0' := A0'.far hb
    replace A1' := A1'.far hb
    replace A2' := A2'.far hb
    replace A5' := A5'.far hb
    replace B' := B'.trans (hb.mono B'.size)
    clear hb x0 x1 V1
    go_wp2_with fail
    refine (V2.out _).mono ?_
    rintro e w10 ⟨rfl, rfl⟩
    replace A0' := A0'.alloc (.cells #[.int .u64 j1, .int .u64 j2] 189)
    replace A1' := A1'.alloc (.cells #[.int .u64 j1, .int .u64 j2] 189)
    replace A2' := A2'.alloc (.cells #[.int .u64 j1, .int .u64 j2] 189)
    replace A5' := A5'.alloc (.cells #[.int .u64 j1, .int .u64 j2] 189)
    replace B' := B'.alloc B'.size (.cells #[.int .u64 j1, .int .u64 j2] 189)
    generalize w9.alloc (.cells #[.int .u64 j1, .int .u64 j2] 189) = w10 at A0' A1' A2' A5' B' ⊢
    obtain ⟨⟨x0, x1⟩, _, _⟩ := id A5'
    go_wp2_with fail
    refine (V3.out _).mono ?_
    rintro e w11 ⟨rfl, hb⟩
    replace A0' := A0'.far hb
    replace A1' := A1'.far hb
    replace A2' := A2'.far hb
    replace B' := B'.trans (hb.mono B'.size)
    clear hb x0 x1 V2 V3 A5'
    go_wp2_with fail
    refine (C1.out _).mono ?_
    rintro e w12 ⟨rfl, hb⟩
    replace A0' := (A0'.alloc (.cells #[.int .u64 j5, .int .u64 j6] 189)).far hb
    replace A1' := (A1'.alloc (.cells #[.int .u64 j5, .int .u64 j6] 189)).far hb
    replace A2' := (A2'.alloc (.cells #[.int .u64 j5, .int .u64 j6] 189)).far hb
    replace B' := (B'.alloc B'.size (.cells #[.int .u64 j5, .int .u64 j6] 189)).trans (hb.mono (by have := B'.size; simp; omega))
    clear hb C1
    go_wp2_with fail
    obtain ⟨q0, q1⟩ := (A0'.drew).gr (rw := none) (by simp)
    obtain ⟨q2, q3⟩ := (A1'.drew).gr (rw := none) (by simp)
    have y1 : fd.tdiv Gn = a := HA.out.1
    have y2 : gd.tdiv cn = e := HA.out.2.1
    have y3 : IntKind.i64.wrap a = a := IntWalk.i64_in _ (by have := HA.out.2.2; omega)
    have y4 : IntKind.i64.wrap e = e := IntWalk.i64_in _ (by have := HA.out.2.2; omega)
    refine wp_region_mix (none) [0, 1, 2, 3, 4, 5, 6, 7, 8, 9, 10, 11, 12, 13, 14] [] (by kernel_rfl) (by kernel_rfl) ?_
    simp only [pickOps, List.filterMap_cons, List.filterMap_nil, List.getElem?_toArray, List.getElem?_cons_succ, List.getElem?_cons_zero]
    repeat (refine wpQuietG_step (fun K hK => ?_); go_simp; first | (refine hK _ ?_; clear hK K) | (apply Exists.intro; refine ⟨fun _ => ?_, hK _ ?_⟩; (first | (with_reducible exact T3.out _) | (with_reducible exact C2.out _)); clear hK K))
    refine wpQuietG_nil ?_
    intro W hW1 hW2
    replace hW1 := gr_undrew hW1
    replace A2' := A2'.grow hW1 (by simp)
    replace B' := B'.grown hW1 B'.size (by simp)
    clear q0 q1 q2 q3 A0' A1' hW1 hW2 T3 C2 w3
    have R : ∀ x y : Int, (putD W (w.heap.size + 1 + 1) (.int .i64 x) (.int .i64 y)).cell? ⟨w.heap.size + 1 + 1, 0, none⟩ = some (.int .i64 x) ∧ (putD W (w.heap.size + 1 + 1) (.int .i64 x) (.int .i64 y)).cell? ⟨w.heap.size + 1 + 1, 1, none⟩ = some (.int .i64 y) := fun x y => (A2'.put _ _).1
    replace R := Lib.hid R
    obtain ⟨⟨x0, x1⟩, x2, x3⟩ := id A2'
    clear still
    have NO : (o1 && o2) = false → Hid (addV fn fd gn gd 0 0 false) := fun h => by
      obtain ⟨sn, sd, _, _, eN, eD⟩ := HF.out
      refine .inr ⟨fun x => ?_, rfl, rfl, rfl⟩
      unfold addOk at x
      rw [eN, eD] at x
      rcases sn with ⟨_, _, r1⟩ | ⟨r1, _, _⟩
      · rcases sd with ⟨_, _, r2⟩ | ⟨r2, _, _⟩
        · rw [r1, r2] at h; exact Bool.noConfusion h
        · exact r2 x.2
      · exact r1 ((small_abs N).2 x.1)
    have YES : o1 = true → o2 = true → n = (N.natAbs : Nat) ∧ d = D ∧ ∀ n' d', n' = N → d' = D → Hid (addV fn fd gn gd n' d' true) := fun h1 h2 => by
      obtain ⟨sn, sd, _, _, eN, eD⟩ := HF.out
      rcases sn with ⟨r1, r2, _⟩ | ⟨_, _, r3⟩
      · rcases sd with ⟨s1, s2, _⟩ | ⟨_, _, s3⟩
        · refine ⟨r2, s2, fun n' d' h3 h4 => .inl ⟨?_, by rw [h3, eN], by rw [h4, eD], rfl⟩⟩
          unfold addOk
          rw [eN, eD]
          exact ⟨(small_abs N).1 r1, s1⟩
        · rw [s3] at h2; exact Bool.noConfusion h2
      · rw [r3] at h1; exact Bool.noConfusion h1
    have SG : Hid ((mb = true → N = -((N.natAbs : Nat) : Int)) ∧ (mb = false → N = ((N.natAbs : Nat) : Int))) := ⟨HF.out.2.2.1, HF.out.2.2.2.1⟩
    replace NO := Lib.hid NO
    replace YES := Lib.hid YES
    clear HF
    cases o1
    · obtain ⟨p0, p1⟩ := R.out 0 0
      unfold putD at p0 p1
      go_wp2
      rw [← hQ.out]
      exact bodyPost_ret (v := .tuple #[.agg #[.int .i64 0, .int .i64 0], .bool false]) (by simp [results, Try.results184, go_sem, p0, p1]) rfl ⟨0, 0, false, rfl, NO.out rfl, below_putD B' (by omega) _ _⟩
    · cases o2
      · obtain ⟨p0, p1⟩ := R.out 0 0
        unfold putD at p0 p1
        go_wp2
        rw [← hQ.out]
        exact bodyPost_ret (v := .tuple #[.agg #[.int .i64 0, .int .i64 0], .bool false]) (by simp [results, Try.results184, go_sem, p0, p1]) rfl ⟨0, 0, false, rfl, NO.out rfl, below_putD B' (by omega) _ _⟩
      · obtain ⟨en, ed, hv⟩ := YES.out rfl rfl
        replace hv := Lib.hid hv
        replace en := Lib.hid en
        replace ed := Lib.hid ed
        clear NO YES
        cases mb
        · have sg := Lib.hid (SG.out.2 rfl)
          by_cases h0 : n = 0
          · have b0 : (n == 0) = true := by simp [h0]
            have q1 : Hid (n = N) := by unfold Hid; rw [en.out, ← sg.out]
            have q2 : Hid ((1 : Int) = D) := by unfold Hid; rw [HD.out.2 (by rw [← q1.out]; exact h0)]
            obtain ⟨p0, p1⟩ := R.out n 1
            clear h0 HD
            unfold putD at p0 p1
            go_wp2
            rw [← hQ.out]
            exact bodyPost_ret (v := .tuple #[.agg #[.int .i64 n, .int .i64 1], .bool true]) (by simp [results, Try.results184, go_sem, p0, p1]) rfl ⟨n, 1, true, rfl, hv.out _ _ q1.out q2.out, below_putD B' (by omega) _ _⟩
          · have b0 : (n == 0) = false := by simp [h0]
            have q1 : Hid (n = N) := by unfold Hid; rw [en.out, ← sg.out]
            obtain ⟨p0, p1⟩ := R.out n d
            clear h0 HD
            unfold putD at p0 p1
            go_wp2
            rw [← hQ.out]
            exact bodyPost_ret (v := .tuple #[.agg #[.int .i64 n, .int .i64 d], .bool true]) (by simp [results, Try.results184, go_sem, p0, p1]) rfl ⟨n, d, true, rfl, hv.out _ _ q1.out ed.out, below_putD B' (by omega) _ _⟩
        · have sg := Lib.hid (SG.out.1 rfl)
          by_cases h0 : n = 0
          · have b0 : (-n == 0) = true := by simp [h0]
            have q1 : Hid (-n = N) := by unfold Hid; rw [en.out, ← sg.out]
            have q2 : Hid ((1 : Int) = D) := by unfold Hid; rw [HD.out.2 (by rw [← q1.out]; omega)]
            obtain ⟨p0, p1⟩ := R.out (-n) 1
            clear h0 HD
            unfold putD at p0 p1
            go_wp2
            rw [← hQ.out]
            exact bodyPost_ret (v := .tuple #[.agg #[.int .i64 (-n), .int .i64 1], .bool true]) (by simp [results, Try.results184, go_sem, p0, p1]) rfl ⟨-n, 1, true, rfl, hv.out _ _ q1.out q2.out, below_putD B' (by omega) _ _⟩
          · have b0 : (-n == 0) = false := by simp [h0]
            have q1 : Hid (-n = N) := by unfold Hid; rw [en.out, ← sg.out]
            obtain ⟨p0, p1⟩ := R.out (-n) d
            clear h0 HD
            unfold putD at p0 p1
            go_wp2
            rw [← hQ.out]
            exact bodyPost_ret (v := .tuple #[.agg #[.int .i64 (-n), .int .i64 d], .bool true]) (by simp [results, Try.results184, go_sem, p0, p1]) rfl ⟨-n, d, true, rfl, hv.out _ _ q1.out ed.out, below_putD B' (by omega) _ _⟩
end Go.Proofs.Ytmnnpkmjamhmcab
