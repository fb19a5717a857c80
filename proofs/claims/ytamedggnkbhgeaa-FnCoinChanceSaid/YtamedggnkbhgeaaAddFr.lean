/- Sums of fractions: impl.AddFractions. -/
import Derived.Test.YtamedggnkbhgeaaOver
import Derived.Test.YtamedggnkbhgeaaMix
import Derived.Test.YtamedggnkbhgeaaWide2
import Derived.Test.YtamedggnkbhgeaaCmp
import Derived.Test.YtamedggnkbhgeaaAddMath
namespace Go.Proofs.Ytamedggnkbhgeaa
open Go.RowKit Go.PlainAid
set_option maxHeartbeats 800000

/-- the sum as it is returned -/
def addOk (fn fd gn gd : Int) : Prop := Small (addN fn fd gn gd) ∧ Small (addD fn fd gn gd)
def addV (fn fd gn gd n d : Int) (ok : Bool) : Prop := (addOk fn fd gn gd ∧ n = addN fn fd gn gd ∧ d = addD fn fd gn gd ∧ ok = true) ∨ (¬ addOk fn fd gn gd ∧ n = 0 ∧ d = 0 ∧ ok = false)

/-- what the walks want of the numbers -/
theorem add_all (fn fd gn gd : Int) (hf : VF fn fd) (hg : VF gn gd) :
    ∃ G a b c e S N D : Int, gcdI fd gd = G ∧ 1 ≤ G ∧ G ≤ 1000000000000000000 ∧ fd.tdiv G = a ∧ gd.tdiv G = b ∧ 1 ≤ a ∧ a ≤ 1000000000000000000 ∧ 1 ≤ b ∧ b ≤ 1000000000000000000 ∧ fn * b + gn * a = S ∧ 1 ≤ c ∧ c ≤ 1000000000000000000 ∧
      gcdI S G = c ∧ gd.tdiv c = e ∧ 1 ≤ e ∧ e ≤ 1000000000000000000 ∧ S.tdiv c = N ∧ a * e = D ∧ addN fn fd gn gd = N ∧ addD fn fd gn gd = D ∧ 1 ≤ D ∧ gcdI N D = 1 ∧ fd / G = a ∧ gd / G = b ∧ gd / c = e := by
  obtain ⟨⟨f1, f2, f3, f4⟩, f5⟩ := hf.out
  obtain ⟨⟨g1, g2, g3, g4⟩, g5⟩ := hg.out
  obtain ⟨F, rfl⟩ := Int.eq_ofNat_of_zero_le (show 0 ≤ fd by omega)
  obtain ⟨H, rfl⟩ := Int.eq_ofNat_of_zero_le (show 0 ≤ gd by omega)
  have cf : Nat.Coprime fn.natAbs F := by unfold gcdI Int.gcd at f5; rw [Int.natAbs_natCast] at f5; show Nat.gcd _ _ = 1; omega
  have cg : Nat.Coprime gn.natAbs H := by unfold gcdI Int.gcd at g5; rw [Int.natAbs_natCast] at g5; show Nat.gcd _ _ = 1; omega
  obtain ⟨a, b, c, e, z, h1, h2, h3, h4, h5, a0, b0, c0, e0, h6, h7, h8, h9, h10⟩ := add_nat fn gn F H (by omega) (by omega) cf cg
  have G1 : 1 ≤ gcdI (F : Int) H := gcdI_pos _ _ (by omega)
  have G2 : gcdI (F : Int) H ≤ H := gcdI_le_right _ _ (by omega)
  have hS : fn * (b : Int) + gn * (a : Int) = addS fn F gn H := by unfold addS; rw [h1, h2]
  have hN : (addS fn F gn H).tdiv (c : Int) = z := by rw [h5, Int.mul_tdiv_cancel _ (by omega)]
  have be : 0 < b * e := Nat.mul_pos b0 e0
  refine ⟨gcdI F H, a, b, c, (b * e : Nat), addS fn F gn H, z, (a : Int) * (b * e : Nat), rfl, G1, by omega, ?_, ?_, by omega, by omega, by omega, by omega, hS, by omega, by omega, h3, ?_, by omega, by omega, hN, rfl, ?_, ?_, ?_, ?_, h1, h2, h4⟩
  · rw [Int.tdiv_eq_ediv_of_nonneg (by omega)]; exact h1
  · rw [Int.tdiv_eq_ediv_of_nonneg (by omega)]; exact h2
  · rw [Int.tdiv_eq_ediv_of_nonneg (by omega)]; exact h4
  · unfold addN; rw [h3]; exact hN
  · unfold addD; rw [h3, h4, h1]
  · have := Nat.mul_pos a0 be
    have q : ((a : Int) * (b * e : Nat)) = ((a * (b * e) : Nat) : Int) := by simp
    rw [q]
    omega
  · unfold gcdI Int.gcd
    have q : ((a : Int) * (b * e : Nat)).natAbs = a * (b * e) := by rw [Int.natAbs_mul, Int.natAbs_natCast, Int.natAbs_natCast]
    rw [q, h10]
    rfl

theorem gcdI_mod (s g : Int) (hg : 1 ≤ g) : gcdI ((s.natAbs % g.toNat : Nat) : Int) g = gcdI s g := by
  obtain ⟨G, rfl⟩ := Int.eq_ofNat_of_zero_le (show 0 ≤ g by omega)
  unfold gcdI Int.gcd
  rw [Int.natAbs_natCast, Int.natAbs_natCast, Int.toNat_natCast, ← Nat.gcd_rec, Nat.gcd_comm]

theorem bound_sum {fn gn a b : Int} (f3 : -1000000000000000000 ≤ fn) (f4 : fn ≤ 1000000000000000000) (g3 : -1000000000000000000 ≤ gn) (g4 : gn ≤ 1000000000000000000) (a1 : 1 ≤ a) (a2 : a ≤ 1000000000000000000) (b1 : 1 ≤ b) (b2 : b ≤ 1000000000000000000) :
    -85070591730234615865843651857942052864 < fn * b + gn * a ∧ fn * b + gn * a < 85070591730234615865843651857942052864 := by
  have h1 := prod60 fn b f3 f4 (by omega) b2
  have h2 := prod60 gn a g3 g4 (by omega) a2
  omega

theorem fracOf_fix (N D h1 l1 h2 l2 : Int) (e1 : Hid (h1 = hiU N)) (e2 : Hid (l1 = loU N)) (e3 : Hid (h2 = hiU D)) (e4 : Hid (l2 = loU D)) (hN : In128 N) (hD : In128 D) :
    ∃ n d ok, ((Small N ∧ Small D ∧ n = N ∧ d = D ∧ ok = true) ∨ (¬ (Small N ∧ Small D) ∧ n = 0 ∧ d = 0 ∧ ok = false)) ∧ ∀ W : World,
      Calls Try.prog 93 #[.agg #[.int .u64 h1, .int .u64 l1], .agg #[.int .u64 h2, .int .u64 l2]] W fun e w' => e = .returned (.tuple #[.agg #[.int .i64 n, .int .i64 d], .bool ok]) ∧ Below W.heap.size W w' := by
  by_cases hs : Small N ∧ Small D
  · refine ⟨N, D, true, .inl ⟨hs.1, hs.2, rfl, rfl, rfl⟩, fun W => (fracOf_any N D h1 l1 h2 l2 W e1 e2 e3 e4 hN hD).mono fun e w' ⟨n, d, ok, he, hv, hb⟩ => ?_⟩
    rcases hv.out with ⟨_, _, rfl, rfl, rfl⟩ | ⟨h, _⟩
    · exact ⟨he, hb⟩
    · exact absurd hs h
  · refine ⟨0, 0, false, .inr ⟨hs, rfl, rfl, rfl⟩, fun W => (fracOf_any N D h1 l1 h2 l2 W e1 e2 e3 e4 hN hD).mono fun e w' ⟨n, d, ok, he, hv, hb⟩ => ?_⟩
    rcases hv.out with ⟨h3, h4, _⟩ | ⟨_, rfl, rfl, rfl⟩
    · exact absurd ⟨h3, h4⟩ hs
    · exact ⟨he, hb⟩

theorem add_any (fn fd gn gd : Int) (hf : VF fn fd) (hg : VF gn gd) (w : World) :
    Calls Try.prog 83 #[.agg #[.int .i64 fn, .int .i64 fd], .agg #[.int .i64 gn, .int .i64 gd]] w fun e w' =>
      ∃ n d ok, e = .returned (.tuple #[.agg #[.int .i64 n, .int .i64 d], .bool ok]) ∧ Hid (addV fn fd gn gd n d ok) ∧ Below w.heap.size w w' := by
  obtain ⟨G, a, b, c, e, S, N, D, hG, G1, G2, ha, hb, a1, a2, b1, b2, hS, c1, c2, hc, he, e1, e2, hN, hD, eN, eD, D1, _, _⟩ := add_all fn fd gn gd hf hg
  obtain ⟨⟨f1, f2, f3, f4⟩, _⟩ := hf.out
  obtain ⟨⟨g1, g2, g3, g4⟩, _⟩ := hg.out
  obtain ⟨S1, S2⟩ := bound_sum f3 f4 g3 g4 a1 a2 b1 b2
  rw [hS] at S1 S2
  have HF := Lib.hid hf
  have HG := Lib.hid hg
  obtain ⟨r, hr⟩ : ∃ r, S.natAbs % G.toNat = r := ⟨_, rfl⟩
  have rl : r < G.toNat := by rw [← hr]; exact Nat.mod_lt _ (by omega)
  have N1 : -85070591730234615865843651857942052864 < N ∧ N < 85070591730234615865843651857942052864 := by
    have h1 := Nat.div_le_self S.natAbs c.natAbs
    have h2 : N.natAbs = S.natAbs / c.natAbs := by rw [← hN]; exact Int.natAbs_tdiv S c
    omega
  have P := prod60 a e (by omega) a2 (by omega) e2
  rw [hD] at P
  have M1 : Hid (∀ W : World, Calls Try.prog 54 #[.int .i64 fn, .int .i64 b] W fun e w' => e = .returned (.agg #[.int .u64 (hiU (fn * b)), .int .u64 (loU (fn * b))]) ∧ Below W.heap.size W w') := fun W => multiply_any _ _ W (by omega) (by omega) (by omega) (by omega)
  have M2 : Hid (∀ W : World, Calls Try.prog 54 #[.int .i64 gn, .int .i64 a] W fun e w' => e = .returned (.agg #[.int .u64 (hiU (gn * a)), .int .u64 (loU (gn * a))]) ∧ Below W.heap.size W w') := fun W => multiply_any _ _ W (by omega) (by omega) (by omega) (by omega)
  have M3 : Hid (∀ W : World, Calls Try.prog 55 #[.agg #[.int .u64 (hiU (fn * b)), .int .u64 (loU (fn * b))], .agg #[.int .u64 (hiU (gn * a)), .int .u64 (loU (gn * a))]] W fun e w' => e = .returned (.agg #[.int .u64 (hiU S), .int .u64 (loU S)]) ∧ Below W.heap.size W w') := fun W => by
    have := plus_any (fn * b) (gn * a) _ _ _ _ W rfl rfl rfl rfl
    rwa [hS] at this
  have M4 : Hid (∀ W : World, Calls Try.prog 92 #[.agg #[.int .u64 (hiU S), .int .u64 (loU S)], .int .i64 G] W fun e w' => e = .returned (.int .i64 r) ∧ Below W.heap.size W w') := fun W => by
    have := remainder_any S _ _ G.toNat W rfl rfl (by omega) (by omega) (by omega) (by omega)
    rwa [hr, show ((G.toNat : Nat) : Int) = G by omega] at this
  have M5 : Hid (∀ W : World, Calls Try.prog 58 #[.int .i64 r, .int .i64 G] W fun e w' => e = .returned (.int .i64 c) ∧ ∃ m, w' = W.drewN m) := fun W => by
    have := common_any r G W (by omega) (by omega) (by omega) (by omega)
    rwa [← hr, gcdI_mod S G G1, hc, hr] at this
  have M6 : Hid (∀ W : World, Calls Try.prog 94 #[.agg #[.int .u64 (hiU S), .int .u64 (loU S)], .int .i64 c] W fun e w' => e = .returned (.agg #[.int .u64 (hiU N), .int .u64 (loU N)]) ∧ Below W.heap.size W w') := fun W => by
    have := over_any S _ _ c.toNat W rfl rfl (by omega) (by omega) (by omega) (by omega)
    rwa [show ((c.toNat : Nat) : Int) = c by omega, hN] at this
  have M7 : Hid (∀ W : World, Calls Try.prog 54 #[.int .i64 a, .int .i64 e] W fun e w' => e = .returned (.agg #[.int .u64 (hiU D), .int .u64 (loU D)]) ∧ Below W.heap.size W w') := fun W => by
    have := multiply_any a e W (by omega) (by omega) (by omega) (by omega)
    rwa [hD] at this
  obtain ⟨n, d, ok, hv, M8⟩ := fracOf_fix N D (hiU N) (loU N) (hiU D) (loU D) rfl rfl rfl rfl ⟨by omega, by omega⟩ ⟨by omega, by omega⟩
  replace M8 := Lib.hid M8
  have HV : Hid (addV fn fd gn gd n d ok) := by
    unfold Hid addV addOk
    rw [eN, eD]
    rcases hv with ⟨v1, v2, v3, v4, v5⟩ | ⟨v1, v2, v3, v4⟩
    · exact .inl ⟨⟨v1, v2⟩, v3, v4, v5⟩
    · exact .inr ⟨v1, v2, v3, v4⟩
  have M0 : Hid (∀ W : World, Calls Try.prog 58 #[.int .i64 fd, .int .i64 gd] W fun e w' => e = .returned (.int .i64 G) ∧ ∃ m, w' = W.drewN m) := fun W => by
    have := common_any fd gd W (by omega) (by omega) (by omega) (by omega)
    rwa [hG] at this
  have w1 : IntKind.i64.wrap (gd.tdiv G) = b := by rw [hb]; exact IntWalk.i64_in _ (by omega)
  have w2 : IntKind.i64.wrap (fd.tdiv G) = a := by rw [ha]; exact IntWalk.i64_in _ (by omega)
  have w3 : IntKind.i64.wrap (gd.tdiv c) = e := by rw [he]; exact IntWalk.i64_in _ (by omega)
  have z1 : ¬ G = 0 := by omega
  have z2 : ¬ c = 0 := by omega
  generalize hiU (fn * b) = h1 at M1 M3
  generalize loU (fn * b) = l1 at M1 M3
  generalize hiU (gn * a) = h2 at M2 M3
  generalize loU (gn * a) = l2 at M2 M3
  generalize hiU S = h3 at M3 M4 M6
  generalize loU S = l3 at M3 M4 M6
  generalize hiU N = h4 at M6 M8
  generalize loU N = l4 at M6 M8
  generalize hiU D = h5 at M7 M8
  generalize loU D = l5 at M7 M8
  clear hf hg hG ha hb hS hc he hN hD eN eD P N1 S1 S2 hr rl D1 hv G1 G2 a1 a2 b1 b2 c1 c2 e1 e2 f1 f2 f3 f4 g1 g2 g3 g4
  go_enter Try.func83, Try.ntmps83
  have A0 := ((D2.new w (.int .i64 fn) (.int .i64 fd) 37).alloc (.cells #[.int .i64 gn, .int .i64 gd] 37)).alloc (.cells #[.int .i64 0, .int .i64 0] 37)
  have A1 := (D2.new (w.alloc (.cells #[.int .i64 fn, .int .i64 fd] 37)) (.int .i64 gn) (.int .i64 gd) 37).alloc (.cells #[.int .i64 0, .int .i64 0] 37)
  have A2 := (D2.new ((w.alloc (.cells #[.int .i64 fn, .int .i64 fd] 37)).alloc (.cells #[.int .i64 gn, .int .i64 gd] 37)) (.int .i64 0) (.int .i64 0) 37)
  have B : Below w.heap.size w (((w.alloc (.cells #[.int .i64 fn, .int .i64 fd] 37)).alloc (.cells #[.int .i64 gn, .int .i64 gd] 37)).alloc (.cells #[.int .i64 0, .int .i64 0] 37)) :=
    (((Below.refl _ w).alloc (Nat.le_refl _) _).alloc (by simp) _).alloc (by simp; omega) _
  simp only [World.size_alloc] at A1 A2
  go_wp2_with fail
  refine (valid_yes _ _ _ HF.out).mono ?_
  rintro e w3 ⟨rfl, hb⟩
  replace A0 := A0.far hb
  replace A1 := A1.far hb
  replace A2 := A2.far hb
  replace B := B.trans (hb.mono B.size)
  clear hb
  obtain ⟨⟨x0, x1⟩, _, _⟩ := id A1
  go_wp2_with fail
  refine (valid_yes _ _ _ HG.out).mono ?_
  rintro e w4 ⟨rfl, hb⟩
  replace A0 := A0.far hb
  replace A1 := A1.far hb
  replace A2 := A2.far hb
  replace B := B.trans (hb.mono B.size)
  clear hb x0 x1
  obtain ⟨⟨x0, x1⟩, _, _⟩ := id A0
  obtain ⟨⟨x2, x3⟩, _, _⟩ := id A1
  go_wp2_with fail
  refine (M0.out _).mono ?_
  rintro e w5 ⟨rfl, m, rfl⟩
  replace A0 : D2 (w4.drewN m) _ _ _ := A0.drewN m
  replace A1 : D2 (w4.drewN m) _ _ _ := A1.drewN m
  replace A2 : D2 (w4.drewN m) _ _ _ := A2.drewN m
  replace B := below_drewN B m
  clear x0 x1 x2 x3
  generalize w4.drewN m = w5 at A0 A1 A2 B ⊢
  go_wp2_with fail
  obtain ⟨q0, q1⟩ := (A0.drew).gr (rw := none) (by simp)
  obtain ⟨q2, q3⟩ := (A1.drew).gr (rw := none) (by simp)
  refine wp_region_mix (none) [0, 1, 2, 3, 4, 5, 6, 7, 8, 9, 10, 11, 12, 13, 14] [15, 16] (by kernel_rfl) (by kernel_rfl) ?_
  simp only [pickOps, List.filterMap_cons, List.filterMap_nil, List.getElem?_toArray, List.getElem?_cons_succ, List.getElem?_cons_zero]
  repeat (refine wpQuietG_step (fun K hK => ?_); go_simp; first | (refine hK _ ?_; clear hK K) | (apply Exists.intro; refine ⟨fun _ => ?_, hK _ ?_⟩; (first | (with_reducible exact M1.out _) | (with_reducible exact M2.out _) | (with_reducible exact M3.out _)); clear hK K))
  refine wpQuietG_nil ?_
  clear q0 q1 q2 q3
  have z4 := A2.lt
  intro W2 hW1 hW2
  go_wp2
  refine ⟨gr_alloc hW1 _, ?_⟩
  intro W3 hW3 hW4
  have A3 := (D2.new W2 (.int .u64 0) (.int .u64 0) 76).far hW4
  obtain ⟨⟨x0, x1⟩, x2, x3⟩ := id A3
  have s3 : w5.heap.size ≤ W2.heap.size := hW1.size
  go_wp2
  refine ⟨gr_put hW3 (.inr s3) _ _, ?_⟩
  intro W4 hW5 hW6
  replace hW5 := gr_undrew hW5
  replace A3 := (A3.put (.int .u64 h3) (.int .u64 l3)).far hW6
  replace A0 := A0.grow hW5 (by simp)
  replace A1 := A1.grow hW5 (by simp)
  replace A2 := A2.grow hW5 (by simp)
  replace B := B.grown hW5 B.size (by simp)
  have z5 := A2.lt
  clear hW1 hW2 hW3 hW4 hW5 hW6 x0 x1 x2 x3 M1 M2 M3
  obtain ⟨⟨x0, x1⟩, _, _⟩ := id A3
  go_wp2_with fail
  refine (M4.out _).mono ?_
  rintro e w6 ⟨rfl, hb⟩
  replace A0 := A0.far hb
  replace A1 := A1.far hb
  replace A2 := A2.far hb
  replace A3 := A3.far hb
  replace B := B.trans (hb.mono B.size)
  clear hb x0 x1
  go_wp2_with fail
  refine (M5.out _).mono ?_
  rintro e w7 ⟨rfl, m2, rfl⟩
  replace A0 : D2 (w6.drewN m2) _ _ _ := A0.drewN m2
  replace A1 : D2 (w6.drewN m2) _ _ _ := A1.drewN m2
  replace A2 : D2 (w6.drewN m2) _ _ _ := A2.drewN m2
  replace A3 : D2 (w6.drewN m2) _ _ _ := A3.drewN m2
  replace B := below_drewN B m2
  generalize w6.drewN m2 = w7 at A0 A1 A2 A3 B ⊢
  obtain ⟨q0, q1⟩ := (A0.drew).gr (rw := some (w.heap.size + 1 + 1)) (fun e => by have := Option.some.inj e; omega)
  obtain ⟨q2, q3⟩ := (A1.drew).gr (rw := some (w.heap.size + 1 + 1)) (fun e => by have := Option.some.inj e; omega)
  obtain ⟨q4, q5⟩ := (A3.drew).gr (rw := some (w.heap.size + 1 + 1)) (fun e => by have := Option.some.inj e; omega)
  go_wp2_with fail
  refine wp_region_mix (some (w.heap.size + 1 + 1)) [0, 1, 2, 3, 4, 5, 6, 7, 8, 9, 10, 11, 12, 13, 14] [15, 16] (by kernel_rfl) (by kernel_rfl) ?_
  simp only [pickOps, List.filterMap_cons, List.filterMap_nil, List.getElem?_toArray, List.getElem?_cons_succ, List.getElem?_cons_zero]
  repeat (refine wpQuietG_step (fun K hK => ?_); go_simp; first | (refine hK _ ?_; clear hK K) | (apply Exists.intro; refine ⟨fun _ => ?_, hK _ ?_⟩; (first | (with_reducible exact M6.out _) | (with_reducible exact M7.out _) | (with_reducible exact M8.out _)); clear hK K))
  refine wpQuietG_nil ?_
  clear q0 q1 q2 q3 q4 q5 A0 A1 A3
  intro W5 hW1 hW2
  replace A2 := A2.far (of_drew hW2)
  obtain ⟨⟨x0, x1⟩, x2, x3⟩ := id A2
  go_wp2
  refine ⟨gr_put hW1 (.inl rfl) _ _, ?_⟩
  intro W6 hW3 hW4
  replace A2 := (A2.put (.int .i64 n) (.int .i64 d)).far hW4
  go_wp2
  try refine ⟨hW3, ?_⟩
  intro W7 hW5 hW6
  replace hW5 := gr_undrew hW5
  obtain ⟨p0, p1⟩ := (A2.far hW6).1
  go_wp2
  exact bodyPost_ret (v := .tuple #[.agg #[.int .i64 n, .int .i64 d], .bool ok]) (by simp [results, Try.results83, go_sem, p0, p1]) rfl ⟨n, d, ok, rfl, HV, B.grown hW5 B.size (by simp; omega)⟩

theorem add_no (fn fd gn gd : Int) (w : World) (h : ¬ (VF fn fd ∧ VF gn gd)) :
    Calls Try.prog 83 #[.agg #[.int .i64 fn, .int .i64 fd], .agg #[.int .i64 gn, .int .i64 gd]] w fun e w' => e = .returned (.tuple #[.agg #[.int .i64 0, .int .i64 0], .bool false]) ∧ Below w.heap.size w w' := by
  have H : ∃ p q : Bool, (p && q) = false ∧ Hid (∀ W : World, Calls Try.prog 53 #[.agg #[.int .i64 fn, .int .i64 fd]] W fun e w' => e = .returned (.bool p) ∧ Below W.heap.size W w') ∧
      Hid (∀ W : World, Calls Try.prog 53 #[.agg #[.int .i64 gn, .int .i64 gd]] W fun e w' => e = .returned (.bool q) ∧ Below W.heap.size W w') := by
    by_cases hf : VF fn fd
    · exact ⟨true, false, rfl, fun W => valid_yes _ _ W hf, fun W => valid_no _ _ W fun x => h ⟨hf, x⟩⟩
    · by_cases hg : VF gn gd
      · exact ⟨false, true, rfl, fun W => valid_no _ _ W hf, fun W => valid_yes _ _ W hg⟩
      · exact ⟨false, false, rfl, fun W => valid_no _ _ W hf, fun W => valid_no _ _ W hg⟩
  obtain ⟨p, q, hpq, HP, HQ⟩ := H
  clear h
  go_enter Try.func83, Try.ntmps83
  have A1 := (D2.new (w.alloc (.cells #[.int .i64 fn, .int .i64 fd] 37)) (.int .i64 gn) (.int .i64 gd) 37).alloc (.cells #[.int .i64 0, .int .i64 0] 37)
  have A2 := (D2.new ((w.alloc (.cells #[.int .i64 fn, .int .i64 fd] 37)).alloc (.cells #[.int .i64 gn, .int .i64 gd] 37)) (.int .i64 0) (.int .i64 0) 37)
  have B : Below w.heap.size w (((w.alloc (.cells #[.int .i64 fn, .int .i64 fd] 37)).alloc (.cells #[.int .i64 gn, .int .i64 gd] 37)).alloc (.cells #[.int .i64 0, .int .i64 0] 37)) :=
    (((Below.refl _ w).alloc (Nat.le_refl _) _).alloc (by simp) _).alloc (by simp; omega) _
  simp only [World.size_alloc] at A1 A2
  cases p
  · go_wp2_with fail
    refine (HP.out _).mono ?_
    rintro e w3 ⟨rfl, hb⟩
    replace A2 := A2.far hb
    replace B := B.trans (hb.mono B.size)
    clear hb A1
    obtain ⟨p0, p1⟩ := (A2.put (.int .i64 0) (.int .i64 0)).1
    obtain ⟨⟨x0, x1⟩, x2, x3⟩ := id A2
    go_wp2
    unfold putD at p0 p1
    exact bodyPost_ret (v := .tuple #[.agg #[.int .i64 0, .int .i64 0], .bool false]) (by simp [results, Try.results83, go_sem, p0, p1]) rfl ⟨rfl, below_putD B (by omega) _ _⟩
  · obtain rfl : q = false := by simpa using hpq
    go_wp2_with fail
    refine (HP.out _).mono ?_
    rintro e w3 ⟨rfl, hb⟩
    replace A1 := A1.far hb
    replace A2 := A2.far hb
    replace B := B.trans (hb.mono B.size)
    clear hb
    obtain ⟨⟨x0, x1⟩, _, _⟩ := id A1
    go_wp2_with fail
    refine (HQ.out _).mono ?_
    rintro e w4 ⟨rfl, hb⟩
    replace A2 := A2.far hb
    replace B := B.trans (hb.mono B.size)
    clear hb A1 x0 x1
    obtain ⟨p0, p1⟩ := (A2.put (.int .i64 0) (.int .i64 0)).1
    obtain ⟨⟨x0, x1⟩, x2, x3⟩ := id A2
    go_wp2
    unfold putD at p0 p1
    exact bodyPost_ret (v := .tuple #[.agg #[.int .i64 0, .int .i64 0], .bool false]) (by simp [results, Try.results83, go_sem, p0, p1]) rfl ⟨rfl, below_putD B (by omega) _ _⟩
end Go.Proofs.Ytamedggnkbhgeaa
