/- Products of fractions: impl.MulFractions, spec.l01FMul, MulFractions, and the law. -/
import Derived.Test.YtamedggnkbhgeaaFrLaw
namespace Go.Proofs.Ytamedggnkbhgeaa
open Go.RowKit Go.PlainAid
set_option maxHeartbeats 800000

def mulN (fn fd gn gd : Int) : Int := fn.tdiv (gcdI fn gd) * gn.tdiv (gcdI gn fd)
def mulD (fn fd gn gd : Int) : Int := fd.tdiv (gcdI gn fd) * gd.tdiv (gcdI fn gd)
def mulOk (fn fd gn gd : Int) : Prop := Small (mulN fn fd gn gd) ∧ Small (mulD fn fd gn gd)
def mulV (fn fd gn gd n d : Int) (ok : Bool) : Prop := (mulOk fn fd gn gd ∧ n = mulN fn fd gn gd ∧ d = mulD fn fd gn gd ∧ ok = true) ∨ (¬ mulOk fn fd gn gd ∧ n = 0 ∧ d = 0 ∧ ok = false)

theorem prod60' (a b : Int) (h1 : -1000000000000000000 ≤ a) (h2 : a ≤ 1000000000000000000) (h3 : -1000000000000000000 ≤ b) (h4 : b ≤ 1000000000000000000) : -1000000000000000000000000000000000000 ≤ a * b ∧ a * b ≤ 1000000000000000000000000000000000000 := by
  by_cases h : 0 ≤ b
  · exact prod60 a b h1 h2 h h4
  · have := prod60 a (-b) h1 h2 (by omega) (by omega)
    rw [Int.mul_neg] at this
    omega

theorem mul_all (fn fd gn gd : Int) (hf : VF fn fd) (hg : VF gn gd) :
    ∃ p q a b c e : Int, gcdI fn gd = p ∧ gcdI gn fd = q ∧ 1 ≤ p ∧ 1 ≤ q ∧ fn.tdiv p = a ∧ gn.tdiv q = b ∧ fd.tdiv q = c ∧ gd.tdiv p = e ∧ (-1000000000000000000 ≤ a ∧ a ≤ 1000000000000000000) ∧ (-1000000000000000000 ≤ b ∧ b ≤ 1000000000000000000) ∧
      (0 ≤ c ∧ c ≤ 1000000000000000000) ∧ (0 ≤ e ∧ e ≤ 1000000000000000000) ∧ mulN fn fd gn gd = a * b ∧ mulD fn fd gn gd = c * e := by
  obtain ⟨⟨f1, f2, f3, f4⟩, f5⟩ := hf.out
  obtain ⟨⟨g1, g2, g3, g4⟩, g5⟩ := hg.out
  have p1 := gcdI_pos fn gd (by omega)
  have q1 := gcdI_pos gn fd (by omega)
  obtain ⟨a1, a2⟩ := tdiv_in fn _ 1000000000000000000 p1 (by omega) f4
  obtain ⟨b1, b2⟩ := tdiv_in gn _ 1000000000000000000 q1 (by omega) g4
  obtain ⟨c1, c2⟩ := tdiv_in fd _ 1000000000000000000 q1 (by omega) f2
  obtain ⟨e1, e2⟩ := tdiv_in gd _ 1000000000000000000 p1 (by omega) g2
  exact ⟨_, _, _, _, _, _, rfl, rfl, p1, q1, rfl, rfl, rfl, rfl, ⟨by omega, a2⟩, ⟨by omega, b2⟩, ⟨Int.tdiv_nonneg (by omega) (by omega), c2⟩, ⟨Int.tdiv_nonneg (by omega) (by omega), e2⟩, rfl, rfl⟩

theorem mul_any (fn fd gn gd : Int) (hf : VF fn fd) (hg : VF gn gd) : ∃ n d ok, mulV fn fd gn gd n d ok ∧ GivesFrac 84 #[.agg #[.int .i64 fn, .int .i64 fd], .agg #[.int .i64 gn, .int .i64 gd]] n d ok := by
  obtain ⟨p, q, a, b, c, r, hp, hq, p1, q1, ha, hb, hc, he, ⟨a1, a2⟩, ⟨b1, b2⟩, ⟨c1, c2⟩, ⟨e1, e2⟩, eN, eD⟩ := mul_all fn fd gn gd hf hg
  obtain ⟨⟨f1, f2, f3, f4⟩, _⟩ := hf.out
  obtain ⟨⟨g1, g2, g3, g4⟩, _⟩ := hg.out
  obtain ⟨N1, N2⟩ := prod60' a b a1 a2 b1 b2
  obtain ⟨D1, D2⟩ := prod60' c r (by omega) c2 (by omega) e2
  obtain ⟨n, d, ok, hv, M8⟩ := fracOf_fix (a * b) (c * r) (hiU (a * b)) (loU (a * b)) (hiU (c * r)) (loU (c * r)) rfl rfl rfl rfl ⟨by omega, by omega⟩ ⟨by omega, by omega⟩
  refine ⟨n, d, ok, ?_, fun w => ?_⟩
  · unfold mulV mulOk
    rw [eN, eD]
    rcases hv with ⟨v1, v2, v3, v4, v5⟩ | ⟨v1, v2, v3, v4⟩
    · exact .inl ⟨⟨v1, v2⟩, v3, v4, v5⟩
    · exact .inr ⟨v1, v2, v3, v4⟩
  replace M8 := Lib.hid M8
  have HF := Lib.hid hf
  have HG := Lib.hid hg
  have M0 : Hid (∀ W : World, Calls Try.prog 58 #[.int .i64 fn, .int .i64 gd] W fun e w' => e = .returned (.int .i64 p) ∧ ∃ m, w' = W.drewN m) := fun W => by
    have := common_any fn gd W (by omega) (by omega) (by omega) (by omega)
    rwa [hp] at this
  have M1 : Hid (∀ W : World, Calls Try.prog 58 #[.int .i64 gn, .int .i64 fd] W fun e w' => e = .returned (.int .i64 q) ∧ ∃ m, w' = W.drewN m) := fun W => by
    have := common_any gn fd W (by omega) (by omega) (by omega) (by omega)
    rwa [hq] at this
  have M2 : Hid (∀ W : World, Calls Try.prog 54 #[.int .i64 a, .int .i64 b] W fun e w' => e = .returned (.agg #[.int .u64 (hiU (a * b)), .int .u64 (loU (a * b))]) ∧ Below W.heap.size W w') := fun W => multiply_any _ _ W (by omega) (by omega) (by omega) (by omega)
  have M3 : Hid (∀ W : World, Calls Try.prog 54 #[.int .i64 c, .int .i64 r] W fun e w' => e = .returned (.agg #[.int .u64 (hiU (c * r)), .int .u64 (loU (c * r))]) ∧ Below W.heap.size W w') := fun W => multiply_any _ _ W (by omega) (by omega) (by omega) (by omega)
  have w1 : IntKind.i64.wrap (fn.tdiv p) = a := by rw [ha]; exact IntWalk.i64_in _ (by omega)
  have w2 : IntKind.i64.wrap (gn.tdiv q) = b := by rw [hb]; exact IntWalk.i64_in _ (by omega)
  have w3 : IntKind.i64.wrap (fd.tdiv q) = c := by rw [hc]; exact IntWalk.i64_in _ (by omega)
  have w4 : IntKind.i64.wrap (gd.tdiv p) = r := by rw [he]; exact IntWalk.i64_in _ (by omega)
  have z1 : ¬ p = 0 := by omega
  have z2 : ¬ q = 0 := by omega
  generalize hiU (a * b) = h1 at M2 M8
  generalize loU (a * b) = l1 at M2 M8
  generalize hiU (c * r) = h2 at M3 M8
  generalize loU (c * r) = l2 at M3 M8
  clear hf hg hp hq p1 q1 ha hb hc he a1 a2 b1 b2 c1 c2 e1 e2 eN eD f1 f2 f3 f4 g1 g2 g3 g4 N1 N2 D1 D2 hv
  go_enter Try.func84, Try.ntmps84
  have A0 := ((D2.new w (.int .i64 fn) (.int .i64 fd) 37).alloc (.cells #[.int .i64 gn, .int .i64 gd] 37)).alloc (.cells #[.int .i64 0, .int .i64 0] 37)
  have A1 := (D2.new (w.alloc (.cells #[.int .i64 fn, .int .i64 fd] 37)) (.int .i64 gn) (.int .i64 gd) 37).alloc (.cells #[.int .i64 0, .int .i64 0] 37)
  have A2 := (D2.new ((w.alloc (.cells #[.int .i64 fn, .int .i64 fd] 37)).alloc (.cells #[.int .i64 gn, .int .i64 gd] 37)) (.int .i64 0) (.int .i64 0) 37)
  have B : Below w.heap.size w (((w.alloc (.cells #[.int .i64 fn, .int .i64 fd] 37)).alloc (.cells #[.int .i64 gn, .int .i64 gd] 37)).alloc (.cells #[.int .i64 0, .int .i64 0] 37)) :=
    (((Below.refl _ w).alloc (Nat.le_refl _) _).alloc (by simp) _).alloc (by simp; omega) _
  simp only [World.size_alloc] at A1 A2
  go_wp2_with fail
  refine (valid_yes _ _ _ HF.out).mono ?_
  rintro e w3 ⟨rfl, hb⟩
  replace A0 := A0.far hb
  replace A1 := A1.far hb
  replace A2 := A2.far hb
  replace B := B.trans (hb.mono B.size)
  clear hb
  obtain ⟨⟨x0, x1⟩, _, _⟩ := id A1
  go_wp2_with fail
  refine (valid_yes _ _ _ HG.out).mono ?_
  rintro e w4 ⟨rfl, hb⟩
  replace A0 := A0.far hb
  replace A1 := A1.far hb
  replace A2 := A2.far hb
  replace B := B.trans (hb.mono B.size)
  clear hb x0 x1
  obtain ⟨⟨x0, x1⟩, _, _⟩ := id A0
  obtain ⟨⟨x2, x3⟩, _, _⟩ := id A1
  go_wp2_with fail
  refine (M0.out _).mono ?_
  rintro e w5 ⟨rfl, m, rfl⟩
  replace A0 : D2 (w4.drewN m) _ _ _ := A0.drewN m
  replace A1 : D2 (w4.drewN m) _ _ _ := A1.drewN m
  replace A2 : D2 (w4.drewN m) _ _ _ := A2.drewN m
  replace B := below_drewN B m
  clear x0 x1 x2 x3
  generalize w4.drewN m = w5 at A0 A1 A2 B ⊢
  obtain ⟨⟨x0, x1⟩, _, _⟩ := id A0
  obtain ⟨⟨x2, x3⟩, _, _⟩ := id A1
  go_wp2_with fail
  refine (M1.out _).mono ?_
  rintro e w6 ⟨rfl, m2, rfl⟩
  replace A0 : D2 (w5.drewN m2) _ _ _ := A0.drewN m2
  replace A1 : D2 (w5.drewN m2) _ _ _ := A1.drewN m2
  replace A2 : D2 (w5.drewN m2) _ _ _ := A2.drewN m2
  replace B := below_drewN B m2
  clear x0 x1 x2 x3
  generalize w5.drewN m2 = w6 at A0 A1 A2 B ⊢
  go_wp2_with fail
  obtain ⟨q0, q1⟩ := (A0.drew).gr (rw := none) (by simp)
  obtain ⟨q2, q3⟩ := (A1.drew).gr (rw := none) (by simp)
  refine wp_region_mix (none) [0, 1, 2, 3, 4, 5, 6, 7, 8] [9, 10] (by kernel_rfl) (by kernel_rfl) ?_
  simp only [pickOps, List.filterMap_cons, List.filterMap_nil, List.getElem?_toArray, List.getElem?_cons_succ, List.getElem?_cons_zero]
  repeat (refine wpQuietG_step (fun K hK => ?_); go_simp; first | (refine hK _ ?_; clear hK K) | (apply Exists.intro; refine ⟨fun _ => ?_, hK _ ?_⟩; (first | (with_reducible exact M2.out _) | (with_reducible exact M3.out _)); clear hK K))
  refine wpQuietG_nil ?_
  clear q0 q1 q2 q3
  have z4 := A2.lt
  intro W2 hW1 hW2
  go_wp2
  refine ⟨gr_alloc hW1 _, ?_⟩
  intro W3 hW3 hW4
  have A3 := (D2.new W2 (.int .u64 0) (.int .u64 0) 76).far hW4
  obtain ⟨⟨x0, x1⟩, x2, x3⟩ := id A3
  have s3 : w6.heap.size ≤ W2.heap.size := hW1.size
  go_wp2
  refine ⟨gr_put hW3 (.inr s3) _ _, ?_⟩
  intro W4 hW5 hW6
  replace hW5 := gr_undrew hW5
  replace A3 := (A3.put (.int .u64 h1) (.int .u64 l1)).far hW6
  replace A0 := A0.grow hW5 (by simp)
  replace A1 := A1.grow hW5 (by simp)
  replace A2 := A2.grow hW5 (by simp)
  replace B := B.grown hW5 B.size (by simp)
  clear hW1 hW2 hW3 hW4 hW5 hW6 x0 x1 x2 x3 M2
  obtain ⟨q0, q1⟩ := (A0.drew).gr (rw := some (w.heap.size + 1 + 1)) (fun e => by have := Option.some.inj e; omega)
  obtain ⟨q2, q3⟩ := (A1.drew).gr (rw := some (w.heap.size + 1 + 1)) (fun e => by have := Option.some.inj e; omega)
  obtain ⟨q4, q5⟩ := (A3.drew).gr (rw := some (w.heap.size + 1 + 1)) (fun e => by have := Option.some.inj e; omega)
  go_wp2_with fail
  refine wp_region_mix (some (w.heap.size + 1 + 1)) [0, 1, 2, 3, 4, 5, 6, 7, 8, 9, 10, 11, 12] [13, 14] (by kernel_rfl) (by kernel_rfl) ?_
  simp only [pickOps, List.filterMap_cons, List.filterMap_nil, List.getElem?_toArray, List.getElem?_cons_succ, List.getElem?_cons_zero]
  repeat (refine wpQuietG_step (fun K hK => ?_); go_simp; first | (refine hK _ ?_; clear hK K) | (apply Exists.intro; refine ⟨fun _ => ?_, hK _ ?_⟩; (first | (with_reducible exact M3.out _) | (with_reducible exact M8.out _)); clear hK K))
  refine wpQuietG_nil ?_
  clear q0 q1 q2 q3 q4 q5 A0 A1 A3
  intro W5 hW1 hW2
  replace A2 := A2.far (of_drew hW2)
  obtain ⟨⟨x0, x1⟩, x2, x3⟩ := id A2
  go_wp2
  refine ⟨gr_put hW1 (.inl rfl) _ _, ?_⟩
  intro W6 hW3 hW4
  replace A2 := (A2.put (.int .i64 n) (.int .i64 d)).far hW4
  go_wp2
  try refine ⟨hW3, ?_⟩
  intro W7 hW5 hW6
  replace hW5 := gr_undrew hW5
  obtain ⟨p0, p1⟩ := (A2.far hW6).1
  go_wp2
  exact bodyPost_ret (v := .tuple #[.agg #[.int .i64 n, .int .i64 d], .bool ok]) (by simp [results, Try.results84, go_sem, p0, p1]) rfl ⟨rfl, B.grown hW5 B.size (by simp; omega)⟩

theorem mul_no (fn fd gn gd : Int) (w : World) (h : ¬ (VF fn fd ∧ VF gn gd)) :
    Calls Try.prog 84 #[.agg #[.int .i64 fn, .int .i64 fd], .agg #[.int .i64 gn, .int .i64 gd]] w fun e w' => e = .returned (.tuple #[.agg #[.int .i64 0, .int .i64 0], .bool false]) ∧ Below w.heap.size w w' := by
  have H : ∃ p q : Bool, (p && q) = false ∧ Hid (∀ W : World, Calls Try.prog 53 #[.agg #[.int .i64 fn, .int .i64 fd]] W fun e w' => e = .returned (.bool p) ∧ Below W.heap.size W w') ∧
      Hid (∀ W : World, Calls Try.prog 53 #[.agg #[.int .i64 gn, .int .i64 gd]] W fun e w' => e = .returned (.bool q) ∧ Below W.heap.size W w') := by
    by_cases hf : VF fn fd
    · exact ⟨true, false, rfl, fun W => valid_yes _ _ W hf, fun W => valid_no _ _ W fun x => h ⟨hf, x⟩⟩
    · by_cases hg : VF gn gd
      · exact ⟨false, true, rfl, fun W => valid_no _ _ W hf, fun W => valid_yes _ _ W hg⟩
      · exact ⟨false, false, rfl, fun W => valid_no _ _ W hf, fun W => valid_no _ _ W hg⟩
  obtain ⟨p, q, hpq, HP, HQ⟩ := H
  clear h
  go_enter Try.func84, Try.ntmps84
  have A1 := (D2.new (w.alloc (.cells #[.int .i64 fn, .int .i64 fd] 37)) (.int .i64 gn) (.int .i64 gd) 37).alloc (.cells #[.int .i64 0, .int .i64 0] 37)
  have A2 := (D2.new ((w.alloc (.cells #[.int .i64 fn, .int .i64 fd] 37)).alloc (.cells #[.int .i64 gn, .int .i64 gd] 37)) (.int .i64 0) (.int .i64 0) 37)
  have B : Below w.heap.size w (((w.alloc (.cells #[.int .i64 fn, .int .i64 fd] 37)).alloc (.cells #[.int .i64 gn, .int .i64 gd] 37)).alloc (.cells #[.int .i64 0, .int .i64 0] 37)) :=
    (((Below.refl _ w).alloc (Nat.le_refl _) _).alloc (by simp) _).alloc (by simp; omega) _
  simp only [World.size_alloc] at A1 A2
  cases p
  · go_wp2_with fail
    refine (HP.out _).mono ?_
    rintro e w3 ⟨rfl, hb⟩
    replace A2 := A2.far hb
    replace B := B.trans (hb.mono B.size)
    clear hb A1
    obtain ⟨p0, p1⟩ := (A2.put (.int .i64 0) (.int .i64 0)).1
    obtain ⟨⟨x0, x1⟩, x2, x3⟩ := id A2
    go_wp2
    unfold putD at p0 p1
    exact bodyPost_ret (v := .tuple #[.agg #[.int .i64 0, .int .i64 0], .bool false]) (by simp [results, Try.results84, go_sem, p0, p1]) rfl ⟨rfl, below_putD B (by omega) _ _⟩
  · obtain rfl : q = false := by simpa using hpq
    go_wp2_with fail
    refine (HP.out _).mono ?_
    rintro e w3 ⟨rfl, hb⟩
    replace A1 := A1.far hb
    replace A2 := A2.far hb
    replace B := B.trans (hb.mono B.size)
    clear hb
    obtain ⟨⟨x0, x1⟩, _, _⟩ := id A1
    go_wp2_with fail
    refine (HQ.out _).mono ?_
    rintro e w4 ⟨rfl, hb⟩
    replace A2 := A2.far hb
    replace B := B.trans (hb.mono B.size)
    clear hb A1 x0 x1
    obtain ⟨p0, p1⟩ := (A2.put (.int .i64 0) (.int .i64 0)).1
    obtain ⟨⟨x0, x1⟩, x2, x3⟩ := id A2
    go_wp2
    unfold putD at p0 p1
    exact bodyPost_ret (v := .tuple #[.agg #[.int .i64 0, .int .i64 0], .bool false]) (by simp [results, Try.results84, go_sem, p0, p1]) rfl ⟨rfl, below_putD B (by omega) _ _⟩

/-- l01FMake above a positive denominator -/
theorem mk_pos (n d : Int) (hd : 1 ≤ d) : mkN n d = n.tdiv (gcdI n d) ∧ mkD n d = d.tdiv (gcdI n d) := by
  unfold mkN mkD
  rw [if_neg (by omega), if_neg (by omega)]
  exact ⟨rfl, rfl⟩

end Go.Proofs.Ytamedggnkbhgeaa
