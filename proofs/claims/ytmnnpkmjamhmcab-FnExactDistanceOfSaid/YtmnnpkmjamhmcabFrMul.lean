/- Products of fractions: impl.MulFractions, spec.l01FMul, MulFractions, and the law. -/
import Derived.Test.YtmnnpkmjamhmcabFrLaw
namespace Go.Proofs.Ytmnnpkmjamhmcab
open Go.RowKit Go.PlainAid
set_option maxHeartbeats 800000

def mulN (fn fd gn gd : Int) : Int := fn.tdiv (gcdI fn gd) * gn.tdiv (gcdI gn fd)
def mulD (fn fd gn gd : Int) : Int := fd.tdiv (gcdI gn fd) * gd.tdiv (gcdI fn gd)
def mulOk (fn fd gn gd : Int) : Prop := Small (mulN fn fd gn gd) ∧ Small (mulD fn fd gn gd)
def mulV (fn fd gn gd n d : Int) (ok : Bool) : Prop := (mulOk fn fd gn gd ∧ n = mulN fn fd gn gd ∧ d = mulD fn fd gn gd ∧ ok = true) ∨ (¬ mulOk fn fd gn gd ∧ n = 0 ∧ d = 0 ∧ ok = false)

theorem prod60' (a b : Int) (h1 : -1000000000000000000 ≤ a) (h2 : a ≤ 1000000000000000000) (h3 : -1000000000000000000 ≤ b) (h4 : b ≤ 1000000000000000000) : -1000000000000000000000000000000000000 ≤ a * b ∧ a * b ≤ 1000000000000000000000000000000000000 := by
  by_cases h : 0 ≤ b
  · exact prod60 a b h1 h2 h h4
  · have := prod60 a (-b) h1 h2 (by omega) (by omega)
    rw [Int.mul_neg] at this
    omega

theorem mul_all (fn fd gn gd : Int) (hf : VF fn fd) (hg : VF gn gd) :
    ∃ p q a b c e : Int, gcdI fn gd = p ∧ gcdI gn fd = q ∧ 1 ≤ p ∧ 1 ≤ q ∧ fn.tdiv p = a ∧ gn.tdiv q = b ∧ fd.tdiv q = c ∧ gd.tdiv p = e ∧ (-1000000000000000000 ≤ a ∧ a ≤ 1000000000000000000) ∧ (-1000000000000000000 ≤ b ∧ b ≤ 1000000000000000000) ∧
      (0 ≤ c ∧ c ≤ 1000000000000000000) ∧ (0 ≤ e ∧ e ≤ 1000000000000000000) ∧ mulN fn fd gn gd = a * b ∧ mulD fn fd gn gd = c * e := by
  obtain ⟨⟨f1, f2, f3, f4⟩, f5⟩ := hf.out
  obtain ⟨⟨g1, g2, g3, g4⟩, g5⟩ := hg.out
  have p1 := gcdI_pos fn gd (by omega)
  have q1 := gcdI_pos gn fd (by omega)
  obtain ⟨a1, a2⟩ := tdiv_in fn _ 1000000000000000000 p1 (by omega) f4
  obtain ⟨b1, b2⟩ := tdiv_in gn _ 1000000000000000000 q1 (by omega) g4
  obtain ⟨c1, c2⟩ := tdiv_in fd _ 1000000000000000000 q1 (by omega) f2
  obtain ⟨e1, e2⟩ := tdiv_in gd _ 1000000000000000000 p1 (by omega) g2
  exact ⟨_, _, _, _, _, _, rfl, rfl, p1, q1, rfl, rfl, rfl, rfl, ⟨by omega, a2⟩, ⟨by omega, b2⟩, ⟨Int.tdiv_nonneg (by omega) (by omega), c2⟩, ⟨Int.tdiv_nonneg (by omega) (by omega), e2⟩, rfl, rfl⟩

/-- l01FMake above a positive denominator -/
theorem mk_pos (n d : Int) (hd : 1 ≤ d) : mkN n d = n.tdiv (gcdI n d) ∧ mkD n d = d.tdiv (gcdI n d) := by
  unfold mkN mkD
  rw [if_neg (by omega), if_neg (by omega)]
  exact ⟨rfl, rfl⟩

theorem fmul_any (fn fd gn gd : Int) (hf : VF fn fd) (hg : VF gn gd) (w : World) :
    Calls Try.prog 188 #[.agg #[.int .i64 fn, .int .i64 fd], .agg #[.int .i64 gn, .int .i64 gd]] w fun e w' => ∃ n d ok, e = .returned (.tuple #[.agg #[.int .i64 n, .int .i64 d], .bool ok]) ∧ Hid (mulV fn fd gn gd n d ok) ∧ Below w.heap.size w w' := by
  obtain ⟨p, q, a, b, c, e, hp, hq, p1, q1, ha, hb, hc, he, ⟨a1, a2⟩, ⟨b1, b2⟩, ⟨c1, c2⟩, ⟨e1, e2⟩, eN, eD⟩ := mul_all fn fd gn gd hf hg
  obtain ⟨⟨f1, f2, f3, f4⟩, _⟩ := hf.out
  obtain ⟨⟨g1, g2, g3, g4⟩, _⟩ := hg.out
  obtain ⟨D1, D2⟩ := prod60' e c (by omega) e2 (by omega) c2
  have eD' : mulD fn fd gn gd = e * c := by rw [eD, Int.mul_comm]
  have K1 : Hid (∀ W : World, Calls Try.prog 66 #[.int .i64 fn, .int .i64 gd] W fun e' w' => e' = .returned (.agg #[.int .i64 a, .int .i64 e]) ∧ Below W.heap.size W w') := fun W => by
    have := fmake_any fn gd W (by omega) (by omega) (by omega) (by omega) (by omega)
    rwa [(mk_pos fn gd g1).1, (mk_pos fn gd g1).2, hp, ha, he] at this
  have K2 : Hid (∀ W : World, Calls Try.prog 66 #[.int .i64 gn, .int .i64 fd] W fun e' w' => e' = .returned (.agg #[.int .i64 b, .int .i64 c]) ∧ Below W.heap.size W w') := fun W => by
    have := fmake_any gn fd W (by omega) (by omega) (by omega) (by omega) (by omega)
    rwa [(mk_pos gn fd f1).1, (mk_pos gn fd f1).2, hq, hb, hc] at this
  obtain ⟨A', hA'⟩ : ∃ X : Int, (a.natAbs : Nat) = X := ⟨_, rfl⟩
  obtain ⟨B', hB'⟩ : ∃ X : Int, (b.natAbs : Nat) = X := ⟨_, rfl⟩
  obtain ⟨M1, M2⟩ := prod60' A' B' (by omega) (by omega) (by omega) (by omega)
  have M0 : 0 ≤ A' * B' := Int.mul_nonneg (by omega) (by omega)
  have L1 : Hid (∀ W : World, Calls Try.prog 65 #[.int .i64 a, .int .i64 (-a)] W fun e w' => e = .returned (.int .i64 A') ∧ Below W.heap.size W w') := fun W => by
    rw [← hA']; exact (l00Max_abs a W (by omega) (by omega)).mono fun _ _ ⟨h1, h2⟩ => ⟨h1, by rw [← h2]; exact Below.refl _ _⟩
  have L2 : Hid (∀ W : World, Calls Try.prog 65 #[.int .i64 b, .int .i64 (-b)] W fun e w' => e = .returned (.int .i64 B') ∧ Below W.heap.size W w') := fun W => by
    rw [← hB']; exact (l00Max_abs b W (by omega) (by omega)).mono fun _ _ ⟨h1, h2⟩ => ⟨h1, by rw [← h2]; exact Below.refl _ _⟩
  have T1 : Hid (∀ W : World, Calls Try.prog 144 #[.int .i64 A', .int .i64 B'] W fun e w' => e = .returned (.agg #[.int .u64 (hiU (A' * B')), .int .u64 (loU (A' * B'))]) ∧ Below W.heap.size W w') := fun W => times_any _ _ W (by omega) (by omega) (by omega) (by omega)
  have T2 : Hid (∀ W : World, Calls Try.prog 144 #[.int .i64 e, .int .i64 c] W fun e' w' => e' = .returned (.agg #[.int .u64 (hiU (e * c)), .int .u64 (loU (e * c))]) ∧ Below W.heap.size W w') := fun W => times_any _ _ W (by omega) (by omega) (by omega) (by omega)
  obtain ⟨n, o1, sn, C1⟩ := small_any (A' * B') (hiU (A' * B')) (loU (A' * B')) rfl rfl M0 ⟨by omega, by omega⟩
  obtain ⟨d, o2, sd, C2⟩ := small_any (e * c) (hiU (e * c)) (loU (e * c)) rfl rfl (Int.mul_nonneg e1 c1) ⟨by omega, by omega⟩
  have nb : -1000000000000000000 ≤ n ∧ n ≤ 1000000000000000000 := by
    rcases sn with ⟨h, h2, _⟩ | ⟨_, h2, _⟩
    · rw [h2]; exact h.out
    · omega
  have w1 : IntKind.i64.wrap (-a) = -a := IntWalk.i64_in _ (by omega)
  have w2 : IntKind.i64.wrap (-b) = -b := IntWalk.i64_in _ (by omega)
  have w5 : IntKind.i64.wrap (-n) = -n := IntWalk.i64_in _ (by omega)
  have SG : ((a < 0 ∧ b < 0 ∨ ¬ a < 0 ∧ ¬ b < 0) → a * b = A' * B') ∧ ((a < 0 ∧ ¬ b < 0 ∨ ¬ a < 0 ∧ b < 0) → a * b = -(A' * B')) := by
    refine ⟨fun h => ?_, fun h => ?_⟩
    · rcases h with ⟨h1, h2⟩ | ⟨h1, h2⟩
      · rw [show a = -A' by omega, show b = -B' by omega, Int.neg_mul_neg]
      · rw [show a = A' by omega, show b = B' by omega]
    · rcases h with ⟨h1, h2⟩ | ⟨h1, h2⟩
      · rw [show a = -A' by omega, show b = B' by omega, Int.neg_mul]
      · rw [show a = A' by omega, show b = -B' by omega, Int.mul_neg]
  have YES : o1 = true → o2 = true → d = e * c ∧ n = A' * B' ∧ ∀ n' d', (n' = n ∨ n' = -n) → n' = a * b → d' = e * c → Hid (mulV fn fd gn gd n' d' true) := fun h1 h2 => by
    rcases sn with ⟨r1, r2, _⟩ | ⟨_, _, r3⟩
    · rcases sd with ⟨s1, s2, _⟩ | ⟨_, _, s3⟩
      · refine ⟨s2, r2, fun n' d' h0 h3 h4 => .inl ⟨⟨?_, ?_⟩, by rw [h3, eN], by rw [h4, eD'], rfl⟩⟩
        · rw [eN, ← h3]; unfold Small at r1 ⊢; omega
        · rw [eD']; exact s1
      · rw [s3] at h2; exact Bool.noConfusion h2
    · rw [r3] at h1; exact Bool.noConfusion h1
  have NO : (o1 && o2) = false → Hid (mulV fn fd gn gd 0 0 false) := fun h => by
    refine .inr ⟨fun x => ?_, rfl, rfl, rfl⟩
    unfold mulOk at x
    rw [eN, eD'] at x
    rcases sn with ⟨_, _, r1⟩ | ⟨r1, _, _⟩
    · rcases sd with ⟨_, _, r2⟩ | ⟨r2, _, _⟩
      · rw [r1, r2] at h; exact Bool.noConfusion h
      · exact r2 x.2
    · refine r1 ?_
      have x1 := x.1
      by_cases ha0 : a < 0
      · by_cases hb0 : b < 0
        · rw [← SG.1 (.inl ⟨ha0, hb0⟩)]; exact x1
        · have := SG.2 (.inl ⟨ha0, hb0⟩); unfold Small at x1 ⊢; omega
      · by_cases hb0 : b < 0
        · have := SG.2 (.inr ⟨ha0, hb0⟩); unfold Small at x1 ⊢; omega
        · rw [← SG.1 (.inr ⟨ha0, hb0⟩)]; exact x1
  replace SG := Lib.hid SG
  replace YES := Lib.hid YES
  replace NO := Lib.hid NO
  replace C1 := Lib.hid C1
  replace C2 := Lib.hid C2
  generalize hiU (A' * B') = h1 at T1 C1
  generalize loU (A' * B') = l1 at T1 C1
  generalize hiU (e * c) = h2 at T2 C2
  generalize loU (e * c) = l2 at T2 C2
  clear hf hg hp hq p1 q1 ha hb hc he a1 a2 b1 b2 c1 c2 e1 e2 eN eD eD' f1 f2 f3 f4 g1 g2 g3 g4 D1 D2 hA' hB' M1 M2 M0 sn sd nb
  go_enter Try.func188, Try.ntmps188
  generalize hQ : bodyPost Try.prog Try.f188 (fun e w' => ∃ n d ok, e = .returned (.tuple #[.agg #[.int .i64 n, .int .i64 d], .bool ok]) ∧ Hid (mulV fn fd gn gd n d ok) ∧ Below w.heap.size w w') = Q0
  replace hQ := Lib.hid hQ
  have A0 := ((D2.new w (.int .i64 fn) (.int .i64 fd) 27).alloc (.cells #[.int .i64 gn, .int .i64 gd] 27)).alloc (.cells #[.int .i64 0, .int .i64 0] 27)
  have A1 := (D2.new (w.alloc (.cells #[.int .i64 fn, .int .i64 fd] 27)) (.int .i64 gn) (.int .i64 gd) 27).alloc (.cells #[.int .i64 0, .int .i64 0] 27)
  have A2 := (D2.new ((w.alloc (.cells #[.int .i64 fn, .int .i64 fd] 27)).alloc (.cells #[.int .i64 gn, .int .i64 gd] 27)) (.int .i64 0) (.int .i64 0) 27)
  have B : Below w.heap.size w (((w.alloc (.cells #[.int .i64 fn, .int .i64 fd] 27)).alloc (.cells #[.int .i64 gn, .int .i64 gd] 27)).alloc (.cells #[.int .i64 0, .int .i64 0] 27)) :=
    (((Below.refl _ w).alloc (Nat.le_refl _) _).alloc (by simp) _).alloc (by simp; omega) _
  simp only [World.size_alloc] at A1 A2
  go_wp2_with fail
  refine (K1.out _).mono ?_
  rintro e' w3 ⟨rfl, hb⟩
  replace A0 := A0.far hb
  replace A1 := A1.far hb
  replace A2 := A2.far hb
  replace B := B.trans (hb.mono B.size)
  clear hb K1
  have A3 := D2.new w3 (.int .i64 a) (.int .i64 e) 27
  have l0 := A0.lt
  have l1' := A1.lt
  obtain ⟨⟨x0, x1⟩, _, _⟩ := id A0
  obtain ⟨⟨x2, x3⟩, _, _⟩ := id A1
  go_wp2_with fail
  refine (K2.out _).mono ?_
  rintro e' w4 ⟨rfl, hb⟩
  replace A2 := (A2.alloc (.cells #[.int .i64 a, .int .i64 e] 27)).far hb
  replace A3 := A3.far hb
  replace B := (B.alloc B.size (.cells #[.int .i64 a, .int .i64 e] 27)).trans (hb.mono (by have := B.size; simp; omega))
  clear hb K2 x0 x1 x2 x3 A0 A1 l0 l1'
  have A4 := D2.new w4 (.int .i64 b) (.int .i64 c) 27
  go_wp2_with fail
  replace A2 := A2.alloc (.cells #[.int .i64 b, .int .i64 c] 27)
  replace A3 := A3.alloc (.cells #[.int .i64 b, .int .i64 c] 27)
  replace B := B.alloc B.size (.cells #[.int .i64 b, .int .i64 c] 27)
  generalize w4.alloc (.cells #[.int .i64 b, .int .i64 c] 27) = w5 at A2 A3 A4 B ⊢
  obtain ⟨q0, q1⟩ := (A3.drew).gr (rw := none) (by simp)
  obtain ⟨q2, q3⟩ := (A4.drew).gr (rw := none) (by simp)
  refine wp_region_mix (none) [0, 1, 2, 3, 4, 5, 6, 7, 8, 9, 10, 11, 12, 13, 14, 15, 16, 17, 18] [] (by kernel_rfl) (by kernel_rfl) ?_
  simp only [pickOps, List.filterMap_cons, List.filterMap_nil, List.getElem?_toArray, List.getElem?_cons_succ, List.getElem?_cons_zero]
  repeat (refine wpQuietG_step (fun K hK => ?_); go_simp; first | (refine hK _ ?_; clear hK K) | (apply Exists.intro; refine ⟨fun _ => ?_, hK _ ?_⟩; (first | (with_reducible exact L1.out _) | (with_reducible exact L2.out _) | (with_reducible exact T1.out _) | (with_reducible exact C1.out _)); clear hK K))
  refine wpQuietG_nil ?_
  intro W hW1 hW2
  replace hW1 := gr_undrew hW1
  replace A2 := A2.grow hW1 (by simp)
  replace A3 := A3.grow hW1 (by simp)
  replace A4 := A4.grow hW1 (by simp)
  replace B := B.grown hW1 B.size (by simp)
  clear q0 q1 q2 q3 hW1 hW2 L1 L2 T1 C1
  obtain ⟨⟨x0, x1⟩, _, _⟩ := id A3
  obtain ⟨⟨x2, x3⟩, _, _⟩ := id A4
  go_wp2_with fail
  refine (T2.out _).mono ?_
  rintro e' w6 ⟨rfl, hb⟩
  replace A2 := A2.far hb
  replace A3 := A3.far hb
  replace A4 := A4.far hb
  replace B := B.trans (hb.mono B.size)
  clear hb x0 x1 x2 x3
  go_wp2_with fail
  refine (C2.out _).mono ?_
  rintro e' w7 ⟨rfl, hb⟩
  replace A2 := A2.far hb
  replace A3 := A3.far hb
  replace A4 := A4.far hb
  replace B := B.trans (hb.mono B.size)
  clear hb T2 C2
  obtain ⟨⟨x0, x1⟩, _, _⟩ := id A3
  obtain ⟨⟨x2, x3⟩, _, _⟩ := id A4
  have R : ∀ x y : Int, (putD w7 (w.heap.size + 1 + 1) (.int .i64 x) (.int .i64 y)).cell? ⟨w.heap.size + 1 + 1, 0, none⟩ = some (.int .i64 x) ∧ (putD w7 (w.heap.size + 1 + 1) (.int .i64 x) (.int .i64 y)).cell? ⟨w.heap.size + 1 + 1, 1, none⟩ = some (.int .i64 y) := fun x y => (A2.put _ _).1
  replace R := Lib.hid R
  obtain ⟨⟨x4, x5⟩, x6, x7⟩ := id A2
  cases o1
  · obtain ⟨p0, p1⟩ := R.out 0 0
    unfold putD at p0 p1
    go_wp2
    rw [← hQ.out]
    exact bodyPost_ret (v := .tuple #[.agg #[.int .i64 0, .int .i64 0], .bool false]) (by simp [results, Try.results188, go_sem, p0, p1]) rfl ⟨0, 0, false, rfl, NO.out rfl, below_putD B (by omega) _ _⟩
  · cases o2
    · obtain ⟨p0, p1⟩ := R.out 0 0
      unfold putD at p0 p1
      go_wp2
      rw [← hQ.out]
      exact bodyPost_ret (v := .tuple #[.agg #[.int .i64 0, .int .i64 0], .bool false]) (by simp [results, Try.results188, go_sem, p0, p1]) rfl ⟨0, 0, false, rfl, NO.out rfl, below_putD B (by omega) _ _⟩
    · obtain ⟨hd, hn, hv⟩ := YES.out rfl rfl
      clear YES NO
      by_cases ha0 : a < 0
      · have t1 : decide (a < 0) = true := by simp [ha0]
        by_cases hb0 : b < 0
        · have t2 : decide (b < 0) = true := by simp [hb0]
          have HV := Lib.hid (hv (n) d (.inl rfl) (by rw [SG.out.1 (by omega), hn]) hd)
          obtain ⟨p0, p1⟩ := R.out (n) d
          unfold putD at p0 p1
          clear hv hn hd
          go_wp2
          rw [← hQ.out]
          exact bodyPost_ret (v := .tuple #[.agg #[.int .i64 (n), .int .i64 d], .bool true]) (by simp [results, Try.results188, go_sem, p0, p1]) rfl ⟨(n), d, true, rfl, HV.out, below_putD B (by omega) _ _⟩
        · have t2 : decide (b < 0) = false := by simp; omega
          have HV := Lib.hid (hv (-n) d (.inr rfl) (by rw [SG.out.2 (by omega), hn]) hd)
          obtain ⟨p0, p1⟩ := R.out (-n) d
          unfold putD at p0 p1
          clear hv hn hd
          go_wp2
          rw [← hQ.out]
          exact bodyPost_ret (v := .tuple #[.agg #[.int .i64 (-n), .int .i64 d], .bool true]) (by simp [results, Try.results188, go_sem, p0, p1]) rfl ⟨(-n), d, true, rfl, HV.out, below_putD B (by omega) _ _⟩
      · have t1 : decide (a < 0) = false := by simp; omega
        by_cases hb0 : b < 0
        · have t2 : decide (b < 0) = true := by simp [hb0]
          have HV := Lib.hid (hv (-n) d (.inr rfl) (by rw [SG.out.2 (by omega), hn]) hd)
          obtain ⟨p0, p1⟩ := R.out (-n) d
          unfold putD at p0 p1
          clear hv hn hd
          go_wp2
          rw [← hQ.out]
          exact bodyPost_ret (v := .tuple #[.agg #[.int .i64 (-n), .int .i64 d], .bool true]) (by simp [results, Try.results188, go_sem, p0, p1]) rfl ⟨(-n), d, true, rfl, HV.out, below_putD B (by omega) _ _⟩
        · have t2 : decide (b < 0) = false := by simp; omega
          have HV := Lib.hid (hv (n) d (.inl rfl) (by rw [SG.out.1 (by omega), hn]) hd)
          obtain ⟨p0, p1⟩ := R.out (n) d
          unfold putD at p0 p1
          clear hv hn hd
          go_wp2
          rw [← hQ.out]
          exact bodyPost_ret (v := .tuple #[.agg #[.int .i64 (n), .int .i64 d], .bool true]) (by simp [results, Try.results188, go_sem, p0, p1]) rfl ⟨(n), d, true, rfl, HV.out, below_putD B (by omega) _ _⟩

end Go.Proofs.Ytmnnpkmjamhmcab
