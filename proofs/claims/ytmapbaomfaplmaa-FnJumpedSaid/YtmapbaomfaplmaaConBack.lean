/- Steps back: impl.inverseOf, impl.BackCongruence, spec.BackCongruence, the law FnExactBackCongruence. -/
import Derived.Test.YtmapbaomfaplmaaConJump
import Derived.Test.YtmapbaomfaplmaaInvMath
import Derived.Test.YtmapbaomfaplmaaGcd
namespace Go.Proofs.Ytmapbaomfaplmaa
open Go.RowKit Go.PlainAid
set_option maxHeartbeats 800000

theorem inverse_any (m a : Nat) (w : World) (hm : 2 ≤ m) (hm2 : m ≤ 100000) (ha : a < m) :
    Calls Try.prog 53 #[.int .i64 a, .int .i64 m] w fun e w' => ((∃ y : Nat, e = .returned (.tuple #[.int .i64 y, .bool true]) ∧ InvP m a y) ∨ (e = .returned (.tuple #[.int .i64 0, .bool false]) ∧ Nat.gcd m a ≠ 1)) ∧ w = w' := by
  have HS := Lib.hid (Euc.start ha)
  have HM := Lib.hid hm
  have hm0 : ¬ m = 0 := by omega
  clear hm
  go_enter Try.func53, Try.ntmps53
  go_wp2
  go_loop [6, 7, 8, 9, 10] (fun dv ev iv jv _ => ∃ (d e : Nat) (i j : Int), dv = .int .i64 d ∧ ev = .int .i64 e ∧ iv = .int .i64 i ∧ jv = .int .i64 j ∧ Hid (Euc m a d e i j)) (fun _ ev _ _ _ => (intOf ev).toNat)
  case atStart => exact ⟨m, a, 0, 1, rfl, rfl, rfl, rfl, HS⟩
  case round =>
    obtain ⟨d, e, i, j, rfl, rfl, rfl, rfl, HE⟩ := hrel
    clear HS
    obtain ⟨b0, b1, b2, b3, b4⟩ := HE.out.bound
    have hed : e < d := HE.out.1
    by_cases he : 0 < e
    · have t1 : ((e : Int) != 0) = true := by rw [bne_iff_ne]; omega
      obtain ⟨q1, q2, q3⟩ := HE.out.quo he
      have HX := Lib.hid (HE.out.next he)
      have hmod : (d : Int) - ((d / e : Nat) : Int) * e = (d % e : Nat) := by
        have := Nat.div_add_mod d e
        have h2 : ((d / e : Nat) : Int) * e = (((e * (d / e)) : Nat) : Int) := by rw [Nat.mul_comm]; simp
        omega
      have HMD := Lib.hid hmod
      have hlt : d % e < e := Nat.mod_lt _ he
      obtain ⟨k, hk⟩ : ∃ k, d / e = k := ⟨_, rfl⟩
      have hdk : (d : Int) / (e : Int) = (k : Int) := by rw [← hk]; simp
      rw [hk] at q1 q2 q3 HX HMD
      obtain ⟨u, hu⟩ : ∃ u : Int, (k : Int) * (e : Int) = u := ⟨_, rfl⟩
      obtain ⟨v, hv⟩ : ∃ v : Int, (k : Int) * j = v := ⟨_, rfl⟩
      rw [hu] at q1 HMD
      have hu0 : 0 ≤ u := by rw [← hu]; exact Int.mul_nonneg (by omega) (by omega)
      rw [hv] at q2 q3 HX
      have hk2 : k ≤ 100000 := by rw [← hk]; exact Nat.le_trans (Nat.div_le_self d e) (by omega)
      clear hmod hk
      go_wp2
      go_round
      case rel => exact ⟨e, d % e, j, i - v, rfl, by rw [← HMD.out], rfl, rfl, HX⟩
      case measure =>
        have hh := HMD.out
        simp only [intOf, Int.toNat_natCast]
        omega
    · obtain rfl : e = 0 := by omega
      by_cases hd : d = 1
      · subst hd
        obtain ⟨y, hy, hI⟩ := HE.out.inverse HM.out
        have HI := Lib.hid hI
        have HY : Hid (i % (m : Int) = (y : Int)) := by
          unfold Hid
          rw [← hy, Int.add_emod_right]
        clear hI hy
        go_wp2
        go_ret2
        exact ⟨.inl ⟨y, by rw [HY.out]; rfl, HI.out⟩, rfl⟩
      · have t1 : ((d : Int) != 1) = true := by rw [bne_iff_ne]; omega
        have HG : Hid (Nat.gcd m a ≠ 1) := by
          have := HE.out.2.1
          rw [Nat.gcd_zero_right] at this
          unfold Hid
          omega
        clear hd
        go_wp2
        go_ret2
        exact ⟨.inr ⟨rfl, HG.out⟩, rfl⟩
theorem gcdI_nat (a m : Nat) : gcdI a m = (Nat.gcd m a : Nat) := by unfold gcdI Int.gcd; rw [Int.natAbs_natCast, Int.natAbs_natCast, Nat.gcd_comm]
theorem backK_yes (m a c y : Nat) (w : World) (h1 : 2 ≤ m) (h2 : m ≤ 100000) (h3 : a < m) (h4 : c < m) (hI : InvP m a y) :
    Calls Try.prog 31 #[.agg #[.int .i64 m, .int .i64 a, .int .i64 c]] w fun e w' => e = .returned (.tuple #[.agg #[.int .i64 m, .int .i64 y, .int .i64 ((m - y * c % m) % m : Nat)], .bool true]) ∧ Below w.heap.size w w' := by
  have HS : Hid (ConP m a c) := conP_nat h1 h2 h3 h4
  have HV : Hid (∀ w : World, Calls Try.prog 53 #[.int .i64 a, .int .i64 m] w fun e w' => e = .returned (.tuple #[.int .i64 y, .bool true]) ∧ w = w') := fun w => (inverse_any m a w h1 h2 h3).mono fun e w' ⟨hh, hw⟩ => by
    rcases hh with ⟨z, he, hz⟩ | ⟨_, hg⟩
    · rw [hz.unique hI] at he
      exact ⟨he, hw⟩
    · exact absurd hI.gcd hg
  have HN : Hid (∀ w : World, Calls Try.prog 47 #[.agg #[.int .i64 m, .int .i64 y, .int .i64 0], .int .i64 ((m : Int) - c)] w fun e w' => e = .returned (.int .i64 ((m - y * c % m) % m : Nat)) ∧ Below w.heap.size w w') := fun w => by
    have h := nextK_any m y 0 (m - c) w h1 h2 (by have := hI.1; omega) (by omega) (by omega)
    rw [show nx m y 0 (m - c) = (m - y * c % m) % m by unfold nx; rw [Nat.add_zero]; exact back_add h4] at h
    rwa [show ((m - c : Nat) : Int) = (m : Int) - c by omega] at h
  have hc : c ≤ 100000 := by omega
  obtain ⟨v, hv⟩ : ∃ v, (m - y * c % m) % m = v := ⟨_, rfl⟩
  rw [hv] at HN ⊢
  clear h3 h4 hI hv
  go_enter Try.func31, Try.ntmps31
  go_wp2_with fail
  have K0 := KAt.new w (.int .i64 m) (.int .i64 a) (.int .i64 c) 25
  have Z0 := C3.new (w.alloc (.cells #[.int .i64 m, .int .i64 a, .int .i64 c] 25)) (.int .i64 0) (.int .i64 0) (.int .i64 0) 25
  have K1 := K0.below ((Below.refl _ (w.alloc (.cells #[.int .i64 m, .int .i64 a, .int .i64 c] 25))).alloc (Nat.le_refl _) (.cells #[.int .i64 0, .int .i64 0, .int .i64 0] 25))
  simp only [World.size_alloc] at Z0
  generalize (w.alloc (.cells #[.int .i64 m, .int .i64 a, .int .i64 c] 25)).alloc (.cells #[.int .i64 0, .int .i64 0, .int .i64 0] 25) = w0 at K1 Z0 ⊢
  clear K0
  refine (validK_b _ _ _ true _ (decide_eq_true HS.out)).mono ?_
  rintro e w1 ⟨rfl, hb⟩
  have K2 := Lib.hid (K1.below hb)
  have Z1 := Lib.hid (Z0.below hb Z0.lt)
  clear hb K1 Z0
  obtain ⟨c0, c1, c2, _⟩ := K2.out
  go_wp2_with (go_at_call 53; with_reducible refine (HV.out _).mono ?_; rintro e w2 ⟨rfl, rfl⟩)
  have L0 := C3.new w1 (.int .i64 m) (.int .i64 y) (.int .i64 0) 25
  have B0 := (Below.refl w1.heap.size w1).alloc (Nat.le_refl _) (.cells #[.int .i64 m, .int .i64 y, .int .i64 0] 25)
  have hne : Hid (w1.heap.size ≠ w.heap.size + 1) := by have := Z1.out.lt; unfold Hid; omega
  have hle : Hid (w.heap.size ≤ w1.heap.size) := K2.out.all.size
  generalize w1.alloc (.cells #[.int .i64 m, .int .i64 y, .int .i64 0] 25) = w3 at L0 B0 ⊢
  have Z3 := Lib.hid (And.intro (Z1.out.below B0 Z1.out.lt) (K2.out.below B0).all)
  clear K2 Z1 B0 c0 c1 c2
  refine (HN.out _).mono ?_
  rintro e w4 ⟨rfl, hb⟩
  have L4 := L0.below hb L0.lt
  have Z4 := Lib.hid (And.intro (Z3.out.1.below hb Z3.out.1.lt) (Z3.out.2.trans (hb.mono Z3.out.2.size)))
  clear hb L0 Z3
  obtain ⟨⟨l0, l1, l2⟩, lf0, lf1, lf2⟩ := L4
  obtain ⟨⟨z0, z1, z2⟩, zf0, zf1, zf2⟩ := Z4.out.1.other hne.out 2 (.int .i64 v)
  go_wp2
  have P := ((Z4.out.1.other hne.out 2 (.int .i64 v)).put (.int .i64 m) (.int .i64 y) (.int .i64 v)).1
  unfold put3 at P
  obtain ⟨p0, p1, p2⟩ := P
  exact bodyPost_ret (v := .tuple #[.agg #[.int .i64 m, .int .i64 y, .int .i64 v], .bool true]) (by simp [results, Try.results31, go_sem, p0, p1, p2]) rfl ⟨rfl, below_put3 (Z4.out.2.setCell (p := ⟨w1.heap.size, 2, none⟩) hle.out _) (by omega) _ _ _⟩
theorem backK_no (m a c : Int) (w : World) (h : ¬ ConP m a c ∨ ∃ M A : Nat, m = M ∧ a = A ∧ 2 ≤ M ∧ M ≤ 100000 ∧ A < M ∧ Nat.gcd M A ≠ 1) :
    Calls Try.prog 31 #[.agg #[.int .i64 m, .int .i64 a, .int .i64 c]] w fun e w' => e = .returned (.tuple #[.agg #[.int .i64 0, .int .i64 0, .int .i64 0], .bool false]) ∧ Below w.heap.size w w' := by
  by_cases hp : ConP m a c
  · have HS := Lib.hid hp
    have HV : Hid (∀ w : World, Calls Try.prog 53 #[.int .i64 a, .int .i64 m] w fun e w' => e = .returned (.tuple #[.int .i64 0, .bool false]) ∧ w = w') := fun w => by
      rcases h with h | ⟨M, A, rfl, rfl, h1, h2, h3, hg⟩
      · exact absurd hp h
      · exact (inverse_any M A w h1 h2 h3).mono fun e w' ⟨hh, hw⟩ => by
          rcases hh with ⟨z, _, hz⟩ | ⟨he, _⟩
          · exact absurd hz.gcd hg
          · exact ⟨he, hw⟩
    clear hp h
    go_enter Try.func31, Try.ntmps31
    go_wp2_with fail
    have K0 := KAt.new w (.int .i64 m) (.int .i64 a) (.int .i64 c) 25
    have Z0 := C3.new (w.alloc (.cells #[.int .i64 m, .int .i64 a, .int .i64 c] 25)) (.int .i64 0) (.int .i64 0) (.int .i64 0) 25
    have K1 := K0.below ((Below.refl _ (w.alloc (.cells #[.int .i64 m, .int .i64 a, .int .i64 c] 25))).alloc (Nat.le_refl _) (.cells #[.int .i64 0, .int .i64 0, .int .i64 0] 25))
    simp only [World.size_alloc] at Z0
    generalize (w.alloc (.cells #[.int .i64 m, .int .i64 a, .int .i64 c] 25)).alloc (.cells #[.int .i64 0, .int .i64 0, .int .i64 0] 25) = w0 at K1 Z0 ⊢
    clear K0
    refine (validK_b _ _ _ true _ (decide_eq_true HS.out)).mono ?_
    rintro e w1 ⟨rfl, hb⟩
    have Z2 := Lib.hid (And.intro (Z0.below hb Z0.lt) (K1.below hb))
    clear hb K1 Z0
    obtain ⟨⟨⟨z0, z1, z2⟩, zf0, zf1, zf2⟩, c0, c1, c2, _⟩ := Z2.out
    go_wp2_with (go_at_call 53; with_reducible refine (HV.out _).mono ?_; rintro e w2 ⟨rfl, rfl⟩)
    have P := (Z2.out.1.put (.int .i64 0) (.int .i64 0) (.int .i64 0)).1
    unfold put3 at P
    obtain ⟨p0, p1, p2⟩ := P
    exact bodyPost_ret (v := .tuple #[.agg #[.int .i64 0, .int .i64 0, .int .i64 0], .bool false]) (by simp [results, Try.results31, go_sem, p0, p1, p2]) rfl ⟨rfl, below_put3 Z2.out.2.all (by omega) _ _ _⟩
  · have HS := Lib.hid hp
    clear hp h
    go_enter Try.func31, Try.ntmps31
    go_wp2_with fail
    have Z0 := C3.new (w.alloc (.cells #[.int .i64 m, .int .i64 a, .int .i64 c] 25)) (.int .i64 0) (.int .i64 0) (.int .i64 0) 25
    have B0 := ((Below.refl w.heap.size w).alloc (Nat.le_refl _) (.cells #[.int .i64 m, .int .i64 a, .int .i64 c] 25)).alloc (by simp) (.cells #[.int .i64 0, .int .i64 0, .int .i64 0] 25)
    simp only [World.size_alloc] at Z0
    generalize (w.alloc (.cells #[.int .i64 m, .int .i64 a, .int .i64 c] 25)).alloc (.cells #[.int .i64 0, .int .i64 0, .int .i64 0] 25) = w0 at B0 Z0 ⊢
    refine (validK_b _ _ _ false _ (decide_eq_false HS.out)).mono ?_
    rintro e w1 ⟨rfl, hb⟩
    have Z2 := Lib.hid (And.intro (Z0.below hb Z0.lt) (B0.trans (hb.mono B0.size)))
    clear hb B0 Z0
    obtain ⟨⟨⟨z0, z1, z2⟩, zf0, zf1, zf2⟩, _⟩ := Z2.out
    go_wp2
    have P := (Z2.out.1.put (.int .i64 0) (.int .i64 0) (.int .i64 0)).1
    unfold put3 at P
    obtain ⟨p0, p1, p2⟩ := P
    exact bodyPost_ret (v := .tuple #[.agg #[.int .i64 0, .int .i64 0, .int .i64 0], .bool false]) (by simp [results, Try.results31, go_sem, p0, p1, p2]) rfl ⟨rfl, below_put3 Z2.out.2 (by omega) _ _ _⟩
theorem specBackK_yes (m a c y : Nat) (w : World) (h1 : 2 ≤ m) (h2 : m ≤ 100000) (h3 : a < m) (h4 : c < m) (hI : InvP m a y) :
    Calls Try.prog 30 #[.agg #[.int .i64 m, .int .i64 a, .int .i64 c]] w fun e w' => e = .returned (.tuple #[.agg #[.int .i64 m, .int .i64 y, .int .i64 ((m - y * c % m) % m : Nat)], .bool true]) ∧ Below w.heap.size w w' := by
  have HS : Hid (ConP m a c) := conP_nat h1 h2 h3 h4
  have HG : Hid (∀ w : World, Calls Try.prog 52 #[.int .i64 a, .int .i64 m] w fun e w' => e = .returned (.int .i64 1) ∧ w = w') := fun w => by
    have h := l01Gcd_any a m w (by omega) (by omega) (by omega) (by omega)
    rwa [gcdI_nat, hI.gcd] at h
  have HI := Lib.hid hI
  have HY : Hid (1 ≤ y ∧ y < m) := ⟨hI.pos, hI.1⟩
  have ha : a ≤ 100000 := by omega
  have hc : c ≤ 100000 := by omega
  have hm0 : ¬ m = 0 := by omega
  obtain ⟨v, hv⟩ : ∃ v, (m - y * c % m) % m = v := ⟨_, rfl⟩
  rw [hv]
  have HVV := Lib.hid hv
  clear h3 h4 hI hv
  go_enter Try.func30, Try.ntmps30
  go_wp2_with fail
  have K0 := KAt.new w (.int .i64 m) (.int .i64 a) (.int .i64 c) 25
  have Z0 := C3.new (w.alloc (.cells #[.int .i64 m, .int .i64 a, .int .i64 c] 25)) (.int .i64 0) (.int .i64 0) (.int .i64 0) 25
  have K1 := K0.below ((Below.refl _ (w.alloc (.cells #[.int .i64 m, .int .i64 a, .int .i64 c] 25))).alloc (Nat.le_refl _) (.cells #[.int .i64 0, .int .i64 0, .int .i64 0] 25))
  simp only [World.size_alloc] at Z0
  generalize (w.alloc (.cells #[.int .i64 m, .int .i64 a, .int .i64 c] 25)).alloc (.cells #[.int .i64 0, .int .i64 0, .int .i64 0] 25) = w0 at K1 Z0 ⊢
  clear K0
  refine (l03Is_b w.heap.size m a c true _ K1.1 K1.2.1 K1.2.2.1 (decide_eq_true HS.out)).mono ?_
  rintro e w1 ⟨rfl, m1, rfl⟩
  have Z1 := Lib.hid (And.intro (Z0.drewN m1) (K1.drewN m1))
  clear K1 Z0
  generalize w0.drewN m1 = w1 at Z1 ⊢
  obtain ⟨⟨⟨z0, z1, z2⟩, zf0, zf1, zf2⟩, c0, c1, c2, _⟩ := Z1.out
  go_wp2_with (go_at_call 52; with_reducible refine (HG.out _).mono ?_; rintro e w2 ⟨rfl, rfl⟩)
  go_loop [4] (fun v => ∃ k : Nat, v = .int .i64 k ∧ 1 ≤ k ∧ k ≤ y) (fun v => y - (intOf v).toNat)
  case atStart => exact ⟨1, rfl, Nat.le_refl _, HY.out.1⟩
  case round =>
    obtain ⟨k, rfl, hk1, hk2⟩ := hrel
    have hkm : k ≤ 100000 := by have := HY.out; omega
    have hs := small_mul hkm ha
    obtain ⟨p, hp⟩ : ∃ p, k * a = p := ⟨_, rfl⟩
    have E : (k : Int) * (a : Int) = (p : Int) := by rw [← hp]; simp
    rw [hp] at hs
    by_cases hk : k = y
    · have HK := Lib.hid hk
      have t1 : ((p : Int) % m != 1) = false := by
        have h := HI.out.2
        rw [← hk, hp] at h
        have : ((p : Int) % m) = ((p % m : Nat) : Int) := by simp
        rw [this, h]; rfl
      have hs2 := small_mul hkm hc
      obtain ⟨q, hq⟩ : ∃ q, k * c = q := ⟨_, rfl⟩
      have E2 : (k : Int) * (c : Int) = (q : Int) := by rw [← hq]; simp
      have hql : q % m < m := Nat.mod_lt _ (by omega)
      have HR : Hid (-((q : Int) % m) % m = (v : Int)) := by
        unfold Hid
        rw [← Int.add_emod_right, show -((q : Int) % m) + m = (m : Int) - (q : Int) % m by omega, ← HVV.out, ← HK.out, hq]
        have e1 : ((q : Int) % m) = ((q % m : Nat) : Int) := by simp
        rw [e1]
        have e2 : ((m : Int) - ((q % m : Nat) : Int)) = ((m - q % m : Nat) : Int) := by omega
        rw [e2]
        simp
      have hq0 : 0 ≤ (m : Int) - (q : Int) % m := by
        have e1 : ((q : Int) % m) = ((q % m : Nat) : Int) := by simp
        rw [e1]; omega
      have hq1 : (m : Int) - (q : Int) % m ≤ 100000 := by
        have e1 : ((q : Int) % m) = ((q % m : Nat) : Int) := by simp
        rw [e1]; omega
      rw [hq] at hs2
      clear hk hp hq
      go_wp2
      have hmx : Try.prog.follows .mixedOrders = true := by kernel_rfl
      have K0 : ∀ q : GW w1, q.w.cell? ⟨w.heap.size, 0, none⟩ = some (.int .i64 m) := fun q => cell_below c0 q.h
      have K2 : ∀ q : GW w1, q.w.cell? ⟨w.heap.size, 2, none⟩ = some (.int .i64 c) := fun q => cell_below c2 q.h
      clear z0 z1 z2 zf0 zf1 zf2 c0 c1 c2
      refine wp_region_quiet_tail (C := fun w' => ∃ q : GW w1, w' = q.w) 17 hmx (by kernel_rfl) ⟨⟨w1.drew, (Below.refl _ _).drew⟩, rfl⟩ ?_
      simp only [List.take_succ_cons, List.take_zero, List.drop_succ_cons, List.drop_zero]
      repeat (quiet_step (fail))
      refine wpQuiet_nil ?_
      rintro W2 ⟨⟨_, hW2⟩, rfl⟩
      clear K0 K2
      have Z2 := Lib.hid (And.intro (Z1.out.1.below hW2 Z1.out.1.lt) (Z1.out.2.below hW2).all)
      clear Z1 hW2
      obtain ⟨⟨⟨z0, z1, z2⟩, zf0, zf1, zf2⟩, _⟩ := Z2.out
      go_wp2
      have P := (Z2.out.1.put (.int .i64 m) (.int .i64 k) (.int .i64 (-((q : Int) % m) % m))).1
      unfold put3 at P
      obtain ⟨p0, p1, p2⟩ := P
      exact bodyPost_ret (v := .tuple #[.agg #[.int .i64 m, .int .i64 k, .int .i64 (-((q : Int) % m) % m)], .bool true]) (by simp [results, Try.results30, go_sem, p0, p1, p2]) rfl ⟨by rw [HR.out, HK.out], below_put3 Z2.out.2 (by omega) _ _ _⟩
    · have t1 : ((p : Int) % m != 1) = true := by
        rw [bne_iff_ne]
        intro h
        have h2 : p % m = 1 := by
          have e1 : ((p : Int) % m) = ((p % m : Nat) : Int) := by simp
          rw [e1] at h; omega
        have h3 := HY.out
        exact hk (InvP.unique ⟨by omega, by rw [hp]; exact h2⟩ HI.out)
      clear hp
      go_wp2
      go_round
      case rel => exact ⟨k + 1, by go_num, by omega, by omega⟩
      case measure => simp [intOf]; omega
theorem specBackK_no (m a c : Int) (w : World) (h : ¬ ConP m a c ∨ ∃ M A : Nat, m = M ∧ a = A ∧ 2 ≤ M ∧ M ≤ 100000 ∧ A < M ∧ Nat.gcd M A ≠ 1) :
    Calls Try.prog 30 #[.agg #[.int .i64 m, .int .i64 a, .int .i64 c]] w fun e w' => e = .returned (.tuple #[.agg #[.int .i64 0, .int .i64 0, .int .i64 0], .bool false]) ∧ Below w.heap.size w w' := by
  by_cases hp : ConP m a c
  · have HS := Lib.hid hp
    have HG : Hid (∃ g : Int, (g != 1) = true ∧ ∀ w : World, Calls Try.prog 52 #[.int .i64 a, .int .i64 m] w fun e w' => e = .returned (.int .i64 g) ∧ w = w') := by
      rcases h with h | ⟨M, A, rfl, rfl, h1, h2, h3, hg⟩
      · exact absurd hp h
      · exact ⟨gcdI A M, by rw [gcdI_nat, bne_iff_ne]; omega, fun w => l01Gcd_any A M w (by omega) (by omega) (by omega) (by omega)⟩
    obtain ⟨g, t1, hg⟩ := HG.out
    have HG2 := Lib.hid hg
    clear hp h HG hg
    go_enter Try.func30, Try.ntmps30
    go_wp2_with fail
    have K0 := KAt.new w (.int .i64 m) (.int .i64 a) (.int .i64 c) 25
    have Z0 := C3.new (w.alloc (.cells #[.int .i64 m, .int .i64 a, .int .i64 c] 25)) (.int .i64 0) (.int .i64 0) (.int .i64 0) 25
    have K1 := K0.below ((Below.refl _ (w.alloc (.cells #[.int .i64 m, .int .i64 a, .int .i64 c] 25))).alloc (Nat.le_refl _) (.cells #[.int .i64 0, .int .i64 0, .int .i64 0] 25))
    simp only [World.size_alloc] at Z0
    generalize (w.alloc (.cells #[.int .i64 m, .int .i64 a, .int .i64 c] 25)).alloc (.cells #[.int .i64 0, .int .i64 0, .int .i64 0] 25) = w0 at K1 Z0 ⊢
    clear K0
    refine (l03Is_b w.heap.size m a c true _ K1.1 K1.2.1 K1.2.2.1 (decide_eq_true HS.out)).mono ?_
    rintro e w1 ⟨rfl, m1, rfl⟩
    have Z2 := Lib.hid (And.intro (Z0.drewN m1) (K1.drewN m1))
    clear K1 Z0
    generalize w0.drewN m1 = w1 at Z2 ⊢
    obtain ⟨⟨⟨z0, z1, z2⟩, zf0, zf1, zf2⟩, c0, c1, c2, _⟩ := Z2.out
    go_wp2_with (go_at_call 52; with_reducible refine (HG2.out _).mono ?_; rintro e w2 ⟨rfl, rfl⟩)
    have P := (Z2.out.1.put (.int .i64 0) (.int .i64 0) (.int .i64 0)).1
    unfold put3 at P
    obtain ⟨p0, p1, p2⟩ := P
    exact bodyPost_ret (v := .tuple #[.agg #[.int .i64 0, .int .i64 0, .int .i64 0], .bool false]) (by simp [results, Try.results30, go_sem, p0, p1, p2]) rfl ⟨rfl, below_put3 Z2.out.2.all (by omega) _ _ _⟩
  · have HS := Lib.hid hp
    clear hp h
    go_enter Try.func30, Try.ntmps30
    go_wp2_with fail
    have K0 := KAt.new w (.int .i64 m) (.int .i64 a) (.int .i64 c) 25
    have Z0 := C3.new (w.alloc (.cells #[.int .i64 m, .int .i64 a, .int .i64 c] 25)) (.int .i64 0) (.int .i64 0) (.int .i64 0) 25
    have K1 := K0.below ((Below.refl _ (w.alloc (.cells #[.int .i64 m, .int .i64 a, .int .i64 c] 25))).alloc (Nat.le_refl _) (.cells #[.int .i64 0, .int .i64 0, .int .i64 0] 25))
    simp only [World.size_alloc] at Z0
    generalize (w.alloc (.cells #[.int .i64 m, .int .i64 a, .int .i64 c] 25)).alloc (.cells #[.int .i64 0, .int .i64 0, .int .i64 0] 25) = w0 at K1 Z0 ⊢
    clear K0
    refine (l03Is_b w.heap.size m a c false _ K1.1 K1.2.1 K1.2.2.1 (decide_eq_false HS.out)).mono ?_
    rintro e w1 ⟨rfl, m1, rfl⟩
    have Z2 := Lib.hid (And.intro (Z0.drewN m1) (K1.drewN m1))
    clear K1 Z0
    generalize w0.drewN m1 = w1 at Z2 ⊢
    obtain ⟨⟨⟨z0, z1, z2⟩, zf0, zf1, zf2⟩, _⟩ := Z2.out
    go_wp2
    have P := (Z2.out.1.put (.int .i64 0) (.int .i64 0) (.int .i64 0)).1
    unfold put3 at P
    obtain ⟨p0, p1, p2⟩ := P
    exact bodyPost_ret (v := .tuple #[.agg #[.int .i64 0, .int .i64 0, .int .i64 0], .bool false]) (by simp [results, Try.results30, go_sem, p0, p1, p2]) rfl ⟨rfl, below_put3 Z2.out.2.all (by omega) _ _ _⟩
theorem lawBackK_of (m a c : Int) (v1 v2 v3 : Int) (r : Bool) (w : World)
    (S : Hid (∀ w : World, Calls Try.prog 30 #[.agg #[.int .i64 m, .int .i64 a, .int .i64 c]] w fun e w' => e = .returned (.tuple #[.agg #[.int .i64 v1, .int .i64 v2, .int .i64 v3], .bool r]) ∧ Below w.heap.size w w'))
    (I : Hid (∀ w : World, Calls Try.prog 31 #[.agg #[.int .i64 m, .int .i64 a, .int .i64 c]] w fun e w' => e = .returned (.tuple #[.agg #[.int .i64 v1, .int .i64 v2, .int .i64 v3], .bool r]) ∧ Below w.heap.size w w')) :
    Calls Try.prog 8 #[.agg #[.int .i64 m, .int .i64 a, .int .i64 c]] w fun e w' => e = .returned (.bool true) ∧ Below w.heap.size w w' := by
  have e4 : (r != r) = false := by simp
  go_enter Try.func8, Try.ntmps8
  go_wp2_with fail
  have K := KAt.new w (.int .i64 m) (.int .i64 a) (.int .i64 c) 23
  generalize w.alloc (.cells #[.int .i64 m, .int .i64 a, .int .i64 c] 23) = w0 at K ⊢
  refine (toCon_any _ _ _ _).mono ?_
  rintro e w1 ⟨rfl, hb⟩
  have K1 := K.below hb
  clear hb K
  go_wp2_with fail
  refine (S.out _).mono ?_
  rintro e w2 ⟨rfl, hb⟩
  have K2 := Lib.hid (K1.below hb)
  clear hb K1
  obtain ⟨x0, x1, x2, _⟩ := K2.out
  go_wp2_with fail
  have L0 := KAt.new w2 (.int .i64 v1) (.int .i64 v2) (.int .i64 v3) 25
  have K3 := K2.out.below L0.all
  generalize w2.alloc (.cells #[.int .i64 v1, .int .i64 v2, .int .i64 v3] 25) = w3 at K3 L0 ⊢
  clear K2 x0 x1 x2
  refine (toCon_any _ _ _ _).mono ?_
  rintro e w4 ⟨rfl, hb⟩
  have K4 := K3.below hb
  have L4 := L0.below hb
  clear hb K3 L0
  go_wp2_with fail
  refine (I.out _).mono ?_
  rintro e w5 ⟨rfl, hb⟩
  have K5 := Lib.hid (K4.below hb)
  have L5 := Lib.hid (L4.below hb)
  clear hb K4 L4
  obtain ⟨x0, x1, x2, _⟩ := L5.out
  go_wp2_with fail
  have M0 := KAt.new w5 (.int .i64 v1) (.int .i64 v2) (.int .i64 v3) 25
  have K6 := Lib.hid (K5.out.below M0.all)
  have L6 := Lib.hid (L5.out.below M0.all)
  clear K5 L5 x0 x1 x2 M0
  refine (eqCon_yes _ _ _ _).mono ?_
  rintro e w7 ⟨rfl, hb⟩
  have K7 := Lib.hid (K6.out.below hb)
  clear hb K6 L6
  go_wp2
  go_ret
  exact ⟨rfl, K7.out.all⟩
theorem lawBackK (m a c : Int) (w : World) :
    Calls Try.prog 8 #[.agg #[.int .i64 m, .int .i64 a, .int .i64 c]] w fun e w' => e = .returned (.bool true) ∧ Below w.heap.size w w' := by
  by_cases h : ConP m a c
  · obtain ⟨M, A, C, rfl, rfl, rfl, h1, h2, h3, h4⟩ := h.nat
    by_cases hg : Nat.gcd M A = 1
    · obtain ⟨y, hy⟩ := inv_exists h1 h3 hg
      exact lawBackK_of _ _ _ _ _ _ _ w (fun W => specBackK_yes M A C y W h1 h2 h3 h4 hy) (fun W => backK_yes M A C y W h1 h2 h3 h4 hy)
    · exact lawBackK_of _ _ _ 0 0 0 false w (fun W => specBackK_no M A C W (.inr ⟨M, A, rfl, rfl, h1, h2, h3, hg⟩)) (fun W => backK_no M A C W (.inr ⟨M, A, rfl, rfl, h1, h2, h3, hg⟩))
  · exact lawBackK_of _ _ _ 0 0 0 false w (fun W => specBackK_no m a c W (.inl h)) (fun W => backK_no m a c W (.inl h))
end Go.Proofs.Ytmapbaomfaplmaa
