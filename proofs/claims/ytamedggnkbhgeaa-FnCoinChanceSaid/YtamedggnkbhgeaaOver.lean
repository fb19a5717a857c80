/- Contracts: math/bits.Rem64, (impl.wide).remainder, (impl.wide).over. -/
import Derived.Test.YtamedggnkbhgeaaDiv64
import Derived.Test.YtamedggnkbhgeaaWide
import Derived.Test.YtamedggnkbhgeaaD2
namespace Go.Proofs.Ytamedggnkbhgeaa
open Go.RowKit Go.PlainAid
set_option maxHeartbeats 800000

theorem kd_one {B y : Nat} (hy0 : 0 < y) (n v : Nat) : (n % y * B + v) / y + n / y * B = (n * B + v) / y ∧ (n % y * B + v) % y = (n * B + v) % y := by
  have h : n * B + v = (n % y * B + v) + y * (n / y * B) := by
    have h1 := Nat.div_add_mod n y
    have h2 : n * B = y * (n / y * B) + n % y * B := by
      calc n * B = (y * (n / y) + n % y) * B := by rw [h1]
        _ = y * (n / y * B) + n % y * B := by rw [Nat.add_mul, Nat.mul_assoc]
    omega
  rw [h, Nat.add_mul_div_left _ _ hy0, Nat.add_mul_mod_self_left]
  exact ⟨rfl, rfl⟩

theorem rem64_any (H L Y : Nat) (w : World) (hH : H ≤ 18446744073709551615) (hY0 : 0 < Y) (hY : Y ≤ 18446744073709551615) (hL : L ≤ 18446744073709551615) :
    Calls Try.prog 99 #[.int .u64 H, .int .u64 L, .int .u64 Y] w fun e w' => e = .returned (.int .u64 ((H * 18446744073709551616 + L) % Y : Nat)) ∧ ∃ m, w' = w.drewN m := by
  obtain ⟨h, hh⟩ : ∃ h, H % Y = h := ⟨_, rfl⟩
  have hl : h < Y := by rw [← hh]; exact Nat.mod_lt _ hY0
  have HC : Hid (∀ W : World, Calls Try.prog 101 #[.int .u64 h, .int .u64 L, .int .u64 Y] W fun e w' => e = .returned (.tuple #[.int .u64 ((h * 18446744073709551616 + L) / Y : Nat), .int .u64 ((h * 18446744073709551616 + L) % Y : Nat)]) ∧ ∃ m, w' = W.drewN m) := fun W => div64_any h L Y W hl hY hL
  have E := (kd_one (B := 18446744073709551616) hY0 H L).2
  rw [hh] at E
  obtain ⟨q, hq⟩ : ∃ q, (h * 18446744073709551616 + L) / Y = q := ⟨_, rfl⟩
  obtain ⟨r, hr⟩ : ∃ q, (h * 18446744073709551616 + L) % Y = q := ⟨_, rfl⟩
  rw [hr] at E
  rw [← E]
  rw [hq, hr] at HC
  have e1 : (H : Int) % Y = (h : Int) := by rw [← hh]; simp
  have hy : ¬ Y = 0 := by omega
  clear hh hq hr E
  go_enter Try.func99, Try.ntmps99
  go_wp2_with (go_at_call 101; refine (HC.out _).mono ?_; rintro e w' ⟨rfl, m, rfl⟩)
  go_ret
  exact ⟨rfl, m, rfl⟩

theorem quietM {P : Program} {f : FuncId} {args : Array Value} {W : World} {n : Nat} {v : Value} (h : Calls P f args (W.drewN n) fun e w' => e = .returned v ∧ ∃ m, w' = (W.drewN n).drewN m) :
    Calls P f args (W.drewN n) fun e w'' => e = .returned v ∧ ∃ m, w'' = W.drewN m := h.mono fun _ _ ⟨he, m, hw⟩ => ⟨he, n + m, hw.trans (drewN_twoG W n m)⟩

/-- the words of a size -/
theorem words_of (N : Nat) (h : N < 170141183460469231731687303715884105728) : ∃ H L : Nat, hiU N = H ∧ loU N = L ∧ H * 18446744073709551616 + L = N ∧ L ≤ 18446744073709551615 ∧ H ≤ 9223372036854775807 :=
  ⟨N / 18446744073709551616, N % 18446744073709551616, by unfold hiU; omega, by unfold loU; omega, by omega, by omega, by omega⟩

theorem remainder_any (z h l : Int) (D : Nat) (w : World) (e1 : Hid (h = hiU z)) (e2 : Hid (l = loU z)) (z0 : -170141183460469231731687303715884105728 < z) (z1 : z < 170141183460469231731687303715884105728) (hD : 1 ≤ D) (hD2 : D ≤ 1000000000000000000) :
    Calls Try.prog 92 #[.agg #[.int .u64 h, .int .u64 l], .int .i64 D] w fun e w' => e = .returned (.int .i64 (z.natAbs % D : Nat)) ∧ Below w.heap.size w w' := by
  have S : Hid (∀ W : World, Calls Try.prog 98 #[.agg #[.int .u64 h, .int .u64 l]] W fun e w' => e = .returned (.agg #[.int .u64 (hiU (z.natAbs : Nat)), .int .u64 (loU (z.natAbs : Nat))]) ∧ Below W.heap.size W w') := fun W => size_any z h l W e1 e2 z0 z1
  obtain ⟨N, hN⟩ : ∃ N, z.natAbs = N := ⟨_, rfl⟩
  obtain ⟨H, L, q1, q2, q3, q4, q5⟩ := words_of N (by omega)
  rw [hN, q1, q2] at S
  have R : Hid (∀ W : World, Calls Try.prog 99 #[.int .u64 H, .int .u64 L, .int .u64 D] W fun e w' => e = .returned (.int .u64 (N % D : Nat)) ∧ ∃ m, w' = W.drewN m) := fun W => by
    have := rem64_any H L D W (by omega) (by omega) (by omega) q4
    rwa [q3] at this
  obtain ⟨r, hr⟩ : ∃ r, N % D = r := ⟨_, rfl⟩
  have rl : r < D := by rw [← hr]; exact Nat.mod_lt _ (by omega)
  rw [hr] at R
  rw [hN, hr]
  have w1 : IntKind.i64.wrap (r : Int) = (r : Int) := IntWalk.i64_in _ (by omega)
  clear hN q1 q2 q3 q4 q5 z0 z1 hr
  go_enter Try.func92, Try.ntmps92
  go_wp2_with fail
  refine (S.out _).mono ?_
  rintro e w1 ⟨rfl, hb⟩
  have hb1 : Below w.heap.size w w1 := ((Below.refl w.heap.size w).alloc (Nat.le_refl _) _).trans (hb.mono (by simp))
  clear hb
  go_wp2_with (go_at_call 99; refine (R.out _).mono ?_; rintro e w2 ⟨rfl, m, rfl⟩)
  go_ret
  exact ⟨rfl, below_drewN (hb1.alloc hb1.size _) m⟩

theorem over_any (z h l : Int) (D : Nat) (w : World) (e1 : Hid (h = hiU z)) (e2 : Hid (l = loU z)) (z0 : -170141183460469231731687303715884105728 < z) (z1 : z < 170141183460469231731687303715884105728) (hD : 1 ≤ D) (hD2 : D ≤ 1000000000000000000) :
    Calls Try.prog 94 #[.agg #[.int .u64 h, .int .u64 l], .int .i64 D] w fun e w' => e = .returned (.agg #[.int .u64 (hiU (z.tdiv D)), .int .u64 (loU (z.tdiv D))]) ∧ Below w.heap.size w w' := by
  have S : Hid (∀ W : World, Calls Try.prog 98 #[.agg #[.int .u64 h, .int .u64 l]] W fun e w' => e = .returned (.agg #[.int .u64 (hiU (z.natAbs : Nat)), .int .u64 (loU (z.natAbs : Nat))]) ∧ Below W.heap.size W w') := fun W => size_any z h l W e1 e2 z0 z1
  have G : ∃ s : Int, (s < 0 ↔ z < 0) ∧ Hid (∀ W : World, Calls Try.prog 56 #[.agg #[.int .u64 h, .int .u64 l]] W fun e w' => e = .returned (.int .i64 s) ∧ Below W.heap.size W w') := by
    by_cases n : z < 0
    · exact ⟨-1, by omega, fun W => sign_neg z h l W e1 n (by omega)⟩
    · by_cases n0 : z = 0
      · exact ⟨0, by omega, fun W => sign_zero z h l W e1 e2 n0⟩
      · exact ⟨1, by omega, fun W => sign_pos z h l W e1 e2 (by omega) z1⟩
  obtain ⟨s, hs, HS⟩ := G
  obtain ⟨N, hN⟩ : ∃ N, z.natAbs = N := ⟨_, rfl⟩
  obtain ⟨H, L, q1, q2, q3, q4, q5⟩ := words_of N (by omega)
  rw [hN, q1, q2] at S
  obtain ⟨hr, hhr⟩ : ∃ x, H % D = x := ⟨_, rfl⟩
  obtain ⟨hq, hhq⟩ : ∃ x, H / D = x := ⟨_, rfl⟩
  have hrl : hr < D := by rw [← hhr]; exact Nat.mod_lt _ (by omega)
  have hql : hq ≤ H := by rw [← hhq]; exact Nat.div_le_self _ _
  obtain ⟨E, _⟩ := kd_one (B := 18446744073709551616) (y := D) (by omega) H L
  rw [q3, hhr, hhq] at E
  obtain ⟨lq, hlq⟩ : ∃ x, (hr * 18446744073709551616 + L) / D = x := ⟨_, rfl⟩
  have lql : lq ≤ 18446744073709551615 := by
    have := kd_small (B := 18446744073709551616) (un := L) (u := hr) (y := D) (by omega) hrl
    rw [hlq] at this
    omega
  have DV : Hid (∀ W : World, Calls Try.prog 101 #[.int .u64 hr, .int .u64 L, .int .u64 D] W fun e w' => e = .returned (.tuple #[.int .u64 lq, .int .u64 ((hr * 18446744073709551616 + L) % D : Nat)]) ∧ ∃ m, w' = W.drewN m) := fun W => by
    have := div64_any hr L D W hrl (by omega) q4
    rwa [hlq] at this
  rw [hlq] at E
  have X1 : Hid ((hq : Int) = hiU ((N / D : Nat) : Int)) := by unfold Hid hiU; rw [← E]; omega
  have X2 : Hid ((lq : Int) = loU ((N / D : Nat) : Int)) := by unfold Hid loU; rw [← E]; omega
  have w1 : (H : Int) % D = (hr : Int) := by rw [← hhr]; simp
  have w1' : (H : Int).tmod D = (hr : Int) := by rw [Int.tmod_eq_emod_of_nonneg (by omega)]; exact w1
  have w2 : (H : Int) / D = (hq : Int) := by rw [← hhq]; simp
  have w3 : IntKind.u64.wrap (D : Int) = (D : Int) := u64_nonneg (by omega) (by omega)
  have w4 : IntKind.u64.wrap (hq : Int) = (hq : Int) := u64_nonneg (by omega) (by omega)
  obtain ⟨mm, hmm⟩ : ∃ x, (hr * 18446744073709551616 + L) % D = x := ⟨_, rfl⟩
  rw [hmm] at DV
  have hD0 : ¬ D = 0 := by omega
  by_cases n : z < 0
  · have s0 : s < 0 := hs.2 n
    have ZE : Hid (-(((N / D : Nat) : Int)) = z.tdiv D) := by
      unfold Hid
      have : z = -(N : Int) := by omega
      rw [this, Int.neg_tdiv, Int.tdiv_eq_ediv_of_nonneg (by omega)]
      simp
    have NG : Hid (∀ W : World, Calls Try.prog 81 #[.agg #[.int .u64 hq, .int .u64 lq]] W fun e w' => e = .returned (.agg #[.int .u64 (hiU (z.tdiv D)), .int .u64 (loU (z.tdiv D))]) ∧ Below W.heap.size W w') := fun W => by
      have := negated_any _ hq lq W X1 X2
      rwa [ZE.out] at this
    generalize hiU (z.tdiv D) = rh at NG ⊢
    generalize loU (z.tdiv D) = rl at NG ⊢
    clear hN q1 q2 q3 q4 q5 z0 z1 hhr hhq E hlq hmm hs n lql hrl hql
    go_enter Try.func94, Try.ntmps94
    go_wp2_with fail
    refine (S.out _).mono ?_
    rintro e w1 ⟨rfl, hb⟩
    have A0 := (((D2.new w (.int .u64 h) (.int .u64 l) 76).alloc (.cells #[.int .u64 0, .int .u64 0] 76)).far hb)
    have A1 := ((D2.new (w.alloc (.cells #[.int .u64 h, .int .u64 l] 76)) (.int .u64 0) (.int .u64 0) 76).far hb)
    simp only [World.size_alloc] at A1
    have hb1 : Below w.heap.size w w1 := (((Below.refl w.heap.size w).alloc (Nat.le_refl _) _).alloc (by simp) _).trans (hb.mono (by simp; omega))
    have z1 : w.heap.size + 1 < w1.heap.size := A1.lt
    clear hb
    have A2 := D2.new w1 (.int .u64 H) (.int .u64 L) 76
    replace A0 := A0.alloc (.cells #[.int .u64 H, .int .u64 L] 76)
    replace A1 := A1.alloc (.cells #[.int .u64 H, .int .u64 L] 76)
    replace hb1 := hb1.alloc hb1.size (.cells #[.int .u64 H, .int .u64 L] 76)
    go_wp2
    go_quiet ((go_at_call 101; exact quietM (DV.out _)))
    generalize (w1.alloc (.cells #[.int .u64 H, .int .u64 L] 76)) = w2 at A0 A1 A2 hb1 ⊢
    replace A0 : D2 (w2.drewN nq) _ _ _ := A0.drewN nq
    replace A1 : D2 (w2.drewN nq) _ _ _ := A1.drewN nq
    replace A2 : D2 (w2.drewN nq) _ _ _ := A2.drewN nq
    replace hb1 := below_drewN hb1 nq
    generalize w2.drewN nq = w3 at A0 A1 A2 hb1 ⊢
    have l0 := A0.lt
    have l1 := A1.lt
    have l2 := A2.lt
    obtain ⟨⟨c0, c1⟩, _, _⟩ := id A0
    obtain ⟨⟨c2, c3⟩, _, _⟩ := id A2
    go_wp2_with fail
    refine (HS.out _).mono ?_
    rintro e w4 ⟨rfl, hb⟩
    clear c0 c1 c2 c3 l0 l2 A2 A0
    have A3 := (D2.new w3 (.int .u64 hq) (.int .u64 lq) 76).far hb
    replace A1 := (A1.alloc (.cells #[.int .u64 hq, .int .u64 lq] 76)).far hb
    replace hb1 := (hb1.alloc hb1.size (.cells #[.int .u64 hq, .int .u64 lq] 76)).trans (hb.mono (by have := hb1.size; simp; omega))
    clear hb
    obtain ⟨⟨c0, c1⟩, _, _⟩ := id A3
    go_wp2_with fail
    refine (NG.out _).mono ?_
    rintro e w5 ⟨rfl, hb⟩
    replace A1 := A1.far hb
    replace hb1 := hb1.trans (hb.mono hb1.size)
    clear hb c0 c1 A3
    obtain ⟨p0, p1⟩ := (A1.put (.int .u64 rh) (.int .u64 rl)).1
    obtain ⟨⟨c0, c1⟩, f0, f1⟩ := id A1
    go_wp2
    unfold putD at p0 p1
    exact bodyPost_ret (v := .agg #[.int .u64 rh, .int .u64 rl]) (by simp [results, Try.results94, go_sem, p0, p1]) rfl ⟨rfl, below_putD hb1 (by omega) _ _⟩
  · have s0 : ¬ s < 0 := fun x => n (hs.1 x)
    have ZE : Hid (((N / D : Nat) : Int) = z.tdiv D) := by
      unfold Hid
      have : z = (N : Int) := by omega
      rw [this, Int.tdiv_eq_ediv_of_nonneg (by omega)]
      simp
    rw [← ZE.out, ← X1.out, ← X2.out]
    clear hN q1 q2 q3 q4 q5 z0 z1 hhr hhq E hlq hmm hs n lql hrl hql
    go_enter Try.func94, Try.ntmps94
    go_wp2_with fail
    refine (S.out _).mono ?_
    rintro e w1 ⟨rfl, hb⟩
    have A0 := (((D2.new w (.int .u64 h) (.int .u64 l) 76).alloc (.cells #[.int .u64 0, .int .u64 0] 76)).far hb)
    have A1 := ((D2.new (w.alloc (.cells #[.int .u64 h, .int .u64 l] 76)) (.int .u64 0) (.int .u64 0) 76).far hb)
    simp only [World.size_alloc] at A1
    have hb1 : Below w.heap.size w w1 := (((Below.refl w.heap.size w).alloc (Nat.le_refl _) _).alloc (by simp) _).trans (hb.mono (by simp; omega))
    have z1 : w.heap.size + 1 < w1.heap.size := A1.lt
    clear hb
    have A2 := D2.new w1 (.int .u64 H) (.int .u64 L) 76
    replace A0 := A0.alloc (.cells #[.int .u64 H, .int .u64 L] 76)
    replace A1 := A1.alloc (.cells #[.int .u64 H, .int .u64 L] 76)
    replace hb1 := hb1.alloc hb1.size (.cells #[.int .u64 H, .int .u64 L] 76)
    go_wp2
    go_quiet ((go_at_call 101; exact quietM (DV.out _)))
    generalize (w1.alloc (.cells #[.int .u64 H, .int .u64 L] 76)) = w2 at A0 A1 A2 hb1 ⊢
    replace A0 : D2 (w2.drewN nq) _ _ _ := A0.drewN nq
    replace A1 : D2 (w2.drewN nq) _ _ _ := A1.drewN nq
    replace A2 : D2 (w2.drewN nq) _ _ _ := A2.drewN nq
    replace hb1 := below_drewN hb1 nq
    generalize w2.drewN nq = w3 at A0 A1 A2 hb1 ⊢
    have l0 := A0.lt
    have l1 := A1.lt
    have l2 := A2.lt
    obtain ⟨⟨c0, c1⟩, _, _⟩ := id A0
    obtain ⟨⟨c2, c3⟩, _, _⟩ := id A2
    go_wp2_with fail
    refine (HS.out _).mono ?_
    rintro e w4 ⟨rfl, hb⟩
    clear c0 c1 c2 c3 l0 l2 A2 A0
    have A3 := (D2.new w3 (.int .u64 hq) (.int .u64 lq) 76).far hb
    replace A1 := (A1.alloc (.cells #[.int .u64 hq, .int .u64 lq] 76)).far hb
    replace hb1 := (hb1.alloc hb1.size (.cells #[.int .u64 hq, .int .u64 lq] 76)).trans (hb.mono (by have := hb1.size; simp; omega))
    clear hb
    obtain ⟨⟨c0, c1⟩, _, _⟩ := id A3
    obtain ⟨p0, p1⟩ := (A1.put (.int .u64 hq) (.int .u64 lq)).1
    obtain ⟨⟨d0, d1⟩, f0, f1⟩ := id A1
    go_wp2
    unfold putD at p0 p1
    exact bodyPost_ret (v := .agg #[.int .u64 hq, .int .u64 lq]) (by simp [results, Try.results94, go_sem, p0, p1]) rfl ⟨rfl, below_putD hb1 (by omega) _ _⟩
end Go.Proofs.Ytamedggnkbhgeaa
