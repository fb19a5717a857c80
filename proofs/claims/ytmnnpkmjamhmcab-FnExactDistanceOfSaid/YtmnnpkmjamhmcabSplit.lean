/- Numbers of two words in the specification: spec.l01Plus, l01Minus, l01Split. -/
import Derived.Test.YtmnnpkmjamhmcabCmp
import Derived.Test.YtmnnpkmjamhmcabOver
namespace Go.Proofs.Ytmnnpkmjamhmcab
open Go.RowKit Go.PlainAid
set_option maxHeartbeats 800000

theorem plusL_any (X Y h1 l1 h2 l2 : Int) (w : World) (e1 : Hid (h1 = hiU X)) (e2 : Hid (l1 = loU X)) (e3 : Hid (h2 = hiU Y)) (e4 : Hid (l2 = loU Y)) (hX : Nat126 X) (hY : Nat126 Y) :
    Calls Try.prog 217 #[.agg #[.int .u64 h1, .int .u64 l1], .agg #[.int .u64 h2, .int .u64 l2]] w fun e w' => e = .returned (.agg #[.int .u64 (hiU (X + Y)), .int .u64 (loU (X + Y))]) ∧ Below w.heap.size w w' := by
  have q1 := e1.out; have q2 := e2.out; have q3 := e3.out; have q4 := e4.out
  obtain ⟨x1, x2⟩ := hX
  obtain ⟨y1, y2⟩ := hY
  unfold hiU at q1 q3
  unfold loU at q2 q4
  have w1 : IntKind.u64.wrap (h1 + h2) = h1 + h2 := u64_nonneg (by omega) (by omega)
  obtain ⟨s, hs⟩ : ∃ s, IntKind.u64.wrap (l1 + l2) = s := ⟨_, rfl⟩
  have hs2 := hs
  rw [IntKind.wrap_u64] at hs2
  have w2 : IntKind.u64.wrap (h1 + h2 + 1) = h1 + h2 + 1 := u64_nonneg (by omega) (by omega)
  by_cases c : s < l1
  · have HH : Hid (hiU (X + Y) = h1 + h2 + 1) := by unfold Hid hiU; omega
    have HL : Hid (loU (X + Y) = s) := by unfold Hid loU; omega
    clear q1 q2 q3 q4 x1 x2 y1 y2 hs2
    go_enter Try.func217, Try.ntmps217
    go_wp2
    go_returns
    exact ⟨by rw [HH.out, HL.out], by go_grown⟩
  · have HH : Hid (hiU (X + Y) = h1 + h2) := by unfold Hid hiU; omega
    have HL : Hid (loU (X + Y) = s) := by unfold Hid loU; omega
    clear q1 q2 q3 q4 x1 x2 y1 y2 hs2
    go_enter Try.func217, Try.ntmps217
    go_wp2
    go_returns
    exact ⟨by rw [HH.out, HL.out], by go_grown⟩

theorem minusL_any (X Y h1 l1 h2 l2 : Int) (w : World) (e1 : Hid (h1 = hiU X)) (e2 : Hid (l1 = loU X)) (e3 : Hid (h2 = hiU Y)) (e4 : Hid (l2 = loU Y)) (hX : Nat126 X) (hY : Nat126 Y) (hle : Y ≤ X) :
    Calls Try.prog 218 #[.agg #[.int .u64 h1, .int .u64 l1], .agg #[.int .u64 h2, .int .u64 l2]] w fun e w' => e = .returned (.agg #[.int .u64 (hiU (X - Y)), .int .u64 (loU (X - Y))]) ∧ Below w.heap.size w w' := by
  have q1 := e1.out; have q2 := e2.out; have q3 := e3.out; have q4 := e4.out
  obtain ⟨x1, x2⟩ := hX
  obtain ⟨y1, y2⟩ := hY
  unfold hiU at q1 q3
  unfold loU at q2 q4
  have w1 : IntKind.u64.wrap (h1 - h2) = h1 - h2 := u64_nonneg (by omega) (by omega)
  obtain ⟨s, hs⟩ : ∃ s, IntKind.u64.wrap (l1 - l2) = s := ⟨_, rfl⟩
  have hs2 := hs
  rw [IntKind.wrap_u64] at hs2
  by_cases c : l1 < l2
  · have w2 : IntKind.u64.wrap (h1 - h2 - 1) = h1 - h2 - 1 := u64_nonneg (by omega) (by omega)
    have HH : Hid (hiU (X - Y) = h1 - h2 - 1) := by unfold Hid hiU; omega
    have HL : Hid (loU (X - Y) = s) := by unfold Hid loU; omega
    clear q1 q2 q3 q4 x1 x2 y1 y2 hs2 hle
    go_enter Try.func218, Try.ntmps218
    go_wp2
    go_returns
    exact ⟨by rw [HH.out, HL.out], by go_grown⟩
  · have HH : Hid (hiU (X - Y) = h1 - h2) := by unfold Hid hiU; omega
    have HL : Hid (loU (X - Y) = s) := by unfold Hid loU; omega
    clear q1 q2 q3 q4 x1 x2 y1 y2 hs2 hle
    go_enter Try.func218, Try.ntmps218
    go_wp2
    go_returns
    exact ⟨by rw [HH.out, HL.out], by go_grown⟩

theorem and_one (x : Nat) (hx : x < 18446744073709551616) : bits .and .u64 (x : Int) 1 = ((x % 2 : Nat) : Int) := by
  show IntKind.u64.wrap ((BitVec.ofInt 64 (x : Int) &&& BitVec.ofInt 64 (1 : Int)).toNat : Nat) = _
  rw [BitVec.toNat_and, BitVec.ofInt_natCast, BitVec.toNat_ofNat, Nat.mod_eq_of_lt (by omega), show (BitVec.ofInt 64 (1 : Int)).toNat = 1 by decide, Nat.and_one_is_mod, IntKind.wrap_u64]
  omega
/-- a digit of a number of two words -/
theorem digit_hi (N k : Nat) (hk : 64 ≤ k) : N / 18446744073709551616 / 2 ^ (k - 64) = N / 2 ^ k := by
  rw [Nat.div_div_eq_div_mul, show 18446744073709551616 * 2 ^ (k - 64) = 2 ^ k by rw [show 18446744073709551616 = 2 ^ 64 by decide, ← Nat.pow_add]; congr 1; omega]
theorem digit_lo (N k : Nat) (hk : k < 64) : N % 18446744073709551616 / 2 ^ k % 2 = N / 2 ^ k % 2 := by
  have h1 : 18446744073709551616 = 2 ^ k * (2 * 2 ^ (63 - k)) := by
    rw [← Nat.pow_succ', ← Nat.pow_add, show k + (63 - k + 1) = 64 by omega]
  obtain ⟨q, hq⟩ : ∃ q, N / 18446744073709551616 = q := ⟨_, rfl⟩
  obtain ⟨m, hm⟩ : ∃ q, N % 18446744073709551616 = q := ⟨_, rfl⟩
  have h2 : N = m + 2 ^ k * (2 * 2 ^ (63 - k) * q) := by
    rw [← Nat.mul_assoc, ← h1]
    have := Nat.div_add_mod N 18446744073709551616
    rw [hq, hm] at this
    omega
  rw [hm, h2, Nat.add_mul_div_left _ _ (Nat.two_pow_pos k), Nat.mul_assoc 2, Nat.add_mul_mod_self_left]
theorem digit_step (N k : Nat) : N / 2 ^ k = 2 * (N / 2 ^ (k + 1)) + N / 2 ^ k % 2 := by
  rw [Nat.pow_succ, ← Nat.div_div_eq_div_mul]
  omega
/-- one digit more -/
theorem split_step (M D b : Nat) (hD : 0 < D) (hb : b ≤ 1) : ((2 * M + b) % D = if 2 * (M % D) + b < D then 2 * (M % D) + b else 2 * (M % D) + b - D) ∧ ((2 * M + b) / D = if 2 * (M % D) + b < D then 2 * (M / D) else 2 * (M / D) + 1) := by
  have h1 := Nat.div_add_mod M D
  have h2 := Nat.mod_lt M hD
  obtain ⟨q, hq⟩ : ∃ q, M / D = q := ⟨_, rfl⟩
  obtain ⟨r, hr⟩ : ∃ r, M % D = r := ⟨_, rfl⟩
  rw [hq, hr] at h1
  rw [hr] at h2
  rw [hq, hr]
  have h3 : 2 * M + b = (2 * r + b) + D * (2 * q) := by
    have : D * (2 * q) = 2 * (D * q) := by rw [Nat.mul_left_comm]
    omega
  rw [h3, Nat.add_mul_div_left _ _ hD, Nat.add_mul_mod_self_left]
  by_cases c : 2 * r + b < D
  · rw [if_pos c, if_pos c, Nat.mod_eq_of_lt c, Nat.div_eq_of_lt c]
    exact ⟨rfl, by omega⟩
  · rw [if_neg c, if_neg c, Nat.mod_eq_sub_mod (by omega), Nat.mod_eq_of_lt (by omega), Nat.div_eq_sub_div hD (by omega), Nat.div_eq_of_lt (by omega)]
    exact ⟨rfl, by omega⟩

theorem split_any (N D : Nat) (h l : Int) (w : World) (e1 : Hid (h = hiU N)) (e2 : Hid (l = loU N)) (hN : N < 85070591730234615865843651857942052864) (hD : 1 ≤ D) (hD2 : D ≤ 1000000000000000000) :
    Calls Try.prog 219 #[.agg #[.int .u64 h, .int .u64 l], .int .i64 D] w fun e w' => e = .returned (.tuple #[.agg #[.int .u64 (hiU (N / D : Nat)), .int .u64 (loU (N / D : Nat))], .int .i64 (N % D : Nat)]) ∧ Below w.heap.size w w' := by
  have w0 : IntKind.u64.wrap (D : Int) = (D : Int) := u64_nonneg (by omega) (by omega)
  have HN := Lib.hid hN
  clear hN
  go_enter Try.func219, Try.ntmps219
  go_wp2
  go_loopw [7, 8, 9] (fun r i _ wr => ∃ j : Nat, j ≤ 128 ∧ i = .int .i64 ((j : Int) - 1) ∧ r = .int .u64 (N / 2 ^ j % D : Nat) ∧ D2 wr (w.heap.size + 1 + 1) (.int .u64 (hiU (N / 2 ^ j / D : Nat))) (.int .u64 (loU (N / 2 ^ j / D : Nat))) ∧ D2 wr w.heap.size (.int .u64 h) (.int .u64 l) ∧ D2 wr (w.heap.size + 1) (.int .u64 0) (.int .u64 0) ∧ Below w.heap.size w wr) (fun _ i _ _ => (intOf i + 1).toNat)
  case atStart =>
    have e0 : N / 2 ^ 128 = 0 := Nat.div_eq_of_lt (by have := HN.out; omega)
    refine ⟨128, Nat.le_refl _, by rfl, by rw [e0]; simp, ?_, ?_, ?_, ?_⟩
    · rw [e0]
      have := D2.new ((w.alloc (.cells #[.int .u64 h, .int .u64 l] 189)).alloc (.cells #[.int .u64 0, .int .u64 0] 189)) (.int .u64 0) (.int .u64 0) 189
      simpa [hiU, loU] using this
    · exact ((D2.new w _ _ _).alloc _).alloc _
    · have := (D2.new (w.alloc (.cells #[.int .u64 h, .int .u64 l] 189)) (.int .u64 0) (.int .u64 0) 189).alloc (.cells #[.int .u64 0, .int .u64 0] 189)
      simpa using this
    · exact (((Below.refl _ w).alloc (Nat.le_refl _) _).alloc (by simp) _).alloc (by simp; omega) _
  case round =>
    obtain ⟨j, hj, rfl, rfl, Q, A, R, B⟩ := hrel
    by_cases hj0 : j = 0
    · subst hj0
      have E1 : N / 2 ^ 0 = N := by simp
      rw [E1] at Q ⊢
      obtain ⟨X, hX⟩ : ∃ X, hiU (N / D : Nat) = X := ⟨_, rfl⟩
      obtain ⟨Y, hY⟩ : ∃ X, loU (N / D : Nat) = X := ⟨_, rfl⟩
      have hm : N % D < D := Nat.mod_lt _ (by omega)
      obtain ⟨Z, hZ⟩ : ∃ X, N % D = X := ⟨_, rfl⟩
      rw [hX, hY] at Q
      rw [hZ] at hm
      rw [hZ]
      have HX := Lib.hid hX
      have HY := Lib.hid hY
      have HZ := Lib.hid hZ
      clear hX hY hZ E1
      obtain ⟨p0, p1⟩ := (R.put (.int .u64 X) (.int .u64 Y)).1
      obtain ⟨⟨x0, x1⟩, _, _⟩ := id Q
      obtain ⟨⟨x2, x3⟩, y2, y3⟩ := id R
      have w1 : IntKind.i64.wrap (Z : Int) = (Z : Int) := IntWalk.i64_in _ (by omega)
      go_wp2
      unfold putD at p0 p1
      exact bodyPost_ret (v := .tuple #[.agg #[.int .u64 X, .int .u64 Y], .int .i64 Z]) (by simp [results, Try.results219, go_sem, p0, p1]) rfl ⟨by rw [HX.out, HY.out, HZ.out], below_putD B (by omega) _ _⟩
    · obtain ⟨k, rfl⟩ : ∃ k, j = k + 1 := ⟨j - 1, by omega⟩
      have f0 : ((k + 1 : Nat) : Int) - 1 = (k : Int) := by omega
      rw [f0]
      obtain ⟨b, hb⟩ : ∃ b, N / 2 ^ k % 2 = b := ⟨_, rfl⟩
      have hb1 : b ≤ 1 := by omega
      have S := digit_step N k
      rw [hb] at S
      obtain ⟨M, hM⟩ : ∃ M, N / 2 ^ (k + 1) = M := ⟨_, rfl⟩
      rw [hM] at S Q
      obtain ⟨S1, S2⟩ := split_step M D b (by omega) hb1
      rw [← S] at S1 S2
      have ML : M ≤ N := by rw [← hM]; exact Nat.div_le_self _ _
      have QL : M / D ≤ M := Nat.div_le_self _ _
      obtain ⟨q, hq⟩ : ∃ q, M / D = q := ⟨_, rfl⟩
      rw [hq] at S2 QL Q
      have hNN := HN.out
      obtain ⟨H, L, q1, q2, q3, q4, q5⟩ := words_of q (by omega)
      rw [q1, q2] at Q
      have hr1 := Nat.mod_lt M (show 0 < D by omega)
      obtain ⟨r, hr⟩ : ∃ r, M % D = r := ⟨_, rfl⟩
      rw [hM, hr]
      rw [hr] at S1 S2 hr1
      have v1 : IntKind.u64.wrap (2 * (r : Int)) = 2 * (r : Int) := u64_nonneg (by omega) (by omega)
      have v2 : IntKind.u64.wrap (2 * (r : Int) + (b : Int)) = 2 * (r : Int) + b := u64_nonneg (by omega) (by omega)
      obtain ⟨⟨x0, x1⟩, _, _⟩ := id A
      obtain ⟨⟨x2, x3⟩, y2, y3⟩ := id Q
      have BB := Lib.hid hb
      clear hb hM hr hq ML QL hNN S
      obtain ⟨L', hL'⟩ : ∃ x, 2 * L % 18446744073709551616 = x := ⟨_, rfl⟩
      obtain ⟨H', hH'⟩ : ∃ x, 2 * H + L / 9223372036854775808 = x := ⟨_, rfl⟩
      have v5 : bits .or .u64 ((H : Int) * 2) ((L : Int) / 9223372036854775808) = (H' : Int) := by
        have := or_u64 H (L / 9223372036854775808) 1 (by omega) (by omega)
        rw [show (H * 2 ^ 1 : Nat) = H * 2 by omega] at this
        rw [show (H : Int) * 2 = ((H * 2 : Nat) : Int) by omega, show (L : Int) / 9223372036854775808 = ((L / 9223372036854775808 : Nat) : Int) by omega, this]
        omega
      have v6 : IntKind.u64.wrap ((L : Int) * 2) = (L' : Int) := by rw [IntKind.wrap_u64]; omega
      have v8 : bits .or .u64 (L' : Int) 1 = (L' : Int) + 1 := by
        have := or_u64 (L' / 2) 1 1 (by omega) (by omega)
        rw [show (L' / 2 * 2 ^ 1 : Nat) = L' by omega] at this
        rw [show ((1 : Nat) : Int) = 1 by rfl] at this
        rw [this]
        omega
      have E1 : Hid (hiU ((2 * q : Nat) : Int) = H' ∧ loU ((2 * q : Nat) : Int) = L') := by unfold Hid hiU loU; omega
      have E2 : Hid (hiU ((2 * q + 1 : Nat) : Int) = H' ∧ loU ((2 * q + 1 : Nat) : Int) = (L' : Int) + 1) := by unfold Hid hiU loU; omega
      clear q1 q2 q3 hL' hH'
      have V3 : ∃ x : Int, (64 ≤ k → bits .and .u64 (h / 2 ^ (k - 64)) 1 = (b : Int)) ∧ (k < 64 → bits .and .u64 (l / 2 ^ (k % 64)) 1 = (b : Int)) := by
        refine ⟨0, fun hk => ?_, fun hk => ?_⟩
        · have x1 := e1.out
          rw [show hiU (N : Int) = ((N / 18446744073709551616 : Nat) : Int) by unfold hiU; have := HN.out; omega] at x1
          rw [x1, show ((N / 18446744073709551616 : Nat) : Int) / 2 ^ (k - 64) = ((N / 18446744073709551616 / 2 ^ (k - 64) : Nat) : Int) by simp, and_one _ (by have := HN.out; have := Nat.div_le_self (N / 18446744073709551616) (2 ^ (k - 64)); generalize N / 18446744073709551616 / 2 ^ (k - 64) = t at this ⊢; omega), digit_hi N k hk, BB.out]
        · have x1 := e2.out
          rw [show loU (N : Int) = ((N % 18446744073709551616 : Nat) : Int) by unfold loU; omega] at x1
          rw [x1, Nat.mod_eq_of_lt hk, show ((N % 18446744073709551616 : Nat) : Int) / 2 ^ k = ((N % 18446744073709551616 / 2 ^ k : Nat) : Int) by simp, and_one _ (by have := Nat.div_le_self (N % 18446744073709551616) (2 ^ k); have := Nat.mod_lt N (show 0 < 18446744073709551616 by decide); omega), digit_lo N k hk, BB.out]
      obtain ⟨_, V3, V4⟩ := V3
      have HV3 := Lib.hid V3
      have HV4 := Lib.hid V4
      clear V3 V4
      by_cases hc : 2 * r + b < D
      · have hc2 : ¬ (D : Int) ≤ 2 * (r : Int) + b := by omega
        rw [if_pos hc] at S1 S2
        have P1 := Q.put (.int .u64 H') (.int .u64 L')
        have P2 := A.away (show w.heap.size + 1 + 1 ≠ w.heap.size by omega) (.int .u64 H') (.int .u64 L')
        have P3 := R.away (show w.heap.size + 1 + 1 ≠ w.heap.size + 1 by omega) (.int .u64 H') (.int .u64 L')
        have P4 := below_putD B (show w.heap.size ≤ w.heap.size + 1 + 1 by omega) (.int .u64 H') (.int .u64 L')
        have HP : Hid (D2 (putD wr (w.heap.size + 1 + 1) (.int .u64 H') (.int .u64 L')) (w.heap.size + 1 + 1) (.int .u64 H') (.int .u64 L') ∧ D2 (putD wr (w.heap.size + 1 + 1) (.int .u64 H') (.int .u64 L')) w.heap.size (.int .u64 h) (.int .u64 l) ∧ D2 (putD wr (w.heap.size + 1 + 1) (.int .u64 H') (.int .u64 L')) (w.heap.size + 1) (.int .u64 0) (.int .u64 0) ∧ Below w.heap.size w (putD wr (w.heap.size + 1 + 1) (.int .u64 H') (.int .u64 L'))) := ⟨P1, P2, P3, P4⟩
        clear P1 P2 P3 P4 Q A R B
        by_cases hk : 64 ≤ k
        · have hk2 : (64 : Int) ≤ (k : Int) := by omega
          have v3 := HV3.out hk
          go_wp2
          go_roundw
          case rel => exact ⟨k, by omega, by go_num, by rw [S1]; simp, by rw [S2, E1.out.1, E1.out.2]; exact HP.out.1, HP.out.2.1, HP.out.2.2.1, HP.out.2.2.2⟩
          case measure => first | (simp [intOf]; done) | (simp [intOf]; omega)
        · have hk2 : ¬ (64 : Int) ≤ (k : Int) := by omega
          have v3 := HV4.out (by omega)
          go_wp2
          go_roundw
          case rel => exact ⟨k, by omega, by go_num, by rw [S1]; simp, by rw [S2, E1.out.1, E1.out.2]; exact HP.out.1, HP.out.2.1, HP.out.2.2.1, HP.out.2.2.2⟩
          case measure => first | (simp [intOf]; done) | (simp [intOf]; omega)
      · have hc2 : (D : Int) ≤ 2 * (r : Int) + b := by omega
        rw [if_neg hc] at S1 S2
        obtain ⟨r', hr'⟩ : ∃ x, 2 * r + b - D = x := ⟨_, rfl⟩
        rw [hr'] at S1
        have v7 : IntKind.u64.wrap (2 * (r : Int) + (b : Int) - (D : Int)) = (r' : Int) := by rw [u64_nonneg (by omega) (by omega)]; omega
        clear hr'
        obtain ⟨⟨z0, z1⟩, _, z3⟩ := Q.put (.int .u64 H') (.int .u64 L')
        unfold putD at z0 z1 z3
        have P1 := (Q.put (.int .u64 H') (.int .u64 L'))
        have P2 := (A.away (show w.heap.size + 1 + 1 ≠ w.heap.size by omega) (.int .u64 H') (.int .u64 L')).other (show w.heap.size + 1 + 1 ≠ w.heap.size by omega) 1 (.int .u64 ((L' : Int) + 1))
        have P3 := (R.away (show w.heap.size + 1 + 1 ≠ w.heap.size + 1 by omega) (.int .u64 H') (.int .u64 L')).other (show w.heap.size + 1 + 1 ≠ w.heap.size + 1 by omega) 1 (.int .u64 ((L' : Int) + 1))
        have P4 := (below_putD B (show w.heap.size ≤ w.heap.size + 1 + 1 by omega) (.int .u64 H') (.int .u64 L')).setCell (p := ⟨w.heap.size + 1 + 1, 1, none⟩) (by simp; omega) (.int .u64 ((L' : Int) + 1))
        have P0 : D2 ((putD wr (w.heap.size + 1 + 1) (.int .u64 H') (.int .u64 L')).setCell ⟨w.heap.size + 1 + 1, 1, none⟩ (.int .u64 ((L' : Int) + 1))) (w.heap.size + 1 + 1) (.int .u64 H') (.int .u64 ((L' : Int) + 1)) :=
          ⟨⟨(cell_otherD (addr_neD (by omega))).trans P1.1.1, World.cell?_setCell_same _ _ _ P1.1.2⟩, by simp only [World.frozen?_setCell]; exact P1.2.1, by simp only [World.frozen?_setCell]; exact P1.2.2⟩
        replace P0 := Lib.hid P0
        replace P2 := Lib.hid P2
        replace P3 := Lib.hid P3
        replace P4 := Lib.hid P4
        clear P1 Q A R B
        by_cases hk : 64 ≤ k
        · have hk2 : (64 : Int) ≤ (k : Int) := by omega
          have v3 := HV3.out hk
          go_wp2
          go_roundw
          case rel => exact ⟨k, by omega, by go_num, by rw [S1], by rw [S2, E2.out.1, E2.out.2]; exact P0.out, P2.out, P3.out, P4.out⟩
          case measure => first | (simp [intOf]; done) | (simp [intOf]; omega)
        · have hk2 : ¬ (64 : Int) ≤ (k : Int) := by omega
          have v3 := HV4.out (by omega)
          go_wp2
          go_roundw
          case rel => exact ⟨k, by omega, by go_num, by rw [S1], by rw [S2, E2.out.1, E2.out.2]; exact P0.out, P2.out, P3.out, P4.out⟩
          case measure => first | (simp [intOf]; done) | (simp [intOf]; omega)
end Go.Proofs.Ytmnnpkmjamhmcab
