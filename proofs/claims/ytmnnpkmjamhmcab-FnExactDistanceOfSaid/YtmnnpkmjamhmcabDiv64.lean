/- Contracts: math/bits.LeadingZeros64, Div64, Rem64. -/
import Derived.Test.YtmnnpkmjamhmcabLen
import Derived.Test.YtmnnpkmjamhmcabDivMath
import Derived.Test.YtmnnpkmjamhmcabFrac
import Derived.Test.YtmnnpkmjamhmcabGT
import Derived.RegionTactic
import Derived.ChangeAlike
import Derived.BigQuiet
import Derived.Deep.CutBlock
import Derived.Deep.DeepCutAuto
import Derived.Deep.LoopGhost
namespace Go.Proofs.Ytmnnpkmjamhmcab
open Go.RowKit Go.PlainAid
set_option maxHeartbeats 800000

theorem lead_any (Y c : Nat) (w : World) (hY : Y < 18446744073709551616) (hc : Pl.len Y = c) (hc1 : c ≤ 64) :
    Calls Try.prog 238 #[.int .u64 Y] w fun e w' => e = .returned (.int .i64 ((64 - c : Nat) : Int)) ∧ w = w' := by
  have C : Hid (∀ W : World, Calls Try.prog 240 #[.int .u64 Y] W fun e w' => e = .returned (.int .i64 c) ∧ W = w') := fun W => by
    have := len64_any Y W (by omega)
    rwa [hc] at this
  have e : IntKind.i64.wrap (64 - (c : Int)) = ((64 - c : Nat) : Int) := by rw [IntWalk.i64_in _ (by omega)]; omega
  have e2 : Hid ((64 : Int) - c = ((64 - c : Nat) : Int)) := by unfold Hid; omega
  clear hc hY
  go_enter Try.func238, Try.ntmps238
  go_wp2_with (go_at_call 240; refine (C.out _).mono ?_; rintro e w' ⟨rfl, rfl⟩)
  go_ret
  exact ⟨by rw [← e2.out]; rfl, rfl⟩

theorem or_u64 (a b s : Nat) (hb : b < 2 ^ s) (h : a * 2 ^ s + b < 18446744073709551616) : bits .or .u64 ((a * 2 ^ s : Nat) : Int) (b : Int) = ((a * 2 ^ s + b : Nat) : Int) := by
  show IntKind.u64.wrap ((BitVec.ofInt 64 ((a * 2 ^ s : Nat) : Int) ||| BitVec.ofInt 64 (b : Int)).toNat : Nat) = _
  rw [BitVec.toNat_or, BitVec.ofInt_natCast, BitVec.ofInt_natCast, BitVec.toNat_ofNat, BitVec.toNat_ofNat, Nat.mod_eq_of_lt (by omega), Nat.mod_eq_of_lt (by omega), or_parts a b s hb, IntKind.wrap_u64]
  omega

/-- the case without a greater word -/
theorem div64_zero (L Y : Nat) (w : World) (hY0 : 0 < Y) (hY : Y ≤ 18446744073709551615) (hL : L ≤ 18446744073709551615) :
    Calls Try.prog 221 #[.int .u64 0, .int .u64 L, .int .u64 Y] w fun e w' => e = .returned (.tuple #[.int .u64 (L / Y : Nat), .int .u64 (L % Y : Nat)]) ∧ ∃ m, w' = w.drewN m := by
  have h0 : ¬ Y = 0 := by omega
  have b1 : ((Y : Int) == 0) = false := by simp; omega
  have b2 : decide ((Y : Int) ≤ 0) = false := by simp; omega
  have e1 : IntKind.u64.wrap ((L : Int) / Y) = ((L / Y : Nat) : Int) := by
    rw [← Int.natCast_ediv]
    have := Nat.div_le_self L Y
    generalize L / Y = q at this ⊢
    exact u64_nonneg (by omega) (by omega)
  go_enter Try.func221, Try.ntmps221
  go_wp2
  go_quiet (fail)
  go_wp2
  go_ret2
  exact ⟨by rw [Int.natCast_ediv, Int.natCast_emod]; rfl, nq, rfl⟩

theorem div64_pos (H L Y s : Nat) (w : World) (hH : H < Y) (hH0 : 0 < H) (hY : Y ≤ 18446744073709551615) (hL : L ≤ 18446744073709551615) (hs : s ≤ 63) (hc : Pl.len Y = 64 - s) (hY1 : 9223372036854775808 ≤ Y * 2 ^ s) (hY2 : Y * 2 ^ s < 18446744073709551616) :
    Calls Try.prog 221 #[.int .u64 H, .int .u64 L, .int .u64 Y] w fun e w' => e = .returned (.tuple #[.int .u64 ((H * 18446744073709551616 + L) / Y : Nat), .int .u64 ((H * 18446744073709551616 + L) % Y : Nat)]) ∧ w = w' := by
  obtain ⟨y, a, b, u, v1, v0, r0, hy, ha, hb, f1, f2, hu, hv1, hv0, hyab, hbB, hv1B, hv0B, huy, ha2, hq, hr0, hr⟩ := div_shift H L Y s hH (by omega) hs hY1
  have C : Hid (∀ W : World, Calls Try.prog 238 #[.int .u64 Y] W fun e w' => e = .returned (.int .i64 s) ∧ W = w') := fun W => by
    have := lead_any Y (64 - s) W (by omega) hc (by omega)
    rwa [show 64 - (64 - s) = s by omega] at this
  have b1 : ((Y : Int) == 0) = false := by simp; omega
  have b2 : decide ((Y : Int) ≤ H) = false := by simp; omega
  have b3 : ((H : Int) == 0) = false := by simp; omega
  obtain ⟨v, hv⟩ : ∃ v, L * 2 ^ s % 18446744073709551616 = v := ⟨_, rfl⟩
  rw [hv] at hv1 hv0
  have hvl : v < 18446744073709551616 := by rw [← hv]; exact Nat.mod_lt _ (by decide)
  have e1 : IntKind.u64.wrap ((Y : Int) * 2 ^ s) = (y : Int) := by
    rw [show (Y : Int) * 2 ^ s = ((Y * 2 ^ s : Nat) : Int) by simp, ← hy]
    exact u64_nonneg (by omega) (by omega)
  have e2 : (y : Int) / 4294967296 = (a : Int) := by omega
  have e3 : bits .and .u64 (y : Int) 4294967295 = (b : Int) := by rw [and_low32 _ (by omega) (by omega)]; omega
  have e4 : bits .or .u64 (IntKind.u64.wrap ((H : Int) * 2 ^ s)) ((L : Int) / 2 ^ (64 - s)) = (u : Int) := by
    rw [show (H : Int) * 2 ^ s = ((H * 2 ^ s : Nat) : Int) by simp, show (L : Int) / 2 ^ (64 - s) = ((L / 2 ^ (64 - s) : Nat) : Int) by simp, u64_nonneg (by omega) (by omega), or_u64 H _ s f2 (by omega), hu]
  have e5 : IntKind.u64.wrap ((L : Int) * 2 ^ s) = (v : Int) := by
    rw [show (L : Int) * 2 ^ s = ((L * 2 ^ s : Nat) : Int) by simp, IntKind.wrap_u64, ← hv]
    omega
  have e6 : (v : Int) / 4294967296 = (v1 : Int) := by omega
  have e7 : bits .and .u64 (v : Int) 4294967295 = (v0 : Int) := by rw [and_low32 _ (by omega) (by omega)]; omega
  have a0 : ¬ a = 0 := by omega
  have ab : a < 4294967296 := by omega
  obtain ⟨k1, k2, k3, k4⟩ := kd_start (B := 4294967296) hbB hv1B hyab huy (by omega) ab
  obtain ⟨g1, hg1⟩ : ∃ g, u / a = g := ⟨_, rfl⟩
  obtain ⟨r1, hr1⟩ : ∃ g, u % a = g := ⟨_, rfl⟩
  obtain ⟨m1, hm1⟩ : ∃ g, g1 * a = g := ⟨_, rfl⟩
  rw [hg1, hr1] at k3
  rw [hg1] at k1 k2
  rw [hr1] at k4
  have e8 : IntKind.u64.wrap ((u : Int) / (a : Int)) = (g1 : Int) := by
    rw [← Int.natCast_ediv, hg1]
    exact u64_nonneg (by omega) (by omega)
  have e9 : IntKind.u64.wrap ((g1 : Int) * (a : Int)) = (m1 : Int) := by
    rw [← Int.natCast_mul, hm1]
    exact u64_nonneg (by omega) (by omega)
  have e10 : IntKind.u64.wrap ((u : Int) - (m1 : Int)) = (r1 : Int) := by
    rw [hm1] at k3
    rw [u64_nonneg (by omega) (by omega)]
    omega
  obtain ⟨q1, hq1⟩ : ∃ q, (u * 4294967296 + v1) / y = q := ⟨_, rfl⟩
  have q1e : Hid ((((u * 4294967296 + v1) / y : Nat) : Int) = q1) := by unfold Hid; rw [hq1]
  replace hyab := Lib.hid hyab
  replace k1 := Lib.hid k1
  replace k3 := Lib.hid k3
  replace hq := Lib.hid hq
  replace hr0 := Lib.hid hr0
  replace hr := Lib.hid hr
  replace hq1 := Lib.hid hq1
  clear hc hy ha hb hv hv1 hv0 hu hg1 hr1 hm1 f1 f2 hY1 hY2
  obtain ⟨R1, Q1⟩ := kd_rest (B := 4294967296) (u := u) (un := v1) (y := y) (by omega) rfl
  obtain ⟨z, hz⟩ : ∃ z, (u * 4294967296 + v1) % y = z := ⟨_, rfl⟩
  have zy : z < y := by rw [← hz]; exact Nat.mod_lt _ (by omega)
  obtain ⟨k1', k2', k3', k4'⟩ := kd_start (B := 4294967296) hbB hv0B hyab.out zy (by omega) ab
  obtain ⟨g2, hg2⟩ : ∃ g, z / a = g := ⟨_, rfl⟩
  obtain ⟨r2, hr2⟩ : ∃ g, z % a = g := ⟨_, rfl⟩
  obtain ⟨m2, hm2⟩ : ∃ g, g2 * a = g := ⟨_, rfl⟩
  rw [hg2, hr2] at k3'
  rw [hg2] at k1' k2'
  rw [hr2] at k4'
  have e11 : IntKind.u64.wrap ((z : Int) / (a : Int)) = (g2 : Int) := by
    rw [← Int.natCast_ediv, hg2]
    exact u64_nonneg (by omega) (by omega)
  have e12 : IntKind.u64.wrap ((g2 : Int) * (a : Int)) = (m2 : Int) := by
    rw [← Int.natCast_mul, hm2]
    exact u64_nonneg (by omega) (by omega)
  have e13 : IntKind.u64.wrap ((z : Int) - (m2 : Int)) = (r2 : Int) := by
    rw [hm2] at k3'
    rw [u64_nonneg (by omega) (by omega)]
    omega
  rw [hz] at hq hr0
  obtain ⟨q2, hq2⟩ : ∃ q, (z * 4294967296 + v0) / y = q := ⟨_, rfl⟩
  have q2e : Hid ((((z * 4294967296 + v0) / y : Nat) : Int) = q2) := by unfold Hid; rw [hq2]
  have R2 := kd_rest (B := 4294967296) (u := z) (un := v0) (y := y) (by omega) rfl
  rw [hr0.out, hq2] at R2
  rw [hq1.out, hq2] at hq
  rw [hz, hq1.out] at R1
  rw [hq1.out] at Q1
  have r0y : r0 < y := by rw [← hr0.out]; exact Nat.mod_lt _ (by omega)
  obtain ⟨n1, hn1⟩ : ∃ n, q1 * y = n := ⟨_, rfl⟩
  obtain ⟨n2, hn2⟩ : ∃ n, q2 * y = n := ⟨_, rfl⟩
  rw [hn1] at R1 Q1
  rw [hn2] at R2
  have e14 : IntKind.u64.wrap (IntKind.u64.wrap ((u : Int) * 4294967296) + (v1 : Int)) = ((u : Int) * 4294967296 + v1) % 18446744073709551616 := by
    rw [IntKind.wrap_u64, IntKind.wrap_u64]; omega
  have e15 : IntKind.u64.wrap (((u : Int) * 4294967296 + (v1 : Int)) % 18446744073709551616 - IntKind.u64.wrap ((q1 : Int) * (y : Int))) = (z : Int) := by
    rw [← Int.natCast_mul, hn1, IntKind.wrap_u64, IntKind.wrap_u64]; omega
  have e16 : IntKind.u64.wrap (IntKind.u64.wrap ((z : Int) * 4294967296) + (v0 : Int)) = ((z : Int) * 4294967296 + v0) % 18446744073709551616 := by
    rw [IntKind.wrap_u64, IntKind.wrap_u64]; omega
  have e17 : IntKind.u64.wrap (((z : Int) * 4294967296 + (v0 : Int)) % 18446744073709551616 - IntKind.u64.wrap ((q2 : Int) * (y : Int))) = (r0 : Int) := by
    rw [← Int.natCast_mul, hn2, IntKind.wrap_u64, IntKind.wrap_u64]; omega
  have qq : q1 * 4294967296 + q2 ≤ 18446744073709551615 := by
    rw [hq.out]
    have := kd_small (B := 18446744073709551616) (un := L) (u := H) (y := Y) (by omega) hH
    generalize (H * 18446744073709551616 + L) / Y = x at this ⊢
    omega
  have e18 : IntKind.u64.wrap ((q1 : Int) * 4294967296) = (q1 : Int) * 4294967296 := u64_nonneg (by omega) (by omega)
  have e19 : IntKind.u64.wrap ((q1 : Int) * 4294967296 + (q2 : Int)) = (q1 : Int) * 4294967296 + q2 := u64_nonneg (by omega) (by omega)
  have E20 : Hid ((((H * 18446744073709551616 + L) / Y : Nat) : Int) = (q1 : Int) * 4294967296 + q2) := by unfold Hid; rw [← hq.out]; simp
  have E21 : Hid ((((H * 18446744073709551616 + L) % Y : Nat) : Int) = (r0 : Int) / 2 ^ s) := by unfold Hid; rw [← hr.out]; simp
  replace k1' := Lib.hid k1'
  replace k3' := Lib.hid k3'
  replace hz := Lib.hid hz
  replace hq2 := Lib.hid hq2
  have HR1 := Lib.hid R1
  have HR2 := Lib.hid R2
  have HN1 := Lib.hid hn1
  have HN2 := Lib.hid hn2
  have HQ1 := Lib.hid Q1
  clear hg2 hr2 hm2 R1 R2 hn1 hn2 Q1
  go_enter Try.func221, Try.ntmps221
  go_upto_block 0 with (go_at_call 238; refine (C.out _).mono ?_; rintro e w' ⟨rfl, rfl⟩)
  go_cut [15, 16] (fun q rh wx => q = .int .u64 q1 ∧ w = wx)
  case first =>
    go_wp2_with fail
    go_loopg [15, 16] g1 (fun m q rh wx => ∃ g r : Nat, g = m ∧ q = .int .u64 g ∧ rh = .int .u64 r ∧ g ≤ 4294967297 ∧ r ≤ 4294967295 ∧ Hid ((u * 4294967296 + v1) / y ≤ g ∧ g * a + r = u) ∧ w = wx)
    case atStart => exact ⟨g1, r1, rfl, rfl, rfl, by omega, by omega, ⟨k1.out, k3.out⟩, rfl⟩
    case round =>
      obtain ⟨g, r, rfl, rfl, rfl, hg, hr, hk, rfl⟩ := hrel
      have gb : g * b ≤ 4294967297 * 4294967295 := Nat.mul_le_mul hg (by omega)
      obtain ⟨p, hp⟩ : ∃ p, g * b = p := ⟨_, rfl⟩
      rw [hp] at gb
      have HP : Hid (g * b = p) := hp
      clear hp
      have w1 : IntKind.u64.wrap ((r : Int) * 4294967296 + v1) = (r : Int) * 4294967296 + v1 := u64_nonneg (by omega) (by omega)
      have w1' : IntKind.u64.wrap (4294967296 * (r : Int) + v1) = 4294967296 * (r : Int) + v1 := u64_nonneg (by omega) (by omega)
      have w2 : IntKind.u64.wrap (4294967296 * (r : Int)) = 4294967296 * (r : Int) := u64_nonneg (by omega) (by omega)
      have w3 : IntKind.u64.wrap ((r : Int) + a) = (r : Int) + a := u64_nonneg (by omega) (by omega)
      have done : ∀ _ : g < 4294967296, ∀ _ : ¬ 4294967296 * r + v1 < p, (g : Int) = q1 := by
        intro h1 h2
        have := kd_done (B := 4294967296) (b := b) (un := v1) hyab.out (by omega) hk.out.1 hk.out.2 (by rw [HP.out]; omega)
        rw [this]; exact q1e.out
      have stepd : ∀ _ : 4294967296 ≤ g ∨ 4294967296 * r + v1 < p, 0 < g ∧ (u * 4294967296 + v1) / y ≤ g - 1 ∧ (g - 1) * a + (r + a) = u := by
        intro h
        exact kd_step (B := 4294967296) (b := b) hbB hv1B hyab.out huy hk.out.1 hk.out.2 (by rw [HP.out]; exact h)
      have brk : ∀ _ : 4294967296 ≤ g ∨ 4294967296 * r + v1 < p, ∀ _ : 4294967296 ≤ r + a, ((g - 1 : Nat) : Int) = q1 := by
        intro h h2
        obtain ⟨h3, h4, h5⟩ := stepd h
        have := kd_break (B := 4294967296) (b := b) (un := v1) hbB hyab.out (by omega) h4 h5 (by omega) h2
        rw [this]; exact q1e.out
      obtain ⟨g', hg'⟩ : ∃ g', g - 1 = g' := ⟨_, rfl⟩
      rw [hg'] at stepd brk
      have HD := Lib.hid done
      have HS := Lib.hid stepd
      have HB := Lib.hid brk
      clear done stepd brk
      by_cases c1 : 4294967296 ≤ g
      · have c2 : (4294967296 : Int) ≤ g := by omega
        have w4 : IntKind.u64.wrap ((g : Int) - 1) = (g' : Int) := by rw [u64_nonneg (by omega) (by omega)]; omega
        obtain ⟨s1, s2, s3⟩ := HS.out (.inl c1)
        replace s2 := Lib.hid s2
        replace s3 := Lib.hid s3
        by_cases c3 : 4294967296 ≤ r + a
        · have c4 : (4294967296 : Int) ≤ (r : Int) + a := by omega
          have c5 := Lib.hid (HB.out (.inl c1) c3)
          go_wp2
          go_meet
          case rel => exact ⟨by rw [c5.out], rfl⟩
        · have c4 : ¬ (4294967296 : Int) ≤ (r : Int) + a := by omega
          go_wp2
          go_roundg g'
          case measure => omega
          case rel => exact ⟨g', r + a, rfl, rfl, by simp, by omega, by omega, ⟨s2.out, s3.out⟩, rfl⟩
      · have c2 : ¬ (4294967296 : Int) ≤ g := by omega
        have w5 : IntKind.u64.wrap ((g : Int) * (b : Int)) = (p : Int) := by
          rw [← Int.natCast_mul, HP.out]
          have : p ≤ 4294967295 * 4294967295 := by rw [← HP.out]; exact Nat.mul_le_mul (by omega) (by omega)
          exact u64_nonneg (by omega) (by omega)
        by_cases c6 : 4294967296 * r + v1 < p
        · have c7 : 4294967296 * (r : Int) + v1 < p := by omega
          obtain ⟨s1, s2, s3⟩ := HS.out (.inr c6)
          replace s2 := Lib.hid s2
          replace s3 := Lib.hid s3
          have w4 : IntKind.u64.wrap ((g : Int) - 1) = (g' : Int) := by rw [u64_nonneg (by omega) (by omega)]; omega
          by_cases c3 : 4294967296 ≤ r + a
          · have c4 : (4294967296 : Int) ≤ (r : Int) + a := by omega
            have c5 := Lib.hid (HB.out (.inr c6) c3)
            go_wp2
            go_meet
            case rel => exact ⟨by rw [c5.out], rfl⟩
          · have c4 : ¬ (4294967296 : Int) ≤ (r : Int) + a := by omega
            go_wp2
            go_roundg g'
            case measure => omega
            case rel => exact ⟨g', r + a, rfl, rfl, by simp, by omega, by omega, ⟨s2.out, s3.out⟩, rfl⟩
        · have c7 : ¬ 4294967296 * (r : Int) + v1 < p := by omega
          have c5 := Lib.hid (HD.out (by omega) c6)
          go_wp2
          go_meet
          case rel => exact ⟨by rw [c5.out], rfl⟩
  case rest =>
    obtain ⟨rfl, rfl⟩ := hcut
    go_upto_block 2 with fail
    go_cut [18, 16] (fun q rh wx => q = .int .u64 q2 ∧ w = wx)
    case first =>
      go_wp2_with fail
      go_loopg [18, 16] g2 (fun m q rh wx => ∃ g r : Nat, g = m ∧ q = .int .u64 g ∧ rh = .int .u64 r ∧ g ≤ 4294967297 ∧ r ≤ 4294967295 ∧ Hid ((z * 4294967296 + v0) / y ≤ g ∧ g * a + r = z) ∧ w = wx)
      case atStart => exact ⟨g2, r2, rfl, rfl, rfl, by omega, by omega, ⟨k1'.out, k3'.out⟩, rfl⟩
      case round =>
        obtain ⟨g, r, rfl, rfl, rfl, hg, hr, hk, rfl⟩ := hrel
        have gb : g * b ≤ 4294967297 * 4294967295 := Nat.mul_le_mul hg (by omega)
        obtain ⟨p, hp⟩ : ∃ p, g * b = p := ⟨_, rfl⟩
        rw [hp] at gb
        have HP : Hid (g * b = p) := hp
        clear hp
        have w1 : IntKind.u64.wrap ((r : Int) * 4294967296 + v0) = (r : Int) * 4294967296 + v0 := u64_nonneg (by omega) (by omega)
        have w1' : IntKind.u64.wrap (4294967296 * (r : Int) + v0) = 4294967296 * (r : Int) + v0 := u64_nonneg (by omega) (by omega)
        have w2 : IntKind.u64.wrap (4294967296 * (r : Int)) = 4294967296 * (r : Int) := u64_nonneg (by omega) (by omega)
        have w3 : IntKind.u64.wrap ((r : Int) + a) = (r : Int) + a := u64_nonneg (by omega) (by omega)
        have done : ∀ _ : g < 4294967296, ∀ _ : ¬ 4294967296 * r + v0 < p, (g : Int) = q2 := by
          intro h1 h2
          have := kd_done (B := 4294967296) (b := b) (un := v0) hyab.out (by omega) hk.out.1 hk.out.2 (by rw [HP.out]; omega)
          rw [this]; exact q2e.out
        have stepd : ∀ _ : 4294967296 ≤ g ∨ 4294967296 * r + v0 < p, 0 < g ∧ (z * 4294967296 + v0) / y ≤ g - 1 ∧ (g - 1) * a + (r + a) = z := by
          intro h
          exact kd_step (B := 4294967296) (b := b) hbB hv0B hyab.out zy hk.out.1 hk.out.2 (by rw [HP.out]; exact h)
        have brk : ∀ _ : 4294967296 ≤ g ∨ 4294967296 * r + v0 < p, ∀ _ : 4294967296 ≤ r + a, ((g - 1 : Nat) : Int) = q2 := by
          intro h h2
          obtain ⟨h3, h4, h5⟩ := stepd h
          have := kd_break (B := 4294967296) (b := b) (un := v0) hbB hyab.out (by omega) h4 h5 (by omega) h2
          rw [this]; exact q2e.out
        obtain ⟨g', hg'⟩ : ∃ g', g - 1 = g' := ⟨_, rfl⟩
        rw [hg'] at stepd brk
        have HD := Lib.hid done
        have HS := Lib.hid stepd
        have HB := Lib.hid brk
        clear done stepd brk
        by_cases c1 : 4294967296 ≤ g
        · have c2 : (4294967296 : Int) ≤ g := by omega
          have w4 : IntKind.u64.wrap ((g : Int) - 1) = (g' : Int) := by rw [u64_nonneg (by omega) (by omega)]; omega
          obtain ⟨s1, s2, s3⟩ := HS.out (.inl c1)
          replace s2 := Lib.hid s2
          replace s3 := Lib.hid s3
          by_cases c3 : 4294967296 ≤ r + a
          · have c4 : (4294967296 : Int) ≤ (r : Int) + a := by omega
            have c5 := Lib.hid (HB.out (.inl c1) c3)
            go_wp2
            go_meet
            case rel => exact ⟨by rw [c5.out], rfl⟩
          · have c4 : ¬ (4294967296 : Int) ≤ (r : Int) + a := by omega
            go_wp2
            go_roundg g'
            case measure => omega
            case rel => exact ⟨g', r + a, rfl, rfl, by simp, by omega, by omega, ⟨s2.out, s3.out⟩, rfl⟩
        · have c2 : ¬ (4294967296 : Int) ≤ g := by omega
          have w5 : IntKind.u64.wrap ((g : Int) * (b : Int)) = (p : Int) := by
            rw [← Int.natCast_mul, HP.out]
            have : p ≤ 4294967295 * 4294967295 := by rw [← HP.out]; exact Nat.mul_le_mul (by omega) (by omega)
            exact u64_nonneg (by omega) (by omega)
          by_cases c6 : 4294967296 * r + v0 < p
          · have c7 : 4294967296 * (r : Int) + v0 < p := by omega
            obtain ⟨s1, s2, s3⟩ := HS.out (.inr c6)
            replace s2 := Lib.hid s2
            replace s3 := Lib.hid s3
            have w4 : IntKind.u64.wrap ((g : Int) - 1) = (g' : Int) := by rw [u64_nonneg (by omega) (by omega)]; omega
            by_cases c3 : 4294967296 ≤ r + a
            · have c4 : (4294967296 : Int) ≤ (r : Int) + a := by omega
              have c5 := Lib.hid (HB.out (.inr c6) c3)
              go_wp2
              go_meet
              case rel => exact ⟨by rw [c5.out], rfl⟩
            · have c4 : ¬ (4294967296 : Int) ≤ (r : Int) + a := by omega
              go_wp2
              go_roundg g'
              case measure => omega
              case rel => exact ⟨g', r + a, rfl, rfl, by simp, by omega, by omega, ⟨s2.out, s3.out⟩, rfl⟩
          · have c7 : ¬ 4294967296 * (r : Int) + v0 < p := by omega
            have c5 := Lib.hid (HD.out (by omega) c6)
            go_wp2
            go_meet
            case rel => exact ⟨by rw [c5.out], rfl⟩
    case rest =>
      obtain ⟨rfl, rfl⟩ := hcut
      go_wp2
      go_ret2
      exact ⟨by rw [E20.out, E21.out]; rfl, rfl⟩

theorem div64_any (H L Y : Nat) (w : World) (hH : H < Y) (hY : Y ≤ 18446744073709551615) (hL : L ≤ 18446744073709551615) :
    Calls Try.prog 221 #[.int .u64 H, .int .u64 L, .int .u64 Y] w fun e w' => e = .returned (.tuple #[.int .u64 ((H * 18446744073709551616 + L) / Y : Nat), .int .u64 ((H * 18446744073709551616 + L) % Y : Nat)]) ∧ ∃ m, w' = w.drewN m := by
  by_cases h0 : H = 0
  · subst h0
    have := div64_zero L Y w (by omega) hY hL
    rwa [show 0 * 18446744073709551616 + L = L by omega]
  · have hp : 0 < Y := by omega
    have l1 := Pl.len_ge Y hp
    have l2 : Pl.len Y ≤ 64 := Pl.len_of_lt 64 Y (by omega)
    have l3 := Pl.len_pos hp
    have l4 : Y < 2 ^ Pl.len Y := Pl.lt_len Y
    obtain ⟨c, hc⟩ : ∃ c, Pl.len Y = c := ⟨_, rfl⟩
    rw [hc] at l1 l2 l3 l4
    refine (div64_pos H L Y (64 - c) w hH (by omega) hY hL (by omega) (by omega) ?_ ?_).mono fun e w' ⟨he, hw⟩ => ⟨he, 0, hw.symm⟩
    · have := Nat.mul_le_mul_right (2 ^ (64 - c)) l1
      rw [← Nat.pow_add, show c - 1 + (64 - c) = 63 by omega] at this
      omega
    · have := Nat.mul_lt_mul_of_pos_right l4 (Nat.two_pow_pos (64 - c))
      rw [← Nat.pow_add, show c + (64 - c) = 64 by omega] at this
      omega
end Go.Proofs.Ytmnnpkmjamhmcab
