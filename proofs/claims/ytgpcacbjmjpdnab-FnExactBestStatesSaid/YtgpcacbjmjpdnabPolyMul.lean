/- Contracts: products and quotients of polynomials: spec.l02Mul, (impl.poly).times, spec.l02Div, (impl.poly).divide, spec.l02Gcd. -/
import Derived.Test.YtgpcacbjmjpdnabSmall
namespace Go.Proofs.Ytgpcacbjmjpdnab
open Go.RowKit Go.PlainAid
set_option maxHeartbeats 400000

theorem wrap64_nat (n : Nat) (h : n < 9223372036854775808) : wrap64 (n : Int) = n := by unfold wrap64; omega
theorem cast_shl (a k : Nat) : (a : Int) * 2 ^ k = ((a * 2 ^ k : Nat) : Int) := by push_cast; rfl
theorem cast_shr (b k : Nat) : (b : Int) / 2 ^ k = ((b / 2 ^ k : Nat) : Int) := by push_cast; rfl
theorem shl_in {a k A : Nat} (ha : a < 2 ^ A) (h : A + k ≤ 63) : a * 2 ^ k < 9223372036854775808 := by
  have h1 : a * 2 ^ k < 2 ^ A * 2 ^ k := Nat.mul_lt_mul_of_pos_right ha (Nat.pow_pos (by omega))
  rw [← Nat.pow_add] at h1
  have h2 : 2 ^ (A + k) ≤ 2 ^ 63 := Nat.pow_le_pow_right (by omega) h
  omega
theorem bit_test (b k : Nat) : (bits .and .i64 ((b : Int) / 2 ^ k) 1 == 1) = b.testBit k := by
  rw [and_one_i64', cast_shr, Nat.testBit_eq_decide_div_mod_eq]
  rcases (show b / 2 ^ k % 2 = 0 ∨ b / 2 ^ k % 2 = 1 by omega) with h | h
  · rw [h, show ((b / 2 ^ k : Nat) : Int) % 2 = 0 by omega]; rfl
  · rw [h, show ((b / 2 ^ k : Nat) : Int) % 2 = 1 by omega]; rfl
theorem mul_yes {a b k : Nat} (ha : a < 4294967296) (hk : k < 32) (h : (bits .and .i64 ((b : Int) / 2 ^ k) 1 == 1) = true) :
    bits .xor .i64 (Pl.mulTo a b k : Int) (wrap64 ((a : Int) * 2 ^ k)) = (Pl.mulTo a b (k + 1) : Int) := by
  rw [bit_test] at h
  have h1 := shl_in (A := 32) ha (show 32 + k ≤ 63 by omega)
  have h2 := Pl.mulTo_lt (A := 32) (b := b) ha k
  have h3 : 2 ^ (32 + k) ≤ 2 ^ 63 := Nat.pow_le_pow_right (by omega) (by omega)
  rw [cast_shl, wrap64_nat _ h1, i64_xorN _ _ (by omega) h1, Pl.mulTo, if_pos h]
theorem mul_no {a b k : Nat} (h : (bits .and .i64 ((b : Int) / 2 ^ k) 1 == 1) = false) : (Pl.mulTo a b k : Int) = (Pl.mulTo a b (k + 1) : Int) := by
  rw [bit_test] at h
  rw [Pl.mulTo, if_neg (by rw [h]; simp), Nat.xor_zero]

theorem times_any (a b : Nat) (w : World) (ha : a < 4294967296) (hb : b < 4294967296) :
    Calls Try.prog 93 #[.int .i64 a, .int .i64 b] w fun e w' => e = .returned (.int .i64 (Pl.mulTo a b (Pl.len b))) ∧ w = w' := by
  obtain ⟨L, hL⟩ : ∃ L, Pl.len b = L := ⟨_, rfl⟩
  have hL1 : L ≤ 32 := by rw [← hL]; exact Pl.len_of_lt 32 b hb
  have C : Hid (∀ W : World, Calls Try.prog 94 #[.int .i64 b] W fun e w' => e = .returned (.int .i64 ((L : Int) - 1)) ∧ W = w') := fun W => by
    have := degree_any b W (by omega)
    rwa [hL] at this
  rw [hL]
  clear hL
  go_enter Try.func93, Try.ntmps93
  go_wp2_with (go_at_call 94; refine (C.out _).mono ?_; rintro e w' ⟨rfl, rfl⟩)
  go_loop [5, 6, 10] (fun o _ i => ∃ k : Nat, k ≤ L ∧ o = .int .i64 (Pl.mulTo a b k) ∧ i = .int .i64 k) (fun _ _ i => L - (intOf i).toNat)
  case atStart => exact ⟨0, Nat.zero_le _, rfl, rfl⟩
  case round =>
    obtain ⟨k, hk, rfl, rfl⟩ := hrel
    by_cases hlt : k < L
    · go_wp2
      · have ht : (bits .and .i64 ((b : Int) / 2 ^ k) 1 == 1) = true := by assumption
        go_round
        case rel => exact ⟨k + 1, by omega, by rw [mul_yes ha (by omega) ht], by go_num⟩
        case measure => simp [intOf]; omega
      · have ht : (bits .and .i64 ((b : Int) / 2 ^ k) 1 == 1) = false := by assumption
        go_round
        case rel => exact ⟨k + 1, by omega, by rw [mul_no ht], by go_num⟩
        case measure => simp [intOf]; omega
    · obtain rfl : k = L := by omega
      go_wp2
      go_ret
      exact ⟨rfl, rfl⟩
theorem mul_same {a b : Nat} (hb : b < 4294967296) : Pl.mulTo a b (Pl.len b) = Pl.mulTo a b 32 := by
  have h := Pl.len_of_lt 32 b hb
  have := Pl.mulTo_ge (a := a) (Pl.lt_len b) (32 - Pl.len b)
  rw [← this]
  congr 1
  omega

theorem or_pow {q s : Nat} (hq : q < 9223372036854775808) (hs : s ≤ 62) : bits .or .i64 (q : Int) (2 ^ s) = ((q ||| 2 ^ s : Nat) : Int) ∧ q ||| 2 ^ s < 9223372036854775808 := by
  have h : 2 ^ s ≤ 2 ^ 62 := Nat.pow_le_pow_right (by omega) hs
  have h2 := i64_orN q (2 ^ s) hq (by omega)
  rw [← h2]
  refine ⟨by push_cast; rfl, ?_⟩
  exact Nat.or_lt_two_pow (n := 63) hq (by omega)
theorem div_step {a x y d LD s f : Nat} (hx : x < 9223372036854775808) (hy : y < 9223372036854775808) (hd : 0 < d) (e1 : Pl.len d = LD) (e2 : Pl.len x = LD + s) (hs : LD + s ≤ 63) (g1 : Pl.divF f y x d = Pl.divF 64 0 a d) (g2 : Pl.len x ≤ f) :
    bits .xor .i64 (x : Int) (wrap64 ((d : Int) * 2 ^ ((LD : Int) + (s : Int) - 1 - ((LD : Int) - 1)).toNat)) = ((x ^^^ d * 2 ^ s : Nat) : Int) ∧
    bits .or .i64 (y : Int) (wrap64 (2 ^ ((LD : Int) + (s : Int) - 1 - ((LD : Int) - 1)).toNat)) = ((y ||| 2 ^ s : Nat) : Int) ∧
    x ^^^ d * 2 ^ s < 9223372036854775808 ∧ y ||| 2 ^ s < 9223372036854775808 ∧ Pl.len (x ^^^ d * 2 ^ s) < Pl.len x ∧
    Hid (Pl.divF (f - 1) (y ||| 2 ^ s) (x ^^^ d * 2 ^ s) d = Pl.divF 64 0 a d ∧ Pl.len (x ^^^ d * 2 ^ s) ≤ f - 1) := by
  have h0 := Pl.len_pos hd
  have hk : ((LD : Int) + (s : Int) - 1 - ((LD : Int) - 1)).toNat = s := by omega
  have h1 : d * 2 ^ s < 9223372036854775808 := shl_in (A := LD) (by rw [← e1]; exact Pl.lt_len d) hs
  obtain ⟨o1, o2⟩ := or_pow (s := s) hy (by omega)
  have hp : 2 ^ s ≤ 2 ^ 62 := Nat.pow_le_pow_right (by omega) (by omega)
  have hw : wrap64 ((2 : Int) ^ s) = 2 ^ s := by
    have := wrap64_nat (2 ^ s) (by omega)
    push_cast at this
    exact this
  have hc := Pl.len_cut hd (show Pl.len d ≤ Pl.len x by omega)
  rw [e2, e1, show LD + s - LD = s by omega, ← e2] at hc
  refine ⟨?_, ?_, Nat.xor_lt_two_pow (n := 63) hx h1, o2, hc, ?_, by omega⟩
  · rw [hk, cast_shl, wrap64_nat _ h1, i64_xorN _ _ hx h1]
  · rw [hk, hw, o1]
  · obtain ⟨f', rfl⟩ : ∃ f', f = f' + 1 := ⟨f - 1, by omega⟩
    rw [Pl.divF_next (by omega), e2, e1, show LD + s - LD = s by omega] at g1
    exact g1
theorem divide_any (a d : Nat) (w : World) (ha : a < 9223372036854775808) (hd : 0 < d) (hd2 : d < 9223372036854775808) :
    Calls Try.prog 92 #[.int .i64 a, .int .i64 d] w fun e w' => e = .returned (.tuple #[.int .i64 (Pl.quo d a), .int .i64 (Pl.rem d a)]) ∧ w = w' := by
  obtain ⟨LD, hLD⟩ : ∃ L, Pl.len d = L := ⟨_, rfl⟩
  have hL1 : LD ≤ 63 := by rw [← hLD]; exact Pl.len_of_lt 63 d hd2
  have HD : Hid (∀ W : World, Calls Try.prog 94 #[.int .i64 d] W fun e w' => e = .returned (.int .i64 ((LD : Int) - 1)) ∧ W = w') := fun W => by
    have := degree_any d W hd2
    rwa [hLD] at this
  have HE := Lib.hid hLD
  clear hLD
  go_enter Try.func92, Try.ntmps92
  go_wp2
  go_loop [0, 6, 7] (fun o q _ => ∃ f x y : Nat, x < 9223372036854775808 ∧ y < 9223372036854775808 ∧ o = .int .i64 x ∧ q = .int .i64 y ∧ Hid (Pl.divF f y x d = Pl.divF 64 0 a d ∧ Pl.len x ≤ f)) (fun o _ _ => Pl.len (intOf o).toNat)
  case atStart => exact ⟨64, a, 0, ha, by omega, rfl, rfl, ⟨rfl, by have := Pl.len_of_lt 63 a ha; omega⟩⟩
  case round =>
    obtain ⟨f, x, y, hx, hy, rfl, rfl, H⟩ := hrel
    obtain ⟨LA, hLA⟩ : ∃ L, Pl.len x = L := ⟨_, rfl⟩
    have hL2 : LA ≤ 63 := by rw [← hLA]; exact Pl.len_of_lt 63 x hx
    have HA : Hid (∀ W : World, Calls Try.prog 94 #[.int .i64 x] W fun e w' => e = .returned (.int .i64 ((LA : Int) - 1)) ∧ W = w') := fun W => by
      have := degree_any x W hx
      rwa [hLA] at this
    have HLA := Lib.hid hLA
    clear hLA
    by_cases hlt : LA < LD
    · have HR : Hid ((y : Int) = (Pl.quo d a : Int) ∧ (x : Int) = (Pl.rem d a : Int)) := by
        obtain ⟨h1, _⟩ := H.out
        rw [Pl.divF_end (by rw [HLA.out, HE.out]; exact hlt)] at h1
        exact ⟨by unfold Pl.quo; rw [← h1], by rw [← Pl.divF_rem hd 64 0 a (by have := Pl.len_of_lt 63 a ha; omega), ← h1]⟩
      go_wp2_with (go_at_call 94; first | (with_reducible refine (HA.out _).mono ?_; rintro e w' ⟨rfl, rfl⟩) | (with_reducible refine (HD.out _).mono ?_; rintro e w' ⟨rfl, rfl⟩))
      go_ret2
      rw [← HR.out.1, ← HR.out.2]
      exact ⟨rfl, rfl⟩
    · obtain ⟨s, rfl⟩ : ∃ s, LA = LD + s := ⟨LA - LD, by omega⟩
      obtain ⟨S1, S2, S3, S4, S5, S6⟩ := div_step hx hy hd HE.out HLA.out hL2 H.out.1 H.out.2
      go_wp2_with (go_at_call 94; first | (with_reducible refine (HA.out _).mono ?_; rintro e w' ⟨rfl, rfl⟩) | (with_reducible refine (HD.out _).mono ?_; rintro e w' ⟨rfl, rfl⟩))
      go_round
      case rel => exact ⟨f - 1, _, _, S3, S4, rfl, rfl, S6⟩
      case measure => simp only [intOf, Int.toNat_natCast]; exact S5
theorem polyN {n : Int} (h : decide (0 ≤ n ∧ n ≤ 4294967295) = true) : ∃ p : Nat, n = p ∧ p < 4294967296 := by
  obtain ⟨h1, h2⟩ := of_decide_eq_true h
  exact ⟨n.toNat, by omega, by omega⟩
theorem mulTo_63 {a b : Nat} (ha : a < 4294967296) : Pl.mulTo a b 32 < 9223372036854775808 := by
  have h1 := Pl.mulTo_lt (A := 32) (b := b) ha 31
  have h2 : a * 2 ^ 31 < 9223372036854775808 := shl_in (A := 32) ha (by omega)
  show Pl.mulTo a b 31 ^^^ (if b.testBit 31 = true then a * 2 ^ 31 else 0) < _
  apply Nat.xor_lt_two_pow (n := 63)
  · exact h1
  · split
    · exact h2
    · omega
end Go.Proofs.Ytgpcacbjmjpdnab
