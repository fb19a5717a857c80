/- Orders of factors: impl.FactorOrder, spec.FactorOrder, the laws FnExactFactorOrder and FnOrdered. -/
import Derived.Test.YtmapbaomfaplmaaConCyc
import Derived.Test.YtmapbaomfaplmaaOrdMath
import Derived.Test.YtmapbaomfaplmaaSrc
namespace Go.Proofs.Ytmapbaomfaplmaa
open Go.RowKit Go.PlainAid
set_option maxHeartbeats 800000

/-- a modulus and a factor -/
def ModP (a m : Int) : Prop := (2 ≤ m ∧ m ≤ 100000) ∧ 0 ≤ a ∧ a ≤ m - 1
theorem conS_mod {a m : Int} (h : ModP a m) : ConS m a 0 1 := ⟨⟨h.1, h.2, by have := h.1; omega⟩, by omega, by have := h.1; omega⟩
theorem facOrder_yes (m a n : Nat) (w : World) (h1 : 2 ≤ m) (h2 : m ≤ 100000) (h3 : a < m) (hO : OrdK m a n) :
    Calls Try.prog 37 #[.int .i64 a, .int .i64 m] w fun e w' => e = .returned (.tuple #[.int .i64 n, .bool true]) ∧ Below w.heap.size w w' := by
  have HC : Hid (∀ w : World, Calls Try.prog 33 #[.agg #[.int .i64 m, .int .i64 a, .int .i64 0], .int .i64 1] w fun e w' => e = .returned (.tuple #[.int .i64 0, .int .i64 n, .bool true]) ∧ Below w.heap.size w w') := fun w => by
    obtain ⟨b, p, hC⟩ := itc_cyc (m := m) (a := a) (c := 0) (x := 1) (by omega)
    have hb : b = 0 := cyc_of_ord hC hO.1 hO.2.1
    subst hb
    have hp := (ord_of_cyc hC).unique hO
    subst hp
    exact stateCycle_yes m a 0 1 w h1 h2 h3 (by omega) (by omega) 0 p hC
  clear h1 h2 h3 hO
  go_enter Try.func37, Try.ntmps37
  go_wp2_with fail
  refine (HC.out _).mono ?_
  rintro e w1 ⟨rfl, hb⟩
  go_wp2
  go_ret2
  exact ⟨rfl, hb⟩
theorem facOrder_no (m a : Int) (w : World) (h : ¬ ModP a m ∨ ∃ M A : Nat, m = M ∧ a = A ∧ 2 ≤ M ∧ M ≤ 100000 ∧ A < M ∧ Nat.gcd M A ≠ 1) :
    Calls Try.prog 37 #[.int .i64 a, .int .i64 m] w fun e w' => e = .returned (.tuple #[.int .i64 0, .bool false]) ∧ Below w.heap.size w w' := by
  by_cases hp : ModP a m
  · have HC : Hid (∃ b p : Nat, ((b : Int) != 0) = true ∧ ∀ w : World, Calls Try.prog 33 #[.agg #[.int .i64 m, .int .i64 a, .int .i64 0], .int .i64 1] w fun e w' => e = .returned (.tuple #[.int .i64 b, .int .i64 p, .bool true]) ∧ Below w.heap.size w w') := by
      rcases h with h | ⟨M, A, rfl, rfl, h1, h2, h3, hg⟩
      · exact absurd hp h
      · obtain ⟨b, p, hC⟩ := itc_cyc (m := M) (a := A) (c := 0) (x := 1) (by omega)
        refine ⟨b, p, ?_, fun w => stateCycle_yes M A 0 1 w h1 h2 h3 (by omega) (by omega) b p hC⟩
        rw [bne_iff_ne]
        intro e
        have hb : b = 0 := by omega
        subst hb
        exact hg (gcd_of_pwr h1 (ord_of_cyc hC).1 (ord_of_cyc hC).2.1)
    obtain ⟨b, p, t1, hc⟩ := HC.out
    have HC2 := Lib.hid hc
    clear hp h hc HC
    go_enter Try.func37, Try.ntmps37
    go_wp2_with fail
    refine (HC2.out _).mono ?_
    rintro e w1 ⟨rfl, hb⟩
    go_wp2
    go_ret2
    exact ⟨rfl, hb⟩
  · have HC : Hid (¬ ConS m a 0 1) := fun x => hp ⟨x.1.1, x.1.2.1⟩
    clear hp h
    go_enter Try.func37, Try.ntmps37
    go_wp2_with fail
    refine (stateCycle_no _ _ _ _ _ HC.out).mono ?_
    rintro e w1 ⟨rfl, hb⟩
    go_wp2
    go_ret2
    exact ⟨rfl, hb⟩
theorem gcdI_nat2 (a m : Nat) : gcdI a m = (Nat.gcd m a : Nat) := by unfold gcdI Int.gcd; rw [Int.natAbs_natCast, Int.natAbs_natCast, Nat.gcd_comm]
theorem specFac_yes (m a n : Nat) (w : World) (h1 : 2 ≤ m) (h2 : m ≤ 100000) (h3 : a < m) (hn : n ≤ m) (hO : OrdK m a n) :
    Calls Try.prog 36 #[.int .i64 a, .int .i64 m] w fun e w' => e = .returned (.tuple #[.int .i64 n, .bool true]) ∧ w = w' := by
  have HM : Hid (∀ w : World, Calls Try.prog 48 #[.int .i64 m, .int .i64 2, .int .i64 100000] w fun e w' => e = .returned (.bool true) ∧ w = w') := fun w => l00In_b _ _ _ _ (decide_eq_true (by omega)) w
  have HA : Hid (∀ w : World, Calls Try.prog 48 #[.int .i64 a, .int .i64 0, .int .i64 ((m : Int) - 1)] w fun e w' => e = .returned (.bool true) ∧ w = w') := fun w => l00In_b _ _ _ _ (decide_eq_true (by omega)) w
  have HG : Hid (∀ w : World, Calls Try.prog 52 #[.int .i64 a, .int .i64 m] w fun e w' => e = .returned (.int .i64 1) ∧ w = w') := fun w => by
    have h := l01Gcd_any a m w (by omega) (by omega) (by omega) (by omega)
    rwa [gcdI_nat2, gcd_of_pwr h1 hO.1 hO.2.1] at h
  have HO := Lib.hid hO
  have H3 : Hid (a < m ∧ 2 ≤ m) := ⟨h3, h1⟩
  have ha : a ≤ 100000 := by omega
  have hm0 : ¬ m = 0 := by omega
  have H1 : Hid (pwr m a 1 = a) := by
    unfold Hid
    rw [pwr_succ, pwr_zero, Nat.one_mul]
    exact Nat.mod_eq_of_lt h3
  clear h1 h3 hO
  go_enter Try.func36, Try.ntmps36
  go_wp2_with (first | (go_at_call 48; first | (with_reducible refine (HM.out _).mono ?_; rintro e w2 ⟨rfl, rfl⟩) | (with_reducible refine (HA.out _).mono ?_; rintro e w2 ⟨rfl, rfl⟩)) | (go_at_call 52; with_reducible refine (HG.out _).mono ?_; rintro e w2 ⟨rfl, rfl⟩))
  go_loop [6, 7] (fun nv xv => ∃ k : Nat, nv = .int .i64 k ∧ xv = .int .i64 (pwr m a k) ∧ 1 ≤ k ∧ k ≤ n) (fun nv _ => n - (intOf nv).toNat)
  case atStart => exact ⟨1, rfl, by rw [H1.out], Nat.le_refl _, HO.out.1⟩
  case round =>
    obtain ⟨k, rfl, rfl, hk1, hk2⟩ := hrel
    obtain ⟨x, hx⟩ : ∃ x, pwr m a k = x := ⟨_, rfl⟩
    have hxm : x ≤ 100000 := by rw [← hx]; have := pwr_lt (a := a) H3.out.2 k; omega
    have hs := small_mul hxm ha
    obtain ⟨p, hp⟩ : ∃ p, x * a = p := ⟨_, rfl⟩
    have E : (x : Int) * (a : Int) = (p : Int) := by rw [← hp]; simp
    have HX : Hid (((p : Int) % m) = (pwr m a (k + 1) : Nat)) := by
      unfold Hid
      rw [pwr_succ, hx, hp]; simp
    rw [hp] at hs
    have HXX := Lib.hid hx
    rw [hx]
    clear hp hx
    by_cases hk : k = n
    · have t1 : ((x : Int) != 1) = false := by
        have := HO.out.2.1
        rw [← hk, HXX.out] at this
        rw [this]; rfl
      have HK := Lib.hid hk
      clear hk
      go_wp2
      go_ret2
      exact ⟨by rw [HK.out]; rfl, rfl⟩
    · have t1 : ((x : Int) != 1) = true := by
        have := HO.out.2.2 k (by omega) (by omega)
        rw [HXX.out] at this
        rw [bne_iff_ne]; omega
      go_wp2
      go_round
      case rel => exact ⟨k + 1, by go_num, by rw [← HX.out], by omega, by omega⟩
      case measure => simp [intOf]; omega
theorem specFac_no (m a : Int) (w : World) (h : ¬ ModP a m ∨ ∃ M A : Nat, m = M ∧ a = A ∧ 2 ≤ M ∧ M ≤ 100000 ∧ A < M ∧ Nat.gcd M A ≠ 1) :
    Calls Try.prog 36 #[.int .i64 a, .int .i64 m] w fun e w' => e = .returned (.tuple #[.int .i64 0, .bool false]) ∧ w = w' := by
  by_cases hm : 2 ≤ m ∧ m ≤ 100000
  · have HM : Hid (∀ w : World, Calls Try.prog 48 #[.int .i64 m, .int .i64 2, .int .i64 100000] w fun e w' => e = .returned (.bool true) ∧ w = w') := fun w => l00In_b _ _ _ _ (decide_eq_true hm) w
    by_cases ha : 0 ≤ a ∧ a ≤ m - 1
    · have HA : Hid (∀ w : World, Calls Try.prog 48 #[.int .i64 a, .int .i64 0, .int .i64 (m - 1)] w fun e w' => e = .returned (.bool true) ∧ w = w') := fun w => l00In_b _ _ _ _ (decide_eq_true ha) w
      have HG : Hid (∃ g : Int, (g != 1) = true ∧ ∀ w : World, Calls Try.prog 52 #[.int .i64 a, .int .i64 m] w fun e w' => e = .returned (.int .i64 g) ∧ w = w') := by
        rcases h with h | ⟨M, A, rfl, rfl, h1, h2, h3, hg⟩
        · exact absurd ⟨hm, ha⟩ h
        · exact ⟨gcdI A M, by rw [gcdI_nat2, bne_iff_ne]; omega, fun w => l01Gcd_any A M w (by omega) (by omega) (by omega) (by omega)⟩
      obtain ⟨g, t1, hg⟩ := HG.out
      have HG2 := Lib.hid hg
      clear h HG hg
      go_enter Try.func36, Try.ntmps36
      go_wp2_with (first | (go_at_call 48; first | (with_reducible refine (HM.out _).mono ?_; rintro e w2 ⟨rfl, rfl⟩) | (with_reducible refine (HA.out _).mono ?_; rintro e w2 ⟨rfl, rfl⟩)) | (go_at_call 52; with_reducible refine (HG2.out _).mono ?_; rintro e w2 ⟨rfl, rfl⟩))
      go_ret2
      exact ⟨rfl, rfl⟩
    · have HA : Hid (∀ w : World, Calls Try.prog 48 #[.int .i64 a, .int .i64 0, .int .i64 (m - 1)] w fun e w' => e = .returned (.bool false) ∧ w = w') := fun w => l00In_b _ _ _ _ (decide_eq_false ha) w
      clear h ha
      go_enter Try.func36, Try.ntmps36
      go_wp2_with (go_at_call 48; first | (with_reducible refine (HM.out _).mono ?_; rintro e w2 ⟨rfl, rfl⟩) | (with_reducible refine (HA.out _).mono ?_; rintro e w2 ⟨rfl, rfl⟩))
      go_ret2
      exact ⟨rfl, rfl⟩
  · have HM : Hid (∀ w : World, Calls Try.prog 48 #[.int .i64 m, .int .i64 2, .int .i64 100000] w fun e w' => e = .returned (.bool false) ∧ w = w') := fun w => l00In_b _ _ _ _ (decide_eq_false hm) w
    clear h hm
    go_enter Try.func36, Try.ntmps36
    go_wp2_with (go_at_call 48; with_reducible refine (HM.out _).mono ?_; rintro e w2 ⟨rfl, rfl⟩)
    go_ret2
    exact ⟨rfl, rfl⟩
theorem lawFacOrder_of (a m v : Int) (r : Bool) (w : World)
    (S : Hid (∀ w : World, Calls Try.prog 36 #[.int .i64 a, .int .i64 m] w fun e w' => e = .returned (.tuple #[.int .i64 v, .bool r]) ∧ w = w'))
    (I : Hid (∀ w : World, Calls Try.prog 37 #[.int .i64 a, .int .i64 m] w fun e w' => e = .returned (.tuple #[.int .i64 v, .bool r]) ∧ Below w.heap.size w w')) :
    Calls Try.prog 11 #[.int .i64 a, .int .i64 m] w fun e w' => e = .returned (.bool true) ∧ Below w.heap.size w w' := by
  have e0 : (v != v) = false := by simp
  have e1 : (r != r) = false := by simp
  go_enter Try.func11, Try.ntmps11
  go_wp2_with (go_at_call 36; refine (S.out _).mono ?_; rintro e w1 ⟨rfl, rfl⟩)
  refine (I.out _).mono ?_
  rintro e w2 ⟨rfl, hb⟩
  go_wp2
  go_ret
  exact ⟨rfl, hb⟩
theorem lawFacOrder (a m : Int) (w : World) :
    Calls Try.prog 11 #[.int .i64 a, .int .i64 m] w fun e w' => e = .returned (.bool true) ∧ Below w.heap.size w w' := by
  by_cases h : ModP a m
  · obtain ⟨M, rfl⟩ := Int.eq_ofNat_of_zero_le (show 0 ≤ m by have := h.1; omega)
    obtain ⟨A, rfl⟩ := Int.eq_ofNat_of_zero_le h.2.1
    have h1 : 2 ≤ M := by have := h.1; omega
    have h2 : M ≤ 100000 := by have := h.1; omega
    have h3 : A < M := by have := h.2; omega
    by_cases hg : Nat.gcd M A = 1
    · obtain ⟨n, hn, hO⟩ := ord_exists h1 h3 hg
      exact lawFacOrder_of _ _ n true w (fun W => specFac_yes M A n W h1 h2 h3 hn hO) (fun W => facOrder_yes M A n W h1 h2 h3 hO)
    · exact lawFacOrder_of _ _ 0 false w (fun W => specFac_no M A W (.inr ⟨M, A, rfl, rfl, h1, h2, h3, hg⟩)) (fun W => facOrder_no M A W (.inr ⟨M, A, rfl, rfl, h1, h2, h3, hg⟩))
  · exact lawFacOrder_of _ _ 0 false w (fun W => specFac_no m a W (.inl h)) (fun W => facOrder_no m a W (.inl h))
/-- what impl.FactorOrder answers -/
theorem facOrder_ok (m a : Nat) (h1 : 2 ≤ m) (h2 : m ≤ 100000) (h3 : a < m) : ∃ (n : Nat) (r : Bool), ((r = true ∧ n ≤ m ∧ OrdK m a n) ∨ (r = false ∧ ∀ j, 0 < j → ¬ pwr m a j = 1)) ∧
    ∀ w : World, Calls Try.prog 37 #[.int .i64 a, .int .i64 m] w fun e w' => e = .returned (.tuple #[.int .i64 n, .bool r]) ∧ Below w.heap.size w w' := by
  by_cases hg : Nat.gcd m a = 1
  · obtain ⟨n, hn, hO⟩ := ord_exists h1 h3 hg
    exact ⟨n, true, .inl ⟨rfl, hn, hO⟩, fun w => facOrder_yes m a n w h1 h2 h3 hO⟩
  · exact ⟨0, false, .inr ⟨rfl, fun j j0 e => hg (gcd_of_pwr h1 j0 e)⟩, fun w => facOrder_no m a w (.inr ⟨m, a, rfl, rfl, h1, h2, h3, hg⟩)⟩
theorem lawOrdered (a : Option Addr) (la ca : Nat) (b : Option Addr) (lb cb : Nat) (w : World) (hC : Code w w.heap.size a la) (hD : Code w w.heap.size b lb) (ha : la ≤ 9223372036854775807) (hb : lb ≤ 9223372036854775807) :
    Calls Try.prog 13 #[.slice a la ca, .slice b lb cb] w fun e w' => e = .returned (.bool true) ∧ Below w.heap.size w w' := by
  by_cases hl : la ≤ 1048576 ∧ lb ≤ 1048576
  · obtain ⟨hla, hlb⟩ := hl
    have HC := Lib.hid hC
    have HD := Lib.hid hD
    clear hC hD
    go_enter Try.func13, Try.ntmps13
    go_wp2_with (go_at_call 38; refine (long_no a b la ca lb cb _ hla hlb).mono ?_; rintro e w' ⟨rfl, rfl⟩)
    refine (at_any a la ca 0 200 w.heap.size _ HC.out hla (by omega) (by omega) (by omega)).mono ?_
    rintro e w1 ⟨v, rfl, v0, v1, n1, rfl⟩
    obtain ⟨V, rfl⟩ := Int.eq_ofNat_of_zero_le v0
    have HD1 : Hid (Code (w.drewN n1) w.heap.size b lb) := HD.out.drewN n1
    go_wp2_with fail
    refine (at_any b lb cb 0 (2 + (V : Int)) w.heap.size _ HD1.out hlb (by omega) (by omega) (by omega)).mono ?_
    rintro e w2 ⟨u, rfl, u0, u1, n2, rfl⟩
    obtain ⟨f, rfl⟩ := Int.eq_ofNat_of_zero_le u0
    clear HD1
    obtain ⟨m, hm⟩ : ∃ m, 2 + V = m := ⟨_, rfl⟩
    have hmi : (2 + (V : Int)) = (m : Int) := by omega
    obtain ⟨n, r, hO, hI⟩ := facOrder_ok m f (by omega) (by omega) (by omega)
    have HO := Lib.hid hO
    have HI := Lib.hid hI
    have hf : f ≤ 100000 := by omega
    have hm2 : m ≤ 100000 := by omega
    have hm0 : ¬ m = 0 := by omega
    have HM : Hid (2 ≤ m ∧ f < m) := ⟨by omega, by omega⟩
    have BW : Hid (Below w.heap.size w ((w.drewN n1).drewN n2)) := below_drewN (below_drewN (Below.refl _ _) _) _
    rw [hmi]
    clear hO hI hm hmi v0 v1 u0 u1
    generalize (w.drewN n1).drewN n2 = W2 at BW ⊢
    have hm1 : (1 : Int) % (m : Int) = 1 := Int.emod_eq_of_lt (by omega) (by have := HM.out; omega)
    go_wp2_with fail
    refine (HI.out _).mono ?_
    rintro e w3 ⟨rfl, hb3⟩
    have B3 := Lib.hid (BW.out.trans (hb3.mono BW.out.size))
    clear BW hb3
    have HP : Hid (pwr m f 0 = 1) := rfl
    rcases HO.out with ⟨rfl, hn, hO⟩ | ⟨rfl, hno⟩
    · have HO2 := Lib.hid hO
      clear HO hO
      go_wp2
      go_loop [9, 10] (fun xv iv => ∃ k : Nat, xv = .int .i64 (pwr m f k) ∧ iv = .int .i64 ((k : Int) + 1) ∧ k < n) (fun _ iv => m + 1 - (intOf iv).toNat)
      case atStart => exact ⟨0, by rw [HP.out, hm1]; rfl, rfl, HO2.out.1⟩
      case round =>
        obtain ⟨k, rfl, rfl, hk⟩ := hrel
        have hkm : k < m := by omega
        obtain ⟨x, hx⟩ : ∃ x, pwr m f k = x := ⟨_, rfl⟩
        have hxm : x ≤ 100000 := by rw [← hx]; have := pwr_lt (a := f) HM.out.1 k; omega
        have hs := small_mul hxm hf
        obtain ⟨p, hp⟩ : ∃ p, x * f = p := ⟨_, rfl⟩
        have E : (x : Int) * (f : Int) = (p : Int) := by rw [← hp]; simp
        obtain ⟨y, hy⟩ : ∃ y, pwr m f (k + 1) = y := ⟨_, rfl⟩
        have E2 : (p : Int) % (m : Int) = (y : Int) := by
          rw [← hy, pwr_succ, hx, hp]; simp
        have HY := Lib.hid hy
        rw [hp] at hs
        rw [hx]
        clear hp hx hy
        by_cases h1 : y = 1
        · have hkn : k + 1 = n := by
            apply Nat.le_antisymm (by omega)
            apply Nat.le_of_not_lt
            intro hlt
            exact HO2.out.2.2 (k + 1) (by omega) hlt (by rw [HY.out]; exact h1)
          have t1 : ((y : Int) == 1) = true := by rw [h1]; rfl
          have t2 : ((n : Int) == (k : Int) + 1) = true := by rw [beq_iff_eq]; omega
          clear h1
          go_wp2
          go_ret
          exact ⟨rfl, B3.out⟩
        · have t1 : ((y : Int) == 1) = false := by rw [beq_eq_false_iff_ne]; omega
          have hkn : k + 1 < n := by
            apply Nat.lt_of_le_of_ne (by omega)
            intro e
            apply h1
            rw [← HY.out, e]
            exact HO2.out.2.1
          go_wp2
          go_round
          case rel => exact ⟨k + 1, by rw [HY.out, E2], by go_num, hkn⟩
          case measure => simp [intOf]; omega
    · have HO2 := Lib.hid hno
      clear HO hno
      go_wp2
      go_loop [9, 10] (fun xv iv => ∃ k : Nat, xv = .int .i64 (pwr m f k) ∧ iv = .int .i64 ((k : Int) + 1) ∧ k ≤ m) (fun _ iv => m + 1 - (intOf iv).toNat)
      case atStart => exact ⟨0, by rw [HP.out, hm1]; rfl, rfl, Nat.zero_le _⟩
      case round =>
        obtain ⟨k, rfl, rfl, hk⟩ := hrel
        by_cases hkm : k < m
        · obtain ⟨x, hx⟩ : ∃ x, pwr m f k = x := ⟨_, rfl⟩
          have hxm : x ≤ 100000 := by rw [← hx]; have := pwr_lt (a := f) HM.out.1 k; omega
          have hs := small_mul hxm hf
          obtain ⟨p, hp⟩ : ∃ p, x * f = p := ⟨_, rfl⟩
          have E : (x : Int) * (f : Int) = (p : Int) := by rw [← hp]; simp
          obtain ⟨y, hy⟩ : ∃ y, pwr m f (k + 1) = y := ⟨_, rfl⟩
          have E2 : (p : Int) % (m : Int) = (y : Int) := by
            rw [← hy, pwr_succ, hx, hp]; simp
          have HY := Lib.hid hy
          rw [hp] at hs
          rw [hx]
          clear hp hx hy
          have t1 : ((y : Int) == 1) = false := by
            rw [beq_eq_false_iff_ne]
            have := HO2.out (k + 1) (by omega)
            rw [HY.out] at this
            omega
          go_wp2
          go_round
          case rel => exact ⟨k + 1, by rw [HY.out, E2], by go_num, hkm⟩
          case measure => simp [intOf]; omega
        · obtain rfl : k = m := by omega
          have t2 : decide ((1 : Int) < (k : Int)) = true := by have := HM.out.1; rw [decide_eq_true_iff]; omega
          go_wp2
          go_ret
          exact ⟨rfl, B3.out⟩
  · have HL := Lib.hid hl
    clear hl
    go_enter Try.func13, Try.ntmps13
    go_wp2_with (go_at_call 38; refine (long_yes a b la ca lb cb _ ha hb HL.out).mono ?_; rintro e w' ⟨rfl, rfl⟩)
    go_ret
    exact ⟨rfl, Below.refl _ _⟩
end Go.Proofs.Ytmapbaomfaplmaa
