/- The law FnRegisterPeriods. -/
import Derived.Test.YtapccbplmbbnnacPeriodMath
import Derived.Test.YtapccbplmbbnnacLawSteps
import Derived.Test.YtapccbplmbbnnacLawOrder
namespace Go.Proofs.Ytapccbplmbbnnac
open Go.RowKit Go.PlainAid
set_option maxHeartbeats 1600000

theorem itr_cyc_fixed {W T S b c : Nat} (hW : W ≤ 16) (hT : T < 2 ^ W) (hS : S < 2 ^ W) (hc : CycP (itr W T S) b c) (w : World) :
    Calls Try.prog 17 #[.agg #[.int .i64 W, .int .i64 T], .int .i64 S] w fun e w' => e = .returned (.tuple #[.int .i64 b, .int .i64 c, .bool true]) ∧ Below w.heap.size w w' :=
  (implCycle_yes W T S w hW hT hS (StateP.of hW hT hS)).mono fun e w' ⟨b', c', he, hc', hb⟩ => ⟨by rw [he, (hc'.unique hc).1, (hc'.unique hc).2], hb⟩
theorem order_fixed {p o : Nat} (h0 : 3 ≤ p) (hp : p < 131072) (h1 : p % 2 = 1) (ho : OrdP p o) (w : World) :
    Calls Try.prog 20 #[.int .i64 p] w fun e w' => e = .returned (.tuple #[.int .i64 o, .bool true]) ∧ Below w.heap.size w w' :=
  (impl_OrderOfX_yes p w h0 hp h1).mono fun e w' ⟨d, he, hd, hb⟩ => ⟨by rw [he, hd.unique ho], hb⟩
theorem region_quiet_in {P : Program} {C : World → Prop} {id : Nat} {Q : Exit → Act → World → Prop} {a : Act} {w : World} {l : List Oper} (hm : P.follows .mixedOrders = true) (hB : Region.lexB .any l.toArray = true) (hC : C { w with drawn := w.drawn + 1 })
    (h : wpQuiet P l.toArray C (fun a' => ∀ w', C w' → Q .normal a' w') l a) : (Code.region id l.toArray true).wp P Q a w :=
  wp_region_quiet hm hB hC (by simpa using h)
/-- what the law asks of the numbers, case by case -/
def PerA (W T S b c : Nat) (p : Nat) (P : Int) : Prop := b = 0 ∧ 0 < W ∧ T % 2 = 1 ∧ ∃ o : Nat, o ≤ 65536 ∧ o % c = 0 ∧
  (∀ w : World, Calls Try.prog 20 #[.int .i64 p] w fun e w' => e = .returned (.tuple #[.int .i64 o, .bool true]) ∧ Below w.heap.size w w') ∧
  (∀ w : World, Calls Try.prog 21 #[.int .i64 p] w fun e w' => e = .returned (.bool ((o : Int) == P - 1)) ∧ Below w.heap.size w w') ∧
  (((o : Int) == P - 1) = true → ¬ S = 0 → c = o)
def PerB (W T : Nat) (p : Nat) : Prop := (W = 0 ∨ T % 2 = 0) ∧
  (∀ w : World, Calls Try.prog 20 #[.int .i64 p] w fun e w' => e = .returned (.tuple #[.int .i64 0, .bool false]) ∧ w = w') ∧
  (∀ w : World, Calls Try.prog 21 #[.int .i64 p] w fun e w' => e = .returned (.bool false) ∧ w = w')
theorem per_cases {W T S b c : Nat} {P : Int} (hW : W ≤ 7) (hT : T < 2 ^ W) (hS : S < 2 ^ W) (hP : 2 ^ W = P) (hc : CycP (itr W T S) b c) : PerA W T S b c (polyN2 W T) P ∨ PerB W T (polyN2 W T) := by
  have h7 : 2 ^ W ≤ 2 ^ 7 := Nat.pow_le_pow_right (by omega) hW
  have hp : polyN2 W T = T + 2 ^ W := rfl
  have hPN : P = ((2 ^ W : Nat) : Int) := by rw [← hP]; simp
  by_cases hA : 0 < W ∧ T % 2 = 1
  · left
    obtain ⟨hW0, hT1⟩ := hA
    have he : 2 ^ W % 2 = 0 := by
      obtain ⟨V, rfl⟩ : ∃ V, W = V + 1 := ⟨W - 1, by omega⟩
      rw [Nat.pow_succ]; omega
    have hge : 2 ^ 1 ≤ 2 ^ W := Nat.pow_le_pow_right (by omega) hW0
    have h0 : 3 ≤ polyN2 W T := by omega
    have h1 : polyN2 W T % 2 = 1 := by omega
    have hlt : polyN2 W T < 131072 := by omega
    obtain ⟨o, ho⟩ := order_is h0 hlt h1
    have hio : itr W T S o = itr W T S 0 := itr_order (by omega) hT hS ho
    have hb : b = 0 := by
      have := (hc.2.2.2 0 o ho.1 (by rw [Nat.zero_add]; exact hio)).2
      omega
    subst hb
    have ho2 : o ≤ 65536 := by
      obtain ⟨N, hN0, hN1, hN⟩ := again0 h0 hlt h1
      apply Nat.le_of_not_lt
      intro hx
      exact ho.2.2 N hN0 (by omega) hN
    refine ⟨rfl, hW0, hT1, o, ho2, hc.divides (itr_steps W T S) hio, fun w => order_fixed h0 hlt h1 ho w, fun w => ?_, fun hf hne => ?_⟩
    · exact impl_IsPrimitive_yes _ o w h0 hlt h1 ho W (polyN2_len hT) P hP
    · refine full_cycle (by omega) hT hS h0 h1 ho ?_ hne hc
      have := eq_of_beq hf
      omega
  · right
    have hno : ¬ (3 ≤ ((polyN2 W T : Nat) : Int) ∧ ((polyN2 W T : Nat) : Int) ≤ 131071 ∧ ((polyN2 W T : Nat) : Int) % 2 = 1) := by
      intro ⟨a1, a2, a3⟩
      apply hA
      have hW0 : 0 < W := by
        apply Nat.pos_of_ne_zero
        rintro rfl
        simp at hT
        subst hT
        have : polyN2 0 0 = 1 := rfl
        omega
      have he : 2 ^ W % 2 = 0 := by
        obtain ⟨V, rfl⟩ : ∃ V, W = V + 1 := ⟨W - 1, by omega⟩
        rw [Nat.pow_succ]; omega
      exact ⟨hW0, by omega⟩
    exact ⟨by omega, fun w => impl_OrderOfX_no _ w hno, fun w => impl_IsPrimitive_no _ w hno⟩

set_option maxRecDepth 20000 in
theorem lawPeriods (a0 : Option Addr) (len0 cap0 : Nat) (a1 : Option Addr) (len1 cap1 : Nat) (w : World) (C0 : Code w w.heap.size a0 len0) (C1 : Code w w.heap.size a1 len1) (l0 : len0 ≤ 9223372036854775807) (l1 : len1 ≤ 9223372036854775807) :
    Calls Try.prog 5 #[.slice a0 len0 cap0, .slice a1 len1 cap1] w fun e w' => e = .returned (.bool true) ∧ Below w.heap.size w w' := by
  by_cases hl : len0 ≤ 48 ∧ len1 ≤ 48
  · obtain ⟨h0, h1⟩ := hl
    have HC0 := Lib.hid C0
    have HC1 := Lib.hid C1
    clear C0 C1
    go_enter Try.func5, Try.ntmps5
    go_wp2_with fail
    refine (r8Long_no _ _ _ _ _ _ _ h0 h1).mono ?_
    rintro e w1 ⟨rfl, rfl⟩
    go_wp2_with fail
    refine (r8Register_any _ _ _ _ HC0.out (by omega)).mono ?_
    rintro e w1 ⟨W, T, rfl, hW, hT, hb1⟩
    obtain ⟨P, hP⟩ : ∃ P : Int, 2 ^ W = P := ⟨_, rfl⟩
    obtain ⟨p1, p2⟩ := pow62 W (by omega)
    have HT := Lib.hid hT
    have HP := Lib.hid hP
    rw [hP] at p1 p2
    have HB1 := Lib.hid hb1
    clear hT hb1
    go_wp2_with fail
    obtain ⟨g, hg⟩ : ∃ g, w1.heap.size = g := ⟨_, rfl⟩
    obtain ⟨w2, hw2⟩ : ∃ x, w1.alloc (.cells #[.int .i64 W, .int .i64 T] 35) = x := ⟨_, rfl⟩
    have R2 : Hid (RegIn w w2 g W T) := by
      rw [← hw2, ← hg]
      exact ⟨by simp [go_sem], by simp [go_sem], HB1.out.alloc HB1.out.size _, HB1.out.size⟩
    rw [hw2, hg]
    clear hw2 hg HB1
    have hW16 : W ≤ 16 := by omega
    have B2 := R2.out.2.2.1
    refine (r8Number_any a1 len1 cap1 P w2 ((HC1.out.below B2).mono B2.size) (by omega) p1 (by omega)).mono ?_
    rintro e w3 ⟨S, rfl, hS, hb3⟩
    have HS : Hid (S < 2 ^ W) := by
      have h := HP.out
      have e : ((2 ^ W : Nat) : Int) = (2 : Int) ^ W := by simp
      unfold Hid
      omega
    obtain ⟨b, c, hc⟩ := cyc_exists (itr_steps W T S) (N := 2 ^ W) (fun i => itr_lt HS.out i)
    have HCY := Lib.hid (itr_cyc_fixed hW16 HT.out HS.out hc)
    have HPO : Hid (∀ w : World, Calls Try.prog 18 #[.agg #[.int .i64 W, .int .i64 T]] w fun e w' => e = .returned (.tuple #[.int .i64 (polyN2 W T), .bool true]) ∧ Below w.heap.size w w') := fun w => polyOf_yes W T w hW16 HT.out (StateP.of hW16 HT.out HS.out).1
    have HCASE := per_cases hW HT.out HS.out HP.out hc
    obtain ⟨p, hp⟩ : ∃ p, polyN2 W T = p := ⟨_, rfl⟩
    rw [hp] at HPO HCASE
    have hfit : b + c ≤ 128 := by
      have h := hc.fits (N := 2 ^ W) (fun i => itr_lt HS.out i)
      have : 2 ^ W ≤ 2 ^ 7 := Nat.pow_le_pow_right (by omega) hW
      omega
    have hfitP : (b : Int) + (c : Int) ≤ P := by
      have h := hc.fits (N := 2 ^ W) (fun i => itr_lt HS.out i)
      have e : ((2 ^ W : Nat) : Int) = (2 : Int) ^ W := by simp
      have := HP.out
      omega
    have hc1 : 1 ≤ c := hc.1
    have HC := Lib.hid hc
    have HCA := Lib.hid HCASE
    have R3 := Lib.hid (R2.out.call hb3)
    clear R2 B2 hb3 hS hc HCASE hp
    have HJ : Hid (∀ (n : Nat) (v : Int), n ≤ 1000 → (itr W T S n : Int) = v → ∀ w : World, Calls Try.prog 19 #[.agg #[.int .i64 W, .int .i64 T], .int .i64 S, .int .i64 n] w fun e w' => e = .returned (.tuple #[.int .i64 v, .bool true]) ∧ Below w.heap.size w w') := fun n v hn hv w => by
      subst hv
      exact jump_itr W T S n w hW16 HT.out HS.out (by omega)
    obtain ⟨A, hA⟩ : ∃ A, itr W T S b = A := ⟨_, rfl⟩
    have hA2 : itr W T S (b + c) = A := by rw [HC.out.2.1, hA]
    have J1 := Lib.hid (HJ.out b A (by omega) (by rw [hA]))
    have J2 : Hid (∀ w : World, Calls Try.prog 19 #[.agg #[.int .i64 W, .int .i64 T], .int .i64 S, .int .i64 ((b : Int) + (c : Int))] w fun e w' => e = .returned (.tuple #[.int .i64 A, .bool true]) ∧ Below w.heap.size w w') := HJ.out (b + c) A (by omega) (by rw [hA2])
    have eA : ((A : Int) != (A : Int)) = false := by simp
    have HA := Lib.hid hA
    have d1 : decide ((b : Int) < 0) = false := decide_eq_false (by omega)
    have d2 : decide ((c : Int) < 1) = false := by simp; omega
    have d3 : decide (P < (b : Int) + (c : Int)) = false := by simp; omega
    clear hA hA2
    obtain ⟨c0, c1, _, _⟩ := R3.out
    go_wp2_with fail
    refine (HCY.out _).mono ?_
    rintro e w4 ⟨rfl, hb⟩
    have R4 := Lib.hid (R3.out.call hb)
    clear R3 c0 c1 hb
    obtain ⟨c0, c1, _, _⟩ := R4.out
    go_wp2_with fail
    refine (HPO.out _).mono ?_
    rintro e w5 ⟨rfl, hb⟩
    have R5 := Lib.hid (R4.out.call hb)
    clear R4 c0 c1 hb
    obtain ⟨c0, c1, _, _⟩ := R5.out
    go_wp2_with fail
    refine (J1.out _).mono ?_
    rintro e w6 ⟨rfl, hb⟩
    have R6 := Lib.hid (R5.out.call hb)
    clear R5 c0 c1 hb
    obtain ⟨c0, c1, _, _⟩ := R6.out
    go_wp2_with fail
    refine (J2.out _).mono ?_
    rintro e w7 ⟨rfl, hb⟩
    have R7 := Lib.hid (R6.out.call hb)
    clear R6 c0 c1 hb
    go_wp2_with fail
    refine (r8At_any a1 len1 cap1 2 c w.heap.size _ (HC1.out.below R7.out.2.2.1) (by omega) (by omega) (by omega) (by omega)).mono ?_
    rintro e w8 ⟨v, rfl, hv, hm⟩
    have R8 := Lib.hid (R7.out.drewM hm)
    clear hm R7
    obtain ⟨X, hX⟩ : ∃ X, itr W T S (b + (v + 1)) = X := ⟨_, rfl⟩
    have J3 : Hid (∀ w : World, Calls Try.prog 19 #[.agg #[.int .i64 W, .int .i64 T], .int .i64 S, .int .i64 ((b : Int) + (1 + (v : Int)))] w fun e w' => e = .returned (.tuple #[.int .i64 X, .bool true]) ∧ Below w.heap.size w w') := fun w => by
      have := HJ.out (b + (v + 1)) X (by omega) (by rw [hX]) w
      rwa [show ((b + (v + 1) : Nat) : Int) = (b : Int) + (1 + (v : Int)) by omega] at this
    have key : (decide (1 + (v : Int) < (c : Int)) = true ∧ ((X : Int) == (A : Int)) = false) ∨ decide (1 + (v : Int) < (c : Int)) = false := by
      by_cases hlt : v + 1 < c
      · left
        refine ⟨decide_eq_true (by omega), ?_⟩
        rw [beq_eq_false_iff_ne]
        intro e
        have := (HC.out.2.2.2 b (v + 1) (by omega) (by rw [hX, HA.out]; omega)).1
        omega
      · exact .inr (decide_eq_false (by omega))
    clear hX
    obtain ⟨c0, c1, _, _⟩ := R8.out
    go_wp2_with fail
    refine (J3.out _).mono ?_
    rintro e w9 ⟨rfl, hb⟩
    have R9 := Lib.hid (R8.out.call hb)
    clear R8 c0 c1 hb HCY HPO J1 J2 J3
    have hmx : Try.prog.follows .mixedOrders = true := by kernel_rfl
    rcases HCA.out with ⟨hb0, hW0, hT1, o, ho2, hmod, hO, hPm, hfull⟩ | ⟨hwt, hO, hPm⟩
    · have bz : (b : Int) = 0 := by omega
      have t3 : decide (0 < (W : Int)) = true := decide_eq_true (by omega)
      have m1 : Int.tmod (T : Int) 2 = 1 := by rw [Int.tmod_eq_emod_of_nonneg (by omega)]; omega
      have m2 : Int.tmod (o : Int) (c : Int) = 0 := by
        rw [Int.tmod_eq_emod_of_nonneg (by omega)]
        have : ((o % c : Nat) : Int) = (o : Int) % (c : Int) := by simp
        omega
      have m3 : ¬ c = 0 := by omega
      have hq : IntKind.i64.wrap (IntKind.i64.wrap (2 ^ min (IntKind.u64.wrap (W : Int)).toNat 64) - 1) = P - 1 := by
        rw [IntWalk.u64_in _ (by omega), Int.toNat_natCast, Nat.min_eq_left (by omega), HP.out, IntWalk.i64_in P (by omega), IntWalk.i64_in _ (by omega)]
      obtain ⟨f, hf⟩ : ∃ f, ((o : Int) == P - 1) = f := ⟨_, rfl⟩
      rw [hf] at hPm hfull
      have fin : f = false ∨ (f = true ∧ ((S : Int) == 0) = true) ∨ (f = true ∧ ((S : Int) == 0) = false ∧ ((c : Int) == (o : Int)) = true) := by
        cases hff : f with
        | false => exact .inl rfl
        | true =>
          right
          by_cases h : S = 0
          · left; exact ⟨rfl, by rw [h]; rfl⟩
          · right; exact ⟨rfl, by rw [beq_eq_false_iff_ne]; omega, by rw [beq_iff_eq, hfull hff h]⟩
      have HO := Lib.hid hO
      have HPm := Lib.hid hPm
      have eF : (f != f) = false := by simp
      have HFin := Lib.hid fin
      clear hb0 hT1 hmod hO hPm hfull fin HCA d1 d2 d3
      rcases key with ⟨t1, t2⟩ | t1
      all_goals
        go_wp2_with fail
        refine (HO.out _).mono ?_
        rintro e w10 ⟨rfl, hb⟩
        have R10 := Lib.hid (R9.out.call hb)
        obtain ⟨c0, c1, _, _⟩ := R10.out
        clear hb
        have K0 : ∀ q : GW w10, q.w.cell? ⟨g, 0, none⟩ = some (.int .i64 W) := fun q => cell_below c0 q.h
        go_wp2_with fail
        refine region_quiet_in (C := fun w' => ∃ q : GW w10, w' = q.w) hmx (by kernel_rfl) ⟨⟨w10.drew, (Below.refl _ _).drew⟩, rfl⟩ ?_
        repeat (quiet_step (exact gw_call (HPm.out _)))
        refine wpQuiet_nil ?_
        rintro w11 ⟨⟨_, hb⟩, rfl⟩
        clear K0 c0 c1
        go_wp2_with fail
        refine (HPm.out _).mono ?_
        rintro e w12 ⟨rfl, hb2⟩
        have HB := Lib.hid ((R10.out.2.2.1.trans (hb.mono R10.out.2.2.1.size)).trans (hb2.mono (Nat.le_trans R10.out.2.2.1.size hb.size)))
        clear hb hb2 R10 R9 HO HPm hf eF
        rcases HFin.out with rfl | ⟨rfl, f1⟩ | ⟨rfl, f1, f2⟩
        all_goals
          go_wp2
          go_ret
          exact ⟨rfl, HB.out⟩
    · have HO := Lib.hid hO
      have HPm := Lib.hid hPm
      have ct : Hid (¬ 0 < W ∨ (0 < W ∧ Int.tmod (T : Int) 2 = 0)) := by
        unfold Hid
        by_cases hw : 0 < W
        · right
          refine ⟨hw, ?_⟩
          rw [Int.tmod_eq_emod_of_nonneg (by omega)]
          omega
        · exact .inl hw
      clear hO hPm hwt HCA d1 d2 d3
      by_cases hb0 : b = 0
      · have bz : (b : Int) = 0 := by omega
        clear hb0
        rcases key with ⟨t1, t2⟩ | t1
        all_goals
          go_wp2_with fail
          refine (HO.out _).mono ?_
          rintro e w10 ⟨rfl, rfl⟩
          obtain ⟨c0, c1, _, _⟩ := R9.out
          rcases ct.out with hw | ⟨hw, hm⟩
          all_goals
            go_wp2_with (go_at_call 21; with_reducible refine (HPm.out _).mono ?_; rintro e w11 ⟨rfl, rfl⟩)
            go_ret
            exact ⟨rfl, R9.out.2.2.1⟩
      · have bp : 0 < b := by omega
        obtain ⟨X4, hX4⟩ : ∃ X, itr W T S (b - 1) = X := ⟨_, rfl⟩
        obtain ⟨X5, hX5⟩ : ∃ X, itr W T S (b - 1 + c) = X := ⟨_, rfl⟩
        have J4 : Hid (∀ w : World, Calls Try.prog 19 #[.agg #[.int .i64 W, .int .i64 T], .int .i64 S, .int .i64 ((b : Int) - 1)] w fun e w' => e = .returned (.tuple #[.int .i64 X4, .bool true]) ∧ Below w.heap.size w w') := fun w => by
          have := HJ.out (b - 1) X4 (by omega) (by rw [hX4]) w
          rwa [show ((b - 1 : Nat) : Int) = (b : Int) - 1 by omega] at this
        have J5 : Hid (∀ w : World, Calls Try.prog 19 #[.agg #[.int .i64 W, .int .i64 T], .int .i64 S, .int .i64 ((b : Int) - 1 + (c : Int))] w fun e w' => e = .returned (.tuple #[.int .i64 X5, .bool true]) ∧ Below w.heap.size w w') := fun w => by
          have := HJ.out (b - 1 + c) X5 (by omega) (by rw [hX5]) w
          rwa [show ((b - 1 + c : Nat) : Int) = (b : Int) - 1 + (c : Int) by omega] at this
        have t5 : ((X4 : Int) == (X5 : Int)) = false := by
          have h := HC.out.2.2.1 (b - 1) (by omega)
          rw [hX4, hX5] at h
          rw [beq_eq_false_iff_ne]
          omega
        clear hb0 hX4 hX5
        rcases key with ⟨t1, t2⟩ | t1
        all_goals
          obtain ⟨c0, c1, _, _⟩ := R9.out
          go_wp2_with fail
          refine (J4.out _).mono ?_
          rintro e w10 ⟨rfl, hb⟩
          have R10 := Lib.hid (R9.out.call hb)
          clear c0 c1 hb
          obtain ⟨c0, c1, _, _⟩ := R10.out
          go_wp2_with fail
          refine (J5.out _).mono ?_
          rintro e w11 ⟨rfl, hb⟩
          have R11 := Lib.hid (R10.out.call hb)
          clear c0 c1 hb
          go_wp2_with fail
          refine (HO.out _).mono ?_
          rintro e w12 ⟨rfl, rfl⟩
          obtain ⟨c0, c1, _, _⟩ := R11.out
          rcases ct.out with hw | ⟨hw, hm⟩
          all_goals
            go_wp2_with (go_at_call 21; with_reducible refine (HPm.out _).mono ?_; rintro e w13 ⟨rfl, rfl⟩)
            go_ret
            exact ⟨rfl, R11.out.2.2.1⟩
  · have HL := Lib.hid hl
    clear hl C0 C1
    go_enter Try.func5, Try.ntmps5
    go_wp2_with fail
    refine (r8Long_yes _ _ _ _ _ _ _ l0 l1 HL.out).mono ?_
    rintro e w1 ⟨rfl, rfl⟩
    go_wp2
    go_ret
    exact ⟨rfl, Below.refl _ _⟩
end Go.Proofs.Ytapccbplmbbnnac
