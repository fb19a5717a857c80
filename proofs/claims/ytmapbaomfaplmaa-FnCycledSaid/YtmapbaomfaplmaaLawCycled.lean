/- The law FnCycled. -/
import Derived.Test.YtmapbaomfaplmaaConB10
import Derived.Test.YtmapbaomfaplmaaConJump
import Derived.Test.YtmapbaomfaplmaaConCyc
import Derived.Test.YtmapbaomfaplmaaHullLoop
namespace Go.Proofs.Ytmapbaomfaplmaa
open Go.RowKit Go.PlainAid
set_option maxHeartbeats 1600000

theorem KAt.lift2 {w w1 V : World} {b : Nat} {x y z : Value} (h : KAt w1.heap.size w1 b x y z V) (hb : Below w.heap.size w w1) : KAt w.heap.size w b x y z V :=
  ⟨h.1, h.2.1, h.2.2.1, Nat.le_trans hb.size h.2.2.2.1, h.2.2.2.2.1, hb.trans (h.2.2.2.2.2.mono hb.size)⟩

set_option maxRecDepth 20000 in
theorem lawCycled (a : Option Addr) (la ca : Nat) (b : Option Addr) (lb cb : Nat) (w : World) (hC : Code w w.heap.size a la) (ha : la ≤ 9223372036854775807) (hb : lb ≤ 9223372036854775807) :
    Calls Try.prog 14 #[.slice a la ca, .slice b lb cb] w fun e w' => e = .returned (.bool true) ∧ Below w.heap.size w w' := by
  by_cases hl : la ≤ 1048576 ∧ lb ≤ 1048576
  · obtain ⟨hla, hlb⟩ := hl
    have HC := Lib.hid hC
    clear hC
    go_enter Try.func14, Try.ntmps14
    go_wp2_with (go_at_call 38; refine (long_no a b la ca lb cb _ hla hlb).mono ?_; rintro e w' ⟨rfl, rfl⟩)
    refine (b10Con_any a la ca _ HC.out hla).mono ?_
    rintro e w1 ⟨M, A, C, X, rfl, ⟨h1, h2, h3, h4, h5⟩, hb1⟩
    have HM : Hid (2 ≤ M ∧ M ≤ 100000 ∧ A < M ∧ C < M ∧ X < M) := ⟨h1, by omega, h3, h4, h5⟩
    have hM2 : M ≤ 4001 := h2
    have hA2 : A ≤ 4001 := by omega
    have hC2 : C ≤ 4001 := by omega
    clear h1 h2 h3 h4 h5
    have ba := (Below.refl w1.heap.size w1).alloc (Nat.le_refl _) (.cells #[.int .i64 M, .int .i64 A, .int .i64 C] 25)
    have K2 := Lib.hid ((KAt.new w1 (.int .i64 M) (.int .i64 A) (.int .i64 C) 25).lift2 hb1)
    obtain ⟨p1, p, hCy⟩ := itc_cyc (m := M) (a := A) (c := C) (x := X) HM.out.2.2.2.2
    have HCy := Lib.hid hCy
    have hroom := cyc_room (fun i => itc_lt (a := A) (c := C) HM.out.2.2.2.2 i) hCy
    have hp0 : 0 < p := hCy.1
    clear ba hCy
    go_wp2_with fail
    obtain ⟨g, hg⟩ : ∃ g, w1.heap.size = g := ⟨_, rfl⟩
    rw [hg] at K2 ⊢
    generalize w1.alloc (.cells #[.int .i64 M, .int .i64 A, .int .i64 C] 25) = w2 at K2 ⊢
    clear hg hb1
    refine (stateCycle_yes M A C X _ HM.out.1 HM.out.2.1 HM.out.2.2.1 HM.out.2.2.2.1 HM.out.2.2.2.2 p1 p HCy.out).mono ?_
    rintro e w3 ⟨rfl, hb3⟩
    have K3 := Lib.hid (K2.out.below hb3)
    clear K2 hb3
    obtain ⟨c0, c1, c2, _⟩ := K3.out
    have t1 : decide ((p1 : Int) < 0) = false := by rw [decide_eq_false_iff_not]; omega
    have t2 : decide ((p : Int) < 1) = false := by rw [decide_eq_false_iff_not]; omega
    have t3 : decide ((M : Int) < (p1 : Int) + (p : Int)) = false := by rw [decide_eq_false_iff_not]; omega
    go_wp2_with fail
    refine (specJumpK_yes M A C X p1 _ HM.out.1 HM.out.2.1 HM.out.2.2.1 HM.out.2.2.2.1 HM.out.2.2.2.2 (by omega)).mono ?_
    rintro e w4 ⟨rfl, hb4⟩
    have K4 := Lib.hid (K3.out.below hb4)
    clear K3 hb4 c0 c1 c2 t1 t2 t3
    obtain ⟨c0, c1, c2, _⟩ := K4.out
    obtain ⟨S, hS⟩ : ∃ S, p1 + p = S := ⟨_, rfl⟩
    have HSS := Lib.hid hS
    have hpp : ((p1 : Int) + (p : Int)) = (S : Int) := by omega
    go_wp2_with fail
    refine (specJumpK_yes M A C X S _ HM.out.1 HM.out.2.1 HM.out.2.2.1 HM.out.2.2.2.1 HM.out.2.2.2.2 (by omega)).mono ?_
    rw [← HSS.out, HCy.out.2.1]
    rintro e w5 ⟨rfl, hb5⟩
    have K5 := Lib.hid (K4.out.below hb5)
    clear K4 hb5 c0 c1 c2 hpp hS
    obtain ⟨Y, hY⟩ : ∃ Y, itc M A C X p1 = Y := ⟨_, rfl⟩
    have HY := Lib.hid hY
    rw [hY]
    clear hY
    have q1 : ((Y : Int) != (Y : Int)) = false := by simp
    go_wp2
    go_loopw [14, 15] (fun nv iv wr => ∃ k : Nat, k + 1 ≤ p ∧ nv = .int .i64 (itc M A C X (p1 + k)) ∧ iv = .int .i64 ((k : Int) + 1) ∧ Hid (KAt w.heap.size w g (.int .i64 M) (.int .i64 A) (.int .i64 C) wr)) (fun _ iv _ => p + 1 - (intOf iv).toNat)
    case atStart => exact ⟨0, hp0, by rw [Nat.add_zero, HY.out], rfl, K5⟩
    case round =>
      obtain ⟨k, hk, rfl, rfl, K6⟩ := hrel
      clear K5
      by_cases hlt : k + 1 < p
      · obtain ⟨c0, c1, c2, _⟩ := K6.out
        have HNX : Hid (nx M A C (itc M A C X (p1 + k)) = itc M A C X (p1 + (k + 1))) := rfl
        go_wp2_with fail
        refine (specNext_yes M A C _ _ HM.out.1 HM.out.2.1 HM.out.2.2.1 HM.out.2.2.2.1 (itc_lt HM.out.2.2.2.2 _)).mono ?_
        rw [HNX.out]
        rintro e w7 ⟨rfl, hb7⟩
        have K7 := Lib.hid (K6.out.below hb7)
        have hne : ¬ itc M A C X (p1 + (k + 1)) = Y := fun e => by
          have := (HCy.out.2.2.2 p1 (k + 1) (by omega) (by rw [HY.out]; exact e)).1
          omega
        obtain ⟨z, hz⟩ : ∃ z, itc M A C X (p1 + (k + 1)) = z := ⟨_, rfl⟩
        have HZ := Lib.hid hz
        rw [hz] at hne ⊢
        have q2 : ((z : Int) == (Y : Int)) = false := by rw [beq_eq_false_iff_ne]; omega
        clear hb7 K6 c0 c1 c2 hz hne
        go_wp2
        go_roundw
        case rel => exact ⟨k + 1, by omega, by rw [HZ.out], by go_num, K7⟩
        case measure => simp [intOf]; omega
      · have hkp : Hid (k + 1 = p) := by unfold Hid; omega
        obtain ⟨c0, c1, c2, _⟩ := K6.out
        obtain ⟨p2, p0, hC0⟩ := itc_cyc (m := M) (a := A) (c := C) (x := 0) (by have := HM.out.1; omega)
        have HC0 := Lib.hid hC0
        have HF0 : Hid (FacI M A C 2 M true) := FacI.start A C HM.out.1
        clear hC0
        rcases (show 0 < p1 ∨ ¬ 0 < p1 by omega) with hpos | hpos
        case' inl =>
          obtain ⟨P0, hP0⟩ : ∃ P0, p1 = P0 + 1 := ⟨p1 - 1, by omega⟩
          have HP0 := Lib.hid hP0
          have hpm : ((p1 : Int) - 1) = (P0 : Int) := by omega
          obtain ⟨S2, hS2⟩ : ∃ S2, P0 + p = S2 := ⟨_, rfl⟩
          have HS2 := Lib.hid hS2
          have hpm2 : ((P0 : Int) + (p : Int)) = (S2 : Int) := by omega
          have hPM : Hid (P0 ≤ 4001 ∧ S2 ≤ 8002) := ⟨by omega, by omega⟩
          clear hP0 hS2
          go_wp2_with fail
          refine (specJumpK_yes M A C X P0 _ HM.out.1 HM.out.2.1 HM.out.2.2.1 HM.out.2.2.2.1 HM.out.2.2.2.2 (by have := hPM.out.1; omega)).mono ?_
          rintro e w7 ⟨rfl, hb7⟩
          have K7 := Lib.hid (K6.out.below hb7)
          clear hb7 K6 c0 c1 c2
          obtain ⟨c0, c1, c2, _⟩ := K7.out
          go_wp2_with fail
          refine (specJumpK_yes M A C X S2 _ HM.out.1 HM.out.2.1 HM.out.2.2.1 HM.out.2.2.2.1 HM.out.2.2.2.2 (by have := hPM.out.2; omega)).mono ?_
          rintro e w8 ⟨rfl, hb8⟩
          have K8 := Lib.hid (K7.out.below hb8)
          have hne : ¬ itc M A C X S2 = itc M A C X P0 := by
            rw [← HS2.out]
            exact HCy.out.2.2.1 P0 (by have := HP0.out; omega)
          clear hb8 K7 c0 c1 c2
          obtain ⟨z1, hz1⟩ : ∃ z, itc M A C X P0 = z := ⟨_, rfl⟩
          obtain ⟨z2, hz2⟩ : ∃ z, itc M A C X S2 = z := ⟨_, rfl⟩
          rw [hz1, hz2] at hne
          rw [hz1, hz2]
          have q3 : ((z1 : Int) == (z2 : Int)) = false := by rw [beq_eq_false_iff_ne]; omega
          clear hz1 hz2 hne hpm hpm2
          obtain ⟨c0, c1, c2, _⟩ := K8.out
          go_wp2
        case' inr =>
          have K8 := K6
          go_wp2
        all_goals
          go_loopw [20, 21, 22] (fun fv mv qv wr => ∃ (q mm : Nat) (fl : Bool), fv = .bool fl ∧ mv = .int .i64 mm ∧ qv = .int .i64 q ∧ q ≤ M + 1 ∧ mm ≤ M ∧ Hid (FacI M A C q mm fl) ∧ Hid (KAt w.heap.size w g (.int .i64 M) (.int .i64 A) (.int .i64 C) wr)) (fun _ _ qv _ => M + 2 - (intOf qv).toNat)
          case atStart => exact ⟨2, M, true, rfl, rfl, rfl, by omega, Nat.le_refl _, HF0, K8⟩
          case round =>
            obtain ⟨q, mm, fl, rfl, rfl, rfl, hqM, hmM, HF, K9⟩ := hrel
            clear HF0 K8 c0 c1 c2
            have hq2 : 2 ≤ q := HF.out.1
            have hq0 : ¬ q = 0 := by omega
            obtain ⟨c0, c1, c2, _⟩ := K9.out
            by_cases hq : q ≤ mm
            · by_cases hd : q ∣ mm
              · have hd0 : mm % q = 0 := Nat.mod_eq_zero_of_dvd hd
                have t1 : ((mm : Int) % (q : Int) != 0) = false := by
                  have e : ((mm : Int) % (q : Int)) = ((mm % q : Nat) : Int) := by simp
                  rw [e, hd0]; rfl
                have HD := Lib.hid hd
                have HI0 : Hid (DivI q mm mm) := DivI.start (by have := HF.out.2.1; omega)
                have hz : ∃ z : Int, ((A : Int) - 1).tmod (q : Int) = z := ⟨_, rfl⟩
                obtain ⟨z, hz⟩ := hz
                obtain ⟨b2, hb2⟩ : ∃ b2 : Bool, (z == 0) = b2 := ⟨_, rfl⟩
                have HB2 : Hid (b2 = true ↔ A % q = 1) := by
                  unfold Hid
                  rw [← hb2, ← hz]
                  exact fac_rem hq2
                obtain ⟨b1, hb1⟩ : ∃ b1 : Bool, ((C : Int) % (q : Int) != 0) = b1 := ⟨_, rfl⟩
                have HB1 : Hid (b1 = true ↔ ¬ q ∣ C) := by
                  unfold Hid
                  rw [← hb1, bne_iff_ne]
                  have e : ((C : Int) % (q : Int)) = ((C % q : Nat) : Int) := by simp
                  rw [e, Nat.dvd_iff_mod_eq_zero]
                  omega
                clear hd hd0
                rename World => wo
                go_wp2
                go_loopw [21] (fun mv wi => ∃ k : Nat, mv = .int .i64 k ∧ k ≤ M ∧ Hid (DivI q mm k) ∧ Hid (KAt w.heap.size w g (.int .i64 M) (.int .i64 A) (.int .i64 C) wi)) (fun mv _ => (intOf mv).toNat)
                case atStart => exact ⟨mm, rfl, hmM, HI0, K9⟩
                case round =>
                  obtain ⟨k, rfl, hkM, HI, K10⟩ := hrel
                  clear K9 HI0 c0 c1 c2
                  obtain ⟨c0, c1, c2, _⟩ := K10.out
                  by_cases hdk : q ∣ k
                  · have hd0 : k % q = 0 := Nat.mod_eq_zero_of_dvd hdk
                    have t2 : ((k : Int) % (q : Int) == 0) = true := by
                      have e : ((k : Int) % (q : Int)) = ((k % q : Nat) : Int) := by simp
                      rw [e, hd0]; rfl
                    obtain ⟨HN1, HN2⟩ := HI.out.next (HF.out.prime HD.out) hdk
                    obtain ⟨d, hd⟩ : ∃ d, k / q = d := ⟨_, rfl⟩
                    have hdiv : ((k : Int) / (q : Int)) = (d : Int) := by rw [← hd]; simp
                    rw [hd] at HN1 HN2
                    have hdM : d ≤ 4001 := by omega
                    have HN1 := Lib.hid HN1
                    have HN2 := Lib.hid HN2
                    clear hdk hd0 hd
                    go_wp2
                    go_roundw
                    case rel => exact ⟨d, rfl, by have := HN2.out; omega, HN1, K10⟩
                    case measure =>
                      have h1 := HN2.out
                      simp only [intOf]
                      omega
                  · have t2 : ((k : Int) % (q : Int) == 0) = false := by
                      have e : ((k : Int) % (q : Int)) = ((k % q : Nat) : Int) := by simp
                      rw [e, beq_eq_false_iff_ne]
                      rw [Nat.dvd_iff_mod_eq_zero] at hdk
                      omega
                    have HT := Lib.hid (HF.out.take HD.out HI.out hdk HB1.out HB2.out)
                    clear hdk HB1 HB2
                    cases fl <;> cases b1 <;> cases b2
                    all_goals
                      go_wp2
                      go_roundw
                      case rel => exact ⟨q + 1, k, _, rfl, rfl, by go_num, by omega, hkM, HT, K10⟩
                      case measure => simp [intOf]; omega
              · have t1 : ((mm : Int) % (q : Int) != 0) = true := by
                  have e : ((mm : Int) % (q : Int)) = ((mm % q : Nat) : Int) := by simp
                  rw [e, bne_iff_ne]
                  rw [Nat.dvd_iff_mod_eq_zero] at hd
                  omega
                have HS2 := Lib.hid (HF.out.skip hd)
                clear hd
                go_wp2
                go_roundw
                case rel => exact ⟨q + 1, mm, fl, rfl, rfl, by go_num, by omega, hmM, HS2, K9⟩
                case measure => simp [intOf]; omega
            · obtain ⟨z, hz⟩ : ∃ z : Int, ((A : Int) - 1).tmod 4 = z := ⟨_, rfl⟩
              obtain ⟨a4, ha4⟩ : ∃ b2 : Bool, (z == 0) = b2 := ⟨_, rfl⟩
              have e4 : a4 = true ↔ A % 4 = 1 := by
                rw [← ha4, ← hz]
                exact fac_rem (q := 4) (by omega)
              obtain ⟨b4, hb4⟩ : ∃ b1 : Bool, ((M : Int) % 4 != 0) = b1 := ⟨_, rfl⟩
              have e5 : b4 = true ↔ ¬ 4 ∣ M := by
                rw [← hb4, bne_iff_ne]
                omega
              have hiff := hull_bool (HF.out.done (by omega)) e5 e4
              have HR : Hid (decide (p0 = M) = (fl && (b4 || a4))) := by
                have h1 := full_iff HM.out.1 HC0.out
                unfold Hid
                rw [Bool.eq_iff_iff, decide_eq_true_iff, h1, hiff]
              have HFULL : Hid (∀ w : World, Calls Try.prog 35 #[.agg #[.int .i64 M, .int .i64 A, .int .i64 C]] w fun e w' => e = .returned (.bool (fl && (b4 || a4))) ∧ Below w.heap.size w w') := fun w => isFull_yes M A C w HM.out.1 HM.out.2.1 HM.out.2.2.1 HM.out.2.2.2.1 p2 p0 HC0.out _ HR.out
              clear hiff e4 e5 HR
              cases fl <;> cases b4 <;> cases a4
              all_goals
                go_wp2_with fail
                refine (HFULL.out _).mono ?_
                rintro e w9 ⟨rfl, hb9⟩
                have K10 := Lib.hid (K9.out.below hb9)
                clear hb9
                go_wp2
                go_ret
                exact ⟨rfl, K10.out.all⟩
  · have HL := Lib.hid hl
    clear hl
    go_enter Try.func14, Try.ntmps14
    go_wp2_with (go_at_call 38; refine (long_yes a b la ca lb cb _ ha hb HL.out).mono ?_; rintro e w' ⟨rfl, rfl⟩)
    go_ret
    exact ⟨rfl, Below.refl _ _⟩
end Go.Proofs.Ytmapbaomfaplmaa
