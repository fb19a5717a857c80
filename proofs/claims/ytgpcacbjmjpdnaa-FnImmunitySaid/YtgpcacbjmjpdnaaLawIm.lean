/- The law FnImmunity. -/
import Derived.Test.YtgpcacbjmjpdnaaImm
import Derived.Test.YtgpcacbjmjpdnaaImMath
import Derived.Test.YtgpcacbjmjpdnaaDrawTab
import Derived.Test.YtgpcacbjmjpdnaaW8
import Derived.Test.YtgpcacbjmjpdnaaLawPv
namespace Go.Proofs.Ytgpcacbjmjpdnaa
open Go.RowKit Go.PlainAid
open Wt (row imm ct)
set_option maxHeartbeats 1000000

/-- a place below k, but not 0, with so many bits, where the numbers are not 0 -/
def smS (f : Nat → Int) (m : Nat) : Nat → Bool
  | 0 => false
  | k + 1 => smS f m k || (decide (¬ k = 0) && decide (Pop.pcF 64 k = m) && decide (¬ f k = 0))
theorem smS_false {f : Nat → Int} {m : Nat} : ∀ k, smS f m k = false → ∀ a, a < k → ¬ a = 0 → Pop.pcF 64 a = m → f a = 0 := by
  intro k
  induction k with
  | zero => intro _ a h; omega
  | succ k ih =>
    intro h a ha h0 hp
    simp only [smS, Bool.or_eq_false_iff] at h
    by_cases e : a = k
    · subst e
      have := h.2
      simp [h0, hp] at this
      exact this
    · exact ih h.1 a (by omega) h0 hp
/-- the least number of bits, less 1 -/
theorem imm_low {f : Nat → Int} {n : Nat} : ∀ N a, a < N → ¬ a = 0 → Pop.pcF 64 a < imm f n N → f a = 0 := by
  intro N
  induction N with
  | zero => intro a h; omega
  | succ k ih =>
    intro a ha h0 hp
    by_cases h : ¬ k = 0 ∧ ¬ f k = 0
    · rw [Wt.imm_yes h.1 h.2] at hp
      by_cases e : a = k
      · subst e; split at hp <;> omega
      · exact ih a (by omega) h0 (by split at hp <;> omega)
    · rw [Wt.imm_no (by omega)] at hp
      by_cases e : a = k
      · subst e
        have : ¬ ¬ f a = 0 := fun x => h ⟨h0, x⟩
        omega
      · exact ih a (by omega) h0 hp
theorem imm_hit {f : Nat → Int} {n : Nat} : ∀ N, imm f n N ≤ n → ∃ a, a < N ∧ ¬ a = 0 ∧ Pop.pcF 64 a = imm f n N ∧ ¬ f a = 0 := by
  intro N
  induction N with
  | zero => intro h; have h2 : imm f n 0 = n + 1 := rfl; omega
  | succ k ih =>
    intro h
    by_cases hk : ¬ k = 0 ∧ ¬ f k = 0
    · rw [Wt.imm_yes hk.1 hk.2] at h ⊢
      by_cases hlt : Pop.pcF 64 k < imm f n k
      · rw [if_pos hlt]
        exact ⟨k, by omega, hk.1, rfl, hk.2⟩
      · rw [if_neg hlt] at h ⊢
        obtain ⟨a, h1, h2⟩ := ih h
        exact ⟨a, by omega, h2⟩
    · rw [Wt.imm_no (by omega)] at h ⊢
      obtain ⟨a, h1, h2⟩ := ih h
      exact ⟨a, by omega, h2⟩
theorem imm_pos {f : Nat → Int} {n : Nat} : ∀ N, N ≤ 64 → 1 ≤ imm f n N := by
  intro N hN
  by_cases h : imm f n N ≤ n
  · obtain ⟨a, h1, h2, h3, _⟩ := imm_hit N h
    rw [← h3]
    rcases Nat.eq_zero_or_pos (Pop.pcF 64 a) with e | e
    · exfalso
      have h4 : ∀ m : Fin 64, Pop.pcF 64 m.val = 0 → m.val = 0 := by decide +kernel
      exact h2 (h4 ⟨a, by omega⟩ e)
    · exact e
  · omega
set_option maxRecDepth 16000 in
theorem lawIm (a0 : Option Addr) (len0 cap0 : Nat) (a1 : Option Addr) (len1 cap1 : Nat) (w : World) (C0 : Code w w.heap.size a0 len0) (C1 : Code w w.heap.size a1 len1) (l0 : len0 ≤ 9223372036854775807) (l1 : len1 ≤ 9223372036854775807) :
    Calls Try.prog 5 #[.slice a0 len0 cap0, .slice a1 len1 cap1] w fun e w' => e = .returned (.bool true) ∧ Below w.heap.size w w' := by
  by_cases hl : len0 ≤ 48 ∧ len1 ≤ 48
  · obtain ⟨h0, h1⟩ := hl
    have HC0 := Lib.hid C0
    have HC1 := Lib.hid C1
    clear C0 C1
    go_enter Try.func5, Try.ntmps5
    go_wp2_with fail
    refine (r8Long_no _ _ _ _ _ _ _ h0 h1).mono ?_
    rintro e w0 ⟨rfl, rfl⟩
    go_wp2_with fail
    refine (r8Table_any a0 len0 cap0 w HC0.out (by omega)).mono ?_
    rintro e w1 ⟨n, s, rfl, hn4, hT, hb1⟩
    obtain ⟨f, hf⟩ : ∃ f, Wh.tr (Wt.sv (tb s)) n = f := ⟨_, rfl⟩
    obtain ⟨hp, hfb, _, _⟩ := spec_pack n s hT f hf
    have HIn : Hid (∀ W : World, Calls Try.prog 17 #[.string s] W fun e w' => e = .returned (.tuple #[.int .i64 n, .bool true]) ∧ Below W.heap.size W w') := fun W => inputsOf_b s n _ true W (fun W => funOf_yes n s W hT) (fun x => by cases x)
    have HSp : Hid (GivesList 21 #[.string s] (row f s.size) true) := by
      have := spectrumOf_any n s hT
      rwa [hf] at this
    obtain ⟨k, hk⟩ : ∃ k, imm f n s.size = k + 1 := ⟨imm f n s.size - 1, by have := imm_pos (f := f) (n := n) s.size (by omega); omega⟩
    have HIm : Hid (Gives Try.prog 26 #[.string s] (.tuple #[.int .i64 k, .bool true])) := by
      have := immunityOf_any n s hT
      rw [hf, hk] at this
      rwa [show ((k + 1 : Nat) : Int) - 1 = (k : Int) by omega] at this
    have hkn : k ≤ n := by have := Wt.imm_le f n s.size; omega
    have H1 : Hid (∀ a, a < s.size → ¬ a = 0 → Pop.pcF 64 a ≤ k → f a = 0) := fun a ha h0 hpa => imm_low (n := n) s.size a ha h0 (by omega)
    have H2 : Hid (k < n → smS f (k + 1) s.size = true) := fun hkn2 => by
      cases e : smS f (k + 1) s.size
      · exfalso
        obtain ⟨a, x1, x2, x3, x4⟩ := imm_hit (f := f) (n := n) s.size (by omega)
        exact x4 (smS_false _ e a x1 x2 (by omega))
      · rfl
    have H3 : Hid (∀ mask v, mask < s.size → Pop.pcF 64 mask ≤ k → (∀ j, v.testBit j = true → mask.testBit j = true) → 2 ^ Pop.pcF 64 mask * ct (fun x => decide (x &&& mask = v) && tb s x) s.size = ct (tb s) s.size) := fun mask v hm hpm hv => by
      rw [hT.1] at hm ⊢
      have hw : Wt.wtm mask n = Pop.pcF 64 mask := by
        rw [Wt.wtm_pc, ← Wt.pcF_far (64 - n) hm, show n + (64 - n) = 64 by omega]
      have h5 := Wt.fixed_part n mask v (tb s) fun a ha h0 => by
        have hlt := Wt.inm_lt ha
        have h6 : Pop.pcF 64 a ≤ Pop.pcF 64 mask := Wt.pc_mono (fun j hj => (ha j hj).2) 64
        have h7 := H1.out a (by rw [hT.1]; exact hlt) h0 (by omega)
        rw [← hf, Wh.tr_top _ hlt] at h7
        exact h7
      rw [hw] at h5
      have h8 : ct (fun x => decide (x &&& mask = v) && tb s x) (2 ^ n) = ct (fun x => Wt.mt mask v n x && tb s x) (2 ^ n) := by
        congr 1
        funext x
        rw [Wt.mt_iff hm hv]
      rw [h8, h5]
    have HV : Hid (∀ y, (hy : y < s.size) → (((s[y]'hy).toNat : Nat) : Int) = 48 + ((tb s y).toNat : Int)) := fun y hy => by
      have := hT.val hy
      rwa [← get_bt s y hy] at this
    have hs16 : s.size ≤ 16 := by rw [hT.1]; exact Nat.pow_le_pow_right (n := 2) (by omega) hn4
    have HB1 := Lib.hid hb1
    obtain ⟨g, hg⟩ : ∃ g, tb s = g := ⟨_, rfl⟩
    rw [hg] at H3 HV
    clear hT hf hk hfb hb1 hg
    go_wp2_with fail
    refine (HIn.out _).mono ?_
    rintro e w2 ⟨rfl, hb2⟩
    have HB2 := Lib.hid (HB1.out.trans (hb2.mono HB1.out.size))
    clear hb2 HB1 HIn
    go_wp2_with fail
    refine (HIm.out _).mono ?_
    rintro e w3 ⟨rfl, hb3⟩
    have HB3 := Lib.hid (HB2.out.trans (hb3.mono HB2.out.size))
    clear hb3 HB2 HIm
    go_wp2_with fail
    refine (HSp.out _).mono ?_
    rintro e w4 ⟨v, rfl, hsl, hb4⟩
    obtain ⟨G, cap, rfl, hG, hcell⟩ := sl_row hsl (by omega)
    have HB4 := Lib.hid (HB3.out.trans (hb4.mono HB3.out.size))
    have HC := Lib.hid hcell
    have hnb : ((s.size : Int) != (s.size : Int)) = false := by simp
    have hk0 : decide ((k : Int) < 0) = false := decide_eq_false (by omega)
    have hk1 : decide ((n : Int) < (k : Int)) = false := decide_eq_false (by omega)
    have hk2 : decide (n < k) = false := decide_eq_false (by omega)
    clear hb4 HB3 hsl hcell HSp
    go_wp2
    clear hk0 hk1 hk2
    go_loop [12, 13] (fun sv av => ∃ a : Nat, 1 ≤ a ∧ a ≤ s.size ∧ av = .int .i64 a ∧ sv = .bool (smS f (k + 1) a)) (fun _ av => s.size - (intOf av).toNat)
    case atStart => exact ⟨1, by omega, by omega, rfl, rfl⟩
    case round =>
      obtain ⟨a, ha1, ha, rfl, rfl⟩ := hrel
      by_cases hlt : a < s.size
      · have c0 := HC.out a hlt
        have HS : Hid (smS f (k + 1) (a + 1) = (smS f (k + 1) a || (decide (¬ a = 0) && decide (Pop.pcF 64 a = k + 1) && decide (¬ f a = 0)))) := rfl
        have HW : Hid (∀ W : World, Calls Try.prog 19 #[.int .i64 a] W fun e w' => e = .returned (.int .i64 (Pop.pcF 64 a)) ∧ W = w') := fun W => r8Weight_any a W (by omega)
        have HZ : Hid (Pop.pcF 64 a ≤ k → f a = 0) := H1.out a hlt (by omega)
        have hpl := Pop.pcF_le 64 a
        obtain ⟨q, hq⟩ : ∃ q, Pop.pcF 64 a = q := ⟨_, rfl⟩
        obtain ⟨u, hu⟩ : ∃ u, f a = u := ⟨_, rfl⟩
        rw [hq] at HS HW HZ hpl
        rw [hu] at HS HZ c0
        obtain ⟨S, hS⟩ : ∃ S, smS f (k + 1) a = S := ⟨_, rfl⟩
        rw [hS] at HS ⊢
        clear hq hu hS
        by_cases hqk : q ≤ k
        · have hu0 := HZ.out hqk
          have d1 : decide ((q : Int) ≤ (k : Int)) = true := decide_eq_true (by omega)
          have d2 : ((q : Int) == (k : Int) + 1) = false := by rw [beq_eq_false_iff_ne]; omega
          have d3 : (u != 0) = false := by simp [hu0]
          have HS2 : Hid (smS f (k + 1) (a + 1) = S) := by
            unfold Hid
            rw [HS.out, decide_eq_false (show ¬ q = k + 1 by omega)]
            simp
          clear HZ HS hu0
          cases S with
          | true =>
            go_wp2_with (go_at_call 19; refine (HW.out _).mono ?_; rintro e w7 ⟨rfl, rfl⟩)
            go_round
            case rel => exact ⟨a + 1, by omega, by omega, by go_num, by rw [HS2.out]⟩
            case measure => simp [intOf]; omega
          | false =>
            go_wp2_with (go_at_call 19; refine (HW.out _).mono ?_; rintro e w7 ⟨rfl, rfl⟩)
            go_round
            case rel => exact ⟨a + 1, by omega, by omega, by go_num, by rw [HS2.out]⟩
            case measure => simp [intOf]; omega
        · have d1 : decide ((q : Int) ≤ (k : Int)) = false := decide_eq_false (by omega)
          cases S with
          | true =>
            have HS2 : Hid (smS f (k + 1) (a + 1) = true) := by unfold Hid; rw [HS.out]; simp
            clear HZ HS
            go_wp2_with (go_at_call 19; refine (HW.out _).mono ?_; rintro e w7 ⟨rfl, rfl⟩)
            go_round
            case rel => exact ⟨a + 1, by omega, by omega, by go_num, by rw [HS2.out]⟩
            case measure => simp [intOf]; omega
          | false =>
            by_cases hq1 : q = k + 1
            · have d2 : ((q : Int) == (k : Int) + 1) = true := by rw [hq1]; simp
              by_cases hu0 : u = 0
              · have d3 : (u != 0) = false := by simp [hu0]
                have HS2 : Hid (smS f (k + 1) (a + 1) = false) := by unfold Hid; rw [HS.out]; simp [hu0]
                clear HZ HS hu0 hq1
                go_wp2_with (go_at_call 19; refine (HW.out _).mono ?_; rintro e w7 ⟨rfl, rfl⟩)
                go_round
                case rel => exact ⟨a + 1, by omega, by omega, by go_num, by rw [HS2.out]⟩
                case measure => simp [intOf]; omega
              · have d3 : (u != 0) = true := by simp [hu0]
                have HS2 : Hid (smS f (k + 1) (a + 1) = true) := by
                  unfold Hid
                  rw [HS.out, decide_eq_true hq1, decide_eq_true hu0, decide_eq_true (show ¬ a = 0 by omega)]
                  rfl
                clear HZ HS hu0 hq1
                go_wp2_with (go_at_call 19; refine (HW.out _).mono ?_; rintro e w7 ⟨rfl, rfl⟩)
                go_round
                case rel => exact ⟨a + 1, by omega, by omega, by go_num, by rw [HS2.out]⟩
                case measure => simp [intOf]; omega
            · have d2 : ((q : Int) == (k : Int) + 1) = false := by rw [beq_eq_false_iff_ne]; omega
              have HS2 : Hid (smS f (k + 1) (a + 1) = false) := by unfold Hid; rw [HS.out]; simp [hq1]
              clear HZ HS hq1
              go_wp2_with (go_at_call 19; refine (HW.out _).mono ?_; rintro e w7 ⟨rfl, rfl⟩)
              go_round
              case rel => exact ⟨a + 1, by omega, by omega, by go_num, by rw [HS2.out]⟩
              case measure => simp [intOf]; omega
      · have haN : a = s.size := by omega
        have HSS : Hid (k < n → smS f (k + 1) a = true) := by rw [haN]; exact H2.out
        obtain ⟨S, hS⟩ : ∃ S, smS f (k + 1) a = S := ⟨_, rfl⟩
        rw [hS] at HSS ⊢
        have hcond : k < n → S = true := HSS.out
        clear hS HC H1 H2 HSS
        by_cases hkn2 : k < n
        · obtain rfl := hcond hkn2
          clear hcond
          go_wp2_with fail
          refine (r8At_any a1 len1 cap1 0 s.size w.heap.size _ (HC1.out.below HB4.out) (by omega) (by omega) (by omega) (by omega)).mono ?_
          rintro e w5 ⟨mask, rfl, hmask, m5, hw5⟩
          have HB5 : Hid (Below w.heap.size w w5) := by rw [hw5]; exact below_drewN HB4.out m5
          clear hw5
          have HW : Hid (∀ W : World, Calls Try.prog 19 #[.int .i64 mask] W fun e w' => e = .returned (.int .i64 (Pop.pcF 64 mask)) ∧ W = w') := fun W => r8Weight_any mask W (by omega)
          have H3m := Lib.hid (H3.out mask)
          have hpl := Pop.pcF_le 64 mask
          obtain ⟨q, hq⟩ : ∃ q, Pop.pcF 64 mask = q := ⟨_, rfl⟩
          rw [hq] at HW H3m hpl
          clear hq
          by_cases hqk : q ≤ k
          · go_wp2_with (go_at_call 19; refine (HW.out _).mono ?_; rintro e w7 ⟨rfl, rfl⟩)
            refine (r8At_any a1 len1 cap1 1 s.size w.heap.size _ (HC1.out.below HB5.out) (by omega) (by omega) (by omega) (by omega)).mono ?_
            rintro e w6 ⟨y, rfl, hy, m6, hw6⟩
            have HB6 : Hid (Below w.heap.size w w6) := by rw [hw6]; exact below_drewN HB5.out m6
            clear hw6
            have hand := i64_andT y mask (by omega) (by omega)
            have H3v := Lib.hid (H3m.out (y &&& mask) (by omega) hqk fun j hj => by rw [Nat.testBit_and, Bool.and_eq_true] at hj; exact hj.2)
            have hvl : y &&& mask ≤ mask := Nat.and_le_right
            obtain ⟨vv, hvv⟩ : ∃ vv, y &&& mask = vv := ⟨_, rfl⟩
            rw [hvv] at hand H3v hvl
            clear hvv
            go_wp2
            go_loop [16, 17, 18] (fun ov iv xv => ∃ x : Nat, x ≤ s.size ∧ xv = .int .i64 x ∧ ov = .int .i64 (ct g x) ∧ iv = .int .i64 (ct (fun x => decide (x &&& mask = vv) && g x) x)) (fun _ _ xv => s.size - (intOf xv).toNat)
            case atStart => exact ⟨0, Nat.zero_le _, rfl, rfl, rfl⟩
            case round =>
              obtain ⟨x, hx, rfl, rfl, rfl⟩ := hrel
              by_cases hxt : x < s.size
              · have hv := HV.out x hxt
                have hand2 := i64_andT x mask (by omega) (by omega)
                have HO : Hid (ct g (x + 1) = ct g x + (g x).toNat) := rfl
                have HI2 : Hid (ct (fun x => decide (x &&& mask = vv) && g x) (x + 1) = ct (fun x => decide (x &&& mask = vv) && g x) x + (decide (x &&& mask = vv) && g x).toNat) := rfl
                have hol := Wt.ct_le g x
                have hil := Wt.ct_le (fun x => decide (x &&& mask = vv) && g x) x
                have hb1 : (g x).toNat ≤ 1 := Bool.toNat_le _
                obtain ⟨o, ho⟩ : ∃ o, ct g x = o := ⟨_, rfl⟩
                obtain ⟨i, hi⟩ : ∃ i, ct (fun x => decide (x &&& mask = vv) && g x) x = i := ⟨_, rfl⟩
                rw [ho] at HO hol ⊢
                rw [hi] at HI2 hil ⊢
                by_cases hxm : x &&& mask = vv
                · have HI3 : Hid (ct (fun x => decide (x &&& mask = vv) && g x) (x + 1) = i + (g x).toNat) := by unfold Hid; rw [HI2.out, decide_eq_true hxm]; rfl
                  rw [hxm] at hand2
                  obtain ⟨b, hb⟩ : ∃ b, (g x).toNat = b := ⟨_, rfl⟩
                  rw [hb] at hv hb1 HO HI3
                  clear hb ho hi HI2 hxm
                  go_wp2
                  go_round
                  case rel => exact ⟨x + 1, by omega, by go_num, by rw [HO.out]; congr 1; omega, by rw [HI3.out]; congr 1; omega⟩
                  case measure => simp [intOf]; omega
                · have HI3 : Hid (ct (fun x => decide (x &&& mask = vv) && g x) (x + 1) = i) := by unfold Hid; rw [HI2.out, decide_eq_false hxm]; rfl
                  have hq2 : (((x &&& mask : Nat) : Int) == (vv : Int)) = false := by rw [beq_eq_false_iff_ne]; omega
                  obtain ⟨z, hz⟩ : ∃ z, x &&& mask = z := ⟨_, rfl⟩
                  rw [hz] at hand2 hq2
                  obtain ⟨b, hb⟩ : ∃ b, (g x).toNat = b := ⟨_, rfl⟩
                  rw [hb] at hv hb1 HO
                  clear hb ho hi HI2 hxm hz
                  go_wp2
                  go_round
                  case rel => exact ⟨x + 1, by omega, by go_num, by rw [HO.out]; congr 1; omega, by rw [HI3.out]⟩
                  case measure => simp [intOf]; omega
              · obtain rfl : x = s.size := by omega
                have hol := Wt.ct_le g s.size
                have h5 := H3v.out
                obtain ⟨o, ho⟩ : ∃ o, ct g s.size = o := ⟨_, rfl⟩
                obtain ⟨i, hi⟩ : ∃ i, ct (fun x => decide (x &&& mask = vv) && g x) s.size = i := ⟨_, rfl⟩
                rw [ho] at h5 hol ⊢
                rw [hi] at h5 ⊢
                have he : (wrap64 ((i : Int) * 2 ^ q) == (o : Int)) = true := by
                  have h6 : (i : Int) * 2 ^ q = ((2 ^ q * i : Nat) : Int) := by push_cast; rw [Int.mul_comm]
                  rw [h6, h5, beq_iff_eq]
                  unfold wrap64
                  omega
                clear ho hi h5
                go_wp2_with (go_at_call 19; refine (HW.out _).mono ?_; rintro e w7 ⟨rfl, rfl⟩)
                go_ret
                exact ⟨rfl, HB6.out⟩
          · go_wp2_with (go_at_call 19; refine (HW.out _).mono ?_; rintro e w7 ⟨rfl, rfl⟩)
            go_ret
            exact ⟨rfl, HB5.out⟩
        · clear hcond
          go_wp2_with fail
          refine (r8At_any a1 len1 cap1 0 s.size w.heap.size _ (HC1.out.below HB4.out) (by omega) (by omega) (by omega) (by omega)).mono ?_
          rintro e w5 ⟨mask, rfl, hmask, m5, hw5⟩
          have HB5 : Hid (Below w.heap.size w w5) := by rw [hw5]; exact below_drewN HB4.out m5
          clear hw5
          have HW : Hid (∀ W : World, Calls Try.prog 19 #[.int .i64 mask] W fun e w' => e = .returned (.int .i64 (Pop.pcF 64 mask)) ∧ W = w') := fun W => r8Weight_any mask W (by omega)
          have H3m := Lib.hid (H3.out mask)
          have hpl := Pop.pcF_le 64 mask
          obtain ⟨q, hq⟩ : ∃ q, Pop.pcF 64 mask = q := ⟨_, rfl⟩
          rw [hq] at HW H3m hpl
          clear hq
          by_cases hqk : q ≤ k
          · go_wp2_with (go_at_call 19; refine (HW.out _).mono ?_; rintro e w7 ⟨rfl, rfl⟩)
            refine (r8At_any a1 len1 cap1 1 s.size w.heap.size _ (HC1.out.below HB5.out) (by omega) (by omega) (by omega) (by omega)).mono ?_
            rintro e w6 ⟨y, rfl, hy, m6, hw6⟩
            have HB6 : Hid (Below w.heap.size w w6) := by rw [hw6]; exact below_drewN HB5.out m6
            clear hw6
            have hand := i64_andT y mask (by omega) (by omega)
            have H3v := Lib.hid (H3m.out (y &&& mask) (by omega) hqk fun j hj => by rw [Nat.testBit_and, Bool.and_eq_true] at hj; exact hj.2)
            have hvl : y &&& mask ≤ mask := Nat.and_le_right
            obtain ⟨vv, hvv⟩ : ∃ vv, y &&& mask = vv := ⟨_, rfl⟩
            rw [hvv] at hand H3v hvl
            clear hvv
            go_wp2
            go_loop [16, 17, 18] (fun ov iv xv => ∃ x : Nat, x ≤ s.size ∧ xv = .int .i64 x ∧ ov = .int .i64 (ct g x) ∧ iv = .int .i64 (ct (fun x => decide (x &&& mask = vv) && g x) x)) (fun _ _ xv => s.size - (intOf xv).toNat)
            case atStart => exact ⟨0, Nat.zero_le _, rfl, rfl, rfl⟩
            case round =>
              obtain ⟨x, hx, rfl, rfl, rfl⟩ := hrel
              by_cases hxt : x < s.size
              · have hv := HV.out x hxt
                have hand2 := i64_andT x mask (by omega) (by omega)
                have HO : Hid (ct g (x + 1) = ct g x + (g x).toNat) := rfl
                have HI2 : Hid (ct (fun x => decide (x &&& mask = vv) && g x) (x + 1) = ct (fun x => decide (x &&& mask = vv) && g x) x + (decide (x &&& mask = vv) && g x).toNat) := rfl
                have hol := Wt.ct_le g x
                have hil := Wt.ct_le (fun x => decide (x &&& mask = vv) && g x) x
                have hb1 : (g x).toNat ≤ 1 := Bool.toNat_le _
                obtain ⟨o, ho⟩ : ∃ o, ct g x = o := ⟨_, rfl⟩
                obtain ⟨i, hi⟩ : ∃ i, ct (fun x => decide (x &&& mask = vv) && g x) x = i := ⟨_, rfl⟩
                rw [ho] at HO hol ⊢
                rw [hi] at HI2 hil ⊢
                by_cases hxm : x &&& mask = vv
                · have HI3 : Hid (ct (fun x => decide (x &&& mask = vv) && g x) (x + 1) = i + (g x).toNat) := by unfold Hid; rw [HI2.out, decide_eq_true hxm]; rfl
                  rw [hxm] at hand2
                  obtain ⟨b, hb⟩ : ∃ b, (g x).toNat = b := ⟨_, rfl⟩
                  rw [hb] at hv hb1 HO HI3
                  clear hb ho hi HI2 hxm
                  go_wp2
                  go_round
                  case rel => exact ⟨x + 1, by omega, by go_num, by rw [HO.out]; congr 1; omega, by rw [HI3.out]; congr 1; omega⟩
                  case measure => simp [intOf]; omega
                · have HI3 : Hid (ct (fun x => decide (x &&& mask = vv) && g x) (x + 1) = i) := by unfold Hid; rw [HI2.out, decide_eq_false hxm]; rfl
                  have hq2 : (((x &&& mask : Nat) : Int) == (vv : Int)) = false := by rw [beq_eq_false_iff_ne]; omega
                  obtain ⟨z, hz⟩ : ∃ z, x &&& mask = z := ⟨_, rfl⟩
                  rw [hz] at hand2 hq2
                  obtain ⟨b, hb⟩ : ∃ b, (g x).toNat = b := ⟨_, rfl⟩
                  rw [hb] at hv hb1 HO
                  clear hb ho hi HI2 hxm hz
                  go_wp2
                  go_round
                  case rel => exact ⟨x + 1, by omega, by go_num, by rw [HO.out]; congr 1; omega, by rw [HI3.out]⟩
                  case measure => simp [intOf]; omega
              · obtain rfl : x = s.size := by omega
                have hol := Wt.ct_le g s.size
                have h5 := H3v.out
                obtain ⟨o, ho⟩ : ∃ o, ct g s.size = o := ⟨_, rfl⟩
                obtain ⟨i, hi⟩ : ∃ i, ct (fun x => decide (x &&& mask = vv) && g x) s.size = i := ⟨_, rfl⟩
                rw [ho] at h5 hol ⊢
                rw [hi] at h5 ⊢
                have he : (wrap64 ((i : Int) * 2 ^ q) == (o : Int)) = true := by
                  have h6 : (i : Int) * 2 ^ q = ((2 ^ q * i : Nat) : Int) := by push_cast; rw [Int.mul_comm]
                  rw [h6, h5, beq_iff_eq]
                  unfold wrap64
                  omega
                clear ho hi h5
                go_wp2_with (go_at_call 19; refine (HW.out _).mono ?_; rintro e w7 ⟨rfl, rfl⟩)
                go_ret
                exact ⟨rfl, HB6.out⟩
          · go_wp2_with (go_at_call 19; refine (HW.out _).mono ?_; rintro e w7 ⟨rfl, rfl⟩)
            go_ret
            exact ⟨rfl, HB5.out⟩
  · have HH := Lib.hid hl
    clear hl C0 C1
    go_enter Try.func5, Try.ntmps5
    go_wp2_with (go_at_call 13; refine (r8Long_yes _ _ _ _ _ _ _ l0 l1 HH.out).mono ?_; rintro e w0 ⟨rfl, rfl⟩)
    go_ret
    exact ⟨rfl, Below.refl _ _⟩
end Go.Proofs.Ytgpcacbjmjpdnaa
