/- The law FnSeeds. -/
import Derived.Test.YtciofobedgmbjabSB
import Derived.Test.YtciofobedgmbjabR8
namespace Go.Proofs.Ytciofobedgmbjab
open Go.RowKit Go.PlainAid
set_option maxHeartbeats 800000

/-- what the first k states show -/
def shw (a c x : Nat) : Nat → List Int
  | 0 => []
  | k + 1 => shw a c x k ++ [((itc 65536 a c x k / 256 : Nat) : Int)]
theorem shw_length (a c x : Nat) : ∀ k, (shw a c x k).length = k := by
  intro k
  induction k with
  | zero => rfl
  | succ k ih => rw [shw, List.length_append, ih]; rfl
theorem shw_get (a c x : Nat) {j : Nat} : ∀ k, j < k → (shw a c x k)[j]? = some ((itc 65536 a c x j / 256 : Nat) : Int) := by
  intro k
  induction k with
  | zero => intro h; omega
  | succ k ih =>
    intro h
    rw [shw]
    by_cases e : j < k
    · rw [List.getElem?_append_left (by rw [shw_length]; exact e)]
      exact ih e
    · obtain rfl : j = k := by omega
      rw [List.getElem?_append_right (by rw [shw_length]; omega), shw_length, Nat.sub_self]
      rfl
theorem shw_getD (a c x : Nat) {j k : Nat} (h : j < k) : (shw a c x k).getD j 0 = ((itc 65536 a c x j / 256 : Nat) : Int) := by rw [List.getD_eq_getElem?_getD, shw_get a c x k h]; rfl
theorem fit_iff (a c x : Nat) (ys : List Int) : ∀ k, fitS a c x ys k = true ↔ ∀ j, j < k → ((itc 65536 a c x j / 256 : Nat) : Int) = ys.getD j 0 := by
  intro k
  induction k with
  | zero => exact ⟨fun _ j hj => by omega, fun _ => rfl⟩
  | succ k ih =>
    rw [fitS, Bool.and_eq_true, ih, decide_eq_true_eq]
    constructor
    · rintro ⟨h1, h2⟩ j hj
      by_cases e : j = k
      · rw [e]; exact h2
      · exact h1 j (by omega)
    · intro h
      exact ⟨fun j hj => h j (by omega), h k (by omega)⟩
theorem sds_mem (a c S : Nat) (ys : List Int) : ∀ l (i : Nat) (y : Int), (sds a c ys S l)[i]? = some y → ∃ q, q < l ∧ y = ((256 * S + q : Nat) : Int) ∧ fitS a c (256 * S + q) ys ys.length = true := by
  intro l
  induction l with
  | zero => intro i y h; simp [sds] at h
  | succ l ih =>
    intro i y h
    rw [sds] at h
    by_cases e : fitS a c (256 * S + l) ys ys.length = true
    · rw [if_pos e] at h
      by_cases e2 : i < (sds a c ys S l).length
      · rw [List.getElem?_append_left e2] at h
        obtain ⟨q, q1, q2⟩ := ih i y h
        exact ⟨q, by omega, q2⟩
      · rw [List.getElem?_append_right (by omega)] at h
        have h3 := (List.getElem?_eq_some_iff.1 h).1
        have h4 : i - (sds a c ys S l).length = 0 := by simpa using h3
        rw [h4] at h
        cases h
        exact ⟨l, by omega, rfl, e⟩
    · rw [if_neg e] at h
      obtain ⟨q, q1, q2⟩ := ih i y h
      exact ⟨q, by omega, q2⟩
theorem sds_has (a c S : Nat) (ys : List Int) {q : Nat} (hf : fitS a c (256 * S + q) ys ys.length = true) : ∀ l, q < l → ∃ i : Nat, (sds a c ys S l)[i]? = some ((256 * S + q : Nat) : Int) := by
  intro l
  induction l with
  | zero => intro h; omega
  | succ l ih =>
    intro h
    rw [sds]
    by_cases e : q = l
    · subst e
      rw [if_pos hf]
      exact ⟨(sds a c ys S q).length, by rw [List.getElem?_append_right (Nat.le_refl _), Nat.sub_self]; rfl⟩
    · obtain ⟨i, hi⟩ := ih (by omega)
      split
      · exact ⟨i, by rw [List.getElem?_append_left (List.getElem?_eq_some_iff.1 hi).1]; exact hi⟩
      · exact ⟨i, hi⟩
theorem sds_full (a c S : Nat) (ys : List Int) : ∀ l, (∀ q, q < l → fitS a c (256 * S + q) ys ys.length = true) → (sds a c ys S l).length = l := by
  intro l
  induction l with
  | zero => intro _; rfl
  | succ l ih =>
    intro h
    rw [sds, if_pos (h l (by omega)), List.length_append, ih (fun q hq => h q (by omega))]
    rfl
theorem r8Has_yes (p : Option Addr) (n cap : Nat) (xs : List Int) (y : Int) (w : World) (h : RO w.heap.size w p xs) (hn : xs.length = n) (hl : n ≤ 1048576) (hm : ∃ i : Nat, xs[i]? = some y) :
    Calls Try.prog 27 #[.slice p n cap, .int .i64 y] w fun e w' => e = .returned (.bool true) ∧ w = w' := by
  have HR := Lib.hid h
  have HN := Lib.hid hn
  have HM := Lib.hid hm
  clear h hn hm
  go_enter Try.func27, Try.ntmps27
  go_wp2
  go_loop [5] (fun iv => ∃ k : Nat, k ≤ n ∧ iv = .int .i64 k ∧ Hid (∀ i, i < k → xs[i]? ≠ some y)) (fun iv => n - (intOf iv).toNat)
  case atStart => exact ⟨0, Nat.zero_le _, rfl, fun i hi => absurd hi (by omega)⟩
  case round =>
    obtain ⟨k, hk, rfl, HK⟩ := hrel
    by_cases hlt : k < n
    · obtain ⟨z, hz⟩ : ∃ z, xs[k]? = some z := ⟨_, List.getElem?_eq_getElem (by have := HN.out; omega)⟩
      obtain ⟨g, off, rfl, hg, hc⟩ := HR.out k z hz
      by_cases e : z = y
      · subst e
        have t1 : (z == z) = true := by simp
        clear hz HK
        go_wp2
        go_ret
        exact ⟨rfl, rfl⟩
      · have t1 : (z == y) = false := by simpa using e
        have HK2 : Hid (∀ i, i < k + 1 → xs[i]? ≠ some y) := fun i hi q => by
          by_cases e2 : i = k
          · subst e2
            rw [hz] at q
            cases q
            exact e rfl
          · exact HK.out i (by omega) q
        clear hz HK e
        go_wp2
        go_round
        case rel => exact ⟨k + 1, by omega, by go_num, HK2⟩
        case measure => first | (simp [intOf]; done) | (simp [intOf]; omega)
    · obtain rfl : k = n := by omega
      obtain ⟨i, hi⟩ := HM.out
      exact absurd hi (HK.out i (by have := (List.getElem?_eq_some_iff.1 hi).1; have := HN.out; omega))
set_option maxRecDepth 10000 in
theorem lawFnSeeds (a0 : Option Addr) (len0 cap0 : Nat) (a1 : Option Addr) (len1 cap1 : Nat) (w : World) (C0 : Code w w.heap.size a0 len0) (C1 : Code w w.heap.size a1 len1) (l0 : len0 ≤ 9223372036854775807) (l1 : len1 ≤ 9223372036854775807) :
    Calls Try.prog 6 #[.slice a0 len0 cap0, .slice a1 len1 cap1] w fun e w' => e = .returned (.bool true) ∧ Below w.heap.size w w' := by
  by_cases hl : len0 ≤ 48 ∧ len1 ≤ 48
  · obtain ⟨h0, h1⟩ := hl
    obtain ⟨i0, hi, hz0, hz1, hz2⟩ := info_parts Try.info2
    have HC0 := Lib.hid C0
    have HC1 := Lib.hid C1
    clear C0 C1
    go_enter Try.func6, Try.ntmps6
    go_wp2_with fail
    refine (r8Long_no _ _ _ _ _ _ _ h0 h1).mono ?_
    rintro e w1 ⟨rfl, rfl⟩
    go_wp2_with fail
    refine (r8Number_any a0 len0 cap0 65536 w HC0.out (by omega) (by omega) (by omega)).mono ?_
    rintro e w1 ⟨a, rfl, ha, hb1⟩
    have B1 := Lib.hid hb1
    clear hb1
    go_wp2_with fail
    refine (r8Number_any a1 len1 cap1 65536 w1 ((HC1.out.below B1.out).mono B1.out.size) (by omega) (by omega) (by omega)).mono ?_
    rintro e w2 ⟨c, rfl, hc, hb2⟩
    have B2 := Lib.hid (B1.out.trans (hb2.mono B1.out.size))
    clear hb2 B1
    go_wp2_with fail
    refine (r8At_any a0 len0 cap0 2 256 w.heap.size _ (HC0.out.below B2.out) (by omega) (by omega) (by omega) (by omega)).mono ?_
    rintro e w3 ⟨v2, rfl, hv2, hm⟩
    have B3 : Hid (Below w.heap.size w w3) := by obtain ⟨m, rfl⟩ := hm; exact below_drewN B2.out m
    clear B2 hm
    go_wp2_with fail
    refine (r8At_any a0 len0 cap0 3 256 w.heap.size _ (HC0.out.below B3.out) (by omega) (by omega) (by omega) (by omega)).mono ?_
    rintro e w4 ⟨v3, rfl, hv3, hm⟩
    have B4 : Hid (Below w.heap.size w w4) := by obtain ⟨m, rfl⟩ := hm; exact below_drewN B3.out m
    clear B3 hm
    obtain ⟨X, hX⟩ : ∃ X, 256 * v2 + v3 = X := ⟨_, rfl⟩
    have hXI : 256 * (v2 : Int) + (v3 : Int) = (X : Int) := by omega
    have HX : Hid (v2 < 256 ∧ v3 < 256 ∧ 256 * v2 + v3 = X) := ⟨by omega, by omega, hX⟩
    have hX2 : X ≤ 65535 := by omega
    clear hX
    go_wp2_with fail
    refine (r8At_any a1 len1 cap1 2 4 w.heap.size _ (HC1.out.below ((B4.out.alloc B4.out.size _))) (by omega) (by omega) (by omega) (by omega)).mono ?_
    rintro e w5 ⟨v4, rfl, hv4, hm⟩
    obtain ⟨N, hN⟩ : ∃ N, 2 + v4 = N := ⟨_, rfl⟩
    have hNI : 2 + (v4 : Int) = (N : Int) := by omega
    have hN2 : 2 ≤ N ∧ N ≤ 5 := by omega
    have HJ0 : Hid (Rw w.heap.size w4.heap.size 0 0 (shw a c X 0) w5 ∧ Below w.heap.size w w5) := by
      obtain ⟨m, rfl⟩ := hm
      exact ⟨((Rw.empty w4).base B4.out.size).drewN m, below_drewN (B4.out.alloc B4.out.size _) m⟩
    clear hN hm B4 HC0 HC1
    have HP : Hid (∀ x : Nat, x ≤ 65535 → ∃ q : Nat, a * x = q ∧ q ≤ 4294836225) := fun x hx => ⟨_, rfl, by have := Nat.mul_le_mul (show a ≤ 65535 by omega) hx; omega⟩
    generalize w4.heap.size = g0 at HJ0 ⊢
    go_wp2
    clear hXI hNI
    go_loopw [8, 9, 11] (fun sv nv kv wr => ∃ k x g2 cap2 : Nat, k ≤ N ∧ sv = .slice (some ⟨g2, 0, none⟩) k cap2 ∧ nv = .int .i64 x ∧ kv = .int .i64 k ∧ x ≤ 65535 ∧ Hid (x = itc 65536 a c X k) ∧ Hid (Rw w.heap.size g2 k cap2 (shw a c X k) wr ∧ Below w.heap.size w wr)) (fun _ _ kv _ => N - (intOf kv).toNat)
    case atStart => exact ⟨0, X, g0, 0, by omega, rfl, rfl, rfl, hX2, rfl, HJ0⟩
    case round =>
      obtain ⟨k, x, g2, cap2, hk, rfl, rfl, rfl, hx, HI, HJ⟩ := hrel
      clear HJ0
      have hzz := HJ.out.2.size
      by_cases hlt : k < N
      · have hltI : (k : Int) < (N : Int) := by omega
        obtain ⟨d, hd⟩ : ∃ d, x / 256 = d := ⟨_, rfl⟩
        have hdI : (x : Int) / 256 = (d : Int) := by omega
        have HD : Hid ((d : Int) = ((itc 65536 a c X k / 256 : Nat) : Int)) := by unfold Hid; rw [← HI.out, hd]
        obtain ⟨m, hm, hm2⟩ := HP.out x hx
        have E : (a : Int) * (x : Int) = (m : Int) := by rw [← hm]; simp
        have HV : Hid (((m : Int) + c) % 65536 = (nx 65536 a c x : Nat)) := by unfold Hid nx; rw [hm]; simp
        have HI2 : Hid (nx 65536 a c x = itc 65536 a c X (k + 1)) := by unfold Hid; rw [itc_succ, ← HI.out]
        have hx2 : nx 65536 a c x ≤ 65535 := by have := nx_lt (m := 65536) (by omega) a c x; omega
        generalize nx 65536 a c x = z at HV HI2 hx2
        clear hd hm HI
        go_wp2_with (at_builtin; refine wpList_append_own_at _ rfl _ _ 31 rfl w.heap.size 2 i0 (.int .i64 0) 1 8 Try.underlying31 hi hz0 hz1 hz2 rfl (by decide) _ _ _ rfl (World.ownsRow.alloc (HJ.out.1) _) ⟨wr.heap.size, 0, none⟩ 1 1 [.int .i64 d] rfl rfl (cell_one_new _ _ _) (by intro u hu; simp at hu; subst hu; rfl) (by unfold maxLen; omega) (by omega) (by first | (simp; done) | (simp; omega)) ?_; intro v1 w1 hown1 hgrow1 hnil1 hat1)
        obtain ⟨g1, cap1, rfl, hr1, hg1, hgr⟩ := Rw.app HJ.out.1 hown1 hgrow1 hat1
        have HJ1 : Hid (Rw w.heap.size g1 (k + 1) cap1 (shw a c X (k + 1)) w1 ∧ Below w.heap.size w w1) := by
          unfold Hid
          rw [shw, ← HD.out]
          exact ⟨hr1, HJ.out.2.grown hgr hzz (fun q e => by cases e; exact HJ.out.1.le)⟩
        clear hown1 hgrow1 hnil1 hat1 hr1 hg1 hgr HJ hdI
        go_wp2
        go_roundw
        case rel => exact ⟨k + 1, z, g1, cap1, by omega, by first | rfl | go_num, by rw [HV.out], by go_num, hx2, HI2, HJ1⟩
        case measure => first | (simp [intOf]; done) | (simp [intOf]; omega)
      · obtain rfl : k = N := by omega
        have hXS : X = 256 * v2 + v3 := HX.out.2.2.symm
        have hv2n : v2 < 256 := HX.out.1
        have hrow := HJ.out.1
        have hlen : (shw a c X k).length = k := shw_length a c X k
        have hS : (shw a c X k)[0]? = some (v2 : Int) := by
          rw [shw_get a c X k (by omega)]
          show some ((X / 256 : Nat) : Int) = _
          rw [show X / 256 = v2 by have := HX.out.2.1; omega]
        have hy : ∀ (i : Nat) (y : Int), (shw a c X k)[i]? = some y → 0 ≤ y ∧ y ≤ 255 := fun i y h => by
          have h2 := (List.getElem?_eq_some_iff.1 h).1
          rw [shw_get a c X k (by omega)] at h
          cases h
          have := itc_lt (m := 65536) (a := a) (c := c) (x := X) (by omega) i
          omega
        have HS1 := Lib.hid (seeds_yes a c (some ⟨g2, 0, none⟩) k cap2 (shw a c X k) wr hrow.ro hlen (by omega) (by omega) (by omega) (by omega) hy v2 hS)
        have hcap : k ≤ cap2 := by
          rcases hrow.2 with ⟨h, _⟩ | ⟨g, cap, cur, h, _, _, h3, _⟩
          · cases h
          · cases h
            exact h3
        have hcap1 : (1 : Int) ≤ (cap2 : Int) := by omega
        have HF : Hid (∀ j, j < k → (shw a c X k).getD j 0 = ((itc 65536 a c X j / 256 : Nat) : Int)) := fun j hj => shw_getD a c X hj
        have HIN : Hid (∃ i : Nat, (sds a c (shw a c X k) v2 256)[i]? = some (X : Int)) := by
          have h := sds_has a c v2 (shw a c X k) (q := v3) (by
            rw [hlen, fit_iff, ← hXS]
            intro j hj
            exact (shw_getD a c X hj).symm) 256 HX.out.2.1
          rwa [← hXS] at h
        have HMEM : Hid (∀ (i : Nat) (y : Int), (sds a c (shw a c X k) v2 256)[i]? = some y → ∃ Y : Nat, y = (Y : Int) ∧ Y ≤ 65535 ∧ ∀ j, j < k → ((itc 65536 a c Y j / 256 : Nat) : Int) = (shw a c X k).getD j 0) := fun i y h => by
          obtain ⟨q, q1, q2, q3⟩ := sds_mem a c v2 _ 256 i y h
          rw [hlen, fit_iff] at q3
          exact ⟨256 * v2 + q, q2, by omega, q3⟩
        have h256 : (sds a c [(v2 : Int)] v2 256).length = 256 := sds_full a c v2 _ 256 fun q hq => by
          rw [fit_iff]
          intro j hj
          obtain rfl : j = 0 := by simpa using hj
          show (((256 * v2 + q) / 256 : Nat) : Int) = (v2 : Int)
          omega
        have hL256 : (sds a c (shw a c X k) v2 256).length ≤ 256 := sds_length _ _ _ _ _
        have HSE : Hid (shw a c X k = shw a c X k) := rfl
        generalize shw a c X k = ys at hrow hlen hS HS1 HF HIN HMEM hL256 HJ HSE
        have HY0 : Hid (ys[0]? = some (v2 : Int)) := hS
        clear hS hy hXS hlen HI
        go_wp2_with fail
        refine HS1.out.mono ?_
        rintro e w6 ⟨_, rfl, hsl, hb⟩
        obtain ⟨ga, ca, rfl, hro⟩ := hsl.ro
        have hrow6 := hrow.far hb
        have HB6 := Lib.hid (HJ.out.2.trans (hb.mono hzz))
        have hro1 : RO w6.heap.size w6 (some ⟨g2, 0, none⟩) [(v2 : Int)] := fun i y hy => by
          have hi1 := (List.getElem?_eq_some_iff.1 hy).1
          obtain rfl : i = 0 := by simpa using hi1
          cases hy
          have h := hrow6.cell (i := 0) (by omega)
          rw [List.getD_eq_getElem?_getD, HY0.out] at h
          exact ⟨g2, 0, rfl, hrow6.lt, h⟩
        have HS2 := Lib.hid (seeds_yes a c (some ⟨g2, 0, none⟩) 1 cap2 [(v2 : Int)] w6 hro1 rfl (by omega) (by omega) (by omega) (by omega) (fun i y hy => by
          have hi1 := (List.getElem?_eq_some_iff.1 hy).1
          obtain rfl : i = 0 := by simpa using hi1
          cases hy
          omega) v2 rfl)
        obtain ⟨ls, hls⟩ : ∃ ls, sds a c ys v2 256 = ls := ⟨_, rfl⟩
        obtain ⟨L, hL⟩ : ∃ L, ls.length = L := ⟨_, rfl⟩
        rw [hls] at hro hL256 HIN HMEM hsl ⊢
        rw [hL] at hL256 ⊢
        have HR6 := Lib.hid hro
        have HW6 := Lib.hid hrow6
        have HL := Lib.hid hL
        have z6 := hsl
        clear hrow hrow6 hro hro1 hsl hb hzz HS1 HJ hls hL z6
        go_wp2_with fail
        refine HS2.out.mono ?_
        rintro e w7 ⟨_, rfl, hsl, hb⟩
        obtain ⟨gb, cb, rfl, _⟩ := hsl.ro
        rw [h256]
        have HR7 : Hid (RO w7.heap.size w7 ga ls) := (HR6.out.below hb).up hb.size
        have HW7 := Lib.hid (HW6.out.far hb)
        have HB7 := Lib.hid (HB6.out.trans (hb.mono HB6.out.size))
        have HH : Hid (Calls Try.prog 27 #[.slice ga L ca, .int .i64 X] w7 fun e w' => e = .returned (.bool true) ∧ w7 = w') := r8Has_yes ga L ca ls X w7 HR7.out HL.out (by omega) HIN.out
        have tL : decide ((256 : Int) < (L : Int)) = false := decide_eq_false (by omega)
        clear hsl hb HS2 HR6 HW6 HB6 HIN h256
        go_wp2_with (go_at_call 27; with_reducible refine HH.out.mono ?_; rintro e w8 ⟨rfl, rfl⟩)
        clear HH tL
        go_loopw [16] (fun iv wr => ∃ i : Nat, i ≤ L ∧ iv = .int .i64 i ∧ w7 = wr) (fun iv _ => L - (intOf iv).toNat)
        case atStart => exact ⟨0, Nat.zero_le _, rfl, rfl⟩
        case round =>
          obtain ⟨i, hi, rfl, rfl⟩ := hrel
          by_cases hil : i < L
          · obtain ⟨y, hy⟩ : ∃ y, ls[i]? = some y := ⟨_, List.getElem?_eq_getElem (by have := HL.out; omega)⟩
            obtain ⟨g, off, rfl, hg, hc0⟩ := HR7.out i y hy
            obtain ⟨Y, rfl, hY, hfit⟩ := HMEM.out i y hy
            have HFT := Lib.hid hfit
            have t0 : decide ((Y : Int) < 0) = false := decide_eq_false (by omega)
            have t1 : decide ((65535 : Int) < (Y : Int)) = false := decide_eq_false (by omega)
            clear hfit hy
            go_wp2
            clear hc0 t0 t1
            go_loopw [9, 17] (fun nv jv wr => ∃ j x : Nat, j ≤ k ∧ nv = .int .i64 x ∧ jv = .int .i64 j ∧ x ≤ 65535 ∧ Hid (x = itc 65536 a c Y j) ∧ w7 = wr) (fun _ jv _ => k - (intOf jv).toNat)
            case atStart => exact ⟨0, Y, by omega, rfl, rfl, hY, rfl, rfl⟩
            case round =>
              obtain ⟨j, x, hj, rfl, rfl, hx, HI, rfl⟩ := hrel
              by_cases hjk : j < k
              · have hjI : (j : Int) < (k : Int) := by omega
                obtain ⟨d, hd⟩ : ∃ d, x / 256 = d := ⟨_, rfl⟩
                have hdI : (x : Int) / 256 = (d : Int) := by omega
                have hcj := HW7.out.cell (i := j) hjk
                rw [← HFT.out j hjk, ← HI.out, hd] at hcj
                have t1 : ((d : Int) != (d : Int)) = false := by simp
                obtain ⟨m, hm, hm2⟩ := HP.out x hx
                have E : (a : Int) * (x : Int) = (m : Int) := by rw [← hm]; simp
                have HV : Hid (((m : Int) + c) % 65536 = (nx 65536 a c x : Nat)) := by unfold Hid nx; rw [hm]; simp
                have HI2 : Hid (nx 65536 a c x = itc 65536 a c Y (j + 1)) := by unfold Hid; rw [itc_succ, ← HI.out]
                have hx2 : nx 65536 a c x ≤ 65535 := by have := nx_lt (m := 65536) (by omega) a c x; omega
                generalize nx 65536 a c x = z at HV HI2 hx2
                clear hd hm HI
                go_wp2
                go_roundw
                case rel => exact ⟨j + 1, z, by omega, by rw [HV.out], by go_num, hx2, HI2, by first | trivial | rfl⟩
                case measure => first | (simp [intOf]; done) | (simp [intOf]; omega)
              · obtain rfl : j = k := by omega
                go_wp2
                go_roundw
                case rel => exact ⟨i + 1, by omega, by go_num, by first | trivial | rfl⟩
                case measure => first | (simp [intOf]; done) | (simp [intOf]; omega)
          · obtain rfl : i = L := by omega
            go_wp2
            go_ret
            exact ⟨rfl, HB7.out⟩
  · go_enter Try.func6, Try.ntmps6
    go_wp2_with fail
    refine (r8Long_yes _ _ _ _ _ _ _ l0 l1 hl).mono ?_
    rintro e w1 ⟨rfl, rfl⟩
    go_wp2
    go_ret
    exact ⟨rfl, Below.refl _ _⟩
end Go.Proofs.Ytciofobedgmbjab
