/- Ranks of orders and their rising sequences: impl.RankOrder, impl.RisingOf, the spec's, the laws. -/
import Derived.Test.YtjbojamhnapkpabS7P
import Derived.Test.YtjbojamhnapkpabS7N
namespace Go.Proofs.Ytjbojamhnapkpab
open Go.RowKit Go.PlainAid
set_option maxHeartbeats 800000

theorem slice_from (T : TypeId) (hu : ∀ W, (underlying T).run Try.prog W = .ok (.slice 2) W) (a : Option Addr) (n c j top : Nat) (xs : List Int) (w : World) (h : RO top w a xs) (hn : xs.length = n) (hj : j ≤ n) (hc : n ≤ c) :
    ∃ a2, (∀ W, (Instr.slice T (.slice a n c) (some (.int .i64 (j : Int))) none none).run Try.prog W = .ok (.slice a2 (n - j) (c - j)) W) ∧ RO top w a2 (xs.drop j) := by
  have k1 : (0 : Int) ≤ (j : Int) := by omega
  by_cases hd : c = j
  · obtain rfl : n = j := by omega
    refine ⟨a, fun W => ?_, fun i x hx => ?_⟩
    · simp [go_sem, Instr.slice, Instr.sliceBounds, Instr.sliceBound, hd, hu]
    · rw [List.drop_of_length_le (by omega)] at hx
      simp at hx
  · refine ⟨a.map (·.add (j * 1)), fun W => ?_, fun i x hx => ?_⟩
    · simp [go_sem, Instr.slice, Instr.sliceBounds, Instr.sliceBound, hd, hu, k1, hj]
    · rw [List.getElem?_drop] at hx
      obtain ⟨g, off, rfl, hg, hcc⟩ := h (j + i) x hx
      refine ⟨g, off + j, ?_, hg, by rw [Nat.add_assoc]; exact hcc⟩
      simp [Addr.add]
theorem fac_le : ∀ i, i ≤ 12 → fac i ≤ 479001600 := by decide +kernel
theorem all_any (n : Nat) (w : World) (hn : n ≤ 12) :
    Calls Try.prog 61 #[.int .i64 n] w fun e w' => e = .returned (.int .i64 (fac n : Nat)) ∧ w = w' := by
  go_enter Try.func61, Try.ntmps61
  go_wp2
  go_loop [3, 4] (fun pv iv => ∃ j : Nat, (j + 1 ≤ n ∨ j = 0) ∧ iv = .int .i64 ((j : Int) + 2) ∧ pv = .int .i64 (fac (j + 1) : Nat)) (fun _ iv => n + 1 - (intOf iv).toNat)
  case atStart => exact ⟨0, .inr rfl, rfl, rfl⟩
  case round =>
    obtain ⟨j, hj, rfl, rfl⟩ := hrel
    by_cases hlt : j + 2 ≤ n
    · have HF : Hid (fac (j + 2) = (j + 2) * fac (j + 1)) := rfl
      have b1 := fac_le (j + 2) (by omega)
      have b2 := fac_le (j + 1) (by omega)
      obtain ⟨P, hP⟩ : ∃ P, fac (j + 1) = P := ⟨_, rfl⟩
      obtain ⟨Q, hQ⟩ : ∃ Q, fac (j + 2) = Q := ⟨_, rfl⟩
      have hm : (P : Int) * ((j : Int) + 2) = (Q : Int) := by
        have := HF.out
        rw [hP, hQ] at this
        rw [this, Nat.mul_comm]
        push_cast
        rfl
      have HQ := Lib.hid hQ
      rw [hP] at b2 ⊢
      rw [hQ] at b1
      have hlt2 : ((j : Int) + 2 ≤ (n : Int)) := by omega
      clear hP hQ HF
      go_wp2
      go_round
      case rel => exact ⟨j + 1, by omega, by go_num, by rw [HQ.out]⟩
      case measure => first | (simp [intOf]; done) | (simp [intOf]; omega)
    · have hf : fac (j + 1) = fac n := by
        rcases hj with hj | rfl
        · rw [show j + 1 = n by omega]
        · have : n = 0 ∨ n = 1 := by omega
          rcases this with rfl | rfl <;> rfl
      have hlt2 : ¬ ((j : Int) + 2 ≤ (n : Int)) := by omega
      rw [hf]
      clear hf
      go_wp2
      go_ret
      exact ⟨rfl, rfl⟩
theorem fact_any (n : Nat) (w : World) (hn : n ≤ 12) :
    Calls Try.prog 64 #[.int .i64 n] w fun e w' => e = .returned (.int .i64 (fac n : Nat)) ∧ w = w' := by
  go_enter Try.func64, Try.ntmps64
  go_wp2
  go_loop [3, 4] (fun pv iv => ∃ j : Nat, (j + 1 ≤ n ∨ j = 0) ∧ iv = .int .i64 ((j : Int) + 2) ∧ pv = .int .i64 (fac (j + 1) : Nat)) (fun _ iv => n + 1 - (intOf iv).toNat)
  case atStart => exact ⟨0, .inr rfl, rfl, rfl⟩
  case round =>
    obtain ⟨j, hj, rfl, rfl⟩ := hrel
    by_cases hlt : j + 2 ≤ n
    · have HF : Hid (fac (j + 2) = (j + 2) * fac (j + 1)) := rfl
      have b1 := fac_le (j + 2) (by omega)
      have b2 := fac_le (j + 1) (by omega)
      obtain ⟨P, hP⟩ : ∃ P, fac (j + 1) = P := ⟨_, rfl⟩
      obtain ⟨Q, hQ⟩ : ∃ Q, fac (j + 2) = Q := ⟨_, rfl⟩
      have hm : (P : Int) * ((j : Int) + 2) = (Q : Int) := by
        have := HF.out
        rw [hP, hQ] at this
        rw [this, Nat.mul_comm]
        push_cast
        rfl
      have HQ := Lib.hid hQ
      rw [hP] at b2 ⊢
      rw [hQ] at b1
      have hlt2 : ((j : Int) + 2 ≤ (n : Int)) := by omega
      clear hP hQ HF
      go_wp2
      go_round
      case rel => exact ⟨j + 1, by omega, by go_num, by rw [HQ.out]⟩
      case measure => first | (simp [intOf]; done) | (simp [intOf]; omega)
    · have hf : fac (j + 1) = fac n := by
        rcases hj with hj | rfl
        · rw [show j + 1 = n by omega]
        · have : n = 0 ∨ n = 1 := by omega
          rcases this with rfl | rfl <;> rfl
      have hlt2 : ¬ ((j : Int) + 2 ≤ (n : Int)) := by omega
      rw [hf]
      clear hf
      go_wp2
      go_ret
      exact ⟨rfl, rfl⟩
theorem lessAt_le (xs : List Int) (i : Nat) : ∀ m, lessAt xs i m ≤ m := by
  intro m
  induction m with
  | zero => exact Nat.le_refl _
  | succ m ih => simp only [lessAt]; split <;> omega
theorem rkH_le (xs : List Int) (hl : xs.length ≤ 12) : ∀ k, rkH xs k + 1 ≤ 13 ^ k := by
  intro k
  induction k with
  | zero => simp [rkH]
  | succ k ih =>
    have h1 := lessAt_le xs k (xs.length - 1 - k)
    have h2 : rkH xs k * (xs.length - k) ≤ rkH xs k * 12 := Nat.mul_le_mul_left _ (by omega)
    have h3 := Nat.one_le_two_pow (n := k)
    simp only [rkH]
    rw [Nat.pow_succ]
    omega
theorem rkH_small (xs : List Int) (hl : xs.length ≤ 12) {k : Nat} (hk : k ≤ 12) : rkH xs k ≤ 23298085122481 := by
  have h1 := rkH_le xs hl k
  have h2 : 13 ^ k ≤ 13 ^ 12 := Nat.pow_le_pow_right (by omega) hk
  have h3 : 13 ^ 12 = 23298085122481 := by decide
  omega
theorem getD_drop {xs : List Int} {k j : Nat} {x : Int} (h : (xs.drop k)[j]? = some x) : xs.getD (k + j) 0 = x := by
  rw [List.getElem?_drop] at h
  rw [List.getD_eq_getElem?_getD, h]
  rfl
theorem rank_any (a : Option Addr) (n cap : Nat) (xs : List Int) (w : World) (h : RO w.heap.size w a xs) (hn : xs.length = n) (hcap : n ≤ cap) (h12 : n ≤ 12) :
    Calls Try.prog 66 #[.slice a n cap] w fun e w' => e = .returned (.int .i64 (rkH xs n : Nat)) ∧ w = w' := by
  have HN := Lib.hid hn
  have HR := Lib.hid h
  have HL : Hid (∀ k, k ≤ 12 → rkH xs k ≤ 23298085122481) := fun k hk => rkH_small xs (by omega) hk
  clear h hn
  go_enter Try.func66, Try.ntmps66
  go_wp2
  go_loop [3, 4, 5, 7, 10] (fun rv _ _ _ iv => ∃ k : Nat, k ≤ n ∧ iv = .int .i64 k ∧ rv = .int .i64 (rkH xs k : Nat)) (fun _ _ _ _ iv => n - (intOf iv).toNat)
  case atStart => exact ⟨0, Nat.zero_le _, rfl, rfl⟩
  case round =>
    obtain ⟨k, hk, rfl, rfl⟩ := hrel
    by_cases hlt : k < n
    · obtain ⟨x, hx⟩ : ∃ x, xs[k]? = some x := ⟨_, List.getElem?_eq_getElem (by have := HN.out; omega)⟩
      obtain ⟨a2, K1, K2⟩ := slice_from 50 (fun W => by simp [go_sem]) a n cap (k + 1) w.heap.size xs w HR.out HN.out (by omega) hcap
      have hxd : xs.getD k 0 = x := by rw [List.getD_eq_getElem?_getD, hx]; rfl
      have HE : Hid (rkH xs (k + 1) = rkH xs k * (n - k) + lessAt xs k (n - 1 - k)) := by
        unfold Hid
        rw [rkH, HN.out]
      obtain ⟨g, off, rfl, hg, hc⟩ := HR.out k x hx
      have b1 := HL.out k (by omega)
      obtain ⟨R, hR⟩ : ∃ R, rkH xs k = R := ⟨_, rfl⟩
      obtain ⟨d, hd⟩ : ∃ d, n - k = d := ⟨_, rfl⟩
      obtain ⟨m, hm⟩ : ∃ m, n - (k + 1) = m := ⟨_, rfl⟩
      have hm2 : n - 1 - k = m := by omega
      obtain ⟨P, hP⟩ : ∃ P, R * d = P := ⟨_, rfl⟩
      rw [hR, hd, hm2, hP] at HE
      rw [hR] at b1 ⊢
      rw [hm] at K1
      have hPb : P ≤ 23298085122481 * 12 := by rw [← hP]; exact Nat.mul_le_mul b1 (by omega)
      have hd2 : (n : Int) - (k : Int) = (d : Int) := by omega
      have hP2 : (R : Int) * (d : Int) = (P : Int) := by rw [← hP]; push_cast; rfl
      have K1' : ∀ W, (Instr.slice 50 (.slice (some ⟨g, off, none⟩) n cap) (some (.int .i64 ((k : Int) + 1))) none none).run Try.prog W = .ok (.slice a2 m (cap - (k + 1))) W := fun W => K1 W
      have HK2 := Lib.hid K2
      have HM : Hid ((xs.drop (k + 1)).length = m) := by unfold Hid; rw [List.length_drop, HN.out]; exact hm
      have HX := Lib.hid hxd
      have hm3 : m ≤ 12 := by omega
      clear hx hR hd hm hm2 hP K1 K2 hxd b1
      go_wp2_with fail
      go_loop [3, 7, 26] (fun rv _ iv => ∃ j : Nat, j ≤ m ∧ iv = .int .i64 j ∧ rv = .int .i64 ((P : Int) + (lessAt xs k j : Nat))) (fun _ _ iv => m - (intOf iv).toNat)
      case atStart => exact ⟨0, Nat.zero_le _, rfl, by simp [lessAt]⟩
      case round =>
        obtain ⟨j, hj, rfl, rfl⟩ := hrel
        have hlj := lessAt_le xs k j
        by_cases hlt2 : j < m
        · obtain ⟨y, hy⟩ : ∃ y, (xs.drop (k + 1))[j]? = some y := ⟨_, List.getElem?_eq_getElem (by have := HM.out; omega)⟩
          obtain ⟨g2, off2, rfl, hg2, hc2⟩ := HK2.out j y hy
          have HS : Hid (lessAt xs k (j + 1) = lessAt xs k j + if y < x then 1 else 0) := by
            unfold Hid
            rw [lessAt, getD_drop hy, HX.out]
          obtain ⟨L, hL⟩ : ∃ L, lessAt xs k j = L := ⟨_, rfl⟩
          rw [hL] at HS hlj ⊢
          clear hy hL
          by_cases hyx : y < x
          · rw [if_pos hyx] at HS
            go_wp2
            go_round
            case rel => exact ⟨j + 1, by omega, by go_num, by rw [HS.out]; go_num⟩
            case measure => first | (simp [intOf]; done) | (simp [intOf]; omega)
          · rw [if_neg hyx] at HS
            go_wp2
            go_round
            case rel => exact ⟨j + 1, by omega, by go_num, by rw [HS.out]; rfl⟩
            case measure => first | (simp [intOf]; done) | (simp [intOf]; omega)
        · obtain rfl : j = m := by omega
          go_wp2
          go_round
          case rel => exact ⟨k + 1, by omega, by go_num, by rw [HE.out]; push_cast; rfl⟩
          case measure => first | (simp [intOf]; done) | (simp [intOf]; omega)
    · obtain rfl : k = n := by omega
      go_wp2
      go_ret
      exact ⟨rfl, rfl⟩
theorem rkS_small (xs : List Int) (hl : xs.length ≤ 12) : ∀ k, rkS xs k ≤ k * 5748019200 := by
  intro k
  induction k with
  | zero => exact Nat.le_refl _
  | succ k ih =>
    have h1 := lessAt_le xs k (xs.length - 1 - k)
    have h2 := fac_le (xs.length - 1 - k) (by omega)
    have h3 : lessAt xs k (xs.length - 1 - k) * fac (xs.length - 1 - k) ≤ 12 * 479001600 := Nat.mul_le_mul (by omega) h2
    simp only [rkS]
    omega
set_option maxRecDepth 10000 in
theorem l07Rank_any (a : Option Addr) (n cap : Nat) (xs : List Int) (w : World) (h : RO w.heap.size w a xs) (hn : xs.length = n) (h12 : n ≤ 12) :
    Calls Try.prog 62 #[.slice a n cap] w fun e w' => e = .returned (.int .i64 (rkS xs n : Nat)) ∧ ∃ m, w' = w.drewN m := by
  have HN := Lib.hid hn
  have HR := Lib.hid h
  have HL2 : Hid (∀ k, rkS xs k ≤ k * 5748019200) := rkS_small xs (by omega)
  have HF : Hid (∀ (i : Nat) (W : World), i ≤ 12 → Calls Try.prog 61 #[.int .i64 i] W fun e w' => e = .returned (.int .i64 (fac i : Nat)) ∧ W = w') := fun i W hi => all_any i W hi
  clear h hn
  go_enter Try.func62, Try.ntmps62
  go_wp2
  go_loopw [4, 5, 6, 7] (fun rv iv _ _ wr => ∃ k m : Nat, k ≤ n ∧ iv = .int .i64 k ∧ rv = .int .i64 (rkS xs k : Nat) ∧ Hid (wr = w.drewN m)) (fun _ iv _ _ _ => n - (intOf iv).toNat)
  case atStart => exact ⟨0, 0, Nat.zero_le _, rfl, rfl, rfl⟩
  case round =>
    obtain ⟨k, m, hk, rfl, rfl, HW⟩ := hrel
    have b0 := HL2.out k
    by_cases hlt : k < n
    · obtain ⟨x, hx⟩ : ∃ x, xs[k]? = some x := ⟨_, List.getElem?_eq_getElem (by have := HN.out; omega)⟩
      have hxd : xs.getD k 0 = x := by rw [List.getD_eq_getElem?_getD, hx]; rfl
      have HE : Hid (rkS xs (k + 1) = rkS xs k + lessAt xs k (n - 1 - k) * fac (n - 1 - k)) := by
        unfold Hid
        rw [rkS, HN.out]
      obtain ⟨g, off, rfl, hg, hc⟩ := HR.out k x hx
      obtain ⟨R, hR⟩ : ∃ R, rkS xs k = R := ⟨_, rfl⟩
      obtain ⟨d, hd⟩ : ∃ d, n - 1 - k = d := ⟨_, rfl⟩
      rw [hR, hd] at HE
      rw [hR] at b0 ⊢
      have hd2 : (n : Int) - 1 - (k : Int) = (d : Int) := by omega
      have hb1 : R ≤ 68976230400 := Nat.le_trans b0 (Nat.mul_le_mul_right 5748019200 (show k ≤ 12 by omega))
      have hkd : k + 1 + d = n := by omega
      have HX := Lib.hid hxd
      obtain ⟨W0, hW0⟩ : ∃ W0, W0 = wr := ⟨_, rfl⟩
      rw [← hW0] at HW ⊢
      have HC := Lib.hid hc
      clear hx hR hd hxd hW0 b0 hc
      go_wp2_with fail
      go_loopw [6, 7] (fun lv jv wr => ∃ j m2 : Nat, j ≤ d ∧ jv = .int .i64 ((k : Int) + 1 + j) ∧ lv = .int .i64 (lessAt xs k j : Nat) ∧ Hid (wr = w.drewN m2)) (fun _ jv _ => n - (intOf jv).toNat)
      case atStart => exact ⟨0, m, Nat.zero_le _, by simp, by simp [lessAt], HW⟩
      case round =>
        obtain ⟨j, m2, hj, rfl, rfl, HW2⟩ := hrel
        have hlj := lessAt_le xs k j
        by_cases hlt2 : j < d
        · obtain ⟨y, hy⟩ : ∃ y, xs[k + 1 + j]? = some y := ⟨_, List.getElem?_eq_getElem (by have := HN.out; omega)⟩
          obtain ⟨g2, off2, he, hg2, hc2⟩ := HR.out (k + 1 + j) y hy
          cases he
          have cx : wr.cell? ⟨g, off + k, none⟩ = some (.int .i64 x) := by rw [HW2.out]; exact HC.out
          have cy : wr.cell? ⟨g, off + (k + 1 + j), none⟩ = some (.int .i64 y) := by rw [HW2.out]; exact hc2
          have HS : Hid (lessAt xs k (j + 1) = lessAt xs k j + if y < x then 1 else 0) := by
            unfold Hid
            rw [lessAt, HX.out, List.getD_eq_getElem?_getD, hy]
            rfl
          obtain ⟨L, hL⟩ : ∃ L, lessAt xs k j = L := ⟨_, rfl⟩
          rw [hL] at HS hlj ⊢
          obtain ⟨J, hJ⟩ : ∃ J, k + 1 + j = J := ⟨_, rfl⟩
          have hJ2 : (k : Int) + 1 + j = (J : Int) := by omega
          have HJ : Hid ((J : Int) + 1 = (k : Int) + 1 + (j + 1 : Nat)) := by unfold Hid; omega
          rw [hJ] at cy
          rw [hJ2]
          have hJn : J < n := by omega
          clear hy hL hJ hJ2 hc2
          by_cases hyx : y < x
          · rw [if_pos hyx] at HS
            go_wp2_with fail
            go_quiet (fail)
            go_wp2
            go_roundw
            case rel => exact ⟨j + 1, m2 + nq, by omega, by rw [HJ.out], by rw [HS.out]; go_num, by unfold Hid; rw [HW2.out]; exact drewN_twoG w m2 nq⟩
            case measure => first | (simp [intOf]; done) | (simp [intOf]; omega)
          · rw [if_neg hyx] at HS
            go_wp2_with fail
            go_quiet (fail)
            go_wp2
            go_roundw
            case rel => exact ⟨j + 1, m2 + nq, by omega, by rw [HJ.out], by rw [HS.out]; rfl, by unfold Hid; rw [HW2.out]; exact drewN_twoG w m2 nq⟩
            case measure => first | (simp [intOf]; done) | (simp [intOf]; omega)
        · obtain rfl : j = d := by omega
          have hf := fac_le j (by omega)
          obtain ⟨F, hF⟩ : ∃ F, fac j = F := ⟨_, rfl⟩
          have HFF : Hid (∀ W : World, Calls Try.prog 61 #[.int .i64 j] W fun e w' => e = .returned (.int .i64 F) ∧ W = w') := fun W => by
            have := HF.out j W (by omega)
            rwa [hF] at this
          obtain ⟨L, hL⟩ : ∃ L, lessAt xs k j = L := ⟨_, rfl⟩
          obtain ⟨P, hP⟩ : ∃ P, L * F = P := ⟨_, rfl⟩
          rw [hF] at hf
          rw [hL] at hlj ⊢
          rw [hL, hF, hP] at HE
          have hPb : P ≤ 5748019200 := by rw [← hP]; exact Nat.le_trans (Nat.mul_le_mul (show L ≤ 12 by omega) hf) (by decide)
          have hP2 : (L : Int) * (F : Int) = (P : Int) := by rw [← hP]; push_cast; rfl
          have hstop : ¬ ((k : Int) + 1 + (j : Int) < (n : Int)) := by omega
          clear hF hL hP hf
          go_wp2_with (go_at_call 61; with_reducible refine (HFF.out _).mono ?_; rintro e w1 ⟨rfl, rfl⟩)
          go_roundw
          case rel => exact ⟨k + 1, m2, by omega, by go_num, by rw [HE.out]; push_cast; rfl, HW2⟩
          case measure => first | (simp [intOf]; done) | (simp [intOf]; omega)
    · obtain rfl : k = n := by omega
      go_wp2
      go_ret
      exact ⟨rfl, m, HW.out⟩
theorem rankOrder_yes (a : Option Addr) (n cap : Nat) (xs : List Int) (w : World) (h : RO w.heap.size w a xs) (hn : xs.length = n) (hcap : n ≤ cap) (hO : OrdP xs) :
    Calls Try.prog 28 #[.slice a n cap] w fun e w' => e = .returned (.tuple #[.int .i64 (rkH xs n : Nat), .bool true]) ∧ Below w.heap.size w w' := by
  have h12 : n ≤ 12 := by have := hO.1.2; omega
  have HI := Lib.hid (isOrd_any a n cap xs w h hn (by omega) true (decide_eq_true hO))
  have HK : Hid (∀ W : World, Below w.heap.size w W → Calls Try.prog 66 #[.slice a n cap] W fun e w' => e = .returned (.int .i64 (rkH xs n : Nat)) ∧ W = w') := fun W hW => rank_any a n cap xs W ((h.below hW).up hW.size) hn hcap h12
  clear h hn hO
  go_enter Try.func28, Try.ntmps28
  go_wp2_with fail
  refine (HI.out).mono ?_
  rintro e w1 ⟨rfl, hb⟩
  have HB := Lib.hid hb
  clear hb
  go_wp2_with fail
  refine (HK.out _ HB.out).mono ?_
  rintro e w2 ⟨rfl, rfl⟩
  go_wp2
  go_ret2
  exact ⟨rfl, HB.out⟩
theorem rankOrder_no (a : Option Addr) (n cap : Nat) (xs : List Int) (w : World) (h : RO w.heap.size w a xs) (hn : xs.length = n) (hl : n ≤ 1048576) (hO : ¬ OrdP xs) :
    Calls Try.prog 28 #[.slice a n cap] w fun e w' => e = .returned (.tuple #[.int .i64 0, .bool false]) ∧ Below w.heap.size w w' := by
  have HI := Lib.hid (isOrd_any a n cap xs w h hn hl false (decide_eq_false hO))
  clear h hn hO
  go_enter Try.func28, Try.ntmps28
  go_wp2_with fail
  refine (HI.out).mono ?_
  rintro e w1 ⟨rfl, hb⟩
  go_wp2
  go_ret2
  exact ⟨rfl, hb⟩
theorem specRank_yes (a : Option Addr) (n cap : Nat) (xs : List Int) (w : World) (h : RO w.heap.size w a xs) (hn : xs.length = n) (hcap : n ≤ cap) (hO : OrdP xs) :
    Calls Try.prog 27 #[.slice a n cap] w fun e w' => e = .returned (.tuple #[.int .i64 (rkH xs n : Nat), .bool true]) ∧ ∃ m, w' = w.drewN m := by
  have h12 : n ≤ 12 := by have := hO.1.2; omega
  have HI := Lib.hid (is_any a n cap xs w h hn (by omega) hcap true (decide_eq_true hO))
  have HK : Hid (∀ m, Calls Try.prog 62 #[.slice a n cap] (w.drewN m) fun e w' => e = .returned (.int .i64 (rkH xs n : Nat)) ∧ ∃ j, w' = (w.drewN m).drewN j) := fun m => by
    have := l07Rank_any a n cap xs (w.drewN m) (h.drewN m) hn h12
    rw [← hn, rk_eq xs] at this
    rw [← hn]
    exact this
  clear h hn hO
  go_enter Try.func27, Try.ntmps27
  go_wp2_with fail
  refine (HI.out).mono ?_
  rintro e w1 ⟨rfl, m, rfl⟩
  go_wp2_with fail
  refine (HK.out m).mono ?_
  rintro e w2 ⟨rfl, j, rfl⟩
  go_wp2
  go_ret2
  exact ⟨rfl, m + j, by first | rfl | exact drewN_twoG w m j⟩
theorem specRank_no (a : Option Addr) (n cap : Nat) (xs : List Int) (w : World) (h : RO w.heap.size w a xs) (hn : xs.length = n) (hl : n ≤ 1048576) (hcap : n ≤ cap) (hO : ¬ OrdP xs) :
    Calls Try.prog 27 #[.slice a n cap] w fun e w' => e = .returned (.tuple #[.int .i64 0, .bool false]) ∧ ∃ m, w' = w.drewN m := by
  have HI := Lib.hid (is_any a n cap xs w h hn hl hcap false (decide_eq_false hO))
  clear h hn hO
  go_enter Try.func27, Try.ntmps27
  go_wp2_with fail
  refine (HI.out).mono ?_
  rintro e w1 ⟨rfl, m, rfl⟩
  go_wp2
  go_ret2
  exact ⟨rfl, m, rfl⟩
theorem lawRankOrder (a : Option Addr) (n cap : Nat) (zs : List Int) (w : World) (h : RowIn .i64 w a n zs) :
    Calls Try.prog 7 #[.slice a n cap] w fun e w' => e = .returned (.bool true) ∧ Below w.heap.size w w' :=
  lawRankOrder_any a n cap zs w h fun ys hn hl hr => by
    by_cases hO : OrdP ys
    · exact lawRankOrder_core a n cap ys (rkH ys n : Nat) true w hr hn hl (fun W b c hb hc => (specRank_yes b n c ys W hb hn hc hO).mono fun e w' ⟨he, m, hw⟩ => ⟨he, hw ▸ below_drewN (Below.refl _ _) m⟩) (fun W b c hb hc => rankOrder_yes b n c ys W hb hn hc hO)
    · exact lawRankOrder_core a n cap ys 0 false w hr hn hl (fun W b c hb hc => (specRank_no b n c ys W hb hn hl hc hO).mono fun e w' ⟨he, m, hw⟩ => ⟨he, hw ▸ below_drewN (Below.refl _ _) m⟩) (fun W b c hb _ => rankOrder_no b n c ys W hb hn hl hO)
/-- where each number stands, by the first k places -/
def plD (xs : List Int) : Nat → List Int
  | 0 => List.replicate xs.length 0
  | k + 1 => (plD xs k).set (xs.getD k 0).toNat (k : Int)
theorem plD_length (xs : List Int) : ∀ k, (plD xs k).length = xs.length := by
  intro k
  induction k with
  | zero => simp [plD]
  | succ k ih => simp [plD, ih]
/-- rising sequences by the first k + 1 numbers -/
def rsC (l : List Int) : Nat → Nat
  | 0 => 1
  | k + 1 => rsC l k + if l.getD (k + 1) 0 < l.getD k 0 then 1 else 0
theorem rsC_le (l : List Int) : ∀ k, rsC l k ≤ k + 1 := by
  intro k
  induction k with
  | zero => exact Nat.le_refl _
  | succ k ih => simp only [rsC]; split <;> omega
def risN (xs : List Int) : Nat := rsC (plD xs xs.length) (xs.length - 1)
theorem Rw.made {B g n : Nat} {w : World} (h : w.ownsRow B 2 1 (.slice (some ⟨g, 0, none⟩) n n) n (madeCells (Value.int .i64 0).cells (n * 1)).toList) : Rw B g n n (List.replicate n 0) w := by
  unfold Rw
  rw [pad_made] at h
  have e : pad [] n = List.replicate n 0 := by simp [pad]
  rwa [e] at h
theorem places_any (a : Option Addr) (n cap : Nat) (xs : List Int) (w : World) (h : RO w.heap.size w a xs) (hn : xs.length = n) (hO : OrdP xs) :
    Calls Try.prog 93 #[.slice a n cap] w fun e w' => e = .returned (.slice (some ⟨w.heap.size, 0, none⟩) n n) ∧ Rw w.heap.size w.heap.size n n (plD xs n) w' ∧ Below w.heap.size w w' := by
  obtain ⟨i0, hi, hz0, hz1, hz2⟩ := info_parts Try.info2
  have h12 : n ≤ 12 := by have := hO.1.2; omega
  have HN := Lib.hid hn
  have HR := Lib.hid h
  have HO := Lib.hid hO
  clear h hn hO
  go_enter Try.func93, Try.ntmps93
  go_wp2_with (at_make; refine wpList_make_full _ rfl _ _ 50 rfl w.heap.size 2 i0 _ 1 Try.underlying50 hi hz0 hz1 _ _ _ _ n rfl rfl rfl rfl (by rw [hz2]; omega) (by unfold maxLen; omega) (Nat.le_refl _) ?_; intro w3 hown hgrow)
  have HP0 : Hid (Rw w.heap.size w.heap.size n n (plD xs 0) w3) := by
    unfold Hid
    rw [plD, HN.out]
    exact Rw.made hown
  have B3 : Hid (Below w.heap.size w w3) := (Below.refl w.heap.size w).grown hgrow (Nat.le_refl _) (by simp)
  clear hown hgrow
  go_loopw [4, 5, 11] (fun _ _ iv wr => ∃ k : Nat, k ≤ n ∧ iv = .int .i64 k ∧ Hid (Rw w.heap.size w.heap.size n n (plD xs k) wr) ∧ Hid (Below w.heap.size w wr)) (fun _ _ iv _ => n - (intOf iv).toNat)
  case atStart => exact ⟨0, Nat.zero_le _, rfl, HP0, B3⟩
  case round =>
    obtain ⟨k, hk, rfl, HP, HBl⟩ := hrel
    clear HP0 B3
    by_cases hlt : k < n
    · obtain ⟨x, hx⟩ : ∃ x, xs[k]? = some x := ⟨_, List.getElem?_eq_getElem (by have := HN.out; omega)⟩
      obtain ⟨g0, off, rfl, hg0, hc0⟩ := HR.out k x hx
      have hc := (HBl.out.cell (p := ⟨g0, off + k, none⟩) hg0).trans hc0
      obtain ⟨hx1, hx2⟩ := HO.out.2.1 k x hx
      have hxd : xs.getD k 0 = x := by rw [List.getD_eq_getElem?_getD, hx]; rfl
      obtain ⟨X, rfl⟩ := Int.eq_ofNat_of_zero_le hx1
      have hX : X < n := by have := HN.out; omega
      have hE : plD xs (k + 1) = (plD xs k).set X (k : Int) := by rw [plD, hxd]; rfl
      have HP2 : Hid (Rw w.heap.size w.heap.size n n (plD xs (k + 1)) (wr.setCell ⟨w.heap.size, X, none⟩ (.int .i64 k))) := by
        unfold Hid
        rw [hE]
        exact HP.out.set X (k : Int)
      have d1 := HP.out.cell hX
      have d2 := HP.out.frz X
      have HB2 : Hid (Below w.heap.size w (wr.setCell ⟨w.heap.size, X, none⟩ (.int .i64 k))) := HBl.out.setCell (p := ⟨w.heap.size, X, none⟩) (Nat.le_refl _) _
      clear hc0 hx hx1 hx2 hxd hE HP HBl
      go_wp2
      go_roundw
      case rel => exact ⟨k + 1, by omega, by go_num, HP2, HB2⟩
      case measure => first | (simp [intOf]; done) | (simp [intOf]; omega)
    · obtain rfl : k = n := by omega
      go_wp2
      go_ret
      exact ⟨rfl, HP.out, HBl.out⟩
theorem rising_any (a : Option Addr) (n cap : Nat) (xs : List Int) (w : World) (h : RO w.heap.size w a xs) (hn : xs.length = n) (hO : OrdP xs) :
    Calls Try.prog 73 #[.slice a n cap] w fun e w' => e = .returned (.int .i64 (risN xs : Nat)) ∧ Below w.heap.size w w' := by
  have h12 : n ≤ 12 := by have := hO.1.2; omega
  have h1 : 1 ≤ n := by have := hO.1.1; omega
  have HP := Lib.hid (places_any a n cap xs w h hn hO)
  have HL : Hid ((plD xs n).length = n) := (plD_length xs n).trans hn
  have HZ : Hid (risN xs = rsC (plD xs n) (n - 1)) := by unfold Hid risN; rw [hn]
  obtain ⟨l, hl⟩ : ∃ l, plD xs n = l := ⟨_, rfl⟩
  rw [hl] at HP HL HZ
  obtain ⟨m, rfl⟩ : ∃ m, n = m + 1 := ⟨n - 1, by omega⟩
  clear h hn hO hl
  go_enter Try.func73, Try.ntmps73
  go_wp2_with fail
  refine (HP.out).mono ?_
  rintro e w1 ⟨rfl, hr, hb⟩
  have HR := Lib.hid hr
  have HB := Lib.hid hb
  obtain ⟨a2, K1, K2⟩ := slice_from 50 (fun W => by simp [go_sem]) (some ⟨w.heap.size, 0, none⟩) (m + 1) (m + 1) 1 w1.heap.size l w1 hr.ro HL.out (by omega) (Nat.le_refl _)
  have K1' : ∀ W, (Instr.slice 50 (.slice (some ⟨w.heap.size, 0, none⟩) (m + 1) (m + 1)) (some (.int .i64 1)) none none).run Try.prog W = .ok (.slice a2 m m) W := fun W => K1 W
  have HK2 := Lib.hid K2
  clear hr hb K1 K2
  go_wp2_with fail
  go_loop [4, 5, 6, 12] (fun cv _ _ iv => ∃ k : Nat, k ≤ m ∧ iv = .int .i64 k ∧ cv = .int .i64 (rsC l k : Nat)) (fun _ _ _ iv => m - (intOf iv).toNat)
  case atStart => exact ⟨0, Nat.zero_le _, rfl, rfl⟩
  case round =>
    obtain ⟨k, hk, rfl, rfl⟩ := hrel
    have hle := rsC_le l k
    by_cases hlt : k < m
    · obtain ⟨y, hy⟩ : ∃ y, (l.drop 1)[k]? = some y := ⟨_, List.getElem?_eq_getElem (by rw [List.length_drop, HL.out]; omega)⟩
      obtain ⟨g2, off2, rfl, hg2, hc2⟩ := HK2.out k y hy
      have cx := HR.out.cell (i := k) (by omega)
      obtain ⟨x, hx⟩ : ∃ x, l.getD k 0 = x := ⟨_, rfl⟩
      have hyd := getD_drop hy
      rw [show 1 + k = k + 1 by omega] at hyd
      have HS : Hid (rsC l (k + 1) = rsC l k + if y < x then 1 else 0) := by unfold Hid; rw [rsC, hyd, hx]
      obtain ⟨c, hc⟩ : ∃ c, rsC l k = c := ⟨_, rfl⟩
      rw [hx] at cx
      rw [hc] at HS hle ⊢
      clear hy hyd hx hc
      by_cases hyx : y < x
      · rw [if_pos hyx] at HS
        go_wp2
        go_round
        case rel => exact ⟨k + 1, by omega, by go_num, by rw [HS.out]; go_num⟩
        case measure => first | (simp [intOf]; done) | (simp [intOf]; omega)
      · rw [if_neg hyx] at HS
        go_wp2
        go_round
        case rel => exact ⟨k + 1, by omega, by go_num, by rw [HS.out]; rfl⟩
        case measure => first | (simp [intOf]; done) | (simp [intOf]; omega)
    · obtain rfl : k = m := by omega
      go_wp2
      go_ret
      rw [HZ.out]
      exact ⟨rfl, HB.out⟩
set_option maxRecDepth 10000 in
theorem l07Rising_any (a : Option Addr) (n cap : Nat) (xs : List Int) (w : World) (h : RO w.heap.size w a xs) (hn : xs.length = n) (hO : OrdP xs) :
    Calls Try.prog 72 #[.slice a n cap] w fun e w' => e = .returned (.int .i64 (risN xs : Nat)) ∧ Below w.heap.size w w' := by
  obtain ⟨i0, hi, hz0, hz1, hz2⟩ := info_parts Try.info2
  have h12 : n ≤ 12 := by have := hO.1.2; omega
  have h1 : 1 ≤ n := by have := hO.1.1; omega
  have HN := Lib.hid hn
  have HR := Lib.hid h
  have HO := Lib.hid hO
  have HZ : Hid (risN xs = rsC (plD xs n) (n - 1)) := by unfold Hid risN; rw [hn]
  clear h hn hO
  go_enter Try.func72, Try.ntmps72
  go_wp2_with (at_make; refine wpList_make_full _ rfl _ _ 22 rfl w.heap.size 2 i0 _ 1 Try.underlying22 hi hz0 hz1 _ _ _ _ n rfl rfl rfl rfl (by rw [hz2]; omega) (by unfold maxLen; omega) (Nat.le_refl _) ?_; intro w3 hown hgrow)
  have HP0 : Hid (Rw w.heap.size w.heap.size n n (plD xs 0) w3) := by
    unfold Hid
    rw [plD, HN.out]
    exact Rw.made hown
  have B3 : Hid (Below w.heap.size w w3) := (Below.refl w.heap.size w).grown hgrow (Nat.le_refl _) (by simp)
  clear hown hgrow
  go_loopw [4] (fun iv wr => ∃ k : Nat, k ≤ n ∧ iv = .int .i64 k ∧ Hid (Rw w.heap.size w.heap.size n n (plD xs k) wr) ∧ Hid (Below w.heap.size w wr)) (fun iv _ => n - (intOf iv).toNat)
  case atStart => exact ⟨0, Nat.zero_le _, rfl, HP0, B3⟩
  case round =>
    obtain ⟨k, hk, rfl, HP, HBl⟩ := hrel
    clear HP0 B3
    by_cases hlt : k < n
    · obtain ⟨x, hx⟩ : ∃ x, xs[k]? = some x := ⟨_, List.getElem?_eq_getElem (by have := HN.out; omega)⟩
      obtain ⟨g0, off, rfl, hg0, hc0⟩ := HR.out k x hx
      have hc := (HBl.out.cell (p := ⟨g0, off + k, none⟩) hg0).trans hc0
      obtain ⟨hx1, hx2⟩ := HO.out.2.1 k x hx
      have hxd : xs.getD k 0 = x := by rw [List.getD_eq_getElem?_getD, hx]; rfl
      obtain ⟨X, rfl⟩ := Int.eq_ofNat_of_zero_le hx1
      have hX : X < n := by have := HN.out; omega
      have hE : plD xs (k + 1) = (plD xs k).set X (k : Int) := by rw [plD, hxd]; rfl
      have HP2 : Hid (Rw w.heap.size w.heap.size n n (plD xs (k + 1)) (wr.setCell ⟨w.heap.size, X, none⟩ (.int .i64 k))) := by
        unfold Hid
        rw [hE]
        exact HP.out.set X (k : Int)
      have d1 := HP.out.cell hX
      have d2 := HP.out.frz X
      have HB2 : Hid (Below w.heap.size w (wr.setCell ⟨w.heap.size, X, none⟩ (.int .i64 k))) := HBl.out.setCell (p := ⟨w.heap.size, X, none⟩) (Nat.le_refl _) _
      clear hc0 hx hx1 hx2 hxd hE HP HBl
      go_wp2
      go_roundw
      case rel => exact ⟨k + 1, by omega, by go_num, HP2, HB2⟩
      case measure => first | (simp [intOf]; done) | (simp [intOf]; omega)
    · obtain rfl : k = n := by omega
      obtain ⟨m, hm1, hm2, hm3⟩ : ∃ m, k ≤ m + 1 ∧ m + 1 ≤ k ∧ k - 1 = m := ⟨k - 1, by omega, by omega, rfl⟩
      obtain ⟨l, hl⟩ : ∃ l, plD xs k = l := ⟨_, rfl⟩
      rw [hl, hm3] at HZ
      rw [hl] at HP
      obtain ⟨W0, hW0⟩ : ∃ W0, W0 = wr := ⟨_, rfl⟩
      rw [← hW0] at HP HBl ⊢
      clear hl hW0 hm3
      go_wp2_with fail
      go_loopw [5, 6] (fun cv iv wr => ∃ j q : Nat, j ≤ m ∧ iv = .int .i64 ((j : Int) + 1) ∧ cv = .int .i64 (rsC l j : Nat) ∧ Hid (wr = W0.drewN q)) (fun _ iv _ => m + 1 - (intOf iv).toNat)
      case atStart => exact ⟨0, 0, Nat.zero_le _, rfl, rfl, rfl⟩
      case round =>
        obtain ⟨j, q, hk, rfl, rfl, HW⟩ := hrel
        have hle := rsC_le l j
        by_cases hlt : j < m
        · have cx0 := HP.out.cell (i := j) (by omega)
          have cy0 := HP.out.cell (i := j + 1) (by omega)
          obtain ⟨x, hx⟩ : ∃ x, l.getD j 0 = x := ⟨_, rfl⟩
          obtain ⟨y, hy⟩ : ∃ y, l.getD (j + 1) 0 = y := ⟨_, rfl⟩
          have HS : Hid (rsC l (j + 1) = rsC l j + if y < x then 1 else 0) := by unfold Hid; rw [rsC, hx, hy]
          rw [hx] at cx0
          rw [hy] at cy0
          have cx : wr.cell? ⟨w.heap.size, j, none⟩ = some (.int .i64 x) := by rw [HW.out]; exact cx0
          have cy : wr.cell? ⟨w.heap.size, j + 1, none⟩ = some (.int .i64 y) := by rw [HW.out]; exact cy0
          have hwr : IntKind.i64.wrap ((j : Int) + 1 - 1) = (j : Int) := by rw [IntWalk.i64_in _ (by omega)]; omega
          obtain ⟨c, hc⟩ : ∃ c, rsC l j = c := ⟨_, rfl⟩
          rw [hc] at HS hle ⊢
          clear hx hy hc cx0 cy0
          by_cases hyx : y < x
          · rw [if_pos hyx] at HS
            go_wp2_with fail
            go_quiet (fail)
            go_wp2
            go_roundw
            case rel => exact ⟨j + 1, q + nq, by omega, by go_num, by rw [HS.out]; go_num, by unfold Hid; rw [HW.out]; exact drewN_twoG W0 q nq⟩
            case measure => first | (simp [intOf]; done) | (simp [intOf]; omega)
          · rw [if_neg hyx] at HS
            go_wp2_with fail
            go_quiet (fail)
            go_wp2
            go_roundw
            case rel => exact ⟨j + 1, q + nq, by omega, by go_num, by rw [HS.out]; rfl, by unfold Hid; rw [HW.out]; exact drewN_twoG W0 q nq⟩
            case measure => first | (simp [intOf]; done) | (simp [intOf]; omega)
        · obtain rfl : j = m := by omega
          go_wp2
          go_ret
          rw [HZ.out]
          exact ⟨rfl, by rw [HW.out]; exact below_drewN HBl.out q⟩
theorem risingOf_yes (a : Option Addr) (n cap : Nat) (xs : List Int) (w : World) (h : RO w.heap.size w a xs) (hn : xs.length = n) (hO : OrdP xs) :
    Calls Try.prog 39 #[.slice a n cap] w fun e w' => e = .returned (.tuple #[.int .i64 (risN xs : Nat), .bool true]) ∧ Below w.heap.size w w' := by
  have hl : n ≤ 1048576 := by have := hO.1.2; omega
  have HI := Lib.hid (isOrd_any a n cap xs w h hn hl true (decide_eq_true hO))
  have HK : Hid (∀ W : World, Below w.heap.size w W → Calls Try.prog 73 #[.slice a n cap] W fun e w' => e = .returned (.int .i64 (risN xs : Nat)) ∧ Below W.heap.size W w') := fun W hW => rising_any a n cap xs W ((h.below hW).up hW.size) hn hO
  clear h hn hO
  go_enter Try.func39, Try.ntmps39
  go_wp2_with fail
  refine (HI.out).mono ?_
  rintro e w1 ⟨rfl, hb⟩
  have HB := Lib.hid hb
  clear hb
  go_wp2_with fail
  refine (HK.out _ HB.out).mono ?_
  rintro e w2 ⟨rfl, hb2⟩
  have HB2 := Lib.hid (HB.out.trans (hb2.mono HB.out.size))
  clear hb2
  go_wp2
  go_ret2
  exact ⟨rfl, HB2.out⟩
theorem risingOf_no (a : Option Addr) (n cap : Nat) (xs : List Int) (w : World) (h : RO w.heap.size w a xs) (hn : xs.length = n) (hl : n ≤ 1048576) (hO : ¬ OrdP xs) :
    Calls Try.prog 39 #[.slice a n cap] w fun e w' => e = .returned (.tuple #[.int .i64 0, .bool false]) ∧ Below w.heap.size w w' := by
  have HI := Lib.hid (isOrd_any a n cap xs w h hn hl false (decide_eq_false hO))
  clear h hn hO
  go_enter Try.func39, Try.ntmps39
  go_wp2_with fail
  refine (HI.out).mono ?_
  rintro e w1 ⟨rfl, hb⟩
  go_wp2
  go_ret2
  exact ⟨rfl, hb⟩
theorem specRising_yes (a : Option Addr) (n cap : Nat) (xs : List Int) (w : World) (h : RO w.heap.size w a xs) (hn : xs.length = n) (hcap : n ≤ cap) (hO : OrdP xs) :
    Calls Try.prog 38 #[.slice a n cap] w fun e w' => e = .returned (.tuple #[.int .i64 (risN xs : Nat), .bool true]) ∧ Below w.heap.size w w' := by
  have hl : n ≤ 1048576 := by have := hO.1.2; omega
  have HI := Lib.hid (is_any a n cap xs w h hn hl hcap true (decide_eq_true hO))
  have HK : Hid (∀ m, Calls Try.prog 72 #[.slice a n cap] (w.drewN m) fun e w' => e = .returned (.int .i64 (risN xs : Nat)) ∧ Below (w.drewN m).heap.size (w.drewN m) w') := fun m => l07Rising_any a n cap xs (w.drewN m) (h.drewN m) hn hO
  clear h hn hO
  go_enter Try.func38, Try.ntmps38
  go_wp2_with fail
  refine (HI.out).mono ?_
  rintro e w1 ⟨rfl, m, rfl⟩
  go_wp2_with fail
  refine (HK.out m).mono ?_
  rintro e w2 ⟨rfl, hb⟩
  have HB := Lib.hid ((below_drewN (Below.refl w.heap.size w) m).trans hb)
  clear hb
  go_wp2
  go_ret2
  exact ⟨rfl, HB.out⟩
theorem specRising_no (a : Option Addr) (n cap : Nat) (xs : List Int) (w : World) (h : RO w.heap.size w a xs) (hn : xs.length = n) (hl : n ≤ 1048576) (hcap : n ≤ cap) (hO : ¬ OrdP xs) :
    Calls Try.prog 38 #[.slice a n cap] w fun e w' => e = .returned (.tuple #[.int .i64 0, .bool false]) ∧ Below w.heap.size w w' := by
  have HI := Lib.hid (is_any a n cap xs w h hn hl hcap false (decide_eq_false hO))
  clear h hn hO
  go_enter Try.func38, Try.ntmps38
  go_wp2_with fail
  refine (HI.out).mono ?_
  rintro e w1 ⟨rfl, m, rfl⟩
  go_wp2
  go_ret2
  exact ⟨rfl, below_drewN (Below.refl _ _) m⟩
theorem lawRisingOf (a : Option Addr) (n cap : Nat) (zs : List Int) (w : World) (h : RowIn .i64 w a n zs) :
    Calls Try.prog 11 #[.slice a n cap] w fun e w' => e = .returned (.bool true) ∧ Below w.heap.size w w' :=
  lawRisingOf_any a n cap zs w h fun ys hn hl hr => by
    by_cases hO : OrdP ys
    · exact lawRisingOf_core a n cap ys (risN ys : Nat) true w hr hn hl (fun W b c hb hc => specRising_yes b n c ys W hb hn hc hO) (fun W b c hb _ => risingOf_yes b n c ys W hb hn hO)
    · exact lawRisingOf_core a n cap ys 0 false w hr hn hl (fun W b c hb hc => specRising_no b n c ys W hb hn hl hc hO) (fun W b c hb _ => risingOf_no b n c ys W hb hn hl hO)
end Go.Proofs.Ytjbojamhnapkpab
