/- The states that agree best, in the specification; the law FnExactBestStates. -/
import Derived.Test.YtgpcacbjmjpdnabBest
import Derived.Test.YtgpcacbjmjpdnabRegLaws
import Derived.Test.YtgpcacbjmjpdnabBoxT
namespace Go.Proofs.Ytgpcacbjmjpdnab
open Go.RowKit Go.PlainAid
open Wt (row)
set_option maxHeartbeats 1000000

theorem bit_ofB {s : ByteArray} (h : AllIn 48 49 s) {t : Nat} (ht : t < s.size) : (((s[t]'ht).toNat : Nat) : Int) = 48 + ((decide (bt s t = 49)).toNat : Int) := by
  have h1 := h t ht
  rw [get_bt s t ht] at h1 ⊢
  by_cases e : bt s t = 49
  · rw [e]; rfl
  · rw [decide_eq_false e]
    have : bt s t = 48 := by omega
    rw [this]; rfl
theorem wrap_pow10 {n : Nat} (hn : n ≤ 10) : wrap64 (2 ^ n) = ((2 ^ n : Nat) : Int) := by
  have hp := pow10 hn
  have e : (2 : Int) ^ n = ((2 ^ n : Nat) : Int) := by push_cast; rfl
  rw [e]
  generalize 2 ^ n = z at *
  unfold wrap64
  omega
theorem agI_step (W T : Nat) (t : ByteArray) (S k : Nat) : agI W T t S (k + 1) = if itr W T S k % 2 = (decide (bt t k = 49)).toNat then agI W T t S k + 1 else agI W T t S k := rfl
set_option maxRecDepth 8000 in
theorem specBest_yes (W T : Nat) (t : ByteArray) (hW : W ≤ 10) (hT : T < 2 ^ W) (ht : BitsP t) (hR : RegP W T) :
    GivesBest 38 #[.agg #[.int .i64 W, .int .i64 T], .string t] (best (agF W T t) (2 ^ W)) (mxf (agF W T t) (2 ^ W)) true := fun w => by
  have h4 := ht.len
  have hp := pow10 hW
  have HB : Hid (∀ V : World, Calls Try.prog 56 #[.string t] V fun e w' => e = .returned (.bool true) ∧ V = w') := fun V => l01Bits_yes t V ht
  have HV : Hid (∀ k, (hk : k < t.size) → (((t[k]'hk).toNat : Nat) : Int) = 48 + ((decide (bt t k = 49)).toNat : Int)) := fun k hk => bit_ofB ht.2 hk
  have HIs : Hid (∀ V : World, P2 V w.heap.size (.int .i64 W) (.int .i64 T) → Calls Try.prog 67 #[.pointer (some ⟨w.heap.size, 0, none⟩)] V fun e w' => e = .returned (.bool true) ∧ ∃ m, w' = V.drewN m) := fun V h => l02Is_b _ _ _ true V h.1.1 h.1.2 (decide_eq_true hR)
  have hT16 : T < 65536 := by omega
  have HSt : Hid (∀ (s : Nat) (V : World), s < 2 ^ W → P2 V w.heap.size (.int .i64 W) (.int .i64 T) → Calls Try.prog 68 #[.pointer (some ⟨w.heap.size, 0, none⟩), .int .i64 s] V fun e w' => e = .returned (.tuple #[.int .i64 (nxt W T s), .int .i64 (s % 2 : Nat)]) ∧ ∃ m, w' = V.drewN m) := fun s V hs h => l02Step_any _ W T s V h.1.1 h.1.2 (by omega) hT16 hs
  have HIt : Hid (∀ S, S < 2 ^ W → ∀ i, itr W T S i < 2 ^ W) := fun S hS i => itr_lt hS i
  have hfl : ∀ S, agF W T t S ≤ t.size := fun S => agI_le W T t S t.size
  have HAl : Hid (∀ S i, agI W T t S i ≤ i) := fun S i => agI_le W T t S i
  have HFE : Hid (∀ S, agI W T t S t.size = agF W T t S) := fun _ => rfl
  obtain ⟨f, hf⟩ : ∃ f, agF W T t = f := ⟨_, rfl⟩
  obtain ⟨N, hN⟩ : ∃ N, 2 ^ W = N := ⟨_, rfl⟩
  have hpw := wrap_pow10 hW
  rw [hf] at hfl HFE ⊢
  rw [hN] at hp HSt HIt hpw ⊢
  have HFl := Lib.hid hfl
  have HM : Hid (∀ k, -1 ≤ mxf f k ∧ mxf f k ≤ t.size) := mxf_le f t.size hfl
  have HBl : Hid (∀ k, (best f k).length ≤ k) := best_length f
  have HB1 : Hid (∀ k, mxf f k < (f k : Int) → best f (k + 1) = [(k : Int)] ∧ mxf f (k + 1) = f k) := fun k => best_new
  have HB2 : Hid (∀ k, mxf f k = (f k : Int) → best f (k + 1) = best f k ++ [(k : Int)] ∧ mxf f (k + 1) = mxf f k) := fun k => best_same
  have HB3 : Hid (∀ k, (f k : Int) < mxf f k → best f (k + 1) = best f k ∧ mxf f (k + 1) = mxf f k) := fun k => best_less
  obtain ⟨i0, hi, hz0, hz1, hz2⟩ := info_parts Try.info2
  have A0 := BT.new w (.int .i64 W) (.int .i64 T) 48
  have B0 := (Below.refl w.heap.size w).alloc (Nat.le_refl _) (.cells #[.int .i64 W, .int .i64 T] 48)
  have HAB := Lib.hid (And.intro A0 B0)
  clear ht hR hT hf hN hfl A0 B0 hT16
  go_enter Try.func38, Try.ntmps38
  go_wp2_with fail
  refine (HIs.out _ HAB.out.1.p2).mono ?_
  rintro e w1 ⟨rfl, m1, hw1⟩
  have A1 : BT w1 w.heap.size (.int .i64 W) (.int .i64 T) 48 := by rw [hw1]; exact HAB.out.1
  have B1 : Below w.heap.size w w1 := by rw [hw1]; exact below_drewN HAB.out.2 m1
  obtain ⟨⟨c0, c1⟩, _⟩ := A1.p2
  have hd : decide (10 < (W : Int)) = false := decide_eq_false (by omega)
  clear hw1
  go_wp2_with (go_at_call 56; refine (HB.out _).mono ?_; rintro e w2 ⟨rfl, rfl⟩)
  have O2 := own_base (ownsRow_empty w1 2 1) B1.size
  have A2 := A1.alloc (.cells #[] 2)
  have B2 := B1.alloc B1.size (.cells #[] 2)
  clear A1 B1 c0 c1
  go_loopw [7, 8, 9, 10, 11, 12, 13, 14] (fun v0 mv kv _ _ _ _ _ wr => ∃ (k : Nat) (v : Value), v = v0 ∧ k ≤ N ∧ kv = .int .i64 k ∧ mv = .int .i64 (mxf f k) ∧ wr.ownsRow w.heap.size 2 1 v (best f k).length ((best f k).map (Value.int .i64)) ∧ BT wr w.heap.size (.int .i64 W) (.int .i64 T) 48 ∧ Below w.heap.size w wr) (fun _ _ kv _ _ _ _ _ _ => N - (intOf kv).toNat)
  case atStart => exact ⟨0, _, rfl, Nat.zero_le _, rfl, rfl, O2, A2, B2⟩
  case round =>
    obtain ⟨k, v, rfl, hk, rfl, rfl, hown, A, B⟩ := hrel
    clear O2 A2 B2
    obtain ⟨⟨c0, c1⟩, _⟩ := A.p2
    have hmk := HM.out k
    by_cases hlt : k < N
    · obtain ⟨wo, hwo⟩ : ∃ x, wr = x := ⟨_, rfl⟩
      rw [hwo] at hown A B c0 c1 ⊢
      have HKo := Lib.hid (And.intro hown (And.intro A B))
      have hfe := HFE.out k
      have HITk := Lib.hid (HIt.out k hlt)
      have hle := HBl.out k
      have hfk := HFl.out k
      clear hwo hown A B
      go_wp2
      try rw [hpw]
      go_loopw [10, 11, 12, 13, 14] (fun av nv iv _ _ wi => ∃ i m : Nat, i ≤ t.size ∧ iv = .int .i64 i ∧ av = .int .i64 (agI W T t k i) ∧ nv = .int .i64 (itr W T k i) ∧ Hid (wi = wo.drewN m)) (fun _ _ iv _ _ _ => t.size - (intOf iv).toNat)
      case atStart => exact ⟨0, 0, Nat.zero_le _, rfl, rfl, rfl, rfl⟩
      case round =>
        obtain ⟨i, m, hi2, rfl, rfl, rfl, HW⟩ := hrel
        have hal := HAl.out k i
        by_cases hit : i < t.size
        · have hv := HV.out i hit
          have hst := HITk.out i
          have HAs := Lib.hid (agI_step W T t k i)
          have HIs2 : Hid (itr W T k (i + 1) = nxt W T (itr W T k i)) := rfl
          have PP : Hid (P2 wr w.heap.size (.int .i64 W) (.int .i64 T)) := by unfold Hid; rw [HW.out]; exact HKo.out.2.1.p2
          have HC : Hid (∀ V : World, V = wr → Calls Try.prog 68 #[.pointer (some ⟨w.heap.size, 0, none⟩), .int .i64 (itr W T k i)] V fun e w' => e = .returned (.tuple #[.int .i64 (itr W T k (i + 1)), .int .i64 (itr W T k i % 2 : Nat)]) ∧ ∃ m, w' = V.drewN m) := fun V hV => by subst hV; exact HSt.out _ V hst PP.out
          obtain ⟨y, hy⟩ : ∃ y, itr W T k i = y := ⟨_, rfl⟩
          obtain ⟨y2, hy2⟩ : ∃ y2, itr W T k (i + 1) = y2 := ⟨_, rfl⟩
          obtain ⟨a, ha⟩ : ∃ a, agI W T t k i = a := ⟨_, rfl⟩
          obtain ⟨c, hc⟩ : ∃ c, (decide (bt t i = 49)).toNat = c := ⟨_, rfl⟩
          have hc1 : c ≤ 1 := by rw [← hc]; exact Bool.toNat_le _
          rw [hy, ha, hc] at HAs
          rw [hy, hy2] at HC
          rw [hc] at hv
          rw [ha] at hal
          rw [hy, ha]
          obtain ⟨z, hz⟩ : ∃ z, y % 2 = z := ⟨_, rfl⟩
          have hz1 : z ≤ 1 := by omega
          rw [hz] at HAs HC
          have HY2 := Lib.hid hy2
          clear hy hy2 ha hc hz hst HIs2
          by_cases hzc : z = c
          · have hcc : ((z : Int) == (c : Int)) = true := by simp [hzc]
            have HA2 : Hid (agI W T t k (i + 1) = a + 1) := by unfold Hid; rw [HAs.out, if_pos hzc]
            clear hzc HAs
            go_wp2_with fail
            refine (HC.out _ rfl).mono ?_
            rintro e w5 ⟨rfl, m5, hw5⟩
            have HW5 : Hid (w5 = wo.drewN (m + m5)) := by unfold Hid; rw [hw5, HW.out, drewN_twoG]
            clear hw5
            go_wp2
            go_roundw
            case rel => exact ⟨i + 1, m + m5, by omega, by go_num, by rw [HA2.out]; go_num, by rw [HY2.out], HW5⟩
            case measure => simp [intOf]; omega
          · have hcc : ((z : Int) == (c : Int)) = false := by rw [beq_eq_false_iff_ne]; omega
            have HA2 : Hid (agI W T t k (i + 1) = a) := by unfold Hid; rw [HAs.out, if_neg hzc]
            clear hzc HAs
            go_wp2_with fail
            refine (HC.out _ rfl).mono ?_
            rintro e w5 ⟨rfl, m5, hw5⟩
            have HW5 : Hid (w5 = wo.drewN (m + m5)) := by unfold Hid; rw [hw5, HW.out, drewN_twoG]
            clear hw5
            go_wp2
            go_roundw
            case rel => exact ⟨i + 1, m + m5, by omega, by go_num, by rw [HA2.out], by rw [HY2.out], HW5⟩
            case measure => simp [intOf]; omega
        · have hiL : i = t.size := by omega
          have HKr : Hid (wr.ownsRow w.heap.size 2 1 v (best f k).length ((best f k).map (Value.int .i64)) ∧ BT wr w.heap.size (.int .i64 W) (.int .i64 T) 48 ∧ Below w.heap.size w wr) := by
            unfold Hid
            rw [HW.out]
            exact ⟨HKo.out.1, HKo.out.2.1, below_drewN HKo.out.2.2 m⟩
          have hag : agI W T t k i = f k := by rw [hiL]; exact hfe
          rw [hag]
          have X1 := Lib.hid (HB1.out k)
          have X2 := Lib.hid (HB2.out k)
          have X3 := Lib.hid (HB3.out k)
          obtain ⟨a, ha⟩ : ∃ a, f k = a := ⟨_, rfl⟩
          obtain ⟨mm, hmm⟩ : ∃ mm, mxf f k = mm := ⟨_, rfl⟩
          rw [ha] at hfk X1 X2 X3 ⊢
          rw [hmm] at hmk X1 X2 X3 ⊢
          clear hag ha hmm hfe HW HKo hal
          by_cases h1 : mm < (a : Int)
          · obtain ⟨e1, e2⟩ := X1.out h1
            have E1 := Lib.hid e1
            have E2 := Lib.hid e2
            have hq1 : ((a : Int) == (a : Int)) = true := by simp
            have O3 := own_base (ownsRow_empty wr 2 1) HKr.out.2.2.size
            have A3 := HKr.out.2.1.alloc (.cells #[] 2)
            have B3 := HKr.out.2.2.alloc HKr.out.2.2.size (.cells #[] 2)
            have hne := Lib.hid (A3.not_own O3 (by decide))
            have HAk := Lib.hid (And.intro A3 B3)
            clear e1 e2 X1 X2 X3 A3 B3 HKr
            have HN : ∀ j u, [Value.int .i64 k][j]? = some u → ((wr.alloc (.cells #[] 2)).alloc (.cells #[.int .i64 k] 2)).cell? ((⟨wr.heap.size + 1, 0, none⟩ : Addr).add j) = some u := by
              have q := cell_one_new (wr.alloc (.cells #[] 2)) (.int .i64 k) 2
              have e : (wr.alloc (.cells #[] 2)).heap.size = wr.heap.size + 1 := by simp
              rw [e] at q
              exact q
            go_wp2_with (at_builtin; refine wpList_append_own _ rfl _ _ 27 rfl w.heap.size 2 i0 (.int .i64 0) 1 8 Try.underlying27 hi hz0 hz1 hz2 rfl (by decide) _ _ _ rfl (O3.alloc _) ⟨wr.heap.size + 1, 0, none⟩ 1 1 [.int .i64 k] rfl rfl HN (by intro u hu; simp at hu; subst hu; rfl) (by unfold maxLen; omega) (by omega) (by have := HAk.out.2.size; simp at this ⊢; omega) ?_; intro v1 w4 hown4 hgrow _)
            have B4 : Below w.heap.size w w4 := (HAk.out.2.alloc HAk.out.2.size _).grown hgrow (by have := HAk.out.2.size; simp at this ⊢; omega) (own_block O3)
            have A4 := (HAk.out.1.alloc _).grown hgrow hne.out
            have HO : Hid (w4.ownsRow w.heap.size 2 1 v1 (best f (k + 1)).length ((best f (k + 1)).map (Value.int .i64))) := by
              unfold Hid
              rw [E1.out]
              simpa using hown4
            clear hown4 hgrow O3 HAk hne HN
            go_wp2
            go_roundw
            case rel => exact ⟨k + 1, _, rfl, by omega, by go_num, by rw [E2.out], HO.out, A4, B4⟩
            case measure => simp [intOf]; omega
          · by_cases h2 : mm = (a : Int)
            · obtain ⟨e1, e2⟩ := X2.out h2
              have E1 := Lib.hid e1
              have E2 := Lib.hid e2
              have hq1 : ((a : Int) == mm) = true := by simp [h2]
              have hown := HKr.out.1
              have hne := Lib.hid (HKr.out.2.1.not_own HKr.out.1 (by decide))
              have HAk := Lib.hid HKr.out.2
              clear e1 e2 X1 X2 X3 HKr h2
              go_wp2_with (at_builtin; refine wpList_append_own _ rfl _ _ 27 rfl w.heap.size 2 i0 (.int .i64 0) 1 8 Try.underlying27 hi hz0 hz1 hz2 rfl (by decide) _ _ _ rfl (hown.alloc _) ⟨wr.heap.size, 0, none⟩ 1 1 [.int .i64 k] rfl rfl (cell_one_new _ _ _) (by intro u hu; simp at hu; subst hu; rfl) (by unfold maxLen; omega) (by omega) (by have := HAk.out.2.size; simp; omega) ?_; intro v1 w4 hown4 hgrow _)
              have B4 : Below w.heap.size w w4 := (HAk.out.2.alloc HAk.out.2.size _).grown hgrow (by have := HAk.out.2.size; simp; omega) (own_block hown)
              have A4 := (HAk.out.1.alloc _).grown hgrow hne.out
              have HO : Hid (w4.ownsRow w.heap.size 2 1 v1 (best f (k + 1)).length ((best f (k + 1)).map (Value.int .i64))) := by
                unfold Hid
                rw [E1.out]
                simpa using hown4
              clear hown4 hgrow hown HAk hne
              go_wp2
              go_roundw
              case rel => exact ⟨k + 1, _, rfl, by omega, by go_num, by rw [E2.out], HO.out, A4, B4⟩
              case measure => simp [intOf]; omega
            · obtain ⟨e1, e2⟩ := X3.out (by omega)
              have E1 := Lib.hid e1
              have E2 := Lib.hid e2
              have hq1 : ((a : Int) == mm) = false := by rw [beq_eq_false_iff_ne]; omega
              clear e1 e2 X1 X2 X3 h2
              go_wp2
              go_roundw
              case rel => exact ⟨k + 1, _, rfl, by omega, by go_num, by rw [E2.out], by rw [E1.out]; exact HKr.out.1, HKr.out.2.1, HKr.out.2.2⟩
              case measure => simp [intOf]; omega
    · obtain rfl : k = N := by omega
      have HX := Lib.hid (And.intro hown B)
      clear hown A B
      go_wp2
      go_ret3
      exact ⟨_, rfl, SL.of_own HX.out.1, HX.out.2⟩
end Go.Proofs.Ytgpcacbjmjpdnab
