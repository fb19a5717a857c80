/- The law FnBits. -/
import Derived.Test.YtapccbplmbbnnabAllBits
namespace Go.Proofs.Ytapccbplmbbnnab
open Go.RowKit Go.PlainAid
set_option maxHeartbeats 1600000
set_option maxRecDepth 20000

theorem lawAllBits (a : Option Addr) (la ca : Nat) (b : Option Addr) (lb cb : Nat) (w : World) (hA : Code w w.heap.size a la) (hB : Code w w.heap.size b lb) (ha : la ≤ 9223372036854775807) (hb : lb ≤ 9223372036854775807) :
    Calls Try.prog 3 #[.slice a la ca, .slice b lb cb] w fun e w' => e = .returned (.bool true) ∧ Below w.heap.size w w' := by
  by_cases hl : la ≤ 1048576 ∧ lb ≤ 1048576
  · obtain ⟨l1, l2⟩ := hl
    have HA := Lib.hid hA
    have HB := Lib.hid hB
    clear hA hB
    obtain ⟨i0, hi, hz0, hz1, hz2⟩ := info_parts Try.info5
    go_enter Try.func3, Try.ntmps3
    go_wp2_with fail
    refine (long_no a b la ca lb cb _ l1 l2).mono ?_
    rintro e w' ⟨rfl, rfl⟩
    go_wp2_with fail
    refine (drawBits_any a la ca _ HA.out l1).mono ?_
    rintro e w1 ⟨s, rfl, ⟨hs, hall⟩, b1⟩
    have HS := Lib.hid hall
    clear hall
    obtain ⟨N, hN, n1, T1, T2⟩ := told_first s hs HS.out
    have HN := Lib.hid hN
    have HT1 := Lib.hid T1
    have HT2 := Lib.hid T2
    clear hN T1 T2
    go_wp2_with fail
    refine (HT1.out _).mono ?_
    rintro e w2 ⟨rfl, b2⟩
    have B2 : Below w.heap.size w w2 := b1.trans (b2.mono b1.size)
    clear b1 b2
    go_wp2_with fail
    refine (HT2.out _).mono ?_
    rintro e w3 ⟨rfl, b3⟩
    have B3 : Below w.heap.size w w3 := B2.trans (b3.mono B2.size)
    clear b3 B2
    go_wp2_with fail
    refine (runs_yes s _ ⟨by omega, HS.out⟩).mono ?_
    rintro e w4 ⟨rv, rfl, hown, b4⟩
    have R4 := Lib.hid (SL.of_own hown)
    have B4 : Below w.heap.size w w4 := B3.trans (b4.mono B3.size)
    clear b4 B3 hown
    obtain ⟨rp, rc, rfl⟩ := R4.out.shape
    have rlen := (runsTo_length s s.size).1
    go_wp2_with fail
    refine (ones_yes s _ ⟨by omega, HS.out⟩).mono ?_
    rintro e w5 ⟨rfl, b5⟩
    have R5 := Lib.hid ((R4.out.below (b5.mono (Nat.le_refl _))).up (b5.size))
    have B5 : Below w.heap.size w w5 := B4.trans (b5.mono B4.size)
    clear b5 B4 R4
    go_wp2
    go_loopw [14, 15] (fun v iv wr => ∃ (l : List Int) (j : Nat), j ≤ s.size ∧ iv = .int .i64 j ∧ l.length = j ∧ Hid (∀ x ∈ l, 48 ≤ x ∧ x ≤ 49) ∧ wr.ownsRow w5.heap.size 5 1 v j (l.map (Value.int .u8)) ∧ Below w5.heap.size w5 wr) (fun _ iv _ => s.size - (intOf iv).toNat)
    case atStart => exact ⟨[], 0, Nat.zero_le _, rfl, rfl, by intro x hx; simp at hx, ownsRow_empty w5 _ _, (Below.refl _ _).alloc (Nat.le_refl _) _⟩
    case round =>
      obtain ⟨l, j, hj, rfl, hlen, hall, hown, hbel⟩ := hrel
      by_cases hlt : j < s.size
      · go_wp2_with fail
        refine (at_any b lb cb j 2 w.heap.size _ (HB.out.below (B5.trans (hbel.mono B5.size))) l2 (by omega) (by omega) (by omega)).mono ?_
        rintro e w6 ⟨y, rfl, y0, y1, m, hw6⟩
        have O6 := (show (wr.drewN m).ownsRow w5.heap.size 5 1 _ j _ from hown)
        rw [← hw6] at O6
        have B6 : Below w5.heap.size w5 w6 := by rw [hw6]; exact below_drewN hbel m
        clear hw6 hown hbel
        go_wp2_with (at_builtin; refine wpList_append_own _ rfl _ _ 22 rfl w5.heap.size 5 i0 (.int .u8 0) 1 1 Try.underlying22 hi hz0 hz1 hz2 rfl (by decide) _ _ _ rfl (O6.alloc _) ⟨w6.heap.size, 0, none⟩ 1 1 [.int .u8 (48 + y)] rfl rfl (cell_one_new _ _ _) (by intro u hu; simp at hu; subst hu; rfl) (by unfold maxLen; omega) (by omega) (by have := B6.size; simp; omega) ?_; intro v1 w7 hown7 hgrow7 _)
        have B7 : Hid (Below w5.heap.size w5 w7) := (B6.alloc B6.size _).grown hgrow7 (by have := B6.size; simp; omega) (own_block O6)
        have O7 : Hid (w7.ownsRow w5.heap.size 5 1 v1 (j + 1) ((l ++ [(48 + y)]).map (Value.int .u8))) := by
          unfold Hid
          simpa using hown7
        have A7 : Hid (∀ x ∈ l ++ [(48 + y)], 48 ≤ x ∧ x ≤ 49) := by
          intro x hx
          rcases List.mem_append.1 hx with hx | hx
          · exact hall.out x hx
          · simp at hx; subst hx; omega
        clear hown7 hgrow7 O6 B6
        go_wp2
        go_roundw
        case rel => exact ⟨l ++ [(48 + y)], j + 1, by omega, by go_num, by simp; omega, A7, O7.out, B7.out⟩
        case measure => simp [intOf]; omega
      · obtain rfl : j = s.size := by omega
        obtain ⟨o, ho⟩ : ∃ o, strOfNums l = o := ⟨_, rfl⟩
        have osz : o.size = s.size := by rw [← ho, strOfNums_size, hlen]
        have oat : Hid (∀ k, k < s.size → l[k]? = some (bt o k)) := by
          intro k hk
          have hk2 : k < l.length := by omega
          have hx := hall.out l[k] (List.getElem_mem hk2)
          rw [← ho, bt_nums l k hk2 (by omega) (by omega), List.getElem?_eq_getElem hk2]
        have oall : Hid (AllIn 48 49 o) := by
          intro k hk
          rw [osz] at hk
          have hk2 : k < l.length := by omega
          have hx := hall.out l[k] (List.getElem_mem hk2)
          rw [get_bt o k (by omega), ← ho, bt_nums l k hk2 (by omega) (by omega)]
          exact hx
        obtain ⟨M, m1, T3, T4⟩ := told_all s o hs HS.out oall.out osz N HN.out n1
        have HT3 := Lib.hid T3
        have HT4 := Lib.hid T4
        clear T3 T4
        obtain ⟨x, hx⟩ := xored s o hs HS.out oall.out osz
        have HX := Lib.hid hx
        have xsz := hx.size
        clear hx
        have hcv := conv_own (P := Try.prog) (dst := 9) Try.underlying22 Try.underlying5 Try.underlying9 hown
        rw [ho] at hcv
        go_wp2_with fail
        refine (HX.out.one _).mono ?_
        rintro e w8 ⟨rfl, b8⟩
        have hown8 := own_below hown b8
        have B8 : Below w5.heap.size w5 w8 := hbel.trans (b8.mono hbel.size)
        clear hcv b8 hown hbel
        have hcv := conv_own (P := Try.prog) (dst := 9) Try.underlying22 Try.underlying5 Try.underlying9 hown8
        rw [ho] at hcv
        go_wp2_with fail
        refine (HX.out.two _).mono ?_
        rintro e w9 ⟨rfl, b9⟩
        have hown9 := own_below hown8 b9
        have B9 : Below w5.heap.size w5 w9 := B8.trans (b9.mono B8.size)
        clear hcv b9 hown8 B8
        have hcv := conv_own (P := Try.prog) (dst := 9) Try.underlying22 Try.underlying5 Try.underlying9 hown9
        rw [ho] at hcv
        go_wp2_with fail
        refine (HT3.out _).mono ?_
        rintro e w10 ⟨rfl, b10⟩
        have hown10 := own_below hown9 b10
        have B10 : Below w5.heap.size w5 w10 := B9.trans (b10.mono B9.size)
        clear hcv b10 hown9 B9
        go_wp2_with fail
        refine (HT4.out _).mono ?_
        rintro e w' ⟨rfl, rfl⟩
        have hss2 : (s.toList == s.toList) = true := by simp
        go_wp2_with fail
        refine (sum_any _ _ _ _ _ (R5.out.below B10) (by omega) (fun i h => by have := runsTo_in s s.size i h; omega)).mono ?_
        rintro e w' ⟨rfl, rfl⟩
        rw [runs_sum]
        have hsz : (((s.size : Nat) : Int) != ((s.size : Nat) : Int)) = false := by simp
        have hown10 := Lib.hid hown10
        go_wp2
        go_loopw [24, 25, 26, 27] (fun bv cv hv iv wr2 => ∃ k : Nat, k ≤ s.size ∧ iv = .int .i64 k ∧ bv = .int .i64 (bothTo s o k : Nat) ∧ cv = .int .i64 (onesTo s k) ∧ hv = .int .i64 ((runsTo s k).length : Nat) ∧ ∃ m, wr2 = w10.drewN m) (fun _ _ _ iv _ => s.size - (intOf iv).toNat)
        case atStart => exact ⟨0, Nat.zero_le _, rfl, rfl, rfl, rfl, 0, rfl⟩
        case round =>
          obtain ⟨k, hk, rfl, rfl, rfl, rfl, m, rfl⟩ := hrel
          have bo1 := bothTo_le s o k
          obtain ⟨on1, on2⟩ := onesTo_in s HS.out k hk
          have rl1 := (runsTo_length s k).1
          by_cases hlt : k < s.size
          · obtain ⟨g, cap, hv, hg⟩ := own_shape hown10.out (by omega)
            subst hv
            have c0 := (hown10.out).cellAt k (by omega)
            rw [List.getElem?_map, oat.out k hlt, Option.map_some] at c0
            have hxl : k < x.size := by omega
            have ex : ((x[k]'hxl).toNat : Int) = xorc (bt s k) (bt o k) := by rw [get_bt x k hxl]; exact HX.out.at_ k hlt
            have es : ((s[k]'hlt).toNat : Int) = bt s k := get_bt s k hlt
            have hb1 := bt_bit HS.out k hlt
            have hb2 := bt_bit oall.out k (by omega)
            have HO : Hid (onesTo s (k + 1) = onesTo s k + (bt s k - 48)) := rfl
            have HBo : Hid (bothTo s o (k + 1) = bothTo s o k + if bt s k = 49 ∧ bt o k = 49 then 1 else 0) := rfl
            by_cases hk0 : k = 0
            · have HR : Hid ((runsTo s (k + 1)).length = (runsTo s k).length + 1) := by
                unfold Hid
                rw [runs_len, if_pos (.inl hk0)]
              have h0 : ((k : Int) == 0) = true := by simp [hk0]
              have HK := Lib.hid hk0
              clear hk0
              rcases hb1 with hb1 | hb1 <;> rcases hb2 with hb2 | hb2
              all_goals
                rw [hb1, hb2] at ex
                rw [hb2] at c0
                rw [hb1] at es
                unfold xorc at ex
                simp at ex
                have HO2 : Hid (onesTo s (k + 1) = onesTo s k + (bt s k - 48)) := HO.out
                unfold Hid at HO2 HBo
                rw [hb1] at HO2
                rw [hb1, hb2] at HBo
                simp at HO2 HBo
                have HO3 := Lib.hid HO2
                have HB3 := Lib.hid HBo
                clear HO2 HBo hb1 hb2 HO
                go_wp2
                go_quiet (fail)
                go_wp2
                go_quiet (fail)
                go_wp2
                go_roundw
                case rel => exact ⟨k + 1, by omega, by go_num, congrArg (Value.int .i64) (by have := HB3.out; omega), congrArg (Value.int .i64) (by have := HO3.out; omega), congrArg (Value.int .i64) (by have := HR.out; omega), _, rfl⟩
                case measure => simp [intOf]; omega
            · have h0 : ((k : Int) == 0) = false := by simp [hk0]
              have HR0 : Hid ((runsTo s (k + 1)).length = (runsTo s k).length + if bt s k = bt s (k - 1) then 0 else 1) := by
                unfold Hid
                rw [runs_len]
                by_cases hd : bt s k = bt s (k - 1)
                · rw [if_neg (by rintro (x | x); exact hk0 x; exact x hd), if_pos hd]
                · rw [if_pos (.inr hd), if_neg hd]
              have q1 : IntKind.i64.wrap ((k : Int) - 1) = (k : Int) - 1 := IntWalk.i64_in _ (by omega)
              have q2 : (0 : Int) ≤ (k : Int) - 1 := by omega
              have q3 : ((k : Int) - 1).toNat = k - 1 := by omega
              have q4 : k - 1 < s.size := by omega
              have q5 : (k : Int) - 1 < (s.size : Int) := by omega
              have q6 : (1 : Int) ≤ (k : Int) := by omega
              have q7 : 1 ≤ k := by omega
              have ep : ((s[k - 1]'q4).toNat : Int) = bt s (k - 1) := get_bt s (k - 1) q4
              have hb3 := bt_bit HS.out (k - 1) q4
              clear hk0
              rcases hb1 with hb1 | hb1 <;> rcases hb2 with hb2 | hb2 <;> rcases hb3 with hb3 | hb3
              all_goals
                rw [hb1, hb2] at ex
                rw [hb2] at c0
                rw [hb1] at es
                rw [hb3] at ep
                unfold xorc at ex
                simp at ex
                have HO2 : Hid (onesTo s (k + 1) = onesTo s k + (bt s k - 48)) := HO.out
                unfold Hid at HO2 HBo HR0
                rw [hb1] at HO2
                rw [hb1, hb2] at HBo
                rw [hb1, hb3] at HR0
                simp at HO2 HBo HR0
                have HO3 := Lib.hid HO2
                have HB3 := Lib.hid HBo
                have HR := Lib.hid HR0
                clear HO2 HBo HR0 hb1 hb2 hb3 HO
                go_wp2
                go_quiet (fail)
                go_wp2
                go_quiet (fail)
                go_wp2
                go_roundw
                case rel => exact ⟨k + 1, by omega, by go_num, congrArg (Value.int .i64) (by have := HB3.out; omega), congrArg (Value.int .i64) (by have := HO3.out; omega), congrArg (Value.int .i64) (by have := HR.out; omega), _, rfl⟩
                case measure => simp [intOf]; omega
          · obtain rfl : k = s.size := by omega
            have f1 : (onesTo s s.size == onesTo s s.size) = true := by simp
            have f2 : (((runsTo s s.size).length : Int) == ((runsTo s s.size).length : Int)) = true := by simp
            have f3 : (((bothTo s o s.size : Nat) : Int) % 2 == ((bothTo s o s.size : Nat) : Int) % 2) = true := by simp
            go_wp2
            go_ret
            exact ⟨rfl, below_drewN (B5.trans (B10.mono B5.size)) m⟩
  · have HL := Lib.hid hl
    clear hl
    go_enter Try.func3, Try.ntmps3
    go_wp2_with (go_at_call 15; refine (long_yes a b la ca lb cb _ ha hb HL.out).mono ?_; rintro e w' ⟨rfl, rfl⟩)
    go_ret
    exact ⟨rfl, Below.refl _ _⟩
end Go.Proofs.Ytapccbplmbbnnab
