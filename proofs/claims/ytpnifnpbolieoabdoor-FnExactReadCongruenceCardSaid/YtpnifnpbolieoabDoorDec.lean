/- A number in decimal: spec.l01Dec. -/
import Derived.Test.YtpnifnpbolieoabDoorBytes
import Derived.Test.YtpnifnpbolieoabDoorDecMath
import Derived.Laws.Pointers
import Derived.OpenShut
namespace Go.Proofs.YtpnifnpbolieoabDoor
open Go.RowKit Go.PlainAid
set_option maxHeartbeats 4000000

/-- what is left of n behind some digits -/
def sgn (n : Int) (u : Nat) : Int := if n < 0 then -(u : Int) else u
theorem sgn_abs (n : Int) : sgn n n.natAbs = n := by unfold sgn; split <;> omega
theorem sgn_zero (n : Int) (u : Nat) : sgn n u = 0 ↔ u = 0 := by unfold sgn; split <;> omega
theorem sgn_div (n : Int) (u : Nat) : (sgn n u).tdiv 10 = sgn n (u / 10) := by
  unfold sgn
  split
  · rw [Int.neg_tdiv]
    rfl
  · rfl
theorem sgn_mod (n : Int) (u : Nat) : (sgn n u).tmod 10 = sgn n (u % 10) := by
  unfold sgn
  split
  · rw [Int.neg_tmod]
    rfl
  · rfl
theorem sgn_nat (n : Int) (u : Nat) : (sgn n u).natAbs = u := by unfold sgn; split <;> omega
theorem sgn_in (n : Int) (u : Nat) (h0 : -9223372036854775808 ≤ n) (h1 : n ≤ 9223372036854775807) (h : u ≤ n.natAbs) : -9223372036854775808 ≤ sgn n u ∧ sgn n u ≤ 9223372036854775807 := by unfold sgn; split <;> omega

theorem rev_take (R : List Int) (j : Nat) (h : j < R.length) : R.reverse.take (R.length - j) = R.reverse.take (R.length - (j + 1)) ++ [R.getD j 0] := by
  have e : R.length - j = R.length - (j + 1) + 1 := by omega
  have hl : R.length - (j + 1) < R.reverse.length := by rw [List.length_reverse]; omega
  rw [e, List.take_succ_eq_append_getElem hl, List.getElem_reverse, List.getD_eq_getElem?_getD, List.getElem?_eq_getElem h, Option.getD_some]
  congr 3
  omega
set_option maxRecDepth 20000 in
theorem l01Dec_any (n : Int) (w : World) (h0 : -9223372036854775808 ≤ n) (h1 : n ≤ 9223372036854775807) :
    Calls Tryd.prog 47 #[.int .i64 n] w fun e w' => e = .returned (.string ⟨(Lib.itoa n).toArray⟩) ∧ Below w.heap.size w w' := by
  obtain ⟨i0, hi, hz0, hz1, hz2⟩ := info_parts Tryd.info5
  by_cases hn : n = 0
  · subst hn
    rw [itoa_zero]
    go_enter Tryd.func47, Tryd.ntmps47
    go_wp2
    go_ret
    exact ⟨rfl, Below.refl _ _⟩
  have hne : (n == 0) = false := by simpa using hn
  have HN := Lib.hid hn
  clear hn
  go_enter Tryd.func47, Tryd.ntmps47
  go_wp2
  have HW0 := Lib.hid (ownsRow_empty w 5 1)
  have HB0 : Hid (Below w.heap.size w (w.alloc (.cells #[] 5))) := (Below.refl _ _).alloc (Nat.le_refl _) _
  go_loopw [3, 4, 5] (fun v rv _ wr => ∃ (u : Nat) (L : List Int), u ≤ n.natAbs ∧ rv = .int .i64 (sgn n u) ∧ Hid (L ++ rev10 u = rev10 n.natAbs) ∧ Hid (wr.ownsRow w.heap.size 5 1 v L.length (L.map (Value.int .u8))) ∧ Hid (Below w.heap.size w wr)) (fun _ rv _ _ => (intOf rv).natAbs)
  case atStart => exact ⟨n.natAbs, [], Nat.le_refl _, by rw [sgn_abs], rfl, HW0, HB0⟩
  case round =>
    obtain ⟨u, L, hu, rfl, HL, HW, HB⟩ := hrel
    clear HW0 HB0
    have hLl : L.length ≤ 19 := by
      have h1 := congrArg List.length HL.out
      have h2 := rev10_length 19 n.natAbs (by have : (10 ^ 19 : Nat) = 10000000000000000000 := by decide
                                              omega)
      rw [List.length_append] at h1
      omega
    by_cases hu0 : u = 0
    · subst hu0
      rw [(sgn_zero n 0).2 rfl]
      have HL2 : Hid (L = rev10 n.natAbs) := by have := HL.out; rw [rev10_zero, List.append_nil] at this; exact this
      clear HL
      have hown := HW.out
      have hz := HB.out.size
      have hn19 : L.length ≤ 19 := hLl
      clear HW hLl
      by_cases hneg : n < 0
      case' pos =>
        have hRR : Hid (revDec n = L ++ [45]) := by unfold Hid revDec; rw [if_pos hneg, HL2.out]
        go_wp2_with (at_builtin; refine wpList_append_own _ rfl _ _ 54 rfl w.heap.size 5 i0 (.int .u8 0) 1 1 Tryd.underlying54 hi hz0 hz1 hz2 rfl (by decide) _ _ _ rfl (hown.alloc _) ⟨wr.heap.size, 0, none⟩ 1 1 [.int .u8 45] rfl rfl (cell_one_new _ _ _) (by intro u hu; simp at hu; subst hu; rfl) (by unfold maxLen; omega) (by omega) (by simp; omega) ?_; intro v1 w1 hown1 hgrow hiff; clear hiff)
        have HB1 : Hid (Below w.heap.size w w1) := (HB.out.alloc hz _).grown hgrow (by simp; omega) (own_block hown)
        have HW1 : Hid (w1.ownsRow w.heap.size 5 1 v1 (revDec n).length ((revDec n).map (Value.int .u8))) := by
          unfold Hid
          rw [hRR.out, List.length_append]
          simpa using hown1
        have hm20 : (revDec n).length ≤ 20 := by rw [hRR.out, List.length_append]; simp; omega
        clear hown1 hgrow hown HB hRR
        obtain ⟨m, hm⟩ : ∃ m, (revDec n).length = m := ⟨_, rfl⟩
        have HM := Lib.hid hm
        have hm0 : 0 < m := by
          rw [← hm]
          unfold revDec
          have : n.natAbs ≠ 0 := fun x => HN.out (by omega)
          rw [rev10_pos this]
          simp
        rw [hm] at hm20
        have hw := HW1.out
        rw [hm] at hw
        obtain ⟨g, cp, rfl, hg⟩ := own_shape hw hm0
        have HX : Hid (∀ i, i < m → w1.cell? ⟨g, i, none⟩ = some (.int .u8 ((revDec n).getD i 0))) := fun i hi => by
          have h := hw.cellAt i (by omega)
          rw [List.getElem?_map, List.getElem?_eq_getElem (by omega), Option.map_some] at h
          rw [List.getD_eq_getElem?_getD, List.getElem?_eq_getElem (by omega), Option.getD_some]
          exact h
        have hgl : g < w1.heap.size := World.block_lt_of_cell? w1 _ (HX.out 0 hm0)
        have HW2 := Lib.hid (ownsRow_empty w1 5 1)
        have HB2 : Hid (Below w1.heap.size w1 (w1.alloc (.cells #[] 5))) := (Below.refl _ _).alloc (Nat.le_refl _) _
        clear hw HW1 hm
        go_wp2
        have hel : Tryd.prog.underlying 54 = some (.slice (Tryd.prog.elem 54)) := by kernel_rfl
        have hlen := run_len_slice 54 3 (some ⟨g, 0, none⟩) m cp hel (w := w1.alloc (Obj.cells #[] 5))
        rw [hlen]
        clear hel hlen
        go_wp2
      case' neg =>
        have hRR : Hid (revDec n = L) := by unfold Hid revDec; rw [if_neg hneg, HL2.out, List.append_nil]
        have HB1 := HB
        have HW1 : Hid (wr.ownsRow w.heap.size 5 1 u3 (revDec n).length ((revDec n).map (Value.int .u8))) := by
          unfold Hid
          rw [hRR.out]
          exact hown
        have hm20 : (revDec n).length ≤ 20 := by rw [hRR.out]; omega
        clear hown HB hRR
        have hdn : decide (n < 0) = false := by simpa using hneg
        obtain ⟨w1, rfl⟩ : ∃ x, x = wr := ⟨wr, rfl⟩
        obtain ⟨m, hm⟩ : ∃ m, (revDec n).length = m := ⟨_, rfl⟩
        have HM := Lib.hid hm
        have hm0 : 0 < m := by
          rw [← hm]
          unfold revDec
          have : n.natAbs ≠ 0 := fun x => HN.out (by omega)
          rw [rev10_pos this]
          simp
        rw [hm] at hm20
        have hw := HW1.out
        rw [hm] at hw
        obtain ⟨g, cp, rfl, hg⟩ := own_shape hw hm0
        have HX : Hid (∀ i, i < m → w1.cell? ⟨g, i, none⟩ = some (.int .u8 ((revDec n).getD i 0))) := fun i hi => by
          have h := hw.cellAt i (by omega)
          rw [List.getElem?_map, List.getElem?_eq_getElem (by omega), Option.map_some] at h
          rw [List.getD_eq_getElem?_getD, List.getElem?_eq_getElem (by omega), Option.getD_some]
          exact h
        have hgl : g < w1.heap.size := World.block_lt_of_cell? w1 _ (HX.out 0 hm0)
        have HW2 := Lib.hid (ownsRow_empty w1 5 1)
        have HB2 : Hid (Below w1.heap.size w1 (w1.alloc (.cells #[] 5))) := (Below.refl _ _).alloc (Nat.le_refl _) _
        clear hw HW1 hm
        go_wp2
      all_goals
        go_loopw [6, 7] (fun ov iv wr => ∃ j : Nat, j ≤ m ∧ iv = .int .i64 ((j : Int) - 1) ∧ Hid (wr.ownsRow w1.heap.size 5 1 ov (m - j) (((revDec n).reverse.take (m - j)).map (Value.int .u8))) ∧ Hid (Below w1.heap.size w1 wr)) (fun _ iv _ => (intOf iv + 1).toNat)
        case atStart => exact ⟨m, Nat.le_refl _, rfl, by rw [Nat.sub_self]; exact HW2, HB2⟩
        case round =>
          obtain ⟨j, hj, rfl, HW, HB'⟩ := hrel
          clear HW2 HB2
          by_cases hj0 : j = 0
          · subst hj0
            have hown := HW.out
            rw [Nat.sub_zero, List.take_of_length_le (by rw [List.length_reverse, HM.out]; exact Nat.le_refl _)] at hown
            have hfin : strOfNums (revDec n).reverse = ⟨(Lib.itoa n).toArray⟩ := by unfold strOfNums; rw [revDec_itoa n HN.out]
            have hcv := conv_own (P := Tryd.prog) (dst := 9) Tryd.underlying54 Tryd.underlying5 Tryd.underlying9 hown
            rw [hfin] at hcv
            have HBF := Lib.hid (HB1.out.trans (HB'.out.mono HB1.out.size))
            clear hown HW HB' hfin
            go_wp2
            go_ret
            exact ⟨rfl, HBF.out⟩
          · obtain ⟨i, rfl⟩ : ∃ i, j = i + 1 := ⟨j - 1, by omega⟩
            have e1 : ((i + 1 : Nat) : Int) - 1 = (i : Int) := by omega
            have hc := (HB'.out.cell (p := ⟨g, i, none⟩) hgl).trans (HX.out i (by omega))
            obtain ⟨b, hb⟩ : ∃ b, (revDec n).getD i 0 = b := ⟨_, rfl⟩
            rw [hb] at hc
            have HT : Hid ((revDec n).reverse.take (m - i) = (revDec n).reverse.take (m - (i + 1)) ++ [b]) := by
              rw [← hb, ← HM.out]
              exact rev_take _ _ (by rw [HM.out]; omega)
            have hown := HW.out
            have zz2 := HB'.out.size
            have zz1 := HB1.out.size
            have him : i < m := by omega
            have him2 : (i : Int) < (m : Int) := by omega
            have hl : m - (i + 1) + 1 = m - i := by omega
            have hmi : m - (i + 1) ≤ 20 := by omega
            clear HW hb hj hj0
            simp only [e1]
            go_wp2_with (at_builtin; refine wpList_append_own _ rfl _ _ 54 rfl w1.heap.size 5 i0 (.int .u8 0) 1 1 Tryd.underlying54 hi hz0 hz1 hz2 rfl (by decide) _ _ _ rfl (hown.alloc _) ⟨wr.heap.size, 0, none⟩ 1 1 [.int .u8 b] rfl rfl (cell_one_new _ _ _) (by intro u hu; simp at hu; subst hu; rfl) (by unfold maxLen; omega) (by omega) (by simp; omega) ?_; intro v3 w3 hown3 hgrow3 hiff; clear hiff)
            have HB3 : Hid (Below w1.heap.size w1 w3) := (HB'.out.alloc zz2 _).grown hgrow3 (by simp; omega) (own_block hown)
            have HW3 : Hid (w3.ownsRow w1.heap.size 5 1 v3 (m - i) (((revDec n).reverse.take (m - i)).map (Value.int .u8))) := by
              unfold Hid
              rw [HT.out, ← hl]
              simpa using hown3
            clear hown3 hgrow3 hown HB'
            exact ⟨⟨i, by omega, rfl, HW3, HB3⟩, by simp [intOf]⟩
    · have HU := Lib.hid hu0
      have hd := sgn_div n u
      have hm := sgn_mod n u
      obtain ⟨r0, r1⟩ := sgn_in n u h0 h1 hu
      obtain ⟨q0, q1⟩ := sgn_in n (u / 10) h0 h1 (by omega)
      have hr0 : (sgn n u != 0) = true := by simp [sgn_zero, hu0]
      have hna := sgn_nat n u
      have hnb := sgn_nat n (u / 10)
      obtain ⟨d, hdd⟩ : ∃ d, u % 10 = d := ⟨_, rfl⟩
      have hd10 : d < 10 := by omega
      have HL2 : Hid ((L ++ [48 + (d : Int)]) ++ rev10 (u / 10) = rev10 n.natAbs) := by
        have h := HL.out
        rw [rev10_pos hu0, hdd] at h
        unfold Hid
        rw [← h, List.append_assoc]
        simp
      have hlt : u / 10 < u := by omega
      have hle : u / 10 ≤ n.natAbs := by omega
      rw [hdd] at hm
      obtain ⟨r, hr⟩ : ∃ r, sgn n u = r := ⟨_, rfl⟩
      obtain ⟨r', hr'⟩ : ∃ r', sgn n (u / 10) = r' := ⟨_, rfl⟩
      obtain ⟨t, ht⟩ : ∃ t, sgn n d = t := ⟨_, rfl⟩
      have htd : t = -(d : Int) ∨ t = (d : Int) := by rw [← ht]; unfold sgn; split <;> simp
      rw [hr, hr'] at hd
      rw [hr, ht] at hm
      rw [hr] at hr0 r0 r1 hna ⊢
      rw [hr'] at q0 q1 hnb
      have HR' := Lib.hid hr'
      have hown := HW.out
      have hz := HB.out.size
      clear HL hu0 hu hdd hr ht hr' HW
      by_cases hneg : t < 0
      · have hnd : -t = (d : Int) := by omega
        have hdn : decide (t < 0) = true := by simpa using hneg
        clear htd
        go_wp2_with (at_builtin; refine wpList_append_own _ rfl _ _ 54 rfl w.heap.size 5 i0 (.int .u8 0) 1 1 Tryd.underlying54 hi hz0 hz1 hz2 rfl (by decide) _ _ _ rfl (hown.alloc _) ⟨wr.heap.size, 0, none⟩ 1 1 [.int .u8 (48 + (d : Int))] rfl rfl (cell_one_new _ _ _) (by intro u hu; simp at hu; subst hu; rfl) (by unfold maxLen; omega) (by omega) (by simp; omega) ?_; intro v1 w1 hown1 hgrow hiff; clear hiff)
        have HB1 : Hid (Below w.heap.size w w1) := (HB.out.alloc hz _).grown hgrow (by simp; omega) (own_block hown)
        have HW1 : Hid (w1.ownsRow w.heap.size 5 1 v1 (L ++ [48 + (d : Int)]).length ((L ++ [48 + (d : Int)]).map (Value.int .u8))) := by
          unfold Hid
          simpa using hown1
        clear hown1 hgrow hown HB
        exact ⟨⟨u / 10, L ++ [48 + (d : Int)], hle, by rw [HR'.out], HL2, HW1, HB1⟩, by simp [intOf]; omega⟩
      · have hdn : decide (t < 0) = false := by simpa using hneg
        obtain rfl : t = (d : Int) := by omega
        clear htd hneg
        go_wp2_with (at_builtin; refine wpList_append_own _ rfl _ _ 54 rfl w.heap.size 5 i0 (.int .u8 0) 1 1 Tryd.underlying54 hi hz0 hz1 hz2 rfl (by decide) _ _ _ rfl (hown.alloc _) ⟨wr.heap.size, 0, none⟩ 1 1 [.int .u8 (48 + (d : Int))] rfl rfl (cell_one_new _ _ _) (by intro u hu; simp at hu; subst hu; rfl) (by unfold maxLen; omega) (by omega) (by simp; omega) ?_; intro v1 w1 hown1 hgrow hiff; clear hiff)
        have HB1 : Hid (Below w.heap.size w w1) := (HB.out.alloc hz _).grown hgrow (by simp; omega) (own_block hown)
        have HW1 : Hid (w1.ownsRow w.heap.size 5 1 v1 (L ++ [48 + (d : Int)]).length ((L ++ [48 + (d : Int)]).map (Value.int .u8))) := by
          unfold Hid
          simpa using hown1
        clear hown1 hgrow hown HB
        exact ⟨⟨u / 10, L ++ [48 + (d : Int)], hle, by rw [HR'.out], HL2, HW1, HB1⟩, by simp [intOf]; omega⟩
end Go.Proofs.YtpnifnpbolieoabDoor
