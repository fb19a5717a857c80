/- Pascal's nets: spec.l06Choose, impl.PascalNet, spec.PascalNet, the law. -/
import Derived.Test.YtmnnpkmjamhmcaaRev
import Derived.Test.YtmnnpkmjamhmcaaBinomial
namespace Go.Proofs.Ytmnnpkmjamhmcaa
open Go.RowKit Go.PlainAid
set_option maxHeartbeats 1600000
set_option maxRecDepth 20000

theorem chs_any (m l : Nat) (w : World) (hm : m ≤ 16) (hl : l ≤ m) :
    Calls Try.prog 86 #[.int .i64 m, .int .i64 l] w fun e w' => e = .returned (.int .i64 (Choose.ch m l : Nat)) ∧ w = w' := by
  go_enter Try.func86, Try.ntmps86
  go_wp2
  go_loop [5, 6] (fun cv iv => ∃ j : Nat, j ≤ l ∧ iv = .int .i64 j ∧ cv = .int .i64 (Choose.ch m j : Nat)) (fun _ iv => l - (intOf iv).toNat)
  case atStart => exact ⟨0, Nat.zero_le _, rfl, by rw [Choose.ch_zero]; rfl⟩
  case round =>
    obtain ⟨j, hj, rfl, rfl⟩ := hrel
    by_cases hlt : j < l
    · obtain ⟨c1, c2⟩ := Choose.ch_in m j (by omega) (by omega)
      have ha := Choose.absorb_sub m j (by omega)
      have hd2 := (Choose.ch_in m (j + 1) (by omega) (by omega)).2
      obtain ⟨c, hc⟩ : ∃ c, Choose.ch m j = c := ⟨_, rfl⟩
      obtain ⟨d, hd⟩ : ∃ d, Choose.ch m (j + 1) = d := ⟨_, rfl⟩
      obtain ⟨P, hP⟩ : ∃ P, c * (m - j) = P := ⟨_, rfl⟩
      rw [hc, hd, hP] at ha
      rw [hd] at hd2
      rw [hc, hP] at c1
      rw [hc] at c2
      have E : (c : Int) * ((m : Int) - (j : Int)) = (P : Int) := by
        rw [← hP, Int.natCast_mul, Int.natCast_sub (by omega)]
      have D : (P : Int) / ((j : Int) + 1) = (d : Int) := by
        rw [ha]
        exact_mod_cast Nat.mul_div_cancel d (by omega : 0 < j + 1)
      have HD : Hid (Choose.ch m (j + 1) = d) := hd
      clear ha hd hP
      rw [hc]
      clear hc
      go_wp2
      go_round
      case rel => exact ⟨j + 1, by omega, by go_num, by rw [HD.out]⟩
      case measure => simp [intOf]; omega
    · obtain rfl : j = l := by omega
      go_wp2
      go_ret
      exact ⟨rfl, rfl⟩
/-- a row of the second matrix, by its first summands -/
def prI (i : Nat) : Nat → Int
  | 0 => 0
  | d + 1 => bits .or .i64 (prI i d) ((Choose.ch (i + d) i % 2 * 2 ^ (i + d) : Nat) : Int)
def pasL (b k : Nat) : List Int := (List.range k).map fun i => prI i (b - i)
theorem pasL_length (b k : Nat) : (pasL b k).length = k := by simp [pasL]
theorem pasL_succ (b k : Nat) : pasL b (k + 1) = pasL b k ++ [prI k (b - k)] := by simp [pasL, List.range_succ]
/-- the rows under way -/
def stP (b i d : Nat) : List Int := (pad (pasL b i) b).set i (prI i d)
theorem pad_lenI (l : List Int) {n : Nat} (h : l.length ≤ n) : (pad l n).length = n := by simp [pad]; omega
theorem stP_len {b i : Nat} (d : Nat) (h : i ≤ b) : (stP b i d).length = b := by rw [stP, List.length_set, pad_lenI _ (by rw [pasL_length]; exact h)]
theorem stP_zero {b i : Nat} (_h : i < b) : stP b i 0 = pad (pasL b i) b := by
  unfold stP
  refine List.ext_getElem (by rw [List.length_set]) fun k h1 h2 => ?_
  by_cases e : i = k
  · subst e
    rw [List.getElem_set_self]
    simp [pad, pasL_length, prI]
  · rw [List.getElem_set_ne e]
theorem stP_at {b i : Nat} (d : Nat) (h : i < b) : (stP b i d).getD i 0 = prI i d := by
  rw [List.getD_eq_getElem?_getD, List.getElem?_eq_getElem (by rw [stP_len d (by omega)]; exact h)]
  simp [stP]
theorem stP_set (b i d : Nat) (v : Int) (hv : v = prI i (d + 1)) : (stP b i d).set i v = stP b i (d + 1) := by
  rw [stP, stP, List.set_set, hv]
theorem stP_full {b i : Nat} (h : i < b) : stP b i (b - i) = pad (pasL b (i + 1)) b := by
  have e : b - (pasL b i).length = (b - (i + 1)) + 1 := by rw [pasL_length]; omega
  rw [stP, pasL_succ, pad, e, List.replicate_succ, List.set_append, if_neg (by rw [pasL_length]; omega), pasL_length, Nat.sub_self, List.set_cons_zero, pad, List.length_append, pasL_length, List.append_assoc]
  rfl
theorem bit_sh (c : Nat) {j : Nat} (h : j ≤ 5) : wrap64 (((c % 2 : Nat) : Int) * 2 ^ j) = ((c % 2 * 2 ^ j : Nat) : Int) := by
  have e : ((c % 2 : Nat) : Int) * 2 ^ j = ((c % 2 * 2 ^ j : Nat) : Int) := by push_cast; rfl
  have h2 : 2 ^ j ≤ 2 ^ 5 := Nat.pow_le_pow_right (by omega) h
  have h3 : c % 2 * 2 ^ j ≤ 1 * 2 ^ 5 := Nat.mul_le_mul (by omega) h2
  rw [e]
  generalize c % 2 * 2 ^ j = P at h3 ⊢
  unfold wrap64; omega
theorem pasNet_yes (b : Nat) (w : World) (hb : b ≤ 6) :
    Calls Try.prog 52 #[.int .i64 b] w fun e w' => ∃ v, e = .returned (.tuple #[.agg #[.int .i64 b, v], .bool true]) ∧ LW w.heap.size w'.heap.size w' v 2 (two2 (units b) (pasL b b)) ∧ Below w.heap.size w w' := by
  obtain ⟨i0, hi, hz0, hz1, hz2⟩ := info_parts Try.info2
  have HB : Hid (∀ W, Calls Try.prog 63 #[.int .i64 b] W fun e w' => e = .returned (.bool true) ∧ W = w') := netB_any b true (decide_eq_true (by omega))
  have A0 := D2.new w (.int .i64 0) (.slice none 0 0) 27
  have B0 : Below w.heap.size w (w.alloc (.cells #[.int .i64 0, .slice none 0 0] 27)) := (Below.refl _ _).alloc (Nat.le_refl _) _
  obtain ⟨w0, hw0⟩ : ∃ w0, w.alloc (.cells #[.int .i64 0, .slice none 0 0] 27) = w0 := ⟨_, rfl⟩
  rw [hw0] at A0 B0
  have z0 : w0.heap.size = w.heap.size + 1 := by rw [← hw0]; simp
  have HZ0 := Lib.hid z0
  clear z0
  go_enter Try.func52, Try.ntmps52
  go_wp2_with (first | (go_at_call 63; with_reducible refine (HB.out _).mono ?_; rintro e w1 ⟨rfl, rfl⟩) | (at_make; refine wpList_make_full _ rfl _ _ 35 rfl w0.heap.size 2 i0 _ 1 Try.underlying35 hi hz0 hz1 _ _ _ _ b rfl rfl rfl rfl (by rw [hz2]; omega) (by unfold maxLen; omega) (by first | exact Nat.le_refl _ | (rw [hw0]; exact Nat.le_refl _)) ?_; intro w3 hown hgrow))
  have HI : Hid (Rw w0.heap.size w0.heap.size b b (stP b 0 0) w3 ∧ Below w.heap.size w w3 ∧ D2 w3 w.heap.size (.int .i64 0) (.slice none 0 0)) ∨ b = 0 := by
    by_cases h0 : b = 0
    · exact .inr h0
    · left
      refine ⟨?_, B0.grown hgrow B0.size (by simp), A0.grow hgrow (by simp)⟩
      rw [pad_made] at hown
      rw [stP_zero (by omega)]
      exact hown
  have HJ : Hid (Rw w0.heap.size w0.heap.size b b (pad (pasL b 0) b) w3 ∧ Below w.heap.size w w3 ∧ D2 w3 w.heap.size (.int .i64 0) (.slice none 0 0)) := by
    refine ⟨?_, B0.grown hgrow B0.size (by simp), A0.grow hgrow (by simp)⟩
    rw [pad_made] at hown
    exact hown
  clear hown hgrow HI A0 B0 hw0
  go_loopw [16] (fun iv wr => ∃ i : Nat, i ≤ b ∧ iv = .int .i64 i ∧ Hid (Rw w0.heap.size w0.heap.size b b (pad (pasL b i) b) wr ∧ Below w.heap.size w wr ∧ D2 wr w.heap.size (.int .i64 0) (.slice none 0 0))) (fun iv _ => b - (intOf iv).toNat)
  case atStart => exact ⟨0, Nat.zero_le _, rfl, HJ⟩
  case round =>
    obtain ⟨i, hi2, rfl, HK⟩ := hrel
    clear HJ
    by_cases hlt : i < b
    · have HS : Hid (Rw w0.heap.size w0.heap.size b b (stP b i 0) wr ∧ Below w.heap.size w wr ∧ D2 wr w.heap.size (.int .i64 0) (.slice none 0 0)) := by
        unfold Hid
        rw [stP_zero hlt]
        exact HK.out
      clear HK
      obtain ⟨wo, rfl⟩ : ∃ wo, wo = wr := ⟨_, rfl⟩
      go_wp2
      go_loopw [6] (fun jv wr => ∃ j d : Nat, j ≤ b ∧ i ≤ j ∧ jv = .int .i64 j ∧ Hid (j = i + d) ∧ Hid (Rw w0.heap.size w0.heap.size b b (stP b i d) wr ∧ Below w.heap.size w wr ∧ D2 wr w.heap.size (.int .i64 0) (.slice none 0 0))) (fun jv _ => b - (intOf jv).toNat)
      case atStart => exact ⟨i, 0, hi2, Nat.le_refl _, rfl, rfl, HS⟩
      case round =>
        obtain ⟨j, d, hj, hij, rfl, HJD, HR⟩ := hrel
        clear HS
        by_cases hlt2 : j < b
        · have HBI : Hid (∀ W, Calls Try.prog 87 #[.int .i64 j, .int .i64 i] W fun e w' => e = .returned (.tuple #[.int .i64 (Choose.ch j i : Nat), .bool true]) ∧ W = w') := fun W => binom_yes j i W (by omega) hij
          have hcb := (Choose.ch_in j i (by omega) hij).2
          have hW := bit_sh (Choose.ch j i) (j := j) (by omega)
          have HV : Hid (bits .or .i64 (prI i d) ((Choose.ch j i % 2 * 2 ^ j : Nat) : Int) = prI i (d + 1)) := by unfold Hid; rw [prI, ← HJD.out]
          obtain ⟨c, hc⟩ : ∃ c, Choose.ch j i = c := ⟨_, rfl⟩
          rw [hc] at HBI hcb hW HV
          obtain ⟨P, hP⟩ : ∃ P : Nat, c % 2 * 2 ^ j = P := ⟨_, rfl⟩
          rw [hP] at hW HV
          have e2 : (c : Int) % 2 = ((c % 2 : Nat) : Int) := rfl
          have e3 : (c : Int).tmod 2 = ((c % 2 : Nat) : Int) := by rw [Int.tmod_eq_emod_of_nonneg (by omega)]; rfl
          obtain ⟨r, hr⟩ : ∃ r : Nat, c % 2 = r := ⟨_, rfl⟩
          rw [hr] at hW e2 e3
          have hr2 : r ≤ 1 := by omega
          have c1 := HR.out.1.cell (i := i) hlt
          rw [stP_at d hlt] at c1
          have f1 := HR.out.1.frz i
          have HW2 : Hid (Rw w0.heap.size w0.heap.size b b (stP b i (d + 1)) (wr.setCell ⟨w0.heap.size, i, none⟩ (.int .i64 (prI i (d + 1)))) ∧ Below w.heap.size w (wr.setCell ⟨w0.heap.size, i, none⟩ (.int .i64 (prI i (d + 1)))) ∧ D2 (wr.setCell ⟨w0.heap.size, i, none⟩ (.int .i64 (prI i (d + 1)))) w.heap.size (.int .i64 0) (.slice none 0 0)) := by
            have h0 := HZ0.out
            refine ⟨?_, HR.out.2.1.setCell (p := ⟨w0.heap.size, i, none⟩) (by show w.heap.size ≤ w0.heap.size; omega) _, HR.out.2.2.other (by omega) _ _⟩
            rw [← stP_set b i d (prI i (d + 1)) rfl]
            exact HR.out.1.set i _
          rw [← HV.out] at HW2
          clear hc hP hr HR HV
          generalize prI i d = x at c1 HW2
          go_wp2_with (go_at_call 87; with_reducible refine (HBI.out _).mono ?_; rintro e w1 ⟨rfl, rfl⟩)
          go_region
          go_wp2
          go_roundw
          case rel => exact ⟨j + 1, d + 1, by omega, by omega, by go_num, by have := HJD.out; unfold Hid; omega, by first | exact HW2 | exact ⟨HW2.out.1.drewN 1, HW2.out.2.1.drew, HW2.out.2.2.drewN 1⟩⟩
          case measure => simp [intOf]; omega
        · obtain rfl : j = b := by omega
          have HK2 : Hid (Rw w0.heap.size w0.heap.size j j (pad (pasL j (i + 1)) j) wr ∧ Below w.heap.size w wr ∧ D2 wr w.heap.size (.int .i64 0) (.slice none 0 0)) := by
            have h1 := HR.out
            have h2 := HJD.out
            have e : d = j - i := by omega
            rw [e, stP_full hlt] at h1
            exact h1
          clear HR
          go_wp2
          go_roundw
          case rel => exact ⟨i + 1, by omega, by go_num, HK2⟩
          case measure => simp [intOf]; omega
    · obtain rfl : i = b := by omega
      have hp : pad (pasL i i) i = pasL i i := by
        have h1 := pad_full (pasL i i)
        rwa [pasL_length] at h1
      have HK2 := HK
      rw [hp] at HK2
      clear HK hp
      go_wp2_with fail
      refine (unit_any i wr hb).mono ?_
      rintro e w5 ⟨rfl, r3, hb3⟩
      have z3 := hb3.size
      have hlt3 := r3.lt
      have hge := HK2.out.1.lt
      have A3 := HK2.out.2.2.far hb3
      have B3 := HK2.out.2.1.trans (hb3.mono HK2.out.2.1.size)
      have hs2 := (HK2.out.1.far hb3).sl
      have hs1 := r3.sl
      have h0 := HZ0.out
      have hA := A3.lt
      have hzz : w.heap.size ≤ wr.heap.size := HK2.out.2.1.size
      have hs1p := ((hs1.lower7 (show w0.heap.size ≤ wr.heap.size by omega)).setb (b := w.heap.size) (j := 0) (by omega) (.int .i64 i)).setb (b := w.heap.size) (j := 1) (by omega) (.slice (some ⟨w5.heap.size, 0, none⟩) 2 2)
      have hs2p := (hs2.setb (b := w.heap.size) (j := 0) (by omega) (.int .i64 i)).setb (b := w.heap.size) (j := 1) (by omega) (.slice (some ⟨w5.heap.size, 0, none⟩) 2 2)
      have A4 := (A3.put (.int .i64 i) (.slice (some ⟨w5.heap.size, 0, none⟩) 2 2)).alloc (.cells #[.slice (some ⟨wr.heap.size, 0, none⟩) i i, .slice (some ⟨w0.heap.size, 0, none⟩) i i] 35)
      have B4 := (below_putD B3 (Nat.le_refl _) (.int .i64 i) (.slice (some ⟨w5.heap.size, 0, none⟩) 2 2)).alloc (by rw [size_putD]; omega) (.cells #[.slice (some ⟨wr.heap.size, 0, none⟩) i i, .slice (some ⟨w0.heap.size, 0, none⟩) i i] 35)
      have hL := LW.two (lo := w0.heap.size) (w := putD w5 w.heap.size (.int .i64 i) (.slice (some ⟨w5.heap.size, 0, none⟩) 2 2)) (u := .slice (some ⟨wr.heap.size, 0, none⟩) i i) (v := .slice (some ⟨w0.heap.size, 0, none⟩) i i) (f := two2 (units i) (pasL i i)) (by rw [size_putD]; exact hs1p) (by rw [size_putD]; exact hs2p) (.inr (by simp [Value.ownBlock]; omega)) (by rw [size_putD]; omega)
      rw [size_putD] at hL
      have HP := Lib.hid (hL.widen (lo' := w.heap.size) (by omega) (Nat.le_refl _) hL.top_le)
      have HB9 := Lib.hid B4
      have hz9 : w5.heap.size + 1 = (((w5.setCell ⟨w.heap.size, 0, none⟩ (.int .i64 i)).setCell ⟨w.heap.size, 1, none⟩ (.slice (some ⟨w5.heap.size, 0, none⟩) 2 2)).alloc (.cells #[.slice (some ⟨wr.heap.size, 0, none⟩) i i, .slice (some ⟨w0.heap.size, 0, none⟩) i i] 35)).heap.size := by simp [World.setCell]
      have HZ9 := Lib.hid hz9
      obtain ⟨p0, p1⟩ := A4.1
      obtain ⟨⟨x0, x1⟩, xf0, xf1⟩ := id A3
      unfold putD at p0 p1 HP HB9
      clear A3 A4 B3 B4 hs1 hs2 hs1p hs2p hL h0 hz9 HK2 r3 hb3
      go_wp2
      exact bodyPost_ret (v := .tuple #[.agg #[.int .i64 i, .slice (some ⟨w5.heap.size, 0, none⟩) 2 2], .bool true]) (by simp [results, Try.results52, go_sem, p0, p1]) rfl ⟨_, rfl, by rw [← HZ9.out]; exact HP.out, HB9.out⟩
theorem pasNet_no (b : Int) (w : World) (h : ¬ (0 ≤ b ∧ b ≤ 6)) :
    Calls Try.prog 52 #[.int .i64 b] w fun e w' => e = .returned (.tuple #[.agg #[.int .i64 0, .slice none 0 0], .bool false]) ∧ Below w.heap.size w w' := by
  have HB : Hid (∀ W, Calls Try.prog 63 #[.int .i64 b] W fun e w' => e = .returned (.bool false) ∧ W = w') := netB_any b false (decide_eq_false h)
  clear h
  go_enter Try.func52, Try.ntmps52
  go_wp2_with (go_at_call 63; with_reducible refine (HB.out _).mono ?_; rintro e w1 ⟨rfl, rfl⟩)
  go_returns
  exact ⟨rfl, by go_grown⟩
theorem specPas_no (b : Int) (w : World) (h : ¬ (0 ≤ b ∧ b ≤ 6)) :
    Calls Try.prog 51 #[.int .i64 b] w fun e w' => e = .returned (.tuple #[.agg #[.int .i64 0, .slice none 0 0], .bool false]) ∧ Below w.heap.size w w' := by
  have HB : Hid (∀ W, Calls Try.prog 83 #[.int .i64 b] W fun e w' => e = .returned (.bool false) ∧ W = w') := l10Bits_any b false (decide_eq_false h)
  clear h
  go_enter Try.func51, Try.ntmps51
  go_wp2_with (go_at_call 83; with_reducible refine (HB.out _).mono ?_; rintro e w1 ⟨rfl, rfl⟩)
  go_returns
  exact ⟨rfl, by go_grown⟩
theorem specPas_yes (b : Nat) (w : World) (hb : b ≤ 6) :
    Calls Try.prog 51 #[.int .i64 b] w fun e w' => ∃ p q, e = .returned (.tuple #[.agg #[.int .i64 b, .slice p 2 q], .bool true]) ∧ RR w'.heap.size w' p 2 (two2 (units b) (pasL b b)) ∧ Below w.heap.size w w' := by
  obtain ⟨i0, hi, hz0, hz1, hz2⟩ := info_parts Try.info2
  have HB : Hid (∀ W, Calls Try.prog 83 #[.int .i64 b] W fun e w' => e = .returned (.bool true) ∧ W = w') := l10Bits_any b true (decide_eq_true (by omega))
  have A0 := ((D2.new w (.int .i64 0) (.slice none 0 0) 27).alloc (.cells #[] 2)).alloc (.cells #[] 2)
  obtain ⟨wa, hwa⟩ : ∃ wa, w.alloc (.cells #[.int .i64 0, .slice none 0 0] 27) = wa := ⟨_, rfl⟩
  have za : wa.heap.size = w.heap.size + 1 := by rw [← hwa]; simp
  have HI : Hid (Rw (w.heap.size + 1) (w.heap.size + 1) 0 0 (units 0) ((wa.alloc (.cells #[] 2)).alloc (.cells #[] 2)) ∧ Rw (w.heap.size + 1) (w.heap.size + 1 + 1) 0 0 (pasL b 0) ((wa.alloc (.cells #[] 2)).alloc (.cells #[] 2)) ∧ Below w.heap.size w ((wa.alloc (.cells #[] 2)).alloc (.cells #[] 2)) ∧ D2 ((wa.alloc (.cells #[] 2)).alloc (.cells #[] 2)) w.heap.size (.int .i64 0) (.slice none 0 0)) := by
    refine ⟨?_, ?_, ?_, by rw [← hwa]; exact A0⟩
    · have h8 := Rw.far (show Rw wa.heap.size wa.heap.size 0 0 [] (wa.alloc (.cells #[] 2)) from ownsRow_empty wa 2 1) ((Below.refl _ _).alloc (Nat.le_refl _) (.cells #[] 2))
      rw [za] at h8
      exact h8
    · have h9 := ownsRow_empty (wa.alloc (.cells #[] 2)) 2 1
      have e9 : (wa.alloc (.cells #[] 2)).heap.size = wa.heap.size + 1 := by simp
      rw [e9, za] at h9
      exact own_base h9 (by omega)
    · rw [← hwa]
      exact ((((Below.refl _ w).alloc (Nat.le_refl _) _).alloc (by simp) _).alloc (by simp; omega) _)
  clear A0
  go_enter Try.func51, Try.ntmps51
  go_wp2_with (go_at_call 83; with_reducible refine (HB.out _).mono ?_; rintro e w1 ⟨rfl, rfl⟩)
  have HZA := Lib.hid za
  clear za hwa
  go_loopw [4, 5, 6] (fun ov tv iv wr => ∃ (k g1 c1 g2 c2 : Nat), k ≤ b ∧ iv = .int .i64 k ∧ ov = .slice (some ⟨g1, 0, none⟩) k c1 ∧ tv = .slice (some ⟨g2, 0, none⟩) k c2 ∧ ¬ g1 = g2 ∧ Hid (Rw (w.heap.size + 1) g1 k c1 (units k) wr ∧ Rw (w.heap.size + 1) g2 k c2 (pasL b k) wr ∧ Below w.heap.size w wr ∧ D2 wr w.heap.size (.int .i64 0) (.slice none 0 0))) (fun _ _ iv _ => b - (intOf iv).toNat)
  case atStart => exact ⟨0, _, _, _, _, Nat.zero_le _, rfl, by first | rfl | simp, by first | rfl | simp, by simp, HI⟩
  case round =>
    obtain ⟨k, g1, c1, g2, c2, hk, rfl, rfl, rfl, hne, HK⟩ := hrel
    clear HI
    by_cases hlt : k < b
    · go_wp2
      go_loop [7, 8] (fun xv jv => ∃ (j d : Nat) (x : Int), j ≤ b ∧ k ≤ j ∧ jv = .int .i64 j ∧ xv = .int .i64 x ∧ Hid (j = k + d) ∧ Hid (x = prI k d)) (fun _ jv => b - (intOf jv).toNat)
      case atStart => exact ⟨k, 0, 0, hk, Nat.le_refl _, rfl, rfl, rfl, rfl⟩
      case round =>
        obtain ⟨j, d, x, hj, hkj, rfl, rfl, HJD, HX⟩ := hrel
        by_cases hlt2 : j < b
        · have HBI : Hid (∀ W, Calls Try.prog 86 #[.int .i64 j, .int .i64 k] W fun e w' => e = .returned (.int .i64 (Choose.ch j k : Nat)) ∧ W = w') := fun W => chs_any j k W (by omega) hkj
          have hcb := (Choose.ch_in j k (by omega) hkj).2
          have hW := bit_sh (Choose.ch j k) (j := j) (by omega)
          have HV : Hid (bits .or .i64 x ((Choose.ch j k % 2 * 2 ^ j : Nat) : Int) = prI k (d + 1)) := by unfold Hid; rw [prI, ← HJD.out, HX.out]
          obtain ⟨c, hc⟩ : ∃ c, Choose.ch j k = c := ⟨_, rfl⟩
          rw [hc] at HBI hcb hW HV
          obtain ⟨P, hP⟩ : ∃ P : Nat, c % 2 * 2 ^ j = P := ⟨_, rfl⟩
          rw [hP] at hW HV
          have e2 : (c : Int) % 2 = ((c % 2 : Nat) : Int) := rfl
          have e3 : (c : Int).tmod 2 = ((c % 2 : Nat) : Int) := by rw [Int.tmod_eq_emod_of_nonneg (by omega)]; rfl
          obtain ⟨r, hr⟩ : ∃ r : Nat, c % 2 = r := ⟨_, rfl⟩
          rw [hr] at hW e2 e3
          have hr2 : r ≤ 1 := by omega
          clear hc hP hr HX
          go_wp2_with (go_at_call 86; with_reducible refine (HBI.out _).mono ?_; rintro e w1 ⟨rfl, rfl⟩)
          go_round
          case rel => exact ⟨j + 1, d + 1, _, by omega, by omega, by go_num, rfl, by have := HJD.out; unfold Hid; omega, HV⟩
          case measure => simp [intOf]; omega
        · obtain rfl : j = b := by omega
          obtain ⟨Q, hQ⟩ : ∃ Q : Nat, 2 ^ k = Q := ⟨_, rfl⟩
          have hW1 := wrap2 (k := k) (by omega)
          rw [hQ] at hW1
          have HS1 : Hid (units (k + 1) = units k ++ [(Q : Int)]) := by unfold Hid; rw [units_succ, hQ]
          have HS2 : Hid (pasL j (k + 1) = pasL j k ++ [x]) := by
            unfold Hid
            have := HJD.out
            rw [pasL_succ, HX.out]
            congr 3
            omega
          clear hQ HX HJD
          have hlt1 := HK.out.1.lt
          have hlt2 := HK.out.2.1.lt
          have hge1 := HK.out.1.le
          have hge2 := HK.out.2.1.le
          go_upto_region 14 with (at_builtin; refine wpList_append_own_at _ rfl _ _ 35 rfl (w.heap.size + 1) 2 i0 (.int .i64 0) 1 8 Try.underlying35 hi hz0 hz1 hz2 rfl (by decide) _ _ _ rfl (World.ownsRow.alloc (HK.out.1) _) ⟨wr.heap.size, 0, none⟩ 1 1 [.int .i64 Q] rfl rfl (by first | exact cell_one_new _ _ _ | (have := cell_one_new wr (.int .i64 Q) 2; simpa [hW1] using this)) (by intro u hu; simp at hu; subst hu; rfl) (by unfold maxLen; omega) (by omega) (by first | (simp; done) | (simp; omega)) ?_; intro v1 w1 hown1 hgrow1 hnil1 hat1)
          obtain ⟨g3, c3, rfl, hr3, hg3, hgr⟩ := Rw.appR hown1 hgrow1 hat1
          rw [← HS1.out] at hr3
          have hlt3 := hr3.lt
          have HK2 : Hid (Rw (w.heap.size + 1) g3 (k + 1) c3 (units (k + 1)) w1 ∧ Rw (w.heap.size + 1) g2 k c2 (pasL j k) w1 ∧ Below w.heap.size w w1 ∧ D2 w1 w.heap.size (.int .i64 0) (.slice none 0 0)) :=
            ⟨hr3, HK.out.2.1.grown hgr (fun e => hne (Option.some.inj e)), HK.out.2.2.1.grown hgr (by omega) (fun q e => by cases e; omega), HK.out.2.2.2.grow hgr (fun e => by have := Option.some.inj e; omega)⟩
          have hne3 : ¬ g3 = g2 := by rcases hg3 with rfl | rfl <;> omega
          have hzz := hgr.size
          clear hown1 hgrow1 hnil1 hat1 hr3 hgr HK hg3
          obtain ⟨wm, rfl⟩ : ∃ wm, wm = w1 := ⟨_, rfl⟩
          go_wp2_with (at_builtin; refine wpList_append_own_at _ rfl _ _ 35 rfl (w.heap.size + 1) 2 i0 (.int .i64 0) 1 8 Try.underlying35 hi hz0 hz1 hz2 rfl (by decide) _ _ _ rfl (World.ownsRow.alloc (HK2.out.2.1) _) ⟨wm.heap.size, 0, none⟩ 1 1 [.int .i64 x] rfl rfl (by first | exact cell_one_new _ _ _ | (have := cell_one_new wm (.int .i64 x) 2; simpa [hW1] using this)) (by intro u hu; simp at hu; subst hu; rfl) (by unfold maxLen; omega) (by omega) (by first | (simp; done) | (simp; omega)) ?_; intro v1 w1 hown1 hgrow1 hnil1 hat1)
          obtain ⟨g4, c4, rfl, hr4, hg4, hgr⟩ := Rw.appR hown1 hgrow1 hat1
          rw [← HS2.out] at hr4
          have HK3 : Hid (Rw (w.heap.size + 1) g3 (k + 1) c3 (units (k + 1)) w1 ∧ Rw (w.heap.size + 1) g4 (k + 1) c4 (pasL j (k + 1)) w1 ∧ Below w.heap.size w w1 ∧ D2 w1 w.heap.size (.int .i64 0) (.slice none 0 0)) :=
            ⟨HK2.out.1.grown hgr (fun e => hne3 (Option.some.inj e).symm), hr4, HK2.out.2.2.1.grown hgr (by omega) (fun q e => by cases e; omega), HK2.out.2.2.2.grow hgr (fun e => by have := Option.some.inj e; omega)⟩
          have hne4 : ¬ g3 = g4 := by rcases hg4 with rfl | rfl <;> omega
          clear hown1 hgrow1 hnil1 hat1 hr4 hgr HK2 hg4
          go_wp2
          go_roundw
          case rel => exact ⟨k + 1, g3, c3, g4, c4, by omega, by go_num, by first | rfl | go_num, by first | rfl | go_num, hne4, HK3⟩
          case measure => simp [intOf]; omega
    · obtain rfl : k = b := by omega
      have hlt1 := HK.out.1.lt
      have hge1 := HK.out.1.le
      have hge2 := HK.out.2.1.le
      have hA := HK.out.2.2.2.lt
      have hs1 := HK.out.1.sl
      have hs2 := HK.out.2.1.sl
      have hs1p := (hs1.setb (b := w.heap.size) (j := 0) (by omega) (.int .i64 k)).setb (b := w.heap.size) (j := 1) (by omega) (.slice (some ⟨wr.heap.size, 0, none⟩) 2 2)
      have hs2p := (hs2.setb (b := w.heap.size) (j := 0) (by omega) (.int .i64 k)).setb (b := w.heap.size) (j := 1) (by omega) (.slice (some ⟨wr.heap.size, 0, none⟩) 2 2)
      have A4 := (HK.out.2.2.2.put (.int .i64 k) (.slice (some ⟨wr.heap.size, 0, none⟩) 2 2)).alloc (.cells #[.slice (some ⟨g1, 0, none⟩) k c1, .slice (some ⟨g2, 0, none⟩) k c2] 35)
      have B4 := (below_putD HK.out.2.2.1 (Nat.le_refl _) (.int .i64 k) (.slice (some ⟨wr.heap.size, 0, none⟩) 2 2)).alloc (by rw [size_putD]; omega) (.cells #[.slice (some ⟨g1, 0, none⟩) k c1, .slice (some ⟨g2, 0, none⟩) k c2] 35)
      have hL := LW.two (lo := w.heap.size + 1) (w := putD wr w.heap.size (.int .i64 k) (.slice (some ⟨wr.heap.size, 0, none⟩) 2 2)) (u := .slice (some ⟨g1, 0, none⟩) k c1) (v := .slice (some ⟨g2, 0, none⟩) k c2) (f := two2 (units k) (pasL k k)) (by rw [size_putD]; exact hs1p) (by rw [size_putD]; exact hs2p) (.inr (by simpa [Value.ownBlock] using hne)) (by rw [size_putD]; omega)
      rw [size_putD] at hL
      have HP := Lib.hid (hL.rrOf.2.up hL.top_le)
      have HB9 := Lib.hid B4
      obtain ⟨p0, p1⟩ := A4.1
      obtain ⟨⟨x0, x1⟩, xf0, xf1⟩ := HK.out.2.2.2
      unfold putD at p0 p1 HP HB9
      clear A4 B4 hs1 hs2 hs1p hs2p hL HK
      go_wp2
      exact bodyPost_ret (v := .tuple #[.agg #[.int .i64 k, .slice (some ⟨wr.heap.size, 0, none⟩) 2 2], .bool true]) (by simp [results, Try.results51, go_sem, p0, p1]) rfl ⟨_, _, rfl, HP.out, HB9.out⟩
theorem lawPas (b : Int) (w : World) : Calls Try.prog 12 #[.int .i64 b] w fun e w' => e = .returned (.bool true) ∧ Below w.heap.size w w' := by
  by_cases h : 0 ≤ b ∧ b ≤ 6
  · obtain ⟨b', rfl⟩ := Int.eq_ofNat_of_zero_le h.1
    exact lawPascalNet_core b' b' 2 _ true w (by rw [szl_two2, pasL_length, units_length]; omega) (fun W => specPas_yes b' W (by omega)) (fun W => pasNet_yes b' W (by omega))
  · exact lawPascalNet_core b 0 0 (fun _ => []) false w (by simp [szl])
      (fun W => (specPas_no b W h).mono fun e w' ⟨h1, h2⟩ => ⟨_, _, h1, RR.zero, h2⟩)
      (fun W => (pasNet_no b W h).mono fun e w' ⟨h1, h2⟩ => ⟨_, h1, .inl ⟨rfl, rfl, Nat.le_refl _⟩, h2⟩)
end Go.Proofs.Ytmnnpkmjamhmcaa
