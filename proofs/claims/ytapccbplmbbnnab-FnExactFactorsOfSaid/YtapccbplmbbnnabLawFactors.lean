/- impl.FactorsOf, spec.FactorsOf, the law FnExactFactorsOf. -/
import Derived.Test.YtapccbplmbbnnabFactors
namespace Go.Proofs.Ytapccbplmbbnnab
open Go.RowKit Go.PlainAid
set_option maxHeartbeats 800000

set_option maxRecDepth 10000 in
theorem factors_yes (n : Nat) (w : World) (n0 : 1 ≤ n) (n1 : n < 131072) :
    Calls Try.prog 36 #[.int .i64 n] w fun e w' => ∃ v, e = .returned (.tuple #[v, .bool true]) ∧ w'.ownsRow w.heap.size 2 1 v (facT n).length ((facT n).map (Value.int .i64)) ∧ Below w.heap.size w w' := by
  obtain ⟨i0, hi, hz0, hz1, hz2⟩ := info_parts Try.info2
  have HO : Hid (∀ w : World, Calls Try.prog 61 #[.int .i64 17] w fun e w' => e = .returned (.int .i64 131071) ∧ w = w') := fun w => ones_any 17 131072 w (by omega) (by decide)
  have HI : Hid (∀ w : World, Calls Try.prog 60 #[.int .i64 n, .int .i64 1, .int .i64 131071] w fun e w' => e = .returned (.bool true) ∧ w = w') := fun w => btw64_b _ _ _ _ (decide_eq_true (by omega)) w
  have HS := Lib.hid (FacP.start n0 n1)
  have HE := Lib.hid (ownsRow_empty w 2 1)
  obtain ⟨tt, htt⟩ : ∃ x, facT n = x := ⟨_, rfl⟩
  rw [htt] at HS ⊢
  clear htt
  go_enter Try.func36, Try.ntmps36
  go_wp2_with (first | (go_at_call 60; with_reducible refine (HI.out _).mono ?_; rintro e w3 ⟨rfl, rfl⟩) | (go_at_call 61; with_reducible refine (HO.out _).mono ?_; rintro e w3 ⟨rfl, rfl⟩))
  go_loopw [4, 5, 6, 7, 8] (fun v pv qv _ _ wr => ∃ (l : List Int) (f p q : Nat), pv = .int .i64 p ∧ qv = .int .i64 q ∧ p < 131072 ∧ q < 131073 ∧ 2 ≤ q ∧ 1 ≤ p ∧ l.length ≤ 18 ∧ Hid (FacP tt f p q l) ∧ wr.ownsRow w.heap.size 2 1 v l.length (l.map (Value.int .i64)) ∧ Below w.heap.size w wr) (fun _ pv qv _ _ _ => facM (intOf pv).toNat (intOf qv).toNat)
  case atStart => exact ⟨[], 8388608, n, 2, rfl, rfl, n1, by omega, by omega, n0, by simp, HS.out, HE.out, (Below.refl _ _).alloc (Nat.le_refl _) _⟩
  case round =>
    obtain ⟨l, f, p, q, rfl, rfl, p1, q1, q0, p0, hl, HP, hown, hbel⟩ := hrel
    obtain ⟨LP, hLP⟩ : ∃ L, Pl.len p = L := ⟨_, rfl⟩
    obtain ⟨LQ, hLQ⟩ : ∃ L, Pl.len q = L := ⟨_, rfl⟩
    have hp2 : LP ≤ 17 := by rw [← hLP]; exact Pl.len_of_lt 17 p p1
    have hq2 : LQ ≤ 18 := by rw [← hLQ]; exact Pl.len_of_lt 18 q (by omega)
    have HDp : Hid (∀ w : World, Calls Try.prog 76 #[.int .i64 p] w fun e w' => e = .returned (.int .i64 ((LP : Int) - 1)) ∧ w = w') := fun w => by
      have := degree_any p w (by omega)
      rwa [hLP] at this
    have HDq : Hid (∀ w : World, Calls Try.prog 76 #[.int .i64 q] w fun e w' => e = .returned (.int .i64 ((LQ : Int) - 1)) ∧ w = w') := fun w => by
      have := degree_any q w (by omega)
      rwa [hLQ] at this
    have HDV : Hid (∀ w : World, Calls Try.prog 77 #[.int .i64 p, .int .i64 q] w fun e w' => e = .returned (.tuple #[.int .i64 (Pl.quo q p), .int .i64 (Pl.rem q p)]) ∧ w = w') := fun w => divide_any p q w (by omega) (by omega) (by omega)
    by_cases hc : 2 * LQ ≤ LP + 1
    · have hcP : Hid (2 * Pl.len q ≤ Pl.len p + 1) := by unfold Hid; omega
      have hci : 2 * ((LQ : Int) - 1) ≤ (LP : Int) - 1 := by omega
      by_cases hr : Pl.rem q p = 0
      · obtain ⟨HT, HM⟩ := HP.out.take hcP.out hr
        have hT2 := HT
        have HT := Lib.hid HT
        have HM := Lib.hid HM
        have hr0 : ((Pl.rem q p : Int) != 0) = false := by rw [hr]; rfl
        have hl2 : (l ++ [(q : Int)]).length ≤ 18 := fac_len hT2
        obtain ⟨P2, hP2⟩ : ∃ x, Pl.quo q p = x := ⟨_, rfl⟩
        rw [hP2] at HT HM hT2 HDV
        have hb2 : P2 < 131072 ∧ 1 ≤ P2 := ⟨hT2.2.1, hT2.1⟩
        obtain ⟨R2, hR2⟩ : ∃ x, Pl.rem q p = x := ⟨_, rfl⟩
        rw [hR2] at hr0 HDV
        clear hP2 hT2 hr hc hLP hLQ hR2
        go_wp2_with (first | (go_at_call 76; first | (with_reducible refine (HDp.out _).mono ?_; rintro e w3 ⟨rfl, rfl⟩) | (with_reducible refine (HDq.out _).mono ?_; rintro e w3 ⟨rfl, rfl⟩)) | (go_at_call 77; with_reducible refine (HDV.out _).mono ?_; rintro e w3 ⟨rfl, rfl⟩) | (at_builtin; refine wpList_append_own _ rfl _ _ 29 rfl w.heap.size 2 i0 (.int .i64 0) 1 8 Try.underlying29 hi hz0 hz1 hz2 rfl (by decide) _ _ _ rfl (hown.alloc _) ⟨wr.heap.size, 0, none⟩ 1 1 [.int .i64 q] rfl rfl (cell_one_new _ _ _) (by intro u hu; simp at hu; subst hu; rfl) (by unfold maxLen; omega) (by omega) (by have := hbel.size; simp; omega) ?_; intro v1 w1 hown1 hgrow _))
        have hb1 : Below w.heap.size w w1 := (hbel.alloc hbel.size _).grown hgrow (by have := hbel.size; simp; omega) (own_block hown)
        have HO1 : Hid (w1.ownsRow w.heap.size 2 1 v1 (l ++ [(q : Int)]).length ((l ++ [(q : Int)]).map (Value.int .i64))) := by
          unfold Hid
          simpa using hown1
        clear hown1 hgrow hown hbel
        go_wp2
        go_roundw
        case rel => exact ⟨l ++ [(q : Int)], f - 1, P2, q, rfl, rfl, hb2.1, q1, q0, hb2.2, hl2, HT.out, HO1.out, hb1⟩
        case measure => simp only [intOf, Int.toNat_natCast]; exact HM.out
      · obtain ⟨HT, HM, hq3⟩ := HP.out.skip hcP.out hr
        have HT := Lib.hid HT
        have HM := Lib.hid HM
        have hr0 : ((Pl.rem q p : Int) != 0) = true := by rw [bne_iff_ne]; omega
        obtain ⟨R2, hR2⟩ : ∃ x, Pl.rem q p = x := ⟨_, rfl⟩
        rw [hR2] at hr0 HDV
        clear hr hc hLP hLQ hR2
        go_wp2_with (first | (go_at_call 76; first | (with_reducible refine (HDp.out _).mono ?_; rintro e w3 ⟨rfl, rfl⟩) | (with_reducible refine (HDq.out _).mono ?_; rintro e w3 ⟨rfl, rfl⟩)) | (go_at_call 77; with_reducible refine (HDV.out _).mono ?_; rintro e w3 ⟨rfl, rfl⟩))
        go_roundw
        case rel => exact ⟨l, f - 1, p, q + 1, rfl, by go_num, p1, by omega, by omega, p0, hl, HT.out, hown, hbel⟩
        case measure =>
          have e : (intOf (Value.int IntKind.i64 ((q : Int) + 1))).toNat = q + 1 := by simp only [intOf]; omega
          rw [e]
          simp only [intOf, Int.toNat_natCast]
          exact HM.out
    · have hcP : Hid (¬ 2 * Pl.len q ≤ Pl.len p + 1) := by unfold Hid; omega
      have hci : (LP : Int) - 1 < 2 * ((LQ : Int) - 1) := by omega
      have HL := Lib.hid (HP.out.last hcP.out)
      clear hLP hLQ
      by_cases hp : p = 1
      · have HL2 : Hid (tt = l) := by have := HL.out; rwa [if_pos hp] at this
        have hp0 : ((p : Int) != 1) = false := by rw [hp]; rfl
        clear hp p1 q1
        go_wp2_with (go_at_call 76; first | (with_reducible refine (HDp.out _).mono ?_; rintro e w3 ⟨rfl, rfl⟩) | (with_reducible refine (HDq.out _).mono ?_; rintro e w3 ⟨rfl, rfl⟩))
        go_ret2
        exact ⟨_, rfl, by rw [HL2.out]; exact hown, hbel⟩
      · have HL2 : Hid (tt = l ++ [(p : Int)]) := by have := HL.out; rwa [if_neg hp] at this
        have hp0 : ((p : Int) != 1) = true := by rw [bne_iff_ne]; omega
        clear hp p1 q1
        go_wp2_with (first | (go_at_call 76; first | (with_reducible refine (HDp.out _).mono ?_; rintro e w3 ⟨rfl, rfl⟩) | (with_reducible refine (HDq.out _).mono ?_; rintro e w3 ⟨rfl, rfl⟩)) | (at_builtin; refine wpList_append_own _ rfl _ _ 29 rfl w.heap.size 2 i0 (.int .i64 0) 1 8 Try.underlying29 hi hz0 hz1 hz2 rfl (by decide) _ _ _ rfl (hown.alloc _) ⟨wr.heap.size, 0, none⟩ 1 1 [.int .i64 p] rfl rfl (cell_one_new _ _ _) (by intro u hu; simp at hu; subst hu; rfl) (by unfold maxLen; omega) (by omega) (by have := hbel.size; simp; omega) ?_; intro v1 w1 hown1 hgrow _))
        have hb1 : Below w.heap.size w w1 := (hbel.alloc hbel.size _).grown hgrow (by have := hbel.size; simp; omega) (own_block hown)
        have HO1 : Hid (w1.ownsRow w.heap.size 2 1 v1 (l ++ [(p : Int)]).length ((l ++ [(p : Int)]).map (Value.int .i64))) := by
          unfold Hid
          simpa using hown1
        clear hown1 hgrow hown hbel
        go_wp2
        go_ret2
        exact ⟨_, rfl, by rw [HL2.out]; exact HO1.out, hb1⟩
theorem factors_no (n : Int) (w : World) (h : ¬ (1 ≤ n ∧ n ≤ 131071)) :
    Calls Try.prog 36 #[.int .i64 n] w fun e w' => e = .returned (.tuple #[.slice none 0 0, .bool false]) ∧ w = w' := by
  have HO : Hid (∀ w : World, Calls Try.prog 61 #[.int .i64 17] w fun e w' => e = .returned (.int .i64 131071) ∧ w = w') := fun w => ones_any 17 131072 w (by omega) (by decide)
  have HI : Hid (∀ w : World, Calls Try.prog 60 #[.int .i64 n, .int .i64 1, .int .i64 131071] w fun e w' => e = .returned (.bool false) ∧ w = w') := fun w => btw64_b _ _ _ _ (decide_eq_false h) w
  clear h
  go_enter Try.func36, Try.ntmps36
  go_wp2_with (first | (go_at_call 60; with_reducible refine (HI.out _).mono ?_; rintro e w3 ⟨rfl, rfl⟩) | (go_at_call 61; with_reducible refine (HO.out _).mono ?_; rintro e w3 ⟨rfl, rfl⟩))
  go_ret2
  exact ⟨rfl, rfl⟩
set_option maxRecDepth 10000 in
theorem specFactors_yes (n : Nat) (w : World) (n0 : 1 ≤ n) (n1 : n < 131072) :
    Calls Try.prog 43 #[.int .i64 n] w fun e w' => ∃ v, e = .returned (.tuple #[v, .bool true]) ∧ w'.ownsRow w.heap.size 2 1 v (facT n).length ((facT n).map (Value.int .i64)) ∧ Below w.heap.size w w' := by
  obtain ⟨i0, hi, hz0, hz1, hz2⟩ := info_parts Try.info2
  have HI : Hid (∀ w : World, Calls Try.prog 70 #[.int .i64 n, .int .i64 1, .int .i64 131071] w fun e w' => e = .returned (.bool true) ∧ w = w') := fun w => l00In_b _ _ _ _ (decide_eq_true (by omega)) w
  have HS := Lib.hid (FacP.start n0 n1)
  have HE := Lib.hid (ownsRow_empty w 2 1)
  obtain ⟨tt, htt⟩ : ∃ x, facT n = x := ⟨_, rfl⟩
  rw [htt] at HS ⊢
  clear htt
  go_enter Try.func43, Try.ntmps43
  go_wp2_with (go_at_call 70; with_reducible refine (HI.out _).mono ?_; rintro e w3 ⟨rfl, rfl⟩)
  go_loopw [0, 4, 5, 6, 7] (fun pv v qv _ _ wr => ∃ (l : List Int) (f p q : Nat), pv = .int .i64 p ∧ qv = .int .i64 q ∧ p < 131072 ∧ q < 131073 ∧ 2 ≤ q ∧ 1 ≤ p ∧ l.length ≤ 18 ∧ Hid (FacP tt f p q l) ∧ wr.ownsRow w.heap.size 2 1 v l.length (l.map (Value.int .i64)) ∧ Below w.heap.size w wr) (fun pv _ qv _ _ _ => facM (intOf pv).toNat (intOf qv).toNat)
  case atStart => exact ⟨[], 8388608, n, 2, rfl, rfl, n1, by omega, by omega, n0, by simp, HS.out, HE.out, (Below.refl _ _).alloc (Nat.le_refl _) _⟩
  case round =>
    obtain ⟨l, f, p, q, rfl, rfl, p1, q1, q0, p0, hl, HP, hown, hbel⟩ := hrel
    by_cases hp : 1 < p
    · obtain ⟨LP, hLP⟩ : ∃ L, Pl.len p = L := ⟨_, rfl⟩
      obtain ⟨LQ, hLQ⟩ : ∃ L, Pl.len q = L := ⟨_, rfl⟩
      have hp2 : LP ≤ 17 := by rw [← hLP]; exact Pl.len_of_lt 17 p p1
      have hq2 : LQ ≤ 18 := by rw [← hLQ]; exact Pl.len_of_lt 18 q (by omega)
      have HDp : Hid (∀ w : World, Calls Try.prog 81 #[.int .i64 p] w fun e w' => e = .returned (.int .i64 ((LP : Int) - 1)) ∧ w = w') := fun w => by
        have := l02Degree_any p w (by omega)
        rwa [hLP] at this
      have HDq : Hid (∀ w : World, Calls Try.prog 81 #[.int .i64 q] w fun e w' => e = .returned (.int .i64 ((LQ : Int) - 1)) ∧ w = w') := fun w => by
        have := l02Degree_any q w (by omega)
        rwa [hLQ] at this
      by_cases hc : 2 * LQ ≤ LP + 1
      · have hcP : Hid (2 * Pl.len q ≤ Pl.len p + 1) := by unfold Hid; omega
        have hci : 2 * ((LQ : Int) - 1) ≤ (LP : Int) - 1 := by omega
        have HDV : Hid (∀ w : World, Calls Try.prog 82 #[.int .i64 p, .int .i64 q] w fun e w' => e = .returned (.tuple #[.int .i64 (Pl.quo q p), .int .i64 (Pl.rem q p)]) ∧ w = w') := fun w => l02Div_any p q w (by omega) (by omega) (by omega)
        by_cases hr : Pl.rem q p = 0
        · obtain ⟨HT, HM⟩ := HP.out.take hcP.out hr
          have hT2 := HT
          have HT := Lib.hid HT
          have HM := Lib.hid HM
          have hr0 : ((Pl.rem q p : Int) == 0) = true := by rw [hr]; rfl
          have hl2 : (l ++ [(q : Int)]).length ≤ 18 := fac_len hT2
          obtain ⟨P2, hP2⟩ : ∃ x, Pl.quo q p = x := ⟨_, rfl⟩
          rw [hP2] at HT HM hT2 HDV
          have hb2 : P2 < 131072 ∧ 1 ≤ P2 := ⟨hT2.2.1, hT2.1⟩
          obtain ⟨R2, hR2⟩ : ∃ x, Pl.rem q p = x := ⟨_, rfl⟩
          rw [hR2] at hr0 HDV
          clear hP2 hT2 hr hc hLP hLQ hR2
          go_wp2_with (first | (go_at_call 81; first | (with_reducible refine (HDp.out _).mono ?_; rintro e w3 ⟨rfl, rfl⟩) | (with_reducible refine (HDq.out _).mono ?_; rintro e w3 ⟨rfl, rfl⟩)) | (go_at_call 82; with_reducible refine (HDV.out _).mono ?_; rintro e w3 ⟨rfl, rfl⟩) | (at_builtin; refine wpList_append_own _ rfl _ _ 29 rfl w.heap.size 2 i0 (.int .i64 0) 1 8 Try.underlying29 hi hz0 hz1 hz2 rfl (by decide) _ _ _ rfl (hown.alloc _) ⟨wr.heap.size, 0, none⟩ 1 1 [.int .i64 q] rfl rfl (cell_one_new _ _ _) (by intro u hu; simp at hu; subst hu; rfl) (by unfold maxLen; omega) (by omega) (by have := hbel.size; simp; omega) ?_; intro v1 w1 hown1 hgrow _))
          have hb1 : Below w.heap.size w w1 := (hbel.alloc hbel.size _).grown hgrow (by have := hbel.size; simp; omega) (own_block hown)
          have HO1 : Hid (w1.ownsRow w.heap.size 2 1 v1 (l ++ [(q : Int)]).length ((l ++ [(q : Int)]).map (Value.int .i64))) := by
            unfold Hid
            simpa using hown1
          clear hown1 hgrow hown hbel
          go_wp2
          go_roundw
          case rel => exact ⟨l ++ [(q : Int)], f - 1, P2, q, rfl, rfl, hb2.1, q1, q0, hb2.2, hl2, HT.out, HO1.out, hb1⟩
          case measure => simp only [intOf, Int.toNat_natCast]; exact HM.out
        · obtain ⟨HT, HM, hq3⟩ := HP.out.skip hcP.out hr
          have HT := Lib.hid HT
          have HM := Lib.hid HM
          have hr0 : ((Pl.rem q p : Int) == 0) = false := by rw [beq_eq_false_iff_ne]; omega
          obtain ⟨R2, hR2⟩ : ∃ x, Pl.rem q p = x := ⟨_, rfl⟩
          rw [hR2] at hr0 HDV
          clear hr hc hLP hLQ hR2
          go_wp2_with (first | (go_at_call 81; first | (with_reducible refine (HDp.out _).mono ?_; rintro e w3 ⟨rfl, rfl⟩) | (with_reducible refine (HDq.out _).mono ?_; rintro e w3 ⟨rfl, rfl⟩)) | (go_at_call 82; with_reducible refine (HDV.out _).mono ?_; rintro e w3 ⟨rfl, rfl⟩))
          go_roundw
          case rel => exact ⟨l, f - 1, p, q + 1, rfl, by go_num, p1, by omega, by omega, p0, hl, HT.out, hown, hbel⟩
          case measure =>
            have e : (intOf (Value.int IntKind.i64 ((q : Int) + 1))).toNat = q + 1 := by simp only [intOf]; omega
            rw [e]
            simp only [intOf, Int.toNat_natCast]
            exact HM.out
      · have hcP : Hid (¬ 2 * Pl.len q ≤ Pl.len p + 1) := by unfold Hid; omega
        have hci : (LP : Int) - 1 < 2 * ((LQ : Int) - 1) := by omega
        obtain ⟨HT, HM⟩ := HP.out.own hcP.out hp
        have hl2 : (l ++ [(p : Int)]).length ≤ 18 := fac_len HT
        have HT := Lib.hid HT
        have HM := Lib.hid HM
        have HDV : Hid (∀ w : World, Calls Try.prog 82 #[.int .i64 p, .int .i64 p] w fun e w' => e = .returned (.tuple #[.int .i64 1, .int .i64 0]) ∧ w = w') := fun w => by
          have := l02Div_any p p w (by omega) (by omega) (by omega)
          rwa [(rem_own (show 0 < p by omega)).1, (rem_own (show 0 < p by omega)).2] at this
        clear hLP hLQ
        go_wp2_with (first | (go_at_call 81; first | (with_reducible refine (HDp.out _).mono ?_; rintro e w3 ⟨rfl, rfl⟩) | (with_reducible refine (HDq.out _).mono ?_; rintro e w3 ⟨rfl, rfl⟩)) | (go_at_call 82; with_reducible refine (HDV.out _).mono ?_; rintro e w3 ⟨rfl, rfl⟩) | (at_builtin; refine wpList_append_own _ rfl _ _ 29 rfl w.heap.size 2 i0 (.int .i64 0) 1 8 Try.underlying29 hi hz0 hz1 hz2 rfl (by decide) _ _ _ rfl (hown.alloc _) ⟨wr.heap.size, 0, none⟩ 1 1 [.int .i64 p] rfl rfl (cell_one_new _ _ _) (by intro u hu; simp at hu; subst hu; rfl) (by unfold maxLen; omega) (by omega) (by have := hbel.size; simp; omega) ?_; intro v1 w1 hown1 hgrow _))
        have hb1 : Below w.heap.size w w1 := (hbel.alloc hbel.size _).grown hgrow (by have := hbel.size; simp; omega) (own_block hown)
        have HO1 : Hid (w1.ownsRow w.heap.size 2 1 v1 (l ++ [(p : Int)]).length ((l ++ [(p : Int)]).map (Value.int .i64))) := by
          unfold Hid
          simpa using hown1
        clear hown1 hgrow hown hbel
        go_wp2
        go_roundw
        case rel => exact ⟨l ++ [(p : Int)], f - 1, 1, p, rfl, rfl, by omega, by omega, by omega, by omega, hl2, HT.out, HO1.out, hb1⟩
        case measure => simp only [intOf, Int.toNat_natCast]; exact HM.out
    · obtain rfl : p = 1 := by omega
      have HL2 := Lib.hid HP.out.done
      go_wp2
      go_ret2
      exact ⟨_, rfl, by rw [HL2.out]; exact hown, hbel⟩
theorem specFactors_no (n : Int) (w : World) (h : ¬ (1 ≤ n ∧ n ≤ 131071)) :
    Calls Try.prog 43 #[.int .i64 n] w fun e w' => e = .returned (.tuple #[.slice none 0 0, .bool false]) ∧ w = w' := by
  have HI : Hid (∀ w : World, Calls Try.prog 70 #[.int .i64 n, .int .i64 1, .int .i64 131071] w fun e w' => e = .returned (.bool false) ∧ w = w') := fun w => l00In_b _ _ _ _ (decide_eq_false h) w
  clear h
  go_enter Try.func43, Try.ntmps43
  go_wp2_with (go_at_call 70; with_reducible refine (HI.out _).mono ?_; rintro e w3 ⟨rfl, rfl⟩)
  go_ret2
  exact ⟨rfl, rfl⟩
theorem lawFactors_core (n : Int) (w : World) (xs : List Int) (ok : Bool) (hn : xs.length ≤ 400) (HS : Hid (GivesList 43 #[.int .i64 n] xs ok)) (HI : Hid (GivesList 36 #[.int .i64 n] xs ok)) :
    Calls Try.prog 9 #[.int .i64 n] w fun e w' => e = .returned (.bool true) ∧ Below w.heap.size w w' := by
  have hok : (ok != ok) = false := by simp
  have hq : (((1 : Int) + (xs.length : Int)) != ((1 : Int) + (xs.length : Int))) = false := by simp
  go_enter Try.func9, Try.ntmps9
  go_wp2_with fail
  refine (HS.out _).mono ?_
  rintro e w1 ⟨a, rfl, ha, hb1⟩
  go_wp2_with fail
  refine (HI.out _).mono ?_
  rintro e w2 ⟨b, rfl, hb, hb2⟩
  have ha2 := ha.below hb2
  have hbel2 : Below w.heap.size w w2 := hb1.trans (hb2.mono hb1.size)
  have z1 := hb1.size
  have z2 := hb2.size
  clear ha hb1 hb2
  have H2 := Lib.hid (And.intro ha2 hb)
  clear ha2 hb
  go_wp2_with fail
  refine (eq64_yes _ _ xs _ _ _ _ _ H2.out.2 H2.out.1 (by omega)).mono ?_
  rintro e w3 ⟨rfl, n3, rfl⟩
  go_wp2_with fail
  refine (mark64_any _ xs _ _ 1 _ (H2.out.2.drewN n3) (by omega) (by omega) (by omega)).mono ?_
  rintro e w4 ⟨rfl, hm, hg⟩
  have K := Lib.hid (Kept.mk0 hbel2 z1 z2 H2.out.1 H2.out.2 hm hg)
  clear hm hg hbel2 z2 H2
  go_wp2_with fail
  refine (held64_any _ _ _ _ 1 _ K.out.sb (by omega) (by omega) (by omega)).mono ?_
  rintro e w4 ⟨rfl, rfl⟩
  go_wp2_with fail
  refine (HI.out _).mono ?_
  rintro e w5 ⟨c, rfl, hc, hb5⟩
  have K5 := Lib.hid (K.out.next hb5 z1)
  have HC := Lib.hid hc
  clear K hb5 hc
  go_wp2_with fail
  refine (eq64_yes _ _ xs _ _ _ _ _ HC.out K5.out.sa (by omega)).mono ?_
  rintro e w6 ⟨rfl, n6, rfl⟩
  have K6 := Lib.hid (K5.out.drewN n6)
  clear K5 HC
  go_wp2_with fail
  refine (held64_any _ _ _ _ 1 _ K6.out.sb (by omega) (by omega) (by omega)).mono ?_
  rintro e w7 ⟨rfl, rfl⟩
  go_wp2
  go_ret
  exact ⟨rfl, K6.out.bel⟩
theorem lawFactors (n : Int) (w : World) :
    Calls Try.prog 9 #[.int .i64 n] w fun e w' => e = .returned (.bool true) ∧ Below w.heap.size w w' := by
  by_cases h : 1 ≤ n ∧ n ≤ 131071
  · obtain ⟨h0, h1⟩ := h
    obtain ⟨m, rfl⟩ := Int.eq_ofNat_of_zero_le (show 0 ≤ n by omega)
    refine lawFactors_core m w (facT m) true (facT_len (by omega) (by omega)) (fun W => ?_) (fun W => ?_)
    · exact (specFactors_yes m W (by omega) (by omega)).mono fun e w' ⟨v, he, ho, hb⟩ => ⟨v, he, SL.of_own ho, hb⟩
    · exact (factors_yes m W (by omega) (by omega)).mono fun e w' ⟨v, he, ho, hb⟩ => ⟨v, he, SL.of_own ho, hb⟩
  · refine lawFactors_core n w [] false (by simp) (fun W => ?_) (fun W => ?_)
    · exact (specFactors_no n W h).mono fun e w' ⟨he, hw⟩ => ⟨_, he, .inl ⟨rfl, rfl⟩, by rw [← hw]; exact Below.refl _ _⟩
    · exact (factors_no n W h).mono fun e w' ⟨he, hw⟩ => ⟨_, he, .inl ⟨rfl, rfl⟩, by rw [← hw]; exact Below.refl _ _⟩
end Go.Proofs.Ytapccbplmbbnnab
