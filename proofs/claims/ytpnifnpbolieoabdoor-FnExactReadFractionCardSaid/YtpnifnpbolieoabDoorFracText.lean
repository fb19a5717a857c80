/- Texts of fractions: impl.FractionText, spec.l01FText, spec.FractionText, and the law FnExactFractionText. -/
import Derived.Test.YtpnifnpbolieoabDoorFrac
import Derived.Test.YtpnifnpbolieoabDoorReadDec
import Derived.Test.YtpnifnpbolieoabDoorQTail
import Derived.Test.YtpnifnpbolieoabDoorCycA
import Derived.RegionTactic
import Derived.ChangeAlike
import Derived.Laws.Concat
namespace Go.Proofs.YtpnifnpbolieoabDoor
open Go.RowKit Go.PlainAid
set_option maxHeartbeats 1600000

theorem decS_size (n : Int) (h0 : -1000000000000000000 ≤ n) (h1 : n ≤ 1000000000000000000) : (decS n).size ≤ 20 := by
  have := itoa_len n (by omega) (by omega)
  simpa [decS, ByteArray.size] using this
/-- the text of a fraction -/
def textF (n d : Int) : ByteArray := if d = 1 then decS n else decS n ++ ⟨#[47]⟩ ++ decS d

theorem implDecS (n : Int) (h0 : -1000000000000000000 ≤ n) (h1 : n ≤ 1000000000000000000) {w W : World} (ht : Pow10 w.heap.size w) (hB : Below w.heap.size w W) :
    Calls Tryd.prog 13 #[.int .i64 n] W fun e w' => e = .returned (.string (decS n)) ∧ Below W.heap.size W w' :=
  implDec_any n W (by omega) (by omega) (fun w2 h2 => ht w2 (hB.trans (h2.mono hB.size)))
theorem specDecS (n : Int) (h0 : -1000000000000000000 ≤ n) (h1 : n ≤ 1000000000000000000) (W : World) :
    Calls Tryd.prog 47 #[.int .i64 n] W fun e w' => e = .returned (.string (decS n)) ∧ Below W.heap.size W w' := l01Dec_any n W (by omega) (by omega)

theorem ftext_yes (n d : Int) (w : World) (h : VF n d) (ht : Pow10 w.heap.size w) :
    Calls Tryd.prog 26 #[.agg #[.int .i64 n, .int .i64 d]] w fun e w' => e = .returned (.tuple #[.string (textF n d), .bool true]) ∧ Below w.heap.size w w' := by
  have H := Lib.hid h
  have HT : Hid (Pow10 w.heap.size w) := ht
  obtain ⟨⟨h1, h2, h3, h4⟩, _⟩ := h.out
  clear h ht
  go_enter Tryd.func26, Tryd.ntmps26
  go_wp2_with fail
  refine (valid_yes _ _ _ H.out).mono ?_
  rintro e w1 ⟨rfl, hb⟩
  obtain ⟨b1, z1, c1, d1⟩ := keep2 (b := w.heap.size) (x := .int .i64 n) (y := .int .i64 d) ((Below.refl w.heap.size w).alloc (Nat.le_refl _) _) hb (Nat.le_refl _) (by simp) (by simp [go_sem]) (by simp [go_sem])
  clear hb
  have B1 := Lib.hid b1
  clear b1
  by_cases hd : d = 1
  · subst hd
    have HD : Hid (Calls Tryd.prog 13 #[.int .i64 n] w1 fun e w' => e = .returned (.string (decS n)) ∧ Below w1.heap.size w1 w') := implDecS n h3 h4 HT.out B1.out
    go_wp2_with (go_at_call 13; with_reducible refine (HD.out).mono ?_; rintro e w2 ⟨rfl, hb⟩)
    have B2 := Lib.hid (B1.out.trans (hb.mono B1.out.size))
    clear hb
    go_ret2
    exact ⟨rfl, B2.out⟩
  · have hd1 : (d == 1) = false := by simpa using hd
    have HX : Hid (textF n d = decS n ++ ⟨#[47]⟩ ++ decS d) := if_neg hd
    have HN : Hid (∀ q : GW w1, Calls Tryd.prog 13 #[.int .i64 n] q.w fun e w' => e = .returned (.string (decS n)) ∧ Below q.w.heap.size q.w w') := fun q => implDecS n h3 h4 HT.out (B1.out.trans (q.h.mono B1.out.size))
    have HM : Hid (∀ q : GW w1, Calls Tryd.prog 13 #[.int .i64 d] q.w fun e w' => e = .returned (.string (decS d)) ∧ Below q.w.heap.size q.w w') := fun q => implDecS d (by omega) h2 HT.out (B1.out.trans (q.h.mono B1.out.size))
    have K0 : ∀ q : GW w1, q.w.cell? ⟨w.heap.size, 0, none⟩ = some (.int .i64 n) := fun q => cell_below c1 q.h
    have K1 : ∀ q : GW w1, q.w.cell? ⟨w.heap.size, 1, none⟩ = some (.int .i64 d) := fun q => cell_below d1 q.h
    have hmx : Tryd.prog.follows .mixedOrders = true := by kernel_rfl
    have l1 := decS_size n h3 h4
    have l2 := decS_size d (by omega) h2
    obtain ⟨tn, htn⟩ : ∃ t, decS n = t := ⟨_, rfl⟩
    obtain ⟨td, htd⟩ : ∃ t, decS d = t := ⟨_, rfl⟩
    rw [htn, htd] at HX
    rw [htn] at l1
    rw [htd] at l2
    obtain ⟨t1, ht1⟩ : ∃ t, tn ++ (⟨#[47]⟩ : ByteArray) = t := ⟨_, rfl⟩
    have l47 : (⟨#[47]⟩ : ByteArray).size = 1 := rfl
    have l3 : t1.size ≤ 21 := by rw [← ht1, ByteArray.size_append, l47]; omega
    have e1 : ∀ W : World, (Op.stringOp .add tn ⟨#[47]⟩).run Tryd.prog W = .ok (.string t1) W := fun W => by rw [← ht1]; exact run_string_add_sum W _ _ (by rw [l47]; omega)
    obtain ⟨t2, ht2⟩ : ∃ t, t1 ++ td = t := ⟨_, rfl⟩
    have e2 : ∀ W : World, (Op.stringOp .add t1 td).run Tryd.prog W = .ok (.string t2) W := fun W => by rw [← ht2]; exact run_string_add_sum W _ _ (by omega)
    rw [ht1, ht2] at HX
    clear ht1 ht2 l47
    rw [htn] at HN
    rw [htd] at HM
    clear hd htn htd
    go_wp2
    refine wp_region_quiet_tail (C := fun w' => ∃ q : GW w1, w' = q.w) 8 hmx (by kernel_rfl) ⟨⟨w1.drew, (Below.refl _ _).drew⟩, rfl⟩ ?_
    simp only [List.take_succ_cons, List.take_zero, List.drop_succ_cons, List.drop_zero]
    repeat (quiet_step (first | with_reducible exact gw_call (HN.out _) | with_reducible exact gw_call (HM.out _)))
    refine wpQuiet_nil ?_
    rintro W2 ⟨⟨_, hW2⟩, rfl⟩
    clear K0 K1
    have B2 := Lib.hid (B1.out.trans (hW2.mono B1.out.size))
    clear hW2
    go_wp2
    go_ret2
    exact ⟨by rw [HX.out]; rfl, B2.out⟩
theorem ftext_no (n d : Int) (w : World) (h : ¬ VF n d) :
    Calls Tryd.prog 26 #[.agg #[.int .i64 n, .int .i64 d]] w fun e w' => e = .returned (.tuple #[.string ⟨#[]⟩, .bool false]) ∧ Below w.heap.size w w' := by
  have H := Lib.hid h
  clear h
  go_enter Tryd.func26, Tryd.ntmps26
  go_wp2_with (go_at_call 60; refine (valid_no _ _ _ H.out).mono ?_; rintro e w1 ⟨rfl, hb⟩)
  go_ret2
  exact ⟨rfl, ((Below.refl _ _).alloc (Nat.le_refl _) _).trans (hb.mono (by simp))⟩
theorem l01FText_any (n d : Int) (w : World) (h1 : 1 ≤ d) (h2 : d ≤ 1000000000000000000) (h3 : -1000000000000000000 ≤ n) (h4 : n ≤ 1000000000000000000) :
    Calls Tryd.prog 59 #[.agg #[.int .i64 n, .int .i64 d]] w fun e w' => e = .returned (.string (textF n d)) ∧ Below w.heap.size w w' := by
  go_enter Tryd.func59, Tryd.ntmps59
  obtain ⟨w1, hw1⟩ : ∃ x, w.alloc (.cells #[.int .i64 n, .int .i64 d] 39) = x := ⟨_, rfl⟩
  have B1 : Hid (Below w.heap.size w w1) := by rw [← hw1]; exact (Below.refl w.heap.size w).alloc (Nat.le_refl _) _
  have c1 : w1.cell? ⟨w.heap.size, 0, none⟩ = some (.int .i64 n) := by rw [← hw1]; simp [go_sem]
  have d1 : w1.cell? ⟨w.heap.size, 1, none⟩ = some (.int .i64 d) := by rw [← hw1]; simp [go_sem]
  by_cases hd : d = 1
  · subst hd
    have HD : Hid (Calls Tryd.prog 47 #[.int .i64 n] w1 fun e w' => e = .returned (.string (decS n)) ∧ Below w1.heap.size w1 w') := specDecS n h3 h4 _
    go_wp2_with (go_at_call 47; with_reducible refine (HD.out).mono ?_; rintro e w2 ⟨rfl, hb⟩)
    have B2 := Lib.hid (B1.out.trans (hb.mono B1.out.size))
    clear hb
    go_ret
    exact ⟨rfl, B2.out⟩
  · have hd1 : (d == 1) = false := by simpa using hd
    have HX : Hid (textF n d = decS n ++ ⟨#[47]⟩ ++ decS d) := if_neg hd
    have HN : Hid (∀ q : GW w1, Calls Tryd.prog 47 #[.int .i64 n] q.w fun e w' => e = .returned (.string (decS n)) ∧ Below q.w.heap.size q.w w') := fun q => specDecS n h3 h4 _
    have HM : Hid (∀ q : GW w1, Calls Tryd.prog 47 #[.int .i64 d] q.w fun e w' => e = .returned (.string (decS d)) ∧ Below q.w.heap.size q.w w') := fun q => specDecS d (by omega) h2 _
    have K0 : ∀ q : GW w1, q.w.cell? ⟨w.heap.size, 0, none⟩ = some (.int .i64 n) := fun q => cell_below c1 q.h
    have K1 : ∀ q : GW w1, q.w.cell? ⟨w.heap.size, 1, none⟩ = some (.int .i64 d) := fun q => cell_below d1 q.h
    have hmx : Tryd.prog.follows .mixedOrders = true := by kernel_rfl
    have l1 := decS_size n h3 h4
    have l2 := decS_size d (by omega) h2
    obtain ⟨tn, htn⟩ : ∃ t, decS n = t := ⟨_, rfl⟩
    obtain ⟨td, htd⟩ : ∃ t, decS d = t := ⟨_, rfl⟩
    rw [htn, htd] at HX
    rw [htn] at l1
    rw [htd] at l2
    obtain ⟨t1, ht1⟩ : ∃ t, tn ++ (⟨#[47]⟩ : ByteArray) = t := ⟨_, rfl⟩
    have l47 : (⟨#[47]⟩ : ByteArray).size = 1 := rfl
    have l3 : t1.size ≤ 21 := by rw [← ht1, ByteArray.size_append, l47]; omega
    have e1 : ∀ W : World, (Op.stringOp .add tn ⟨#[47]⟩).run Tryd.prog W = .ok (.string t1) W := fun W => by rw [← ht1]; exact run_string_add_sum W _ _ (by rw [l47]; omega)
    obtain ⟨t2, ht2⟩ : ∃ t, t1 ++ td = t := ⟨_, rfl⟩
    have e2 : ∀ W : World, (Op.stringOp .add t1 td).run Tryd.prog W = .ok (.string t2) W := fun W => by rw [← ht2]; exact run_string_add_sum W _ _ (by omega)
    rw [ht1, ht2] at HX
    clear ht1 ht2 l47
    rw [htn] at HN
    rw [htd] at HM
    clear hd htn htd
    go_wp2
    refine wp_region_quiet_tail (C := fun w' => ∃ q : GW w1, w' = q.w) 8 hmx (by kernel_rfl) ⟨⟨w1.drew, (Below.refl _ _).drew⟩, rfl⟩ ?_
    simp only [List.take_succ_cons, List.take_zero, List.drop_succ_cons, List.drop_zero]
    repeat (quiet_step (first | with_reducible exact gw_call (HN.out _) | with_reducible exact gw_call (HM.out _)))
    refine wpQuiet_nil ?_
    rintro W2 ⟨⟨_, hW2⟩, rfl⟩
    clear K0 K1
    have B2 := Lib.hid (B1.out.trans (hW2.mono B1.out.size))
    clear hW2
    go_wp2
    go_ret
    exact ⟨by rw [HX.out]; rfl, B2.out⟩
theorem specFText_no (n d : Int) (w : World) (h : ¬ VF n d) :
    Calls Tryd.prog 24 #[.agg #[.int .i64 n, .int .i64 d]] w fun e w' => e = .returned (.tuple #[.string ⟨#[]⟩, .bool false]) ∧ Below w.heap.size w w' := by
  have H := Lib.hid h
  clear h
  go_enter Tryd.func24, Tryd.ntmps24
  go_wp2_with (go_at_call 58; refine (fis_no _ _ _ H.out).mono ?_; rintro e w1 ⟨rfl, hb⟩)
  go_ret2
  exact ⟨rfl, ((Below.refl _ _).alloc (Nat.le_refl _) _).trans (hb.mono (by simp))⟩
theorem specFText_yes (n d : Int) (w : World) (h : VF n d) :
    Calls Tryd.prog 24 #[.agg #[.int .i64 n, .int .i64 d]] w fun e w' => e = .returned (.tuple #[.string (textF n d), .bool true]) ∧ Below w.heap.size w w' := by
  have H := Lib.hid h
  obtain ⟨⟨h1, h2, h3, h4⟩, _⟩ := h.out
  have HT : Hid (∀ w : World, Calls Tryd.prog 59 #[.agg #[.int .i64 n, .int .i64 d]] w fun e w' => e = .returned (.string (textF n d)) ∧ Below w.heap.size w w') := fun w => l01FText_any n d w h1 h2 h3 h4
  clear h h1 h2 h3 h4
  go_enter Tryd.func24, Tryd.ntmps24
  go_wp2_with fail
  refine (fis_yes _ _ _ H.out).mono ?_
  rintro e w1 ⟨rfl, hb⟩
  obtain ⟨b1, z1, c1, d1⟩ := keep2 (b := w.heap.size) (x := .int .i64 n) (y := .int .i64 d) ((Below.refl w.heap.size w).alloc (Nat.le_refl _) _) hb (Nat.le_refl _) (by simp) (by simp [go_sem]) (by simp [go_sem])
  have B1 := Lib.hid b1
  clear hb b1
  go_wp2_with (go_at_call 59; with_reducible refine (HT.out _).mono ?_; rintro e w2 ⟨rfl, hb⟩)
  have B2 := Lib.hid (B1.out.trans (hb.mono B1.out.size))
  clear hb
  go_ret2
  exact ⟨rfl, B2.out⟩
def GivesText (f : FuncId) (n d : Int) (t : ByteArray) (ok : Bool) (w : World) : Prop := Calls Tryd.prog f #[.agg #[.int .i64 n, .int .i64 d]] w fun e w' => e = .returned (.tuple #[.string t, .bool ok]) ∧ Below w.heap.size w w'
theorem lawFText_core (n d : Int) (t : ByteArray) (ok : Bool) (w : World) (HS : Hid (∀ W : World, Below w.heap.size w W → GivesText 24 n d t ok W)) (HI : Hid (∀ W : World, Below w.heap.size w W → GivesText 26 n d t ok W)) :
    Calls Tryd.prog 7 #[.agg #[.int .i64 n, .int .i64 d]] w fun e w' => e = .returned (.bool true) ∧ Below w.heap.size w w' := by
  have hne : (t.toList == t.toList) = true := by simp
  have hne2 : (ok != ok) = false := by simp
  go_enter Tryd.func7, Tryd.ntmps7
  go_wp2_with fail
  refine (toFrac_any _ _ _).mono ?_
  rintro e w1 ⟨rfl, hb⟩
  obtain ⟨b1, z1, c1, d1⟩ := keep2 (b := w.heap.size) (x := .int .i64 n) (y := .int .i64 d) ((Below.refl w.heap.size w).alloc (Nat.le_refl _) _) hb (Nat.le_refl _) (by simp) (by simp [go_sem]) (by simp [go_sem])
  clear hb
  go_wp2_with fail
  refine (HS.out w1 b1).mono ?_
  rintro e w2 ⟨rfl, hb⟩
  obtain ⟨b2, z2, c2, d2⟩ := keep2 b1 hb (Nat.le_refl _) z1 c1 d1
  clear hb b1 z1 c1 d1
  go_wp2_with fail
  refine (toFrac_any _ _ _).mono ?_
  rintro e w3 ⟨rfl, hb⟩
  obtain ⟨b3, z3, c3, d3⟩ := keep2 b2 hb (Nat.le_refl _) z2 c2 d2
  clear hb b2 z2 c2 d2
  go_wp2_with fail
  refine (HI.out w3 b3).mono ?_
  rintro e w4 ⟨rfl, hb⟩
  obtain ⟨b4, _⟩ := keep2 b3 hb (Nat.le_refl _) z3 c3 d3
  clear hb b3 z3 c3 d3
  go_wp2
  go_ret
  exact ⟨rfl, b4⟩
theorem lawFText (n d : Int) (w : World) (ht : Pow10 w.heap.size w) :
    Calls Tryd.prog 7 #[.agg #[.int .i64 n, .int .i64 d]] w fun e w' => e = .returned (.bool true) ∧ Below w.heap.size w w' := by
  by_cases h : VF n d
  · exact lawFText_core n d (textF n d) true w (fun W _ => specFText_yes n d W h) (fun W hW => ftext_yes n d W h (fun w2 h2 => ht w2 (hW.trans (h2.mono hW.size))))
  · exact lawFText_core n d ⟨#[]⟩ false w (fun W _ => specFText_no n d W h) (fun W _ => ftext_no n d W h)
end Go.Proofs.YtpnifnpbolieoabDoor
