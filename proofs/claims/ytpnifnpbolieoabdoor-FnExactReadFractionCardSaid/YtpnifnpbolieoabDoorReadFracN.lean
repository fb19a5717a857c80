/- Fractions read by the model: spec.l01FRead. -/
import Derived.Test.YtpnifnpbolieoabDoorReadFrac
namespace Go.Proofs.YtpnifnpbolieoabDoor
open Go.RowKit Go.PlainAid
set_option maxHeartbeats 3200000

set_option maxRecDepth 8000 in
theorem specRF_okN (s p q : ByteArray) (n d : Int) (i : Nat) (w : World) (hi : i ≤ s.size) (hs : s.size ≤ 1048576) (hN : ∀ j, (h : j < s.size) → j < i → (s[j]'h).toNat ≠ 47)  (hend : i = s.size) (hv : VF n 1) (ht : textF n 1 = s)
    (HP : Hid (∀ W : World, Calls Tryd.prog 84 #[.string s] W fun e w' => e = .returned (.tuple #[.int .i64 n, .bool true]) ∧ Below W.heap.size W w')) :
    Calls Tryd.prog 61 #[.string s] w fun e w' => e = .returned (.tuple #[.agg #[.int .i64 n, .int .i64 1], .bool true]) ∧ Below w.heap.size w w' := by
  have HB0 : Hid (Below w.heap.size w (w.alloc (.cells #[.int .i64 0, .int .i64 0] 39)) ∧ C2 (w.alloc (.cells #[.int .i64 0, .int .i64 0] 39)) w.heap.size (.int .i64 0) (.int .i64 0)) := ⟨(Below.refl _ _).alloc (Nat.le_refl _) _, C2.new w _ _ _⟩
  have HN := Lib.hid hN
  have HV := Lib.hid hv
  obtain ⟨⟨v1, v2, v3, v4⟩, _⟩ := hv.out
  have HT : Hid (∀ W : World, Calls Tryd.prog 59 #[.agg #[.int .i64 n, .int .i64 1]] W fun e w' => e = .returned (.string (textF n 1)) ∧ Below W.heap.size W w') := fun W => l01FText_any n _ W v1 v2 v3 v4
  rw [ht] at HT
  have hne : (s.toList == s.toList) = true := by simp
  clear hv ht v1 v2 v3 v4
  clear hN
  have kl : decide ((i : Int) < (s.size : Int)) = false := by rw [decide_eq_false_iff_not]; omega
  go_enter Tryd.func61, Tryd.ntmps61
  go_wp2
  go_loopw [4] (fun iv wr => ∃ k : Nat, k ≤ i ∧ iv = .int .i64 k ∧ wr = w.alloc (.cells #[.int .i64 0, .int .i64 0] 39)) (fun iv _ => i - (intOf iv).toNat)
  case atStart => exact ⟨0, Nat.zero_le _, rfl, rfl⟩
  case round =>
    obtain ⟨k, hk, rfl, rfl⟩ := hrel
    by_cases hki : k < i
    · have hks : k < s.size := by omega
      have hks2 : (k : Int) < (s.size : Int) := by omega
      have hb := HN.out k hks hki
      have hb2 : (((s[k]'hks).toNat : Int) != 47) = true := by simp; omega
      clear hb
      go_wp2
      go_roundw
      case rel => exact ⟨k + 1, by omega, by go_num, by first | rfl | trivial⟩
      case measure => simp [intOf]; omega
    · obtain rfl : k = i := by omega
      generalize hw0 : w.alloc (.cells #[.int .i64 0, .int .i64 0] 39) = w0 at HB0 ⊢
      clear hw0
      go_wp2_with fail
      refine (HP.out _).mono ?_
      rintro e w1 ⟨rfl, hb⟩
      have Bw1 : Hid (Below w.heap.size w w1 ∧ C2 w1 w.heap.size (.int .i64 0) (.int .i64 0)) := ⟨HB0.out.1.trans (hb.mono HB0.out.1.size), HB0.out.2.below hb HB0.out.2.lt⟩
      clear hb HB0
      have B4 : Hid (Below w.heap.size w (w1.alloc (.cells #[.int .i64 n, .int .i64 1] 39)) ∧ C2 (w1.alloc (.cells #[.int .i64 n, .int .i64 1] 39)) w.heap.size (.int .i64 0) (.int .i64 0) ∧ C2 (w1.alloc (.cells #[.int .i64 n, .int .i64 1] 39)) w1.heap.size (.int .i64 n) (.int .i64 1)) := ⟨Bw1.out.1.alloc Bw1.out.1.size _, Bw1.out.2.alloc _, C2.new w1 _ _ _⟩
      have z3 := Bw1.out.2.lt
      clear Bw1
      go_wp2_with fail
      refine (fis_yes _ _ _ HV.out).mono ?_
      rintro e w5 ⟨rfl, hb⟩
      have Bw5 : Hid (Below w.heap.size w w5 ∧ C2 w5 w.heap.size (.int .i64 0) (.int .i64 0) ∧ C2 w5 w1.heap.size (.int .i64 n) (.int .i64 1)) := ⟨B4.out.1.trans (hb.mono B4.out.1.size), B4.out.2.1.below hb B4.out.2.1.lt, B4.out.2.2.below hb B4.out.2.2.lt⟩
      clear hb B4
      obtain ⟨⟨g4, g5⟩, _⟩ := Bw5.out.2.2
      go_wp2_with fail
      refine (HT.out _).mono ?_
      rintro e w6 ⟨rfl, hb⟩
      have Bw6 : Hid (Below w.heap.size w w6 ∧ C2 w6 w.heap.size (.int .i64 0) (.int .i64 0) ∧ C2 w6 w1.heap.size (.int .i64 n) (.int .i64 1)) := ⟨Bw5.out.1.trans (hb.mono Bw5.out.1.size), Bw5.out.2.1.below hb Bw5.out.2.1.lt, Bw5.out.2.2.below hb Bw5.out.2.2.lt⟩
      clear hb Bw5 g4 g5
      obtain ⟨⟨c5, d5⟩, f5, f6⟩ := Bw6.out.2.1
      have P := C2.put ⟨⟨c5, d5⟩, f5, f6⟩ (.int .i64 n) (.int .i64 1)
      unfold put2 at P
      obtain ⟨p0, p1⟩ := P
      obtain ⟨⟨c4, d4⟩, _⟩ := Bw6.out.2.2
      have z5 : ¬ w1.heap.size = w.heap.size := by omega
      have z6 : ¬ w.heap.size = w1.heap.size := by omega
      go_wp2
      exact bodyPost_ret (v := .tuple #[.agg #[.int .i64 n, .int .i64 1], .bool true]) (by simp [results, Tryd.results61, go_sem, p0, p1]) rfl ⟨rfl, below_put2 Bw6.out.1 (Nat.le_refl _) _ _⟩
set_option maxRecDepth 8000 in
theorem specRF_textN (s p q : ByteArray) (n d : Int) (i : Nat) (w : World) (hi : i ≤ s.size) (hs : s.size ≤ 1048576) (hN : ∀ j, (h : j < s.size) → j < i → (s[j]'h).toNat ≠ 47)  (hend : i = s.size) (hv : VF n 1) (ht : textF n 1 ≠ s)
    (HP : Hid (∀ W : World, Calls Tryd.prog 84 #[.string s] W fun e w' => e = .returned (.tuple #[.int .i64 n, .bool true]) ∧ Below W.heap.size W w')) :
    Calls Tryd.prog 61 #[.string s] w fun e w' => e = .returned (.tuple #[.agg #[.int .i64 0, .int .i64 0], .bool false]) ∧ Below w.heap.size w w' := by
  have HB0 : Hid (Below w.heap.size w (w.alloc (.cells #[.int .i64 0, .int .i64 0] 39)) ∧ C2 (w.alloc (.cells #[.int .i64 0, .int .i64 0] 39)) w.heap.size (.int .i64 0) (.int .i64 0)) := ⟨(Below.refl _ _).alloc (Nat.le_refl _) _, C2.new w _ _ _⟩
  have HN := Lib.hid hN
  have HV := Lib.hid hv
  obtain ⟨⟨v1, v2, v3, v4⟩, _⟩ := hv.out
  have HT : Hid (∀ W : World, Calls Tryd.prog 59 #[.agg #[.int .i64 n, .int .i64 1]] W fun e w' => e = .returned (.string (textF n 1)) ∧ Below W.heap.size W w') := fun W => l01FText_any n _ W v1 v2 v3 v4
  have hne : ((textF n 1).toList == s.toList) = false := ne_str ht
  obtain ⟨tt, htt⟩ : ∃ t, textF n 1 = t := ⟨_, rfl⟩
  rw [htt] at HT hne
  clear hv ht v1 v2 v3 v4 htt
  clear hN
  have kl : decide ((i : Int) < (s.size : Int)) = false := by rw [decide_eq_false_iff_not]; omega
  go_enter Tryd.func61, Tryd.ntmps61
  go_wp2
  go_loopw [4] (fun iv wr => ∃ k : Nat, k ≤ i ∧ iv = .int .i64 k ∧ wr = w.alloc (.cells #[.int .i64 0, .int .i64 0] 39)) (fun iv _ => i - (intOf iv).toNat)
  case atStart => exact ⟨0, Nat.zero_le _, rfl, rfl⟩
  case round =>
    obtain ⟨k, hk, rfl, rfl⟩ := hrel
    by_cases hki : k < i
    · have hks : k < s.size := by omega
      have hks2 : (k : Int) < (s.size : Int) := by omega
      have hb := HN.out k hks hki
      have hb2 : (((s[k]'hks).toNat : Int) != 47) = true := by simp; omega
      clear hb
      go_wp2
      go_roundw
      case rel => exact ⟨k + 1, by omega, by go_num, by first | rfl | trivial⟩
      case measure => simp [intOf]; omega
    · obtain rfl : k = i := by omega
      generalize hw0 : w.alloc (.cells #[.int .i64 0, .int .i64 0] 39) = w0 at HB0 ⊢
      clear hw0
      go_wp2_with fail
      refine (HP.out _).mono ?_
      rintro e w1 ⟨rfl, hb⟩
      have Bw1 : Hid (Below w.heap.size w w1 ∧ C2 w1 w.heap.size (.int .i64 0) (.int .i64 0)) := ⟨HB0.out.1.trans (hb.mono HB0.out.1.size), HB0.out.2.below hb HB0.out.2.lt⟩
      clear hb HB0
      have B4 : Hid (Below w.heap.size w (w1.alloc (.cells #[.int .i64 n, .int .i64 1] 39)) ∧ C2 (w1.alloc (.cells #[.int .i64 n, .int .i64 1] 39)) w.heap.size (.int .i64 0) (.int .i64 0) ∧ C2 (w1.alloc (.cells #[.int .i64 n, .int .i64 1] 39)) w1.heap.size (.int .i64 n) (.int .i64 1)) := ⟨Bw1.out.1.alloc Bw1.out.1.size _, Bw1.out.2.alloc _, C2.new w1 _ _ _⟩
      have z3 := Bw1.out.2.lt
      clear Bw1
      go_wp2_with fail
      refine (fis_yes _ _ _ HV.out).mono ?_
      rintro e w5 ⟨rfl, hb⟩
      have Bw5 : Hid (Below w.heap.size w w5 ∧ C2 w5 w.heap.size (.int .i64 0) (.int .i64 0) ∧ C2 w5 w1.heap.size (.int .i64 n) (.int .i64 1)) := ⟨B4.out.1.trans (hb.mono B4.out.1.size), B4.out.2.1.below hb B4.out.2.1.lt, B4.out.2.2.below hb B4.out.2.2.lt⟩
      clear hb B4
      obtain ⟨⟨g4, g5⟩, _⟩ := Bw5.out.2.2
      go_wp2_with fail
      refine (HT.out _).mono ?_
      rintro e w6 ⟨rfl, hb⟩
      have Bw6 : Hid (Below w.heap.size w w6 ∧ C2 w6 w.heap.size (.int .i64 0) (.int .i64 0) ∧ C2 w6 w1.heap.size (.int .i64 n) (.int .i64 1)) := ⟨Bw5.out.1.trans (hb.mono Bw5.out.1.size), Bw5.out.2.1.below hb Bw5.out.2.1.lt, Bw5.out.2.2.below hb Bw5.out.2.2.lt⟩
      clear hb Bw5 g4 g5
      obtain ⟨⟨c5, d5⟩, f5, f6⟩ := Bw6.out.2.1
      have P := C2.put ⟨⟨c5, d5⟩, f5, f6⟩ (.int .i64 0) (.int .i64 0)
      unfold put2 at P
      obtain ⟨p0, p1⟩ := P
      go_wp2
      exact bodyPost_ret (v := .tuple #[.agg #[.int .i64 0, .int .i64 0], .bool false]) (by simp [results, Tryd.results61, go_sem, p0, p1]) rfl ⟨rfl, below_put2 Bw6.out.1 (Nat.le_refl _) _ _⟩
set_option maxRecDepth 8000 in
theorem specRF_vfN (s p q : ByteArray) (n d : Int) (i : Nat) (w : World) (hi : i ≤ s.size) (hs : s.size ≤ 1048576) (hN : ∀ j, (h : j < s.size) → j < i → (s[j]'h).toNat ≠ 47)  (hend : i = s.size) (hv : ¬ VF n 1)
    (HP : Hid (∀ W : World, Calls Tryd.prog 84 #[.string s] W fun e w' => e = .returned (.tuple #[.int .i64 n, .bool true]) ∧ Below W.heap.size W w')) :
    Calls Tryd.prog 61 #[.string s] w fun e w' => e = .returned (.tuple #[.agg #[.int .i64 0, .int .i64 0], .bool false]) ∧ Below w.heap.size w w' := by
  have HB0 : Hid (Below w.heap.size w (w.alloc (.cells #[.int .i64 0, .int .i64 0] 39)) ∧ C2 (w.alloc (.cells #[.int .i64 0, .int .i64 0] 39)) w.heap.size (.int .i64 0) (.int .i64 0)) := ⟨(Below.refl _ _).alloc (Nat.le_refl _) _, C2.new w _ _ _⟩
  have HN := Lib.hid hN
  have HV := Lib.hid hv
  clear hv
  clear hN
  have kl : decide ((i : Int) < (s.size : Int)) = false := by rw [decide_eq_false_iff_not]; omega
  go_enter Tryd.func61, Tryd.ntmps61
  go_wp2
  go_loopw [4] (fun iv wr => ∃ k : Nat, k ≤ i ∧ iv = .int .i64 k ∧ wr = w.alloc (.cells #[.int .i64 0, .int .i64 0] 39)) (fun iv _ => i - (intOf iv).toNat)
  case atStart => exact ⟨0, Nat.zero_le _, rfl, rfl⟩
  case round =>
    obtain ⟨k, hk, rfl, rfl⟩ := hrel
    by_cases hki : k < i
    · have hks : k < s.size := by omega
      have hks2 : (k : Int) < (s.size : Int) := by omega
      have hb := HN.out k hks hki
      have hb2 : (((s[k]'hks).toNat : Int) != 47) = true := by simp; omega
      clear hb
      go_wp2
      go_roundw
      case rel => exact ⟨k + 1, by omega, by go_num, by first | rfl | trivial⟩
      case measure => simp [intOf]; omega
    · obtain rfl : k = i := by omega
      generalize hw0 : w.alloc (.cells #[.int .i64 0, .int .i64 0] 39) = w0 at HB0 ⊢
      clear hw0
      go_wp2_with fail
      refine (HP.out _).mono ?_
      rintro e w1 ⟨rfl, hb⟩
      have Bw1 : Hid (Below w.heap.size w w1 ∧ C2 w1 w.heap.size (.int .i64 0) (.int .i64 0)) := ⟨HB0.out.1.trans (hb.mono HB0.out.1.size), HB0.out.2.below hb HB0.out.2.lt⟩
      clear hb HB0
      have B4 : Hid (Below w.heap.size w (w1.alloc (.cells #[.int .i64 n, .int .i64 1] 39)) ∧ C2 (w1.alloc (.cells #[.int .i64 n, .int .i64 1] 39)) w.heap.size (.int .i64 0) (.int .i64 0) ∧ C2 (w1.alloc (.cells #[.int .i64 n, .int .i64 1] 39)) w1.heap.size (.int .i64 n) (.int .i64 1)) := ⟨Bw1.out.1.alloc Bw1.out.1.size _, Bw1.out.2.alloc _, C2.new w1 _ _ _⟩
      have z3 := Bw1.out.2.lt
      clear Bw1
      go_wp2_with fail
      refine (fis_no _ _ _ HV.out).mono ?_
      rintro e w5 ⟨rfl, hb⟩
      have Bw5 : Hid (Below w.heap.size w w5 ∧ C2 w5 w.heap.size (.int .i64 0) (.int .i64 0) ∧ C2 w5 w1.heap.size (.int .i64 n) (.int .i64 1)) := ⟨B4.out.1.trans (hb.mono B4.out.1.size), B4.out.2.1.below hb B4.out.2.1.lt, B4.out.2.2.below hb B4.out.2.2.lt⟩
      clear hb B4
      obtain ⟨⟨c5, d5⟩, f5, f6⟩ := Bw5.out.2.1
      have P := C2.put ⟨⟨c5, d5⟩, f5, f6⟩ (.int .i64 0) (.int .i64 0)
      unfold put2 at P
      obtain ⟨p0, p1⟩ := P
      go_wp2
      exact bodyPost_ret (v := .tuple #[.agg #[.int .i64 0, .int .i64 0], .bool false]) (by simp [results, Tryd.results61, go_sem, p0, p1]) rfl ⟨rfl, below_put2 Bw5.out.1 (Nat.le_refl _) _ _⟩
set_option maxRecDepth 8000 in
theorem specRF_n1N (s p q : ByteArray) (n d : Int) (i : Nat) (w : World) (hi : i ≤ s.size) (hs : s.size ≤ 1048576) (hN : ∀ j, (h : j < s.size) → j < i → (s[j]'h).toNat ≠ 47)  (hend : i = s.size)
    (HP : Hid (∀ W : World, Calls Tryd.prog 84 #[.string s] W fun e w' => ∃ y, e = .returned (.tuple #[.int .i64 y, .bool false]) ∧ Below W.heap.size W w')) :
    Calls Tryd.prog 61 #[.string s] w fun e w' => e = .returned (.tuple #[.agg #[.int .i64 0, .int .i64 0], .bool false]) ∧ Below w.heap.size w w' := by
  have HB0 : Hid (Below w.heap.size w (w.alloc (.cells #[.int .i64 0, .int .i64 0] 39)) ∧ C2 (w.alloc (.cells #[.int .i64 0, .int .i64 0] 39)) w.heap.size (.int .i64 0) (.int .i64 0)) := ⟨(Below.refl _ _).alloc (Nat.le_refl _) _, C2.new w _ _ _⟩
  have HN := Lib.hid hN
  clear hN
  have kl : decide ((i : Int) < (s.size : Int)) = false := by rw [decide_eq_false_iff_not]; omega
  go_enter Tryd.func61, Tryd.ntmps61
  go_wp2
  go_loopw [4] (fun iv wr => ∃ k : Nat, k ≤ i ∧ iv = .int .i64 k ∧ wr = w.alloc (.cells #[.int .i64 0, .int .i64 0] 39)) (fun iv _ => i - (intOf iv).toNat)
  case atStart => exact ⟨0, Nat.zero_le _, rfl, rfl⟩
  case round =>
    obtain ⟨k, hk, rfl, rfl⟩ := hrel
    by_cases hki : k < i
    · have hks : k < s.size := by omega
      have hks2 : (k : Int) < (s.size : Int) := by omega
      have hb := HN.out k hks hki
      have hb2 : (((s[k]'hks).toNat : Int) != 47) = true := by simp; omega
      clear hb
      go_wp2
      go_roundw
      case rel => exact ⟨k + 1, by omega, by go_num, by first | rfl | trivial⟩
      case measure => simp [intOf]; omega
    · obtain rfl : k = i := by omega
      generalize hw0 : w.alloc (.cells #[.int .i64 0, .int .i64 0] 39) = w0 at HB0 ⊢
      clear hw0
      go_wp2_with fail
      refine (HP.out _).mono ?_
      rintro e w1 ⟨yw1, rfl, hb⟩
      have Bw1 : Hid (Below w.heap.size w w1 ∧ C2 w1 w.heap.size (.int .i64 0) (.int .i64 0)) := ⟨HB0.out.1.trans (hb.mono HB0.out.1.size), HB0.out.2.below hb HB0.out.2.lt⟩
      clear hb HB0
      obtain ⟨⟨c5, d5⟩, f5, f6⟩ := Bw1.out.2
      have hbz := Bw1.out.1.size
      have hA : Below w1.heap.size w1 (w1.alloc (.cells #[.int .i64 yw1, .int .i64 1] 39)) := (Below.refl _ _).alloc (Nat.le_refl _) _
      have a5 := (hA.cell (p := ⟨w.heap.size, 0, none⟩) Bw1.out.2.lt).trans c5
      have a6 := (hA.cell (p := ⟨w.heap.size, 1, none⟩) Bw1.out.2.lt).trans d5
      have a7 := (hA.frozen (p := ⟨w.heap.size, 0, none⟩) Bw1.out.2.lt).trans f5
      have a8 := (hA.frozen (p := ⟨w.heap.size, 1, none⟩) Bw1.out.2.lt).trans f6
      have P := C2.put ⟨⟨a5, a6⟩, a7, a8⟩ (.int .i64 0) (.int .i64 0)
      unfold put2 at P
      obtain ⟨p0, p1⟩ := P
      clear hA
      go_wp2
      exact bodyPost_ret (v := .tuple #[.agg #[.int .i64 0, .int .i64 0], .bool false]) (by simp [results, Tryd.results61, go_sem, p0, p1]) rfl ⟨rfl, below_put2 (Bw1.out.1.alloc hbz _) (Nat.le_refl _) _ _⟩
end Go.Proofs.YtpnifnpbolieoabDoor
