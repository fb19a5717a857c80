/- Decimal texts read by the model: spec.l01Great, spec.l01Value. -/
import Derived.Test.YtpnifnpbolieoabDoorReadDec
namespace Go.Proofs.YtpnifnpbolieoabDoor
open Go.RowKit Go.PlainAid
set_option maxHeartbeats 3200000

def Part (n : Int) : Prop := -1000000000000000000 ≤ n ∧ n ≤ 1000000000000000000
theorem byte_get (s : ByteArray) (l : List UInt8) (h : s.data.toList = l) (k : Nat) (hk : k < s.size) : ((s[k]'hk).toNat : Int) = ((l.getD k 0).toNat : Int) := by
  subst h
  have h2 : k < s.data.toList.length := by rw [Array.length_toList]; exact hk
  rw [List.getD_eq_getElem?_getD, List.getElem?_eq_getElem h2, Option.getD_some, Array.getElem_toList]
  rfl

theorem extract_list (s : ByteArray) (a b : Nat) : (s.extract a b).data.toList = (s.data.toList.drop a).take (b - a) := by
  rw [ByteArray.data_extract, Array.toList_extract, List.extract_eq_take_drop]
theorem great_yes (n : Int) (w : World) (hn : Part n) :
    Calls Tryd.prog 84 #[.string (decS n)] w fun e w' => e = .returned (.tuple #[.int .i64 n, .bool true]) ∧ Below w.heap.size w w' := by
  obtain ⟨n0, n1⟩ := hn
  have HD : Hid (∀ W, Calls Tryd.prog 47 #[.int .i64 n] W fun e w' => e = .returned (.string (decS n)) ∧ Below W.heap.size W w') := fun W => l01Dec_any n W (by omega) (by omega)
  obtain ⟨u, hu⟩ : ∃ u : Nat, n.natAbs = u := ⟨_, rfl⟩
  obtain ⟨D, hD⟩ : ∃ D, Lib.decDigits u = D := ⟨_, rfl⟩
  obtain ⟨m, hm⟩ : ∃ m, D.length = m := ⟨_, rfl⟩
  have m1 : 1 ≤ m := by rw [← hm, ← hD]; exact dec_pos u
  have m2 : m ≤ 19 := by
    rw [← hm, ← hD]
    exact dec_len 18 u (by have : (10 ^ (18 + 1) : Nat) = 10000000000000000000 := by decide
                           omega)
  have HG : Hid (Digs D) := by unfold Hid; rw [← hD]; exact dec_digs u
  have HV : Hid (valTo D m = u) := by unfold Hid; rw [← hm, ← hD]; exact dec_val u
  have Hm := Lib.hid hm
  have hne : ((decS n).toList == (decS n).toList) = true := by simp
  by_cases hneg : n < 0
  · have hL : (decS n).data.toList = 45 :: D := by
      rw [decS_list]
      unfold Lib.itoa
      rw [if_pos hneg, hu, hD]
    obtain rfl : n = -(u : Int) := by omega
    obtain ⟨s, hs⟩ : ∃ s, decS (-(u : Int)) = s := ⟨_, rfl⟩
    rw [hs] at HD hL hne ⊢
    have hsz : s.size = m + 1 := by
      have := congrArg List.length hL
      rw [Array.length_toList] at this
      rw [← hm]
      exact this
    have h45 : (s[0]'(by omega)).toNat = 45 := by
      have := byte_get s _ hL 0 (by omega)
      simp at this
      omega
    obtain ⟨r, hr⟩ : ∃ r, s.extract 1 (m + 1) = r := ⟨_, rfl⟩
    have HL : Hid (r.data.toList = D) := by
      unfold Hid
      rw [← hr, extract_list, hL]
      simp [← hm]
    have hrs : r.size = m := by
      have := congrArg List.length HL.out
      rw [Array.length_toList] at this
      rw [← hm]
      exact this
    have q1 : decide ((m : Int) < 1) = false := by simp; omega
    have q2 : decide ((19 : Int) < (m : Int)) = false := by simp; omega
    clear hL hs hm hD hu
    go_enter Tryd.func84, Tryd.ntmps84
    go_wp2
    go_loop [5, 6] (fun xv iv => ∃ k : Nat, k ≤ m ∧ iv = .int .i64 k ∧ xv = .int .i64 ((valTo D k : Nat) : Int)) (fun _ iv => m - (intOf iv).toNat)
    case atStart => exact ⟨0, Nat.zero_le _, rfl, rfl⟩
    case round =>
      obtain ⟨k, hk, rfl, rfl⟩ := hrel
      by_cases hlt : k < m
      · have hx := byte_get r D HL.out k (by omega)
        have hmem : D.getD k 0 ∈ D := by rw [List.getD_eq_getElem?_getD, List.getElem?_eq_getElem (by rw [Hm.out]; exact hlt), Option.getD_some]; exact List.getElem_mem _
        obtain ⟨d1, d2⟩ := HG.out _ hmem
        have hbef := valTo_before D k m hlt
        rw [HV.out] at hbef
        have HT : Hid (((valTo D (k + 1) : Nat) : Int) = 10 * ((valTo D k : Nat) : Int) + (((D.getD k 0).toNat : Int) - 48)) := by
          show ((10 * valTo D k + ((D.getD k 0).toNat - 48) : Nat) : Int) = _
          omega
        obtain ⟨b, hb⟩ : ∃ b, (D.getD k 0).toNat = b := ⟨_, rfl⟩
        obtain ⟨x, hxx⟩ : ∃ x, valTo D k = x := ⟨_, rfl⟩
        rw [hb] at hx d1 d2 HT
        rw [hxx] at hbef HT ⊢
        have hks : k < r.size := by omega
        have t1 : decide ((b : Int) < 48) = false := by simp; omega
        have t2 : decide ((57 : Int) < (b : Int)) = false := by simp; omega
        have t3 : decide ((100000000000000000 : Int) < (x : Int)) = false := by simp; omega
        have t4 : (k : Int) < (m : Int) := by omega
        clear hmem hb hxx
        go_wp2
        go_round
        case rel => exact ⟨k + 1, by omega, by go_num, by rw [HT.out]⟩
        case measure => simp [intOf]; omega
      · obtain rfl : k = m := by omega
        have hlt2 : decide ((k : Int) < (k : Int) + 1) = true := by rw [decide_eq_true_iff]; omega
        have hv0 : ((valTo D k : Nat) : Int) = (u : Int) := by rw [HV.out]
        have hw1 : IntKind.i64.wrap (-(u : Int)) = -(u : Int) := IntWalk.i64_in _ (by omega)
        have HI : Hid (∀ W : World, Calls Tryd.prog 71 #[.int .i64 (-(u : Int)), .int .i64 (-1000000000000000000), .int .i64 1000000000000000000] W fun e w' => e = .returned (.bool true) ∧ W = w') := fun W => l00In_yes _ _ _ _ (by omega) (by omega)
        rw [hv0]
        go_wp2_with (first | (go_at_call 71; with_reducible refine (HI.out _).mono ?_; rintro e w1 ⟨rfl, rfl⟩) | (go_at_call 47; with_reducible refine (HD.out _).mono ?_; rintro e w1 ⟨rfl, hb⟩))
        go_ret2
        exact ⟨rfl, by assumption⟩
  · have hL : (decS n).data.toList = D := by
      rw [decS_list]
      unfold Lib.itoa
      rw [if_neg hneg, show n.toNat = u by omega, hD]
    obtain rfl : n = (u : Int) := by omega
    obtain ⟨s, hs⟩ : ∃ s, decS (u : Int) = s := ⟨_, rfl⟩
    rw [hs] at HD hL hne ⊢
    have hsz : s.size = m := by
      have := congrArg List.length hL
      rw [Array.length_toList] at this
      rw [← hm]
      exact this
    have HL := Lib.hid hL
    have h45 : (((s[0]'(by omega)).toNat : Int) == 45) = false := by
      have h := byte_get s _ hL 0 (by omega)
      have hmem : D.getD 0 0 ∈ D := by rw [List.getD_eq_getElem?_getD, List.getElem?_eq_getElem (by omega), Option.getD_some]; exact List.getElem_mem _
      have := HG.out _ hmem
      rw [h, beq_eq_false_iff_ne]
      omega
    have q0 : (0 : Int) < (m : Int) := by omega
    have q3 : 0 < m := by omega
    have q1 : decide ((m : Int) < 1) = false := by simp; omega
    have q2 : decide ((19 : Int) < (m : Int)) = false := by simp; omega
    clear hL hs hm hD hu
    go_enter Tryd.func84, Tryd.ntmps84
    go_wp2
    go_loop [5, 6] (fun xv iv => ∃ k : Nat, k ≤ m ∧ iv = .int .i64 k ∧ xv = .int .i64 ((valTo D k : Nat) : Int)) (fun _ iv => m - (intOf iv).toNat)
    case atStart => exact ⟨0, Nat.zero_le _, rfl, rfl⟩
    case round =>
      obtain ⟨k, hk, rfl, rfl⟩ := hrel
      by_cases hlt : k < m
      · have hx := byte_get s D HL.out k (by omega)
        have hmem : D.getD k 0 ∈ D := by rw [List.getD_eq_getElem?_getD, List.getElem?_eq_getElem (by rw [Hm.out]; exact hlt), Option.getD_some]; exact List.getElem_mem _
        obtain ⟨d1, d2⟩ := HG.out _ hmem
        have hbef := valTo_before D k m hlt
        rw [HV.out] at hbef
        have HT : Hid (((valTo D (k + 1) : Nat) : Int) = 10 * ((valTo D k : Nat) : Int) + (((D.getD k 0).toNat : Int) - 48)) := by
          show ((10 * valTo D k + ((D.getD k 0).toNat - 48) : Nat) : Int) = _
          omega
        obtain ⟨b, hb⟩ : ∃ b, (D.getD k 0).toNat = b := ⟨_, rfl⟩
        obtain ⟨x, hxx⟩ : ∃ x, valTo D k = x := ⟨_, rfl⟩
        rw [hb] at hx d1 d2 HT
        rw [hxx] at hbef HT ⊢
        have hks : k < s.size := by omega
        have t1 : decide ((b : Int) < 48) = false := by simp; omega
        have t2 : decide ((57 : Int) < (b : Int)) = false := by simp; omega
        have t3 : decide ((100000000000000000 : Int) < (x : Int)) = false := by simp; omega
        have t4 : (k : Int) < (m : Int) := by omega
        clear hmem hb hxx
        go_wp2
        go_round
        case rel => exact ⟨k + 1, by omega, by go_num, by rw [HT.out]⟩
        case measure => simp [intOf]; omega
      · obtain rfl : k = m := by omega
        have hlt2 : decide ((k : Int) < (k : Int)) = false := by simp
        have hv0 : ((valTo D k : Nat) : Int) = (u : Int) := by rw [HV.out]
        have HI : Hid (∀ W : World, Calls Tryd.prog 71 #[.int .i64 (u : Int), .int .i64 (-1000000000000000000), .int .i64 1000000000000000000] W fun e w' => e = .returned (.bool true) ∧ W = w') := fun W => l00In_yes _ _ _ _ (by omega) (by omega)
        rw [hv0]
        go_wp2_with (first | (go_at_call 71; with_reducible refine (HI.out _).mono ?_; rintro e w1 ⟨rfl, rfl⟩) | (go_at_call 47; with_reducible refine (HD.out _).mono ?_; rintro e w1 ⟨rfl, hb⟩))
        go_ret2
        exact ⟨rfl, by assumption⟩
theorem great_no (s : ByteArray) (w : World) (hs : s.size ≤ 1048576) (h : ∀ n, Part n → s ≠ decS n) :
    Calls Tryd.prog 84 #[.string s] w fun e w' => ∃ y, e = .returned (.tuple #[.int .i64 y, .bool false]) ∧ Below w.heap.size w w' := by
  by_cases h0 : s.size = 0
  · have q0 : (s.size : Int) = 0 := by omega
    clear h
    go_enter Tryd.func84, Tryd.ntmps84
    go_wp2
    go_ret2
    first | exact ⟨_, rfl, Below.refl _ _⟩ | exact ⟨⟨_, rfl⟩, Below.refl _ _⟩
  by_cases h45 : (s[0]'(by omega)).toNat = 45
  · obtain ⟨m, hsz⟩ : ∃ m, s.size = m + 1 := ⟨s.size - 1, by omega⟩
    obtain ⟨r, hr⟩ : ∃ r, s.extract 1 (m + 1) = r := ⟨_, rfl⟩
    have hrs : r.size = m := by
      rw [← hr, ByteArray.size_extract]
      omega
    by_cases hm : 1 ≤ m ∧ m ≤ 19
    · obtain ⟨m1, m2⟩ := hm
      have q1 : decide ((m : Int) < 1) = false := by simp; omega
      have q2 : decide ((19 : Int) < (m : Int)) = false := by simp; omega
      have HS := Lib.hid h
      clear h
      go_enter Tryd.func84, Tryd.ntmps84
      go_wp2
      go_loop [5, 6] (fun xv iv => ∃ (k : Nat) (x : Int), k ≤ m ∧ iv = .int .i64 k ∧ xv = .int .i64 x ∧ 0 ≤ x ∧ x ≤ 1000000000000000009) (fun _ iv => m - (intOf iv).toNat)
      case atStart => exact ⟨0, 0, Nat.zero_le _, rfl, rfl, by omega, by omega⟩
      case round =>
        obtain ⟨k, x, hk, rfl, rfl, x0, x1⟩ := hrel
        by_cases hlt : k < m
        · have hks : k < r.size := by omega
          obtain ⟨b, hx⟩ : ∃ b : Nat, (r[k]'hks).toNat = b := ⟨_, rfl⟩
          have hb := (r[k]'hks).toNat_lt
          rw [hx] at hb
          have t4 : (k : Int) < (m : Int) := by omega
          by_cases h1 : b < 48
          · have t1 : decide ((b : Int) < 48) = true := by rw [decide_eq_true_iff]; omega
            go_wp2
            go_ret2
            first | exact ⟨_, rfl, Below.refl _ _⟩ | exact ⟨⟨_, rfl⟩, Below.refl _ _⟩
          · have t1 : decide ((b : Int) < 48) = false := by rw [decide_eq_false_iff_not]; omega
            by_cases h2 : 57 < b
            · have t2 : decide ((57 : Int) < (b : Int)) = true := by rw [decide_eq_true_iff]; omega
              go_wp2
              go_ret2
              first | exact ⟨_, rfl, Below.refl _ _⟩ | exact ⟨⟨_, rfl⟩, Below.refl _ _⟩
            · have t2 : decide ((57 : Int) < (b : Int)) = false := by rw [decide_eq_false_iff_not]; omega
              by_cases h3 : 100000000000000000 < x
              · have t3 : decide ((100000000000000000 : Int) < x) = true := by rw [decide_eq_true_iff]; omega
                go_wp2
                go_ret2
                first | exact ⟨_, rfl, Below.refl _ _⟩ | exact ⟨⟨_, rfl⟩, Below.refl _ _⟩
              · have t3 : decide ((100000000000000000 : Int) < x) = false := by rw [decide_eq_false_iff_not]; omega
                have b1 : 48 ≤ b := by omega
                have b2 : b ≤ 57 := by omega
                have x2 : x ≤ 100000000000000000 := by omega
                clear h1 h2 h3
                go_wp2
                go_round
                case rel => exact ⟨k + 1, 10 * x + ((b : Int) - 48), by omega, by go_num, by go_num, by omega, by omega⟩
                case measure => simp [intOf]; omega
        · obtain rfl : k = m := by omega
          have hlt2 : decide ((k : Int) < (k : Int) + 1) = true := by rw [decide_eq_true_iff]; omega
          have hw1 : IntKind.i64.wrap (-x) = -x := IntWalk.i64_in _ (by omega)
          by_cases hin : -1000000000000000000 ≤ (-x) ∧ (-x) ≤ 1000000000000000000
          · have HI : Hid (∀ W : World, Calls Tryd.prog 71 #[.int .i64 (-x), .int .i64 (-1000000000000000000), .int .i64 1000000000000000000] W fun e w' => e = .returned (.bool true) ∧ W = w') := fun W => l00In_yes _ _ _ _ hin.1 hin.2
            have HD : Hid (∀ W, Calls Tryd.prog 47 #[.int .i64 (-x)] W fun e w' => e = .returned (.string (decS (-x))) ∧ Below W.heap.size W w') := fun W => l01Dec_any (-x) W (by omega) (by omega)
            have hne : ((decS (-x)).toList == s.toList) = false := ne_str (Ne.symm (HS.out (-x) hin))
            obtain ⟨tt, htt⟩ : ∃ tt, decS (-x) = tt := ⟨_, rfl⟩
            rw [htt] at HD hne
            clear hin htt
            go_wp2_with (first | (go_at_call 71; with_reducible refine (HI.out _).mono ?_; rintro e w1 ⟨rfl, rfl⟩) | (go_at_call 47; with_reducible refine (HD.out _).mono ?_; rintro e w1 ⟨rfl, hb⟩))
            go_ret2
            first | exact ⟨_, rfl, by assumption⟩ | exact ⟨⟨_, rfl⟩, by assumption⟩
          · have HI : Hid (∀ W : World, Calls Tryd.prog 71 #[.int .i64 (-x), .int .i64 (-1000000000000000000), .int .i64 1000000000000000000] W fun e w' => e = .returned (.bool false) ∧ W = w') := fun W => l00In_no _ _ _ _ hin
            clear hin
            go_wp2_with (go_at_call 71; with_reducible refine (HI.out _).mono ?_; rintro e w1 ⟨rfl, rfl⟩)
            go_ret2
            first | exact ⟨_, rfl, Below.refl _ _⟩ | exact ⟨⟨_, rfl⟩, Below.refl _ _⟩
    · by_cases hm0 : m = 0
      · subst hm0
        have q1 : decide (((0 : Nat) : Int) < 1) = true := rfl
        clear h
        go_enter Tryd.func84, Tryd.ntmps84
        go_wp2
        go_ret2
        first | exact ⟨_, rfl, Below.refl _ _⟩ | exact ⟨⟨_, rfl⟩, Below.refl _ _⟩
      · have q1 : decide ((m : Int) < 1) = false := by simp; omega
        have q2 : decide ((19 : Int) < (m : Int)) = true := by simp; omega
        clear hm
        clear h
        go_enter Tryd.func84, Tryd.ntmps84
        go_wp2
        go_ret2
        first | exact ⟨_, rfl, Below.refl _ _⟩ | exact ⟨⟨_, rfl⟩, Below.refl _ _⟩
  · have h45' : (((s[0]'(by omega)).toNat : Int) == 45) = false := by rw [beq_eq_false_iff_ne]; omega
    obtain ⟨m, hsz⟩ : ∃ m, s.size = m := ⟨_, rfl⟩
    have q0 : (0 : Int) < (m : Int) := by omega
    have q3 : 0 < m := by omega
    have q1 : decide ((m : Int) < 1) = false := by simp; omega
    by_cases hm : m ≤ 19
    · have q2 : decide ((19 : Int) < (m : Int)) = false := by simp; omega
      have HS := Lib.hid h
      clear h
      go_enter Tryd.func84, Tryd.ntmps84
      go_wp2
      go_loop [5, 6] (fun xv iv => ∃ (k : Nat) (x : Int), k ≤ m ∧ iv = .int .i64 k ∧ xv = .int .i64 x ∧ 0 ≤ x ∧ x ≤ 1000000000000000009) (fun _ iv => m - (intOf iv).toNat)
      case atStart => exact ⟨0, 0, Nat.zero_le _, rfl, rfl, by omega, by omega⟩
      case round =>
        obtain ⟨k, x, hk, rfl, rfl, x0, x1⟩ := hrel
        by_cases hlt : k < m
        · have hks : k < s.size := by omega
          obtain ⟨b, hx⟩ : ∃ b : Nat, (s[k]'hks).toNat = b := ⟨_, rfl⟩
          have hb := (s[k]'hks).toNat_lt
          rw [hx] at hb
          have t4 : (k : Int) < (m : Int) := by omega
          by_cases h1 : b < 48
          · have t1 : decide ((b : Int) < 48) = true := by rw [decide_eq_true_iff]; omega
            go_wp2
            go_ret2
            first | exact ⟨_, rfl, Below.refl _ _⟩ | exact ⟨⟨_, rfl⟩, Below.refl _ _⟩
          · have t1 : decide ((b : Int) < 48) = false := by rw [decide_eq_false_iff_not]; omega
            by_cases h2 : 57 < b
            · have t2 : decide ((57 : Int) < (b : Int)) = true := by rw [decide_eq_true_iff]; omega
              go_wp2
              go_ret2
              first | exact ⟨_, rfl, Below.refl _ _⟩ | exact ⟨⟨_, rfl⟩, Below.refl _ _⟩
            · have t2 : decide ((57 : Int) < (b : Int)) = false := by rw [decide_eq_false_iff_not]; omega
              by_cases h3 : 100000000000000000 < x
              · have t3 : decide ((100000000000000000 : Int) < x) = true := by rw [decide_eq_true_iff]; omega
                go_wp2
                go_ret2
                first | exact ⟨_, rfl, Below.refl _ _⟩ | exact ⟨⟨_, rfl⟩, Below.refl _ _⟩
              · have t3 : decide ((100000000000000000 : Int) < x) = false := by rw [decide_eq_false_iff_not]; omega
                have b1 : 48 ≤ b := by omega
                have b2 : b ≤ 57 := by omega
                have x2 : x ≤ 100000000000000000 := by omega
                clear h1 h2 h3
                go_wp2
                go_round
                case rel => exact ⟨k + 1, 10 * x + ((b : Int) - 48), by omega, by go_num, by go_num, by omega, by omega⟩
                case measure => simp [intOf]; omega
        · obtain rfl : k = m := by omega
          have hlt2 : decide ((k : Int) < (k : Int)) = false := by simp
          have hw1 : IntKind.i64.wrap (-x) = -x := IntWalk.i64_in _ (by omega)
          by_cases hin : -1000000000000000000 ≤ x ∧ x ≤ 1000000000000000000
          · have HI : Hid (∀ W : World, Calls Tryd.prog 71 #[.int .i64 x, .int .i64 (-1000000000000000000), .int .i64 1000000000000000000] W fun e w' => e = .returned (.bool true) ∧ W = w') := fun W => l00In_yes _ _ _ _ hin.1 hin.2
            have HD : Hid (∀ W, Calls Tryd.prog 47 #[.int .i64 x] W fun e w' => e = .returned (.string (decS x)) ∧ Below W.heap.size W w') := fun W => l01Dec_any x W (by omega) (by omega)
            have hne : ((decS x).toList == s.toList) = false := ne_str (Ne.symm (HS.out x hin))
            obtain ⟨tt, htt⟩ : ∃ tt, decS x = tt := ⟨_, rfl⟩
            rw [htt] at HD hne
            clear hin htt
            go_wp2_with (first | (go_at_call 71; with_reducible refine (HI.out _).mono ?_; rintro e w1 ⟨rfl, rfl⟩) | (go_at_call 47; with_reducible refine (HD.out _).mono ?_; rintro e w1 ⟨rfl, hb⟩))
            go_ret2
            first | exact ⟨_, rfl, by assumption⟩ | exact ⟨⟨_, rfl⟩, by assumption⟩
          · have HI : Hid (∀ W : World, Calls Tryd.prog 71 #[.int .i64 x, .int .i64 (-1000000000000000000), .int .i64 1000000000000000000] W fun e w' => e = .returned (.bool false) ∧ W = w') := fun W => l00In_no _ _ _ _ hin
            clear hin
            go_wp2_with (go_at_call 71; with_reducible refine (HI.out _).mono ?_; rintro e w1 ⟨rfl, rfl⟩)
            go_ret2
            first | exact ⟨_, rfl, Below.refl _ _⟩ | exact ⟨⟨_, rfl⟩, Below.refl _ _⟩
    · have q2 : decide ((19 : Int) < (m : Int)) = true := by simp; omega
      clear h
      go_enter Tryd.func84, Tryd.ntmps84
      go_wp2
      go_ret2
      first | exact ⟨_, rfl, Below.refl _ _⟩ | exact ⟨⟨_, rfl⟩, Below.refl _ _⟩
end Go.Proofs.YtpnifnpbolieoabDoor
