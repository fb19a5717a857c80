/- Tables in the specification: spec.l04Inputs, spec.l04Table; and the laws FnExactIsTable, FnExactInputsOf, FnExactValueAt. -/
import Derived.Test.YtgpcacbjmjpdnaaTab
namespace Go.Proofs.Ytgpcacbjmjpdnaa
open Go.RowKit Go.PlainAid
set_option maxHeartbeats 400000

theorem inputs_yes (n : Nat) (s : ByteArray) (w : World) (h : TabP n s) :
    Calls Try.prog 64 #[.string s] w fun e w' => e = .returned (.int .i64 n) ∧ w = w' := by
  have HB := Lib.hid h.bits
  have HS := Lib.hid h.1
  have hn := h.2.1
  clear h
  go_enter Try.func64, Try.ntmps64
  go_wp2
  go_loop [3] (fun i => ∃ k : Nat, k ≤ n ∧ i = .int .i64 k) (fun i => n - (intOf i).toNat)
  case atStart => exact ⟨0, Nat.zero_le _, rfl⟩
  case round =>
    obtain ⟨k, hk, rfl⟩ := hrel
    have e := wrap_pow (n := k) (by omega)
    by_cases hlt : k < n
    · have hp := Nat.pow_lt_pow_right (a := 2) (by omega) hlt
      rw [← HS.out] at hp
      obtain ⟨P, hP⟩ : ∃ P, 2 ^ k = P := ⟨_, rfl⟩
      rw [hP] at e hp
      have hc : ((s.size : Int) == (P : Int)) = false := by rw [beq_eq_false_iff_ne]; omega
      clear hP
      go_wp2
      go_round
      case rel => exact ⟨k + 1, by omega, by go_num⟩
      case measure => simp [intOf]; omega
    · obtain rfl : k = n := by omega
      rw [← HS.out] at e
      have hc : ((s.size : Int) == (s.size : Int)) = true := by simp
      go_wp2_with (go_at_call 86; refine (l01Bits_yes s _ HB.out).mono ?_; rintro e w' ⟨rfl, rfl⟩)
      go_ret
      exact ⟨rfl, rfl⟩
theorem inputs_no (s : ByteArray) (w : World) (hm : s.size ≤ maxLen) (h : ¬ ∃ n, TabP n s) :
    Calls Try.prog 64 #[.string s] w fun e w' => e = .returned (.int .i64 (-1)) ∧ w = w' := by
  have HN := Lib.hid h
  clear h
  go_enter Try.func64, Try.ntmps64
  go_wp2
  go_loop [3] (fun i => ∃ k : Nat, k ≤ 7 ∧ i = .int .i64 k) (fun i => 7 - (intOf i).toNat)
  case atStart => exact ⟨0, by omega, rfl⟩
  case round =>
    obtain ⟨k, hk, rfl⟩ := hrel
    by_cases hlt : k < 7
    · have e := wrap_pow (n := k) (by omega)
      obtain ⟨P, hP⟩ : ∃ P, 2 ^ k = P := ⟨_, rfl⟩
      rw [hP] at e
      by_cases hs : s.size = P
      · have hc : ((s.size : Int) == (P : Int)) = true := by simp [hs]
        have HB : Hid (¬ BitsP s) := fun x => HN.out ⟨k, by omega, by omega, x.all⟩
        clear hs hP
        go_wp2_with (go_at_call 86; refine (l01Bits_no s _ hm HB.out).mono ?_; rintro e w' ⟨rfl, rfl⟩)
        go_round
        case rel => exact ⟨k + 1, by omega, by go_num⟩
        case measure => simp [intOf]; omega
      · have hc : ((s.size : Int) == (P : Int)) = false := by rw [beq_eq_false_iff_ne]; omega
        clear hs hP
        go_wp2
        go_round
        case rel => exact ⟨k + 1, by omega, by go_num⟩
        case measure => simp [intOf]; omega
    · obtain rfl : k = 7 := by omega
      go_wp2
      go_ret
      exact ⟨rfl, rfl⟩
theorem l04Table_yes (n : Nat) (s : ByteArray) (w : World) (h : TabP n s) :
    Calls Try.prog 63 #[.string s] w fun e w' => e = .returned (.bool true) ∧ w = w' := by
  have HI : Hid (∀ W : World, Calls Try.prog 64 #[.string s] W fun e w' => e = .returned (.int .i64 n) ∧ W = w') := fun W => inputs_yes n s W h
  clear h
  go_enter Try.func63, Try.ntmps63
  go_wp2_with (go_at_call 64; refine (HI.out _).mono ?_; rintro e w' ⟨rfl, rfl⟩)
  go_ret
  exact ⟨rfl, rfl⟩
theorem l04Table_no (s : ByteArray) (w : World) (hm : s.size ≤ maxLen) (h : ¬ ∃ n, TabP n s) :
    Calls Try.prog 63 #[.string s] w fun e w' => e = .returned (.bool false) ∧ w = w' := by
  have HI : Hid (∀ W : World, Calls Try.prog 64 #[.string s] W fun e w' => e = .returned (.int .i64 (-1)) ∧ W = w') := fun W => inputs_no s W hm h
  clear h
  go_enter Try.func63, Try.ntmps63
  go_wp2_with (go_at_call 64; refine (HI.out _).mono ?_; rintro e w' ⟨rfl, rfl⟩)
  go_ret
  exact ⟨rfl, rfl⟩

theorem isTable_b (s : ByteArray) (b : Bool) (w : World) (hm : s.size ≤ maxLen) (h : b = true ↔ ∃ n, TabP n s) :
    Calls Try.prog 34 #[.string s] w fun e w' => e = .returned (.bool b) ∧ Below w.heap.size w w' := by
  have HF : Hid (∃ n V : Nat, ∀ W : World, Calls Try.prog 46 #[.string s] W fun e w' => e = .returned (.tuple #[.agg #[.int .i64 n, .int .u64 V], .bool b]) ∧ Below W.heap.size W w') := by
    cases b with
    | true => obtain ⟨n, hn⟩ := h.1 rfl; exact ⟨n, _, fun W => funOf_yes n s W hn⟩
    | false => exact ⟨0, 0, fun W => funOf_no s W hm fun x => by have := h.2 x; cases this⟩
  obtain ⟨n, V, HF⟩ := HF.out
  have HF := Lib.hid HF
  clear h
  go_enter Try.func34, Try.ntmps34
  go_wp2_with (go_at_call 46; refine (HF.out _).mono ?_; rintro e w1 ⟨rfl, hb⟩)
  go_ret
  exact ⟨rfl, hb.alloc hb.size _⟩
theorem specIsTable_b (s : ByteArray) (b : Bool) (w : World) (hm : s.size ≤ maxLen) (h : b = true ↔ ∃ n, TabP n s) :
    Calls Try.prog 33 #[.string s] w fun e w' => e = .returned (.bool b) ∧ w = w' := by
  have HF : Hid (∀ W : World, Calls Try.prog 63 #[.string s] W fun e w' => e = .returned (.bool b) ∧ W = w') := by
    cases b with
    | true => obtain ⟨n, hn⟩ := h.1 rfl; exact fun W => l04Table_yes n s W hn
    | false => exact fun W => l04Table_no s W hm fun x => by have := h.2 x; cases this
  clear h
  go_enter Try.func33, Try.ntmps33
  go_wp2_with (go_at_call 63; refine (HF.out _).mono ?_; rintro e w1 ⟨rfl, rfl⟩)
  go_ret
  exact ⟨rfl, rfl⟩
theorem lawIsTable (s : ByteArray) (w : World) (hm : s.size ≤ maxLen) :
    Calls Try.prog 7 #[.string s] w fun e w' => e = .returned (.bool true) ∧ Below w.heap.size w w' := by
  obtain ⟨b, hb⟩ : ∃ b : Bool, b = true ↔ ∃ n, TabP n s := by
    by_cases h : ∃ n, TabP n s
    · exact ⟨true, fun _ => h, fun _ => rfl⟩
    · exact ⟨false, fun x => (by cases x), fun x => absurd x h⟩
  have HI : Hid (∀ W : World, Calls Try.prog 34 #[.string s] W fun e w' => e = .returned (.bool b) ∧ Below W.heap.size W w') := fun W => isTable_b s b W hm hb
  have HS : Hid (∀ W : World, Calls Try.prog 33 #[.string s] W fun e w' => e = .returned (.bool b) ∧ W = w') := fun W => specIsTable_b s b W hm hb
  clear hb
  have hbb : (b != b) = false := by simp
  have hbe : (b == b) = true := by simp
  unfold maxLen at hm
  by_cases hl : s.size ≤ 1048576
  · go_enter Try.func7, Try.ntmps7
    go_wp2_with (first | (go_at_call 33; refine (HS.out _).mono ?_; rintro e w' ⟨rfl, rfl⟩) | (go_at_call 34; refine (HI.out _).mono ?_; rintro e w1 ⟨rfl, hb⟩))
    go_ret
    exact ⟨rfl, hb⟩
  · go_enter Try.func7, Try.ntmps7
    go_wp2
    go_ret
    exact ⟨rfl, Below.refl _ _⟩
theorem l00MaxT_any (a b : Int) (w : World) :
    Calls Try.prog 65 #[.int .i64 a, .int .i64 b] w fun e w' => e = .returned (.int .i64 (if b < a then a else b)) ∧ w = w' := by
  by_cases h : b < a
  · have HE : Hid ((if b < a then a else b) = a) := if_pos h
    rw [HE.out]
    go_enter Try.func65, Try.ntmps65
    go_wp2
    go_ret
    exact ⟨rfl, rfl⟩
  · have HE : Hid ((if b < a then a else b) = b) := if_neg h
    rw [HE.out]
    go_enter Try.func65, Try.ntmps65
    go_wp2
    go_ret
    exact ⟨rfl, rfl⟩
theorem inputsOf_b (s : ByteArray) (n V : Nat) (b : Bool) (w : World) (HF : Hid (∀ W : World, Calls Try.prog 46 #[.string s] W fun e w' => e = .returned (.tuple #[.agg #[.int .i64 n, .int .u64 V], .bool b]) ∧ Below W.heap.size W w')) (hn : b = false → n = 0) :
    Calls Try.prog 17 #[.string s] w fun e w' => e = .returned (.tuple #[.int .i64 n, .bool b]) ∧ Below w.heap.size w w' := by
  cases b with
  | true =>
    clear hn
    go_enter Try.func17, Try.ntmps17
    go_wp2_with (go_at_call 46; refine (HF.out _).mono ?_; rintro e w1 ⟨rfl, hb⟩)
    go_ret2
    exact ⟨rfl, hb.alloc hb.size _⟩
  | false =>
    obtain rfl := hn rfl
    clear hn
    go_enter Try.func17, Try.ntmps17
    go_wp2_with (go_at_call 46; refine (HF.out _).mono ?_; rintro e w1 ⟨rfl, hb⟩)
    go_ret2
    exact ⟨rfl, hb.alloc hb.size _⟩
theorem lawInputsOf (s : ByteArray) (w : World) (hm : s.size ≤ maxLen) :
    Calls Try.prog 8 #[.string s] w fun e w' => e = .returned (.bool true) ∧ Below w.heap.size w w' := by
  obtain ⟨n, b, HI, HS⟩ : ∃ (n : Nat) (b : Bool), (Hid (∀ W : World, Calls Try.prog 17 #[.string s] W fun e w' => e = .returned (.tuple #[.int .i64 n, .bool b]) ∧ Below W.heap.size W w')) ∧ Hid (∀ W : World, Calls Try.prog 35 #[.string s] W fun e w' => e = .returned (.tuple #[.int .i64 n, .bool b]) ∧ W = w') := by
    by_cases h : ∃ n, TabP n s
    · obtain ⟨n, hn⟩ := h
      refine ⟨n, true, fun W => inputsOf_b s n _ true W (fun W => funOf_yes n s W hn) (fun x => by cases x), fun W => ?_⟩
      have HI : Hid (∀ W : World, Calls Try.prog 64 #[.string s] W fun e w' => e = .returned (.int .i64 n) ∧ W = w') := fun W => inputs_yes n s W hn
      have HX : Hid (∀ W : World, Calls Try.prog 65 #[.int .i64 n, .int .i64 0] W fun e w' => e = .returned (.int .i64 n) ∧ W = w') := fun W => by
        have := l00MaxT_any n 0 W
        rwa [show (if (0 : Int) < (n : Int) then (n : Int) else 0) = n by split <;> omega] at this
      clear hn
      go_enter Try.func35, Try.ntmps35
      go_wp2_with (first | (go_at_call 64; refine (HI.out _).mono ?_; rintro e w1 ⟨rfl, rfl⟩) | (go_at_call 65; refine (HX.out _).mono ?_; rintro e w1 ⟨rfl, rfl⟩))
      go_ret2
      exact ⟨rfl, rfl⟩
    · refine ⟨0, false, fun W => inputsOf_b s 0 0 false W (fun W => funOf_no s W hm h) (fun _ => rfl), fun W => ?_⟩
      have HI : Hid (∀ W : World, Calls Try.prog 64 #[.string s] W fun e w' => e = .returned (.int .i64 (-1)) ∧ W = w') := fun W => inputs_no s W hm h
      have HX : Hid (∀ W : World, Calls Try.prog 65 #[.int .i64 (-1), .int .i64 0] W fun e w' => e = .returned (.int .i64 0) ∧ W = w') := fun W => l00MaxT_any (-1) 0 W
      clear h
      go_enter Try.func35, Try.ntmps35
      go_wp2_with (first | (go_at_call 64; refine (HI.out _).mono ?_; rintro e w1 ⟨rfl, rfl⟩) | (go_at_call 65; refine (HX.out _).mono ?_; rintro e w1 ⟨rfl, rfl⟩))
      go_ret2
      exact ⟨rfl, rfl⟩
  have hnn : ((n : Int) != (n : Int)) = false := by simp
  have hbb : (b != b) = false := by simp
  have hbe : (b == b) = true := by simp
  unfold maxLen at hm
  by_cases hl : s.size ≤ 1048576
  · go_enter Try.func8, Try.ntmps8
    go_wp2_with (first | (go_at_call 35; refine (HS.out _).mono ?_; rintro e w' ⟨rfl, rfl⟩) | (go_at_call 17; refine (HI.out _).mono ?_; rintro e w1 ⟨rfl, hb⟩))
    go_ret
    exact ⟨rfl, hb⟩
  · go_enter Try.func8, Try.ntmps8
    go_wp2
    go_ret
    exact ⟨rfl, Below.refl _ _⟩
theorem valueAt_yes (s : ByteArray) (n x : Nat) (w : World) (hT : TabP n s) (hx : x < s.size) :
    Calls Try.prog 20 #[.string s, .int .i64 x] w fun e w' => e = .returned (.tuple #[.int .i64 (tb s x).toNat, .bool true]) ∧ Below w.heap.size w w' := by
  have hp := pow6 hT.2.1
  have HF : Hid (∀ W : World, Calls Try.prog 46 #[.string s] W fun e w' => e = .returned (.tuple #[.agg #[.int .i64 n, .int .u64 (val s s.size)], .bool true]) ∧ Below W.heap.size W w') := fun W => funOf_yes n s W hT
  have HZ : Hid (∀ W : World, Calls Try.prog 52 #[.agg #[.int .i64 n, .int .u64 (val s s.size)]] W fun e w' => e = .returned (.int .i64 s.size) ∧ Below W.heap.size W w') := fun W => by
    have := size_any n (val s s.size) W hT.2.1
    rwa [← hT.1] at this
  rw [← hT.1] at hp
  have HN : Hid (∀ W : World, Calls Try.prog 51 #[.int .i64 x, .int .i64 0, .int .i64 ((s.size : Int) - 1)] W fun e w' => e = .returned (.bool true) ∧ W = w') := fun W => btw64_yes _ _ _ W (by omega) (by omega)
  have HA : Hid (∀ W : World, Calls Try.prog 53 #[.agg #[.int .i64 n, .int .u64 (val s s.size)], .int .i64 x] W fun e w' => e = .returned (.int .u64 (tb s x).toNat) ∧ Below W.heap.size W w') := fun W => by
    have := at_any n (val s s.size) x W (val_lt s hp.2) (by omega)
    rwa [val_bit s hx] at this
  obtain ⟨V, hV⟩ : ∃ V, val s s.size = V := ⟨_, rfl⟩
  have hb1 : (tb s x).toNat ≤ 1 := Bool.toNat_le _
  obtain ⟨b, hb⟩ : ∃ b, (tb s x).toNat = b := ⟨_, rfl⟩
  rw [hV] at HF HZ HA
  rw [hb] at HA hb1 ⊢
  clear hV hb hT
  go_enter Try.func20, Try.ntmps20
  go_wp2_with (go_at_call 46; refine (HF.out _).mono ?_; rintro e w1 ⟨rfl, hb⟩)
  have A1 := P2.new w1 (.int .i64 n) (.int .u64 V) 57
  have B1 := hb.alloc hb.size (.cells #[.int .i64 n, .int .u64 V] 57)
  generalize w1.alloc (.cells #[.int .i64 n, .int .u64 V] 57) = W1 at A1 B1 ⊢
  refine (HZ.out _).mono ?_
  rintro e w2 ⟨rfl, hb2⟩
  have A2 := A1.far hb2
  have B2 := B1.trans (hb2.mono B1.size)
  clear hb2 A1 B1 hb
  obtain ⟨⟨c0, c1⟩, _⟩ := A2
  go_wp2_with (go_at_call 51; refine (HN.out _).mono ?_; rintro e w3 ⟨rfl, rfl⟩)
  refine (HA.out _).mono ?_
  rintro e w4 ⟨rfl, hb4⟩
  have B4 := B2.trans (hb4.mono B2.size)
  clear hb4 B2
  go_wp2
  go_ret2
  exact ⟨rfl, B4⟩
theorem valueAt_out (s : ByteArray) (n : Nat) (x : Int) (w : World) (hT : TabP n s) (hx : ¬ (0 ≤ x ∧ x < s.size)) :
    Calls Try.prog 20 #[.string s, .int .i64 x] w fun e w' => e = .returned (.tuple #[.int .i64 0, .bool false]) ∧ Below w.heap.size w w' := by
  have hp := pow6 hT.2.1
  have HF : Hid (∀ W : World, Calls Try.prog 46 #[.string s] W fun e w' => e = .returned (.tuple #[.agg #[.int .i64 n, .int .u64 (val s s.size)], .bool true]) ∧ Below W.heap.size W w') := fun W => funOf_yes n s W hT
  have HZ : Hid (∀ W : World, Calls Try.prog 52 #[.agg #[.int .i64 n, .int .u64 (val s s.size)]] W fun e w' => e = .returned (.int .i64 s.size) ∧ Below W.heap.size W w') := fun W => by
    have := size_any n (val s s.size) W hT.2.1
    rwa [← hT.1] at this
  rw [← hT.1] at hp
  have HN : Hid (∀ W : World, Calls Try.prog 51 #[.int .i64 x, .int .i64 0, .int .i64 ((s.size : Int) - 1)] W fun e w' => e = .returned (.bool false) ∧ W = w') := fun W => btw64_no _ _ _ W (by omega)
  obtain ⟨V, hV⟩ : ∃ V, val s s.size = V := ⟨_, rfl⟩
  rw [hV] at HF HZ
  clear hV hT hx
  go_enter Try.func20, Try.ntmps20
  go_wp2_with (go_at_call 46; refine (HF.out _).mono ?_; rintro e w1 ⟨rfl, hb⟩)
  have B1 := hb.alloc hb.size (.cells #[.int .i64 n, .int .u64 V] 57)
  generalize w1.alloc (.cells #[.int .i64 n, .int .u64 V] 57) = W1 at B1 ⊢
  refine (HZ.out _).mono ?_
  rintro e w2 ⟨rfl, hb2⟩
  have B2 := B1.trans (hb2.mono B1.size)
  clear hb2 B1 hb
  go_wp2_with (go_at_call 51; refine (HN.out _).mono ?_; rintro e w3 ⟨rfl, rfl⟩)
  go_ret2
  exact ⟨rfl, B2⟩
theorem valueAt_no (s : ByteArray) (x : Int) (w : World) (hm : s.size ≤ maxLen) (h : ¬ ∃ n, TabP n s) :
    Calls Try.prog 20 #[.string s, .int .i64 x] w fun e w' => e = .returned (.tuple #[.int .i64 0, .bool false]) ∧ Below w.heap.size w w' := by
  have HF : Hid (∀ W : World, Calls Try.prog 46 #[.string s] W fun e w' => e = .returned (.tuple #[.agg #[.int .i64 0, .int .u64 0], .bool false]) ∧ Below W.heap.size W w') := fun W => funOf_no s W hm h
  clear h
  go_enter Try.func20, Try.ntmps20
  go_wp2_with (go_at_call 46; refine (HF.out _).mono ?_; rintro e w1 ⟨rfl, hb⟩)
  go_ret2
  exact ⟨rfl, hb.alloc hb.size _⟩
theorem specValueAt_yes (s : ByteArray) (n x : Nat) (w : World) (hT : TabP n s) (hx : x < s.size) :
    Calls Try.prog 36 #[.string s, .int .i64 x] w fun e w' => e = .returned (.tuple #[.int .i64 (tb s x).toNat, .bool true]) ∧ w = w' := by
  have hp := pow6 hT.2.1
  rw [← hT.1] at hp
  have HF : Hid (∀ W : World, Calls Try.prog 63 #[.string s] W fun e w' => e = .returned (.bool true) ∧ W = w') := fun W => l04Table_yes n s W hT
  have HN : Hid (∀ W : World, Calls Try.prog 66 #[.int .i64 x, .int .i64 0, .int .i64 ((s.size : Int) - 1)] W fun e w' => e = .returned (.bool true) ∧ W = w') := fun W => l00In_yes _ _ _ W (by omega) (by omega)
  have hv := hT.val hx
  rw [← get_bt s x hx] at hv
  have hb1 : (tb s x).toNat ≤ 1 := Bool.toNat_le _
  obtain ⟨b, hb⟩ : ∃ b, (tb s x).toNat = b := ⟨_, rfl⟩
  rw [hb] at hv hb1 ⊢
  clear hb hT
  go_enter Try.func36, Try.ntmps36
  go_wp2_with (first | (go_at_call 63; refine (HF.out _).mono ?_; rintro e w1 ⟨rfl, rfl⟩) | (go_at_call 66; refine (HN.out _).mono ?_; rintro e w1 ⟨rfl, rfl⟩))
  go_ret2
  exact ⟨by rw [show (48 + (b : Int) - 48) = b by omega]; rfl, rfl⟩
theorem specValueAt_out (s : ByteArray) (n : Nat) (x : Int) (w : World) (hT : TabP n s) (hx : ¬ (0 ≤ x ∧ x < s.size)) :
    Calls Try.prog 36 #[.string s, .int .i64 x] w fun e w' => e = .returned (.tuple #[.int .i64 0, .bool false]) ∧ w = w' := by
  have hp := pow6 hT.2.1
  rw [← hT.1] at hp
  have HF : Hid (∀ W : World, Calls Try.prog 63 #[.string s] W fun e w' => e = .returned (.bool true) ∧ W = w') := fun W => l04Table_yes n s W hT
  have HN : Hid (∀ W : World, Calls Try.prog 66 #[.int .i64 x, .int .i64 0, .int .i64 ((s.size : Int) - 1)] W fun e w' => e = .returned (.bool false) ∧ W = w') := fun W => l00In_no _ _ _ W (by omega)
  clear hT hx
  go_enter Try.func36, Try.ntmps36
  go_wp2_with (first | (go_at_call 63; refine (HF.out _).mono ?_; rintro e w1 ⟨rfl, rfl⟩) | (go_at_call 66; refine (HN.out _).mono ?_; rintro e w1 ⟨rfl, rfl⟩))
  go_ret2
  exact ⟨rfl, rfl⟩
theorem specValueAt_no (s : ByteArray) (x : Int) (w : World) (hm : s.size ≤ maxLen) (h : ¬ ∃ n, TabP n s) :
    Calls Try.prog 36 #[.string s, .int .i64 x] w fun e w' => e = .returned (.tuple #[.int .i64 0, .bool false]) ∧ w = w' := by
  have HF : Hid (∀ W : World, Calls Try.prog 63 #[.string s] W fun e w' => e = .returned (.bool false) ∧ W = w') := fun W => l04Table_no s W hm h
  clear h
  go_enter Try.func36, Try.ntmps36
  go_wp2_with (go_at_call 63; refine (HF.out _).mono ?_; rintro e w1 ⟨rfl, rfl⟩)
  go_ret2
  exact ⟨rfl, rfl⟩
theorem lawValueAt (s : ByteArray) (x : Int) (w : World) (hm : s.size ≤ maxLen) :
    Calls Try.prog 9 #[.string s, .int .i64 x] w fun e w' => e = .returned (.bool true) ∧ Below w.heap.size w w' := by
  obtain ⟨n, b, HI, HS⟩ : ∃ (n : Nat) (b : Bool), (Hid (∀ W : World, Calls Try.prog 20 #[.string s, .int .i64 x] W fun e w' => e = .returned (.tuple #[.int .i64 n, .bool b]) ∧ Below W.heap.size W w')) ∧ Hid (∀ W : World, Calls Try.prog 36 #[.string s, .int .i64 x] W fun e w' => e = .returned (.tuple #[.int .i64 n, .bool b]) ∧ W = w') := by
    by_cases h : ∃ n, TabP n s
    · obtain ⟨n, hn⟩ := h
      by_cases hx : 0 ≤ x ∧ x < s.size
      · obtain ⟨X, rfl⟩ := Int.eq_ofNat_of_zero_le hx.1
        exact ⟨_, true, fun W => valueAt_yes s n X W hn (by omega), fun W => specValueAt_yes s n X W hn (by omega)⟩
      · exact ⟨0, false, fun W => valueAt_out s n x W hn hx, fun W => specValueAt_out s n x W hn hx⟩
    · exact ⟨0, false, fun W => valueAt_no s x W hm h, fun W => specValueAt_no s x W hm h⟩
  have hnn : ((n : Int) != (n : Int)) = false := by simp
  have hbb : (b != b) = false := by simp
  have hbe : (b == b) = true := by simp
  unfold maxLen at hm
  by_cases hl : s.size ≤ 1048576
  · go_enter Try.func9, Try.ntmps9
    go_wp2_with (first | (go_at_call 36; refine (HS.out _).mono ?_; rintro e w' ⟨rfl, rfl⟩) | (go_at_call 20; refine (HI.out _).mono ?_; rintro e w1 ⟨rfl, hb⟩))
    go_ret
    exact ⟨rfl, hb⟩
  · go_enter Try.func9, Try.ntmps9
    go_wp2
    go_ret
    exact ⟨rfl, Below.refl _ _⟩
end Go.Proofs.Ytgpcacbjmjpdnaa
