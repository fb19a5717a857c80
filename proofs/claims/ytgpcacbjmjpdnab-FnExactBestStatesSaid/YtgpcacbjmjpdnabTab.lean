/- Tables: impl.functionOf and the small methods of a function. -/
import Derived.Test.YtgpcacbjmjpdnabBits
import Derived.Test.YtgpcacbjmjpdnabLen
import Derived.Test.YtgpcacbjmjpdnabWh
import Derived.Test.YtgpcacbjmjpdnabSt2
import Derived.RegionTactic
import Derived.ChangeAlike
import Derived.Deep.QuietTactic
import Derived.BigQuiet
import Derived.Laws.Pointers
namespace Go.Proofs.Ytgpcacbjmjpdnab
open Go.RowKit Go.PlainAid
set_option maxHeartbeats 400000

noncomputable instance (s : ByteArray) (n : Int) : Decidable ((s.size : Int) = n ∧ BitsP s) := Classical.propDecidable _
/-- a table of n inputs -/
def TabP (n : Nat) (s : ByteArray) : Prop := s.size = 2 ^ n ∧ n ≤ 6 ∧ AllIn 48 49 s
/-- the value at x -/
def tb (s : ByteArray) (x : Nat) : Bool := decide (bt s x = 49)
theorem pow6 {n : Nat} (h : n ≤ 6) : 1 ≤ 2 ^ n ∧ 2 ^ n ≤ 64 := ⟨Nat.one_le_two_pow, Nat.pow_le_pow_right (n := 2) (by omega) h⟩
theorem TabP.bits {n : Nat} {s : ByteArray} (h : TabP n s) : BitsP s := ⟨by have := pow6 h.2.1; have := h.1; omega, h.2.2⟩
theorem TabP.unique {n m : Nat} {s : ByteArray} (h : TabP n s) (g : TabP m s) : n = m := Nat.pow_right_inj (Nat.lt_succ_self 1) |>.1 (h.1.symm.trans g.1)
theorem TabP.val {n : Nat} {s : ByteArray} (h : TabP n s) {x : Nat} (hx : x < s.size) : bt s x = 48 + ((tb s x).toNat : Int) := by
  obtain ⟨h1, h2⟩ := h.2.2 x hx
  rw [get_bt s x hx] at h1 h2
  unfold tb
  by_cases e : bt s x = 49
  · simp [e]
  · rw [decide_eq_false e]; simp; omega
theorem TabP.len {n : Nat} {s : ByteArray} (h : TabP n s) : Pl.len s.size = n + 1 := by
  rw [h.1]
  exact Pl.len_eq (Nat.le_refl _) (Nat.pow_lt_pow_right (by omega) (by omega))

theorem wrap64_natT (n : Nat) (h : n < 9223372036854775808) : wrap64 (n : Int) = n := by unfold wrap64; omega
theorem pow_cast (n : Nat) : (2 : Int) ^ n = ((2 ^ n : Nat) : Int) := by simp
theorem wrap_pow {n : Nat} (h : n ≤ 6) : wrap64 ((2 : Int) ^ n) = ((2 ^ n : Nat) : Int) := by
  have := pow6 h
  rw [pow_cast, wrap64_natT _ (by omega)]
theorem bit_low (V x : Nat) (hV : V < 18446744073709551616) : bits .and .u64 ((V : Int) / 2 ^ x) 1 = ((V.testBit x).toNat : Int) := by
  have h : (V : Int) / 2 ^ x = ((V / 2 ^ x : Nat) : Int) := by push_cast; rfl
  have h2 : V / 2 ^ x ≤ V := Nat.div_le_self _ _
  obtain ⟨q, hq⟩ : ∃ q, V / 2 ^ x = q := ⟨_, rfl⟩
  have h3 := Wh.bit_div V x
  rw [hq] at h h2 h3
  rw [h, and_one_u64 _ (by omega) (by omega), ← h3]
  omega

theorem u64_orN (a b : Nat) (ha : a < 18446744073709551616) (hb : b < 18446744073709551616) : bits .or .u64 (a : Int) (b : Int) = ((a ||| b : Nat) : Int) := by
  have h : a ||| b < 2 ^ 64 := Nat.or_lt_two_pow ha hb
  show IntKind.u64.wrap ((BitVec.ofInt 64 (a : Int) ||| BitVec.ofInt 64 (b : Int)).toNat : Int) = _
  rw [BitVec.toNat_or, BitVec.ofInt_natCast, BitVec.ofInt_natCast, BitVec.toNat_ofNat, BitVec.toNat_ofNat, Nat.mod_eq_of_lt (by omega), Nat.mod_eq_of_lt (by omega), IntKind.wrap_u64]
  omega
theorem u64_xorN (a b : Nat) (ha : a < 18446744073709551616) (hb : b < 18446744073709551616) : bits .xor .u64 (a : Int) (b : Int) = ((a ^^^ b : Nat) : Int) := by
  have h : a ^^^ b < 2 ^ 64 := Nat.xor_lt_two_pow ha hb
  show IntKind.u64.wrap ((BitVec.ofInt 64 (a : Int) ^^^ BitVec.ofInt 64 (b : Int)).toNat : Int) = _
  rw [BitVec.toNat_xor, BitVec.ofInt_natCast, BitVec.ofInt_natCast, BitVec.toNat_ofNat, BitVec.toNat_ofNat, Nat.mod_eq_of_lt (by omega), Nat.mod_eq_of_lt (by omega), IntKind.wrap_u64]
  omega
theorem bit_shl {b k : Nat} (hb : b ≤ 1) (hk : k < 64) : b * 2 ^ k < 18446744073709551616 ∧ IntKind.u64.wrap ((b : Int) * 2 ^ k) = ((b * 2 ^ k : Nat) : Int) := by
  have h1 : b * 2 ^ k ≤ 1 * 2 ^ k := Nat.mul_le_mul_right _ hb
  have h2 : 2 ^ k ≤ 2 ^ 63 := Nat.pow_le_pow_right (by omega) (by omega)
  have h3 : (b : Int) * 2 ^ k = ((b * 2 ^ k : Nat) : Int) := by push_cast; rfl
  refine ⟨by omega, ?_⟩
  rw [h3, IntKind.wrap_u64]
  omega
theorem or_next {V b k : Nat} (hV : V < 2 ^ k) (hb : b ≤ 1) (hk : k < 64) : bits .or .u64 (V : Int) (IntKind.u64.wrap ((48 + (b : Int) - 48) * 2 ^ k)) = ((V + b * 2 ^ k : Nat) : Int) := by
  obtain ⟨h1, h2⟩ := bit_shl hb hk
  have h3 : 2 ^ k ≤ 2 ^ 63 := Nat.pow_le_pow_right (by omega) (by omega)
  have h4 := Nat.two_pow_add_eq_or_of_lt hV b
  rw [show (48 + (b : Int) - 48) = (b : Int) by omega, h2, u64_orN _ _ (by omega) h1, Nat.or_comm, Nat.mul_comm b, ← h4, Nat.add_comm]

theorem size_any (n V : Nat) (w : World) (hn : n ≤ 6) :
    Calls Try.prog 51 #[.agg #[.int .i64 n, .int .u64 V]] w fun e w' => e = .returned (.int .i64 (2 ^ n : Nat)) ∧ Below w.heap.size w w' := by
  have e := Lib.hid (wrap_pow hn)
  go_enter Try.func51, Try.ntmps51
  go_wp2
  go_ret
  exact ⟨congrArg (fun x => Ending.returned (.int .i64 x)) e.out, (Below.refl _ _).alloc (Nat.le_refl _) _⟩
theorem at_any (n V x : Nat) (w : World) (hV : V < 18446744073709551616) (hx : x < 64) :
    Calls Try.prog 75 #[.agg #[.int .i64 n, .int .u64 V], .int .i64 x] w fun e w' => e = .returned (.int .u64 (V.testBit x).toNat) ∧ Below w.heap.size w w' := by
  have e := bit_low V x hV
  obtain ⟨b, hb⟩ : ∃ b, (V.testBit x).toNat = b := ⟨_, rfl⟩
  rw [hb] at e ⊢
  clear hb
  go_enter Try.func75, Try.ntmps75
  go_wp2
  go_ret
  exact ⟨rfl, (Below.refl _ _).alloc (Nat.le_refl _) _⟩
theorem digit_any (n V x : Nat) (w : World) (hV : V < 18446744073709551616) (hx : x < 64) :
    Calls Try.prog 59 #[.agg #[.int .i64 n, .int .u64 V], .int .i64 x] w fun e w' => e = .returned (.int .u8 (48 + (V.testBit x).toNat)) ∧ Below w.heap.size w w' := by
  have HA : Hid (∀ W : World, Calls Try.prog 75 #[.agg #[.int .i64 n, .int .u64 V], .int .i64 x] W fun e w' => e = .returned (.int .u64 (V.testBit x).toNat) ∧ Below W.heap.size W w') := fun W => at_any n V x W hV hx
  have hb1 : (V.testBit x).toNat ≤ 1 := Bool.toNat_le _
  obtain ⟨b, hb⟩ : ∃ b, (V.testBit x).toNat = b := ⟨_, rfl⟩
  rw [hb] at HA hb1 ⊢
  clear hb hV
  go_enter Try.func59, Try.ntmps59
  go_wp2_with (go_at_call 75; refine (HA.out _).mono ?_; rintro e w1 ⟨rfl, hb⟩)
  go_ret
  exact ⟨rfl, ((Below.refl _ _).alloc (Nat.le_refl _) _).trans (hb.mono (by simp))⟩
theorem lenT_any (x : Nat) (w : World) (hx : x < 18446744073709551616) :
    Calls Try.prog 73 #[.int .u64 x] w fun e w' => e = .returned (.int .i64 (Pl.len x)) ∧ w = w' := by
  have HL : Hid (∀ W : World, Calls Try.prog 89 #[.int .u64 x] W fun e w' => e = .returned (.int .i64 (Pl.len x)) ∧ W = w') := fun W => len64_any x W hx
  have h1 : (x : Int) ≤ 18446744073709551615 := by omega
  clear hx
  go_enter Try.func73, Try.ntmps73
  go_wp2_with (go_at_call 89; refine (HL.out _).mono ?_; rintro e w1 ⟨rfl, rfl⟩)
  go_ret
  exact ⟨rfl, rfl⟩
theorem isBitsT_b (s : ByteArray) (n : Int) (b : Bool) (w : World) (hm : s.size ≤ maxLen) (h : decide ((s.size : Int) = n ∧ BitsP s) = b) :
    Calls Try.prog 66 #[.string s, .int .i64 n] w fun e w' => e = .returned (.bool b) ∧ Below w.heap.size w w' := by
  by_cases hn : (s.size : Int) = n
  · have h2 : ((s.size : Int) == n) = true := by simp [hn]
    cases b with
    | true =>
      have HB := Lib.hid (of_decide_eq_true h).2
      clear h hn
      go_enter Try.func66, Try.ntmps66
      go_wp2_with (go_at_call 65; refine (isBits_yes s _ HB.out).mono ?_; rintro e w1 ⟨rfl, hb⟩)
      go_ret
      exact ⟨rfl, hb⟩
    | false =>
      have HB : Hid (¬ BitsP s) := fun x => (of_decide_eq_false h) ⟨hn, x⟩
      clear h hn
      go_enter Try.func66, Try.ntmps66
      go_wp2_with (go_at_call 65; refine (isBits_no s _ hm HB.out).mono ?_; rintro e w1 ⟨rfl, hb⟩)
      go_ret
      exact ⟨rfl, hb⟩
  · have h2 : ((s.size : Int) == n) = false := by simp [hn]
    obtain rfl : b = false := by rw [← h]; exact decide_eq_false fun x => hn x.1
    clear h hn
    go_enter Try.func66, Try.ntmps66
    go_wp2
    go_ret
    exact ⟨rfl, Below.refl _ _⟩

/-- the values up to k as bits of a number -/
def val (s : ByteArray) (k : Nat) : Nat := Wh.ob (tb s) k
theorem val_lt (s : ByteArray) {k : Nat} (hk : k ≤ 64) : val s k < 18446744073709551616 := by
  have h1 := Wh.ob_lt (tb s) k
  have h2 : 2 ^ k ≤ 2 ^ 64 := Nat.pow_le_pow_right (by omega) hk
  unfold val
  omega
theorem val_bit (s : ByteArray) {k x : Nat} (hx : x < k) : (val s k).testBit x = tb s x := by
  unfold val
  rw [Wh.ob_bit]
  simp [hx]

theorem funOf_yes (n : Nat) (s : ByteArray) (w : World) (h : TabP n s) :
    Calls Try.prog 43 #[.string s] w fun e w' => e = .returned (.tuple #[.agg #[.int .i64 n, .int .u64 (val s s.size)], .bool true]) ∧ Below w.heap.size w w' := by
  obtain ⟨p1, p2⟩ := pow6 h.2.1
  rw [← h.1] at p1 p2
  have e := wrap_pow h.2.1
  rw [← h.1] at e
  have hn := h.2.1
  have HL : Hid (∀ W : World, Calls Try.prog 73 #[.int .u64 s.size] W fun e w' => e = .returned (.int .i64 ((n : Int) + 1)) ∧ W = w') := fun W => by
    have := lenT_any s.size W (by omega)
    rw [h.len] at this
    exact this
  have HN : Hid (∀ W : World, Calls Try.prog 74 #[.int .i64 n, .int .i64 0, .int .i64 6] W fun e w' => e = .returned (.bool true) ∧ W = w') := fun W => btwI_yes _ _ _ W (by omega) (by omega)
  have HI : Hid (∀ W : World, Calls Try.prog 66 #[.string s, .int .i64 s.size] W fun e w' => e = .returned (.bool true) ∧ Below W.heap.size W w') := fun W => isBitsT_b s s.size true W (by unfold maxLen; omega) (decide_eq_true ⟨rfl, h.bits⟩)
  have HT := Lib.hid h
  clear h
  go_enter Try.func43, Try.ntmps43
  go_wp2_with (first | (go_at_call 73; refine (HL.out _).mono ?_; rintro e w1 ⟨rfl, rfl⟩) | (go_at_call 74; refine (HN.out _).mono ?_; rintro e w1 ⟨rfl, rfl⟩) | (go_at_call 66; refine (HI.out _).mono ?_; rintro e w1 ⟨rfl, hb⟩))
  have A0 : P2 (w1.alloc (.cells #[.int .i64 n, .int .u64 0] 54)) w1.heap.size (.int .i64 n) (.int .u64 (val s 0)) := P2.new w1 _ _ _
  have hb1 : Below w.heap.size w w1 := ((Below.refl _ _).alloc (Nat.le_refl _) _).trans (hb.mono (by simp))
  have B0 : Below w.heap.size w (w1.alloc (.cells #[.int .i64 n, .int .u64 0] 54)) := hb1.alloc hb1.size _
  have R0 := (P2.new w (.int .i64 0) (.int .u64 0) 54).far hb
  have hne : ¬ w1.heap.size = w.heap.size := by have := R0.lt; omega
  have R1 := R0.alloc (.cells #[.int .i64 n, .int .u64 0] 54)
  have hz := hb1.size
  clear hb hb1 R0
  go_loopw [6, 27] (fun _ kv wr => ∃ k : Nat, k ≤ s.size ∧ kv = .int .i64 k ∧ P2 wr w1.heap.size (.int .i64 n) (.int .u64 (val s k)) ∧ P2 wr w.heap.size (.int .i64 0) (.int .u64 0) ∧ Below w.heap.size w wr) (fun _ kv _ => s.size - (intOf kv).toNat)
  case atStart => exact ⟨0, Nat.zero_le _, rfl, A0, R1, B0⟩
  case round =>
    obtain ⟨k, hk, rfl, A, R, B⟩ := hrel
    clear A0 R1 B0
    by_cases hlt : k < s.size
    · have hx := HT.out.val hlt
      rw [← get_bt s k hlt] at hx
      have hb1 : (tb s k).toNat ≤ 1 := Bool.toNat_le _
      obtain ⟨b, hb⟩ : ∃ b, (tb s k).toNat = b := ⟨_, rfl⟩
      rw [hb] at hx hb1
      have hor : bits .or .u64 (val s k : Int) (IntKind.u64.wrap ((48 + (b : Int) - 48) * 2 ^ k)) = (val s (k + 1) : Int) := by
        have := or_next (Wh.ob_lt (tb s) k) hb1 (show k < 64 by omega)
        refine this.trans ?_
        show _ = ((Wh.ob (tb s) k + (tb s k).toNat * 2 ^ k : Nat) : Int)
        rw [hb]
      clear hb
      have A' := A
      obtain ⟨⟨c0, c1⟩, f0, f1⟩ := A'
      go_wp2
      go_region
      all_goals
        clear hor c0 c1 f0 f1
        go_wp2
        go_roundw
        case rel => exact ⟨k + 1, by omega, by go_num, (A.set1 _).drew, (R.away hne 1 _).drew, (B.setCell (p := ⟨w1.heap.size, 1, none⟩) hz _).drew⟩
        case measure => simp [intOf]; omega
    · obtain rfl : k = s.size := by omega
      obtain ⟨⟨c0, c1⟩, f0, f1⟩ := A
      have R' := R
      obtain ⟨⟨r0, r1⟩, g0, g1⟩ := R'
      have R2 := (R.set0 (.int .i64 n)).set1 (.int .u64 (val s s.size))
      obtain ⟨⟨x0, x1⟩, _⟩ := R2
      go_wp2
      exact bodyPost_ret (v := .tuple #[.agg #[.int .i64 n, .int .u64 (val s s.size)], .bool true]) (by simp [results, Try.results43, go_sem, x0, x1]) rfl ⟨rfl, (B.setCell (p := ⟨w.heap.size, 0, none⟩) (Nat.le_refl _) _).setCell (p := ⟨w.heap.size, 1, none⟩) (Nat.le_refl _) _⟩

theorem funOf_no (s : ByteArray) (w : World) (hm : s.size ≤ maxLen) (h : ¬ ∃ n, TabP n s) :
    Calls Try.prog 43 #[.string s] w fun e w' => e = .returned (.tuple #[.agg #[.int .i64 0, .int .u64 0], .bool false]) ∧ Below w.heap.size w w' := by
  have hm2 := hm
  unfold maxLen at hm2
  have HL : Hid (∀ W : World, Calls Try.prog 73 #[.int .u64 s.size] W fun e w' => e = .returned (.int .i64 (Pl.len s.size)) ∧ W = w') := fun W => lenT_any s.size W (by omega)
  have hl0 := Pl.len_of_lt 63 s.size (by omega)
  obtain ⟨L, hL⟩ : ∃ L, Pl.len s.size = L := ⟨_, rfl⟩
  rw [hL] at HL hl0
  by_cases hn : 1 ≤ L ∧ L ≤ 7
  · obtain ⟨n, rfl⟩ : ∃ n, L = n + 1 := ⟨L - 1, by omega⟩
    have HL2 : Hid (∀ W : World, Calls Try.prog 73 #[.int .u64 s.size] W fun e w' => e = .returned (.int .i64 ((n : Int) + 1)) ∧ W = w') := HL
    have HN : Hid (∀ W : World, Calls Try.prog 74 #[.int .i64 n, .int .i64 0, .int .i64 6] W fun e w' => e = .returned (.bool true) ∧ W = w') := fun W => btwI_yes _ _ _ W (by omega) (by omega)
    have e := wrap_pow (n := n) (by omega)
    obtain ⟨P, hP⟩ : ∃ P, 2 ^ n = P := ⟨_, rfl⟩
    have HI : Hid (∀ W : World, Calls Try.prog 66 #[.string s, .int .i64 P] W fun e w' => e = .returned (.bool false) ∧ Below W.heap.size W w') := fun W => isBitsT_b s P false W hm (decide_eq_false fun x => h ⟨n, by rw [hP]; exact Int.ofNat.inj x.1, by omega, x.2.all⟩)
    rw [hP] at e
    have hn6 : n ≤ 6 := by omega
    have hs : (s.size : Int) ≤ 9223372036854775807 := by omega
    clear h hL hl0 hP HL hm hn hm2
    go_enter Try.func43, Try.ntmps43
    go_wp2_with (first | (go_at_call 73; refine (HL2.out _).mono ?_; rintro e w1 ⟨rfl, rfl⟩) | (go_at_call 74; refine (HN.out _).mono ?_; rintro e w1 ⟨rfl, rfl⟩) | (go_at_call 66; rw [e]; refine (HI.out _).mono ?_; rintro e w1 ⟨rfl, hb⟩; obtain ⟨⟨r0, r1⟩, g0, g1⟩ := (P2.new w (.int .i64 0) (.int .u64 0) 54).far hb))
    exact bodyPost_ret (v := .tuple #[.agg #[.int .i64 0, .int .u64 0], .bool false]) (by simp [results, Try.results43, go_sem, r0, r1]) rfl ⟨rfl, by have b1 : Below w.heap.size w w1 := ((Below.refl _ _).alloc (Nat.le_refl _) _).trans (hb.mono (by simp)); exact (b1.setCell (p := ⟨w.heap.size, 0, none⟩) (Nat.le_refl _) _).setCell (p := ⟨w.heap.size, 1, none⟩) (Nat.le_refl _) _⟩
  · have HN : Hid (∀ W : World, Calls Try.prog 74 #[.int .i64 ((L : Int) - 1), .int .i64 0, .int .i64 6] W fun e w' => e = .returned (.bool false) ∧ W = w') := fun W => btwI_no _ _ _ W (by omega)
    have hs : (s.size : Int) ≤ 9223372036854775807 := by omega
    clear h hL hn hm hm2
    go_enter Try.func43, Try.ntmps43
    go_wp2_with (first | (go_at_call 73; refine (HL.out _).mono ?_; rintro e w1 ⟨rfl, rfl⟩) | (go_at_call 74; refine (HN.out _).mono ?_; rintro e w1 ⟨rfl, rfl⟩))
    exact bodyPost_ret (v := .tuple #[.agg #[.int .i64 0, .int .u64 0], .bool false]) (by simp [results, Try.results43, go_sem]) rfl ⟨rfl, by go_grown⟩
end Go.Proofs.Ytgpcacbjmjpdnab
