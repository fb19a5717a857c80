/- A block of flips: impl.FairBlock, spec.FairBlock, and the law. -/
import Derived.Test.YtamedggnkbhgeabBlkMath
import Derived.Test.YtamedggnkbhgeabOnes
import Derived.Test.YtamedggnkbhgeabDigits
import Derived.Test.YtamedggnkbhgeabBinomial
import Derived.Test.YtamedggnkbhgeabWidth
import Derived.Test.YtamedggnkbhgeabRdr
namespace Go.Proofs.Ytamedggnkbhgeab
open Go.RowKit Go.PlainAid
set_option maxHeartbeats 1000000

theorem i64_andB (a b : Nat) (ha : a < 9223372036854775808) (hb : b < 9223372036854775808) : bits .and .i64 (a : Int) (b : Int) = ((a &&& b : Nat) : Int) := by
  have h : a &&& b ≤ a := Nat.and_le_left
  show IntKind.i64.wrap ((BitVec.ofInt 64 (a : Int) &&& BitVec.ofInt 64 (b : Int)).toNat : Int) = _
  rw [BitVec.toNat_and, BitVec.ofInt_natCast, BitVec.ofInt_natCast, BitVec.toNat_ofNat, BitVec.toNat_ofNat, Nat.mod_eq_of_lt (by omega), Nat.mod_eq_of_lt (by omega), IntKind.wrap_i64]
  omega
theorem i64_xorB (a b : Nat) (ha : a < 9223372036854775808) (hb : b < 9223372036854775808) : bits .xor .i64 (a : Int) (b : Int) = ((a ^^^ b : Nat) : Int) := by
  have h : a ^^^ b < 2 ^ 63 := Nat.xor_lt_two_pow ha hb
  show IntKind.i64.wrap ((BitVec.ofInt 64 (a : Int) ^^^ BitVec.ofInt 64 (b : Int)).toNat : Int) = _
  rw [BitVec.toNat_xor, BitVec.ofInt_natCast, BitVec.ofInt_natCast, BitVec.toNat_ofNat, BitVec.toNat_ofNat, Nat.mod_eq_of_lt (by omega), Nat.mod_eq_of_lt (by omega), IntKind.wrap_i64]
  omega
theorem pow_16 {e : Nat} (h : e ≤ 17) : 2 ^ e ≤ 131072 ∧ wrap64 (2 ^ e) = ((2 ^ e : Nat) : Int) := by
  have h1 : 2 ^ e ≤ 2 ^ 17 := Nat.pow_le_pow_right (by omega) h
  have e1 : ((2 ^ e : Nat) : Int) = (2 : Int) ^ e := by simp
  refine ⟨by omega, ?_⟩
  rw [← e1]
  generalize 2 ^ e = q at h1
  exact IntWalk.wrap64_in _ (by omega)
theorem and_bit (C e : Nat) (hC : C ≤ 65536) (he : e ≤ 17) : (bits .and .i64 (C : Int) (wrap64 (2 ^ e)) == 0) = !C.testBit e := by
  obtain ⟨h1, h2⟩ := pow_16 he
  rw [h2, i64_andB C (2 ^ e) (by omega) (by omega)]
  have hp : 0 < 2 ^ e := Nat.pow_pos (by omega)
  have hk : C &&& 2 ^ e = (if C.testBit e = true then 2 ^ e else 0) := by
    apply Nat.eq_of_testBit_eq
    intro i
    rw [Nat.testBit_and, Nat.testBit_two_pow]
    by_cases hi : e = i
    · subst hi
      cases hc : C.testBit e <;> simp
    · cases hc : C.testBit e <;> simp [hi]
  rw [hk]
  by_cases hc : C.testBit e = true
  · rw [if_pos hc, hc]
    generalize 2 ^ e = q at hp
    show (((q : Nat) : Int) == 0) = false
    rw [beq_eq_false_iff_ne]
    omega
  · rw [if_neg hc]
    cases hd : C.testBit e
    · rfl
    · exact absurd hd hc
theorem and_mask (R e : Nat) (hR : R ≤ 65536) (he : e ≤ 17) (P : Int) (hP : 2 ^ e = P) : bits .and .i64 (R : Int) (P - 1) = ((R % 2 ^ e : Nat) : Int) := by
  have h1 := (pow_16 he).1
  have hp : 0 < 2 ^ e := Nat.pow_pos (by omega)
  have e1 : ((2 ^ e : Nat) : Int) = (2 : Int) ^ e := by simp
  have e2 : P - 1 = ((2 ^ e - 1 : Nat) : Int) := by rw [← hP, ← e1]; omega
  rw [e2, i64_andB R (2 ^ e - 1) (by omega) (by omega), Nat.and_two_pow_sub_one_eq_mod]
theorem n1_ones (s : ByteArray) (h : AllIn 48 49 s) : ∀ k, k ≤ s.size → onesTo s k = n1 s k := by
  intro k
  induction k with
  | zero => intro _; rfl
  | succ k ih =>
    intro hk
    have hb := h k (by omega)
    rw [get_bt s k (by omega)] at hb
    rw [onesTo, ih (by omega), n1]
    split <;> omega
theorem binomC (m l : Nat) (hm : m ≤ 60) : ∃ ok : Bool, ∀ W : World, Calls Try.prog 77 #[.int .i64 m, .int .i64 l] W fun e w' => e = .returned (.tuple #[.int .i64 (Choose.ch m l : Nat), .bool ok]) ∧ W = w' := by
  by_cases h : l ≤ m
  · exact ⟨true, fun W => binom_yes m l W hm h⟩
  · refine ⟨false, fun W => ?_⟩
    rw [Choose.ch_out m l (by omega)]
    exact binom_no m l W (by omega)
theorem rank_any (s : ByteArray) (w : World) (hs : BitsP s) (hl : s.size ≤ 16) :
    Calls Try.prog 55 #[.string s] w fun e w' => e = .returned (.tuple #[.int .i64 (rk s (n1 s s.size) s.size), .int .i64 (Choose.ch s.size (n1 s s.size) : Nat)]) ∧ Below w.heap.size w w' := by
  have HS := Lib.hid hs
  obtain ⟨o, ho⟩ : ∃ o, o = n1 s s.size := ⟨_, rfl⟩
  have hoe : Hid (onesTo s s.size = (o : Int)) := by rw [ho]; exact n1_ones s hs.all s.size (Nat.le_refl _)
  have HO := Lib.hid ho
  have hol : o ≤ 16 := by have := n1_le s s.size; omega
  have HR : Hid (∀ i, i ≤ s.size → rk s o i ≤ 65536) := fun i hi => by
    have := rk_le s hi
    have h2 : 2 ^ s.size ≤ 2 ^ 16 := Nat.pow_le_pow_right (by omega) hl
    rw [ho]
    omega
  have HC : Hid (∀ m l, m ≤ 16 → Choose.ch m l ≤ 65536) := fun m l hm => by
    have := ch_pow m l
    have h2 : 2 ^ m ≤ 2 ^ 16 := Nat.pow_le_pow_right (by omega) hm
    omega
  rw [← ho]
  clear hs ho
  obtain ⟨ok0, HB0⟩ := binomC s.size o (by omega)
  have HB := Lib.hid HB0
  clear HB0
  go_enter Try.func55, Try.ntmps55
  go_wp2_with fail
  refine (ones_yes s w HS.out).mono ?_
  rintro e w1 ⟨rfl, hb⟩
  have B1 := Lib.hid hb
  rw [hoe.out]
  clear hb
  go_wp2_with fail
  refine (HB.out _).mono ?_
  rintro e w2 ⟨rfl, rfl⟩
  go_wp2_with fail
  go_loop [4, 5, 9, 10, 11, 26] (fun rv lv _ _ _ iv => ∃ i : Nat, i ≤ s.size ∧ iv = .int .i64 i ∧ rv = .int .i64 (rk s o i) ∧ lv = .int .i64 (o - n1 s i : Nat)) (fun _ _ _ _ _ iv => s.size - (intOf iv).toNat)
  case atStart => exact ⟨0, Nat.zero_le _, rfl, rfl, rfl⟩
  case round =>
    obtain ⟨i, hi, rfl, rfl, rfl⟩ := hrel
    by_cases hlt : i < s.size
    · have e1 := get_bt s i hlt
      have hr := HR.out i hi
      by_cases hb : bt s i = 49
      · have hc : (((s[i]'hlt).toNat : Int) == 49) = true := by rw [e1, hb]; rfl
        obtain ⟨m, hm⟩ : ∃ m, s.size - 1 - i = m := ⟨_, rfl⟩
        have hsub : ((s.size : Nat) : Int) - 1 - (i : Nat) = (m : Nat) := by omega
        have hmore := n1_more s (i + 1) (s.size - (i + 1))
        rw [show i + 1 + (s.size - (i + 1)) = s.size by omega, ← HO.out] at hmore
        have hn : n1 s (i + 1) = n1 s i + 1 := by simp [n1, hb]
        obtain ⟨l, hl2⟩ : ∃ l, o - n1 s i = l := ⟨_, rfl⟩
        have hl3 : 1 ≤ l := by omega
        have HL : Hid (((l : Nat) : Int) - 1 = (o - n1 s (i + 1) : Nat)) := by unfold Hid; omega
        have HK : Hid (rk s o (i + 1) = rk s o i + Choose.ch m l) := by unfold Hid; rw [rk, if_pos hb, hm, hl2]
        have hcm := HC.out m l (by omega)
        obtain ⟨ok1, HB1⟩ := binomC m l (by omega)
        have HB2 := Lib.hid HB1
        rw [hl2]
        have hm16 : m ≤ 16 := by omega
        have hl16 : l ≤ 16 := by omega
        generalize Choose.ch m l = ch at hcm HK HB2
        clear HB1 hb e1 hm hmore hn hl2
        go_wp2_with fail
        refine (HB2.out _).mono ?_
        rintro e w3 ⟨rfl, rfl⟩
        go_wp2
        go_round
        case rel => exact ⟨i + 1, by omega, by go_num, by rw [HK.out]; go_num, by rw [← HL.out]⟩
        case measure => simp [intOf]; omega
      · have hc : (((s[i]'hlt).toNat : Int) == 49) = false := by rw [e1, beq_eq_false_iff_ne]; exact hb
        have HN : Hid (n1 s (i + 1) = n1 s i) := by unfold Hid; simp [n1, hb]
        have HK : Hid (rk s o (i + 1) = rk s o i) := by unfold Hid; rw [rk, if_neg hb]
        clear hb e1
        go_wp2
        go_round
        case rel => exact ⟨i + 1, by omega, by go_num, by rw [HK.out], by rw [HN.out]⟩
        case measure => simp [intOf]; omega
    · obtain rfl : i = s.size := by omega
      go_wp2
      go_returns
      exact ⟨rfl, B1.out⟩

theorem block_yes (s : ByteArray) (w : World) (hs : BitsP s) (hl : s.size ≤ 16) (R C e : Nat) (hR : R = rk s (n1 s s.size) s.size) (hC : C = Choose.ch s.size (n1 s s.size)) (he : Pl.len (R ^^^ C) = e + 1) :
    Calls Try.prog 26 #[.string s] w fun e' w' => e' = .returned (.tuple #[.string (strOfNums (low (R % 2 ^ e : Nat) e)), .bool true]) ∧ Below w.heap.size w w' := by
  have hlt : R < C := by rw [hR, hC]; exact rk_lt s
  have hCle : C ≤ 65536 := by
    have := ch_pow s.size (n1 s s.size)
    have h2 : 2 ^ s.size ≤ 2 ^ 16 := Nat.pow_le_pow_right (by omega) hl
    rw [hC]
    omega
  have hx : R ^^^ C < 2 ^ 17 := Nat.xor_lt_two_pow (by omega) (by omega)
  have he16 : e ≤ 16 := by
    have := Pl.len_of_lt 17 _ hx
    omega
  have HK : Hid (∀ W : World, Calls Try.prog 55 #[.string s] W fun e w' => e = .returned (.tuple #[.int .i64 R, .int .i64 C]) ∧ Below W.heap.size W w') := fun W => by
    rw [hR, hC]
    exact rank_any s W hs hl
  obtain ⟨P, hP⟩ : ∃ P : Int, 2 ^ e = P := ⟨_, rfl⟩
  have hxor := i64_xorB R C (by omega) (by omega)
  have HW : Hid (∀ W : World, Calls Try.prog 56 #[.int .i64 (R ^^^ C : Nat)] W fun e' w' => e' = .returned (.int .i64 (e + 1 : Nat)) ∧ W = w') := fun W => by
    have := widthOf_any (R ^^^ C) W (by omega)
    rwa [he] at this
  have hsub : ((e + 1 : Nat) : Int) - 1 = (e : Nat) := by omega
  have HO : Hid (∀ W : World, Calls Try.prog 44 #[.int .i64 e] W fun e w' => e = .returned (.int .i64 (P - 1)) ∧ W = w') := fun W => onesD_any e P W (by omega) hP
  have hand := and_mask R e (by omega) (by omega) P hP
  have hmod : R % 2 ^ e < 2 ^ e := Nat.mod_lt _ (Nat.pow_pos (by omega))
  have hp2 := (pow_16 (show e ≤ 17 by omega)).1
  have HB : Hid (∀ W : World, Calls Try.prog 57 #[.int .i64 (R % 2 ^ e : Nat), .int .i64 e] W fun e' w' => e' = .returned (.tuple #[.string (strOfNums (low (R % 2 ^ e : Nat) e)), .bool true]) ∧ Below W.heap.size W w') := fun W => by
    refine bits_yes _ e W (by omega) (by omega) ?_
    have e1 : ((2 ^ e : Nat) : Int) = (2 : Int) ^ e := by simp
    rw [← e1]
    omega
  have HS := Lib.hid hs
  generalize R % 2 ^ e = M at hand HB hmod
  generalize R ^^^ C = X at hxor HW
  clear hs hR hC he hlt hx hP hmod
  go_enter Try.func26, Try.ntmps26
  go_wp2_with fail
  refine (isBits_yes s w HS.out).mono ?_
  rintro e1 w1 ⟨rfl, hb⟩
  have B1 := hb
  clear hb
  go_wp2_with fail
  refine (HK.out _).mono ?_
  rintro e1 w2 ⟨rfl, hb⟩
  replace B1 := B1.trans (hb.mono B1.size)
  clear hb
  go_wp2_with fail
  refine (HW.out _).mono ?_
  rintro e1 w3 ⟨rfl, rfl⟩
  go_wp2_with fail
  refine (HO.out _).mono ?_
  rintro e1 w3 ⟨rfl, rfl⟩
  go_wp2_with fail
  refine (HB.out _).mono ?_
  rintro e1 w3 ⟨rfl, hb⟩
  replace B1 := B1.trans (hb.mono B1.size)
  clear hb
  go_wp2
  go_ret2
  exact ⟨rfl, B1⟩
theorem block_no (s : ByteArray) (w : World) (hm : s.size ≤ maxLen) (h : ¬ (BitsP s ∧ s.size ≤ 16)) :
    Calls Try.prog 26 #[.string s] w fun e w' => e = .returned (.tuple #[.string ⟨#[]⟩, .bool false]) ∧ Below w.heap.size w w' := by
  by_cases hl : s.size ≤ 16
  · have HN : Hid (∀ W : World, Calls Try.prog 48 #[.string s] W fun e w' => e = .returned (.bool false) ∧ Below W.heap.size W w') := fun W => isBits_no s W hm fun x => h ⟨x, hl⟩
    clear h
    go_enter Try.func26, Try.ntmps26
    go_wp2_with fail
    refine (HN.out _).mono ?_
    rintro e w1 ⟨rfl, hb⟩
    go_wp2
    go_ret2
    exact ⟨rfl, hb⟩
  · unfold maxLen at hm
    clear h
    go_enter Try.func26, Try.ntmps26
    go_wp2
    go_ret2
    exact ⟨rfl, Below.refl _ _⟩
theorem sel_exists {R C : Nat} (h : R < C) : ∃ e, Pl.len (R ^^^ C) = e + 1 := by
  have hne : R ^^^ C ≠ 0 := by
    intro e
    have : R = C := Nat.eq_of_testBit_eq fun i => by
      have h2 := congrArg (fun x => x.testBit i) e
      simp only [Nat.testBit_xor, Nat.zero_testBit] at h2
      cases h3 : R.testBit i <;> cases h4 : C.testBit i <;> simp_all
    omega
  have := Pl.len_pos (Nat.pos_of_ne_zero hne)
  exact ⟨Pl.len (R ^^^ C) - 1, by omega⟩
theorem l06Choose_any (m l : Nat) (w : World) (hm : m ≤ 16) (hl : l ≤ 16) :
    Calls Try.prog 54 #[.int .i64 m, .int .i64 l] w fun e w' => e = .returned (.int .i64 (Choose.ch m l : Nat)) ∧ w = w' := by
  have HC : Hid (∀ i, Choose.ch m i ≤ 65536) := fun i => by
    have := ch_pow m i
    have h2 : 2 ^ m ≤ 2 ^ 16 := Nat.pow_le_pow_right (by omega) hm
    omega
  go_enter Try.func54, Try.ntmps54
  go_wp2
  go_loop [5, 6] (fun cv iv => ∃ i : Nat, i ≤ l ∧ iv = .int .i64 i ∧ cv = .int .i64 (Choose.ch m i : Nat)) (fun _ iv => l - (intOf iv).toNat)
  case atStart => exact ⟨0, Nat.zero_le _, rfl, by rw [Choose.ch_zero]; rfl⟩
  case round =>
    obtain ⟨i, hi, rfl, rfl⟩ := hrel
    by_cases hlt : i < l
    · have c2 := HC.out i
      obtain ⟨c, hc⟩ : ∃ c, Choose.ch m i = c := ⟨_, rfl⟩
      obtain ⟨d, hd⟩ : ∃ d, Choose.ch m (i + 1) = d := ⟨_, rfl⟩
      have HD : Hid (Choose.ch m (i + 1) = d) := hd
      obtain ⟨P, hP, E, D⟩ : ∃ P : Nat, P ≤ 1048576 ∧ (c : Int) * ((m : Int) - (i : Int)) = (P : Int) ∧ (P : Int) / ((i : Int) + 1) = (d : Int) := by
        by_cases him : i ≤ m
        · have ha := Choose.absorb_sub m i him
          rw [hc, hd] at ha
          refine ⟨c * (m - i), ?_, ?_, ?_⟩
          · rw [hc] at c2
            have : c * (m - i) ≤ 65536 * 16 := Nat.mul_le_mul c2 (by omega)
            omega
          · rw [Int.natCast_mul, Int.natCast_sub him]
          · rw [ha]
            exact_mod_cast Nat.mul_div_cancel d (by omega : 0 < i + 1)
        · have h1 : c = 0 := by rw [← hc]; exact Choose.ch_out m i (by omega)
          have h2 : d = 0 := by rw [← hd]; exact Choose.ch_out m (i + 1) (by omega)
          exact ⟨0, by omega, by rw [h1]; simp, by rw [h2]; simp⟩
      have d2 := HC.out (i + 1)
      rw [hd] at d2
      rw [hc] at c2 ⊢
      clear hc hd
      go_wp2
      go_round
      case rel => exact ⟨i + 1, by omega, by go_num, by rw [HD.out]⟩
      case measure => simp [intOf]; omega
    · obtain rfl : i = l := by omega
      go_wp2
      go_ret
      exact ⟨rfl, rfl⟩

set_option maxRecDepth 20000 in
theorem specBlock_yes (s : ByteArray) (w : World) (hs : BitsP s) (hl : s.size ≤ 16) (R C e : Nat) (hR : R = rk s (n1 s s.size) s.size) (hC : C = Choose.ch s.size (n1 s s.size)) (he : Pl.len (R ^^^ C) = e + 1) :
    Calls Try.prog 25 #[.string s] w fun e' w' => e' = .returned (.tuple #[.string (strOfNums (low (R % 2 ^ e : Nat) e)), .bool true]) ∧ Below w.heap.size w w' := by
  obtain ⟨i0, hi, hz0, hz1, hz2⟩ := info_parts Try.info5
  have hlt : R < C := by rw [hR, hC]; exact rk_lt s
  have hCle : C ≤ 65536 := by
    have := ch_pow s.size (n1 s s.size)
    have h2 : 2 ^ s.size ≤ 2 ^ 16 := Nat.pow_le_pow_right (by omega) hl
    rw [hC]
    omega
  have HS := Lib.hid hs
  have HLT := Lib.hid hlt
  have HE := Lib.hid he
  have HRR := Lib.hid hR
  have HCC := Lib.hid hC
  obtain ⟨o, ho⟩ : ∃ o, o = n1 s s.size := ⟨_, rfl⟩
  have HO := Lib.hid ho
  have hol : o ≤ 16 := by have := n1_le s s.size; omega
  have hon : o ≤ s.size := by have := n1_le s s.size; omega
  have HRK : Hid (∀ i, i ≤ s.size → rk s o i ≤ 65536) := fun i hi => by
    have := rk_le s hi
    have h2 : 2 ^ s.size ≤ 2 ^ 16 := Nat.pow_le_pow_right (by omega) hl
    rw [ho]
    omega
  have HCH : Hid (∀ (m l : Nat) (W : World), m ≤ 16 → l ≤ 16 → Calls Try.prog 54 #[.int .i64 m, .int .i64 l] W fun e w' => e = .returned (.int .i64 (Choose.ch m l : Nat)) ∧ W = w') := fun m l W h1 h2 => l06Choose_any m l W h1 h2
  clear hs hR hC he hlt ho
  go_enter Try.func25, Try.ntmps25
  go_wp2_with fail
  refine (l01Bits_yes s w HS.out).mono ?_
  rintro e1 w1 ⟨rfl, rfl⟩
  go_wp2_with fail
  go_loop [5, 6] (fun ov iv => ∃ i : Nat, i ≤ s.size ∧ iv = .int .i64 i ∧ ov = .int .i64 (n1 s i)) (fun _ iv => s.size - (intOf iv).toNat)
  case atStart => exact ⟨0, Nat.zero_le _, rfl, rfl⟩
  case round =>
    obtain ⟨i, hi2, rfl, rfl⟩ := hrel
    by_cases hlt : i < s.size
    · have e1 := get_bt s i hlt
      have hb := bit_in HS.out.all hlt
      have hn := n1_le s i
      have HN : Hid ((n1 s i : Int) + (((s[i]'hlt).toNat : Int) - 48) = (n1 s (i + 1) : Nat)) := by
        unfold Hid
        rw [e1, n1]
        split <;> omega
      rw [← e1] at hb
      generalize n1 s i = q at hn HN
      clear e1
      go_wp2
      go_round
      case rel => exact ⟨i + 1, by omega, by go_num, by rw [← HN.out]⟩
      case measure => simp [intOf]; omega
    · obtain rfl : i = s.size := by omega
      rw [← HO.out]
      go_wp2_with fail
      go_loop [7, 8, 9] (fun rv lv iv => ∃ i : Nat, i ≤ s.size ∧ iv = .int .i64 i ∧ rv = .int .i64 (rk s o i) ∧ lv = .int .i64 (o - n1 s i : Nat)) (fun _ _ iv => s.size - (intOf iv).toNat)
      case atStart => exact ⟨0, Nat.zero_le _, rfl, rfl, rfl⟩
      case round =>
        obtain ⟨i, hi2, rfl, rfl, rfl⟩ := hrel
        by_cases hlt2 : i < s.size
        · have e1 := get_bt s i hlt2
          have hr := HRK.out i hi2
          by_cases hb : bt s i = 49
          · have hc : (((s[i]'hlt2).toNat : Int) == 49) = true := by rw [e1, hb]; rfl
            obtain ⟨m, hm⟩ : ∃ m, s.size - 1 - i = m := ⟨_, rfl⟩
            have hsub : ((s.size : Nat) : Int) - (i : Nat) - 1 = (m : Nat) := by omega
            have hmore := n1_more s (i + 1) (s.size - (i + 1))
            rw [show i + 1 + (s.size - (i + 1)) = s.size by omega, ← HO.out] at hmore
            have hn : n1 s (i + 1) = n1 s i + 1 := by simp [n1, hb]
            obtain ⟨l, hl2⟩ : ∃ l, o - n1 s i = l := ⟨_, rfl⟩
            have hl3 : 1 ≤ l := by omega
            have HL : Hid (((l : Nat) : Int) - 1 = (o - n1 s (i + 1) : Nat)) := by unfold Hid; omega
            have HK : Hid (rk s o (i + 1) = rk s o i + Choose.ch m l) := by unfold Hid; rw [rk, if_pos hb, hm, hl2]
            have hcm : Choose.ch m l ≤ 65536 := by
              have := ch_pow m l
              have h2 : 2 ^ m ≤ 2 ^ 16 := Nat.pow_le_pow_right (by omega) (by omega)
              omega
            have HB2 := Lib.hid (fun W => HCH.out m l W (by omega) (by omega))
            rw [hl2]
            have hm16 : m ≤ 16 := by omega
            have hl16 : l ≤ 16 := by omega
            generalize Choose.ch m l = ch at hcm HK HB2
            clear hb e1 hm hmore hn hl2
            go_wp2_with fail
            refine (HB2.out _).mono ?_
            rintro e3 w3 ⟨rfl, rfl⟩
            go_wp2
            go_round
            case rel => exact ⟨i + 1, by omega, by go_num, by rw [HK.out]; go_num, by rw [← HL.out]⟩
            case measure => simp [intOf]; omega
          · have hc : (((s[i]'hlt2).toNat : Int) == 49) = false := by rw [e1, beq_eq_false_iff_ne]; exact hb
            have HN : Hid (n1 s (i + 1) = n1 s i) := by unfold Hid; simp [n1, hb]
            have HK : Hid (rk s o (i + 1) = rk s o i) := by unfold Hid; rw [rk, if_neg hb]
            clear hb e1
            go_wp2
            go_round
            case rel => exact ⟨i + 1, by omega, by go_num, by rw [HK.out], by rw [HN.out]⟩
            case measure => simp [intOf]; omega
        · obtain rfl : i = s.size := by omega
          have HR2 : Hid (rk s o s.size = R) := by unfold Hid; rw [HO.out, HRR.out]
          have HC2 : Hid (Choose.ch s.size o = C) := by unfold Hid; rw [HO.out, HCC.out]
          have HB2 := Lib.hid (fun W => HCH.out s.size o W (by omega) (by omega))
          rw [HR2.out]
          rw [HC2.out] at HB2
          go_wp2_with fail
          refine (HB2.out _).mono ?_
          rintro e3 w3 ⟨rfl, rfl⟩
          have HST : Hid (Sec R C 17 R) := sec_start (by have := HLT.out; omega) (by omega)
          go_wp2_with fail
          go_loop [7, 11, 12] (fun xv ev _ => ∃ (E I : Nat) (f : Int), f = (E : Int) - 1 ∧ ev = .int .i64 f ∧ xv = .int .i64 I ∧ I ≤ 65536 ∧ E ≤ 17 ∧ Hid (Sec R C E I)) (fun _ ev _ => (intOf ev + 1).toNat)
          case atStart => exact ⟨17, R, 16, by omega, rfl, rfl, by have := HLT.out; omega, by omega, HST.out⟩
          case round =>
            obtain ⟨E, I, f, hf, rfl, rfl, hI, hE, HSec⟩ := hrel
            clear HST
            cases E with
            | zero => exact (sec_none HSec.out HLT.out).elim
            | succ d =>
              obtain rfl : f = (d : Nat) := by omega
              obtain ⟨p1, p2⟩ := pow_16 (show d ≤ 17 by omega)
              have hp0 : 0 < 2 ^ d := Nat.pow_pos (by omega)
              have hw1 : 0 ≤ wrap64 (2 ^ d) ∧ wrap64 (2 ^ d) ≤ 131072 := by rw [p2]; omega
              have hab := and_bit C d hCle (by omega)
              have HP := Lib.hid p2
              cases hcb : C.testBit d with
              | false =>
                have ht : (bits .and .i64 (C : Int) (wrap64 (2 ^ d)) == 0) = true := by rw [hab, hcb]; rfl
                have HS2 := Lib.hid (sec_skip HSec.out HLT.out hcb)
                clear hab hcb p2 hf
                go_wp2
                go_round
                case rel => exact ⟨d, I, _, rfl, by go_num, rfl, hI, by omega, HS2.out⟩
                case measure => first | (simp [intOf]; done) | (simp [intOf]; omega)
              | true =>
                have ht : (bits .and .i64 (C : Int) (wrap64 (2 ^ d)) == 0) = false := by rw [hab, hcb]; rfl
                by_cases hle : 2 ^ d ≤ I
                · have hcmp : wrap64 (2 ^ d) ≤ (I : Int) := by rw [p2]; omega
                  have HS2 := Lib.hid (sec_take HSec.out hcb hle)
                  have HV : Hid ((I : Int) - wrap64 (2 ^ d) = (I - 2 ^ d : Nat)) := by unfold Hid; rw [p2]; omega
                  clear hab hcb p2 hf
                  go_wp2
                  go_round
                  case rel => exact ⟨d, I - 2 ^ d, _, rfl, by go_num, by rw [HV.out], by omega, by omega, HS2.out⟩
                  case measure => first | (simp [intOf]; done) | (simp [intOf]; omega)
                · have hcmp : ¬ wrap64 (2 ^ d) ≤ (I : Int) := by rw [p2]; omega
                  obtain ⟨hl1, hl2⟩ := sec_end HSec.out hcb hle
                  obtain rfl : d = e := by have := HE.out; omega
                  have HRes := Lib.hid hl2
                  clear hab hcb p2 hf hl1 hl2
                  go_wp2_with fail
                  go_loopw [13, 14] (fun v0 kv wr => ∃ (k : Nat) (v : Value), v = v0 ∧ k ≤ d ∧ kv = .int .i64 ((d : Int) - 1 - k) ∧ wr.ownsRow w.heap.size 5 1 v k ((top I d k).map (Value.int .u8)) ∧ Below w.heap.size w wr) (fun _ kv _ => (intOf kv + 1).toNat)
                  case atStart => exact ⟨0, _, rfl, Nat.zero_le _, by simp, ownsRow_empty w _ _, (Below.refl _ _).alloc (Nat.le_refl _) _⟩
                  case round =>
                    obtain ⟨k, v, rfl, hk, rfl, hown, hbel⟩ := hrel
                    by_cases hlt3 : k < d
                    · obtain ⟨q, hq⟩ : ∃ q : Int, (I : Int) / 2 ^ (d - 1 - k) = q := ⟨_, rfl⟩
                      have hq2 : (I : Int) / 2 ^ ((d : Int) - 1 - (k : Int)).toNat = q := by rw [← hq]; congr 2; omega
                      have hq0 : 0 ≤ q := by rw [← hq]; exact Int.ediv_nonneg (by omega) (Int.le_of_lt (Int.pow_pos (by omega)))
                      have hq1 : q ≤ 65536 := by
                        rw [← hq]
                        exact Int.le_trans (Int.ediv_le_self _ (by omega)) (by omega)
                      have hb := and_one_i64 q
                      have HT : Hid (top I d (k + 1) = top I d k ++ [48 + q % 2]) := by
                        unfold Hid
                        rw [top_succ, ← hq]
                        rfl
                      go_wp2_with (at_builtin; refine wpList_append_own _ rfl _ _ 65 rfl w.heap.size 5 i0 (.int .u8 0) 1 1 Try.underlying65 hi hz0 hz1 hz2 rfl (by decide) _ _ _ rfl (hown.alloc _) ⟨wr.heap.size, 0, none⟩ 1 1 [.int .u8 (48 + q % 2)] rfl rfl (cell_one_new _ _ _) (by intro u hu; simp at hu; subst hu; rfl) (by unfold maxLen; omega) (by omega) (by have := hbel.size; simp; omega) ?_; intro v1 w1 hown1 hgrow _)
                      have hb1 : Below w.heap.size w w1 := (hbel.alloc hbel.size _).grown hgrow (by have := hbel.size; simp; omega) (own_block hown)
                      have HO2 : Hid (w1.ownsRow w.heap.size 5 1 v1 (k + 1) ((top I d (k + 1)).map (Value.int .u8))) := by
                        unfold Hid
                        rw [HT.out]
                        simpa using hown1
                      clear hown1 hgrow hown hbel hq hq2 hb hq0 hq1
                      go_wp2
                      go_roundw
                      case rel => exact ⟨k + 1, _, rfl, by omega, by go_num, HO2.out, hb1⟩
                      case measure => first | (simp [intOf]; done) | (simp [intOf]; omega)
                    · obtain rfl : k = d := by omega
                      rw [top_all] at hown
                      have hcv := conv_own (P := Try.prog) (dst := 9) Try.underlying65 Try.underlying5 Try.underlying9 hown
                      clear hown
                      go_wp2
                      go_ret2
                      exact ⟨by rw [← HRes.out]; rfl, hbel⟩

set_option maxRecDepth 20000 in
theorem specBlock_no (s : ByteArray) (w : World) (hm : s.size ≤ maxLen) (h : ¬ (BitsP s ∧ s.size ≤ 16)) :
    Calls Try.prog 25 #[.string s] w fun e w' => e = .returned (.tuple #[.string ⟨#[]⟩, .bool false]) ∧ Below w.heap.size w w' := by
  by_cases hs : BitsP s
  · have HN : Hid (∀ W : World, Calls Try.prog 35 #[.string s] W fun e w' => e = .returned (.bool true) ∧ W = w') := fun W => l01Bits_yes s W hs
    have hl : 16 < s.size := Nat.lt_of_not_le fun x => h ⟨hs, x⟩
    have h4 := hs.len
    clear h hs
    go_enter Try.func25, Try.ntmps25
    go_wp2_with fail
    refine (HN.out _).mono ?_
    rintro e w1 ⟨rfl, rfl⟩
    go_wp2
    go_ret2
    exact ⟨rfl, Below.refl _ _⟩
  · have HN : Hid (∀ W : World, Calls Try.prog 35 #[.string s] W fun e w' => e = .returned (.bool false) ∧ W = w') := fun W => l01Bits_no s W hm hs
    clear h hs
    go_enter Try.func25, Try.ntmps25
    go_wp2_with fail
    refine (HN.out _).mono ?_
    rintro e w1 ⟨rfl, rfl⟩
    go_wp2
    go_ret2
    exact ⟨rfl, Below.refl _ _⟩
theorem lawBlk_core (s : ByteArray) (w : World) (hl : s.size ≤ 1048576) (x : ByteArray) (ok : Bool)
    (HS : Hid (∀ W : World, Calls Try.prog 25 #[.string s] W fun e w' => e = .returned (.tuple #[.string x, .bool ok]) ∧ Below W.heap.size W w'))
    (HI : Hid (∀ W : World, Calls Try.prog 26 #[.string s] W fun e w' => e = .returned (.tuple #[.string x, .bool ok]) ∧ Below W.heap.size W w')) :
    Calls Try.prog 9 #[.string s] w fun e w' => e = .returned (.bool true) ∧ Below w.heap.size w w' := by
  have h3 : (ok != ok) = false := by simp
  go_enter Try.func9, Try.ntmps9
  go_wp2_with fail
  refine (HS.out _).mono ?_
  rintro e w1 ⟨rfl, hb⟩
  have B := hb
  clear hb
  go_wp2_with fail
  refine (HI.out _).mono ?_
  rintro e w2 ⟨rfl, hb⟩
  replace B := B.trans (hb.mono B.size)
  clear hb
  go_wp2
  go_ret
  exact ⟨rfl, B⟩
theorem lawBlk (s : ByteArray) (w : World) (hm : s.size ≤ maxLen) :
    Calls Try.prog 9 #[.string s] w fun e w' => e = .returned (.bool true) ∧ Below w.heap.size w w' := by
  by_cases hl : s.size ≤ 1048576
  · by_cases h : BitsP s ∧ s.size ≤ 16
    · obtain ⟨e, he⟩ := sel_exists (rk_lt s)
      exact lawBlk_core s w hl _ true (fun W => specBlock_yes s W h.1 h.2 _ _ e rfl rfl he) (fun W => block_yes s W h.1 h.2 _ _ e rfl rfl he)
    · exact lawBlk_core s w hl _ false (fun W => specBlock_no s W hm h) (fun W => block_no s W hm h)
  · unfold maxLen at hm
    go_enter Try.func9, Try.ntmps9
    go_wp2
    go_ret
    exact ⟨rfl, Below.refl _ _⟩
end Go.Proofs.Ytamedggnkbhgeab
