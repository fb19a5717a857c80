/- Blocks of flips: how many strings come before, and the section of an index. Of no program. -/
import Derived.Test.YtamedggnkbhgeabChoose
import Derived.Test.YtamedggnkbhgeabPoly
import Derived.Test.YtamedggnkbhgeabRollMath
namespace Go.Proofs.Ytamedggnkbhgeab
open Go.RowKit Go.PlainAid

/-- how many of the first k bytes are '1' -/
def n1 (s : ByteArray) : Nat → Nat
  | 0 => 0
  | k + 1 => n1 s k + (if bt s k = 49 then 1 else 0)
theorem n1_le (s : ByteArray) : ∀ k, n1 s k ≤ k := by
  intro k
  induction k with
  | zero => exact Nat.le_refl _
  | succ k ih => unfold n1; split <;> omega
theorem n1_more (s : ByteArray) (k : Nat) : ∀ d, n1 s k ≤ n1 s (k + d) ∧ n1 s (k + d) ≤ n1 s k + d := by
  intro d
  induction d with
  | zero => exact ⟨Nat.le_refl _, Nat.le_refl _⟩
  | succ d ih =>
    rw [← Nat.add_assoc, n1]
    split <;> omega
theorem ch_pow : ∀ n k, Choose.ch n k ≤ 2 ^ n := by
  intro n
  induction n with
  | zero =>
    intro k
    cases k with
    | zero => decide
    | succ k => rw [Choose.ch_out 0 (k + 1) (by omega)]; exact Nat.zero_le _
  | succ n ih =>
    intro k
    have hp : 2 ^ (n + 1) = 2 ^ n + 2 ^ n := by rw [Nat.pow_succ]; omega
    cases k with
    | zero => rw [Choose.ch_zero]; exact Nat.one_le_two_pow
    | succ k =>
      rw [Choose.ch_succ, hp]
      exact Nat.add_le_add (ih k) (ih (k + 1))
/-- how many strings come before, by the first i bytes -/
def rk (s : ByteArray) (o : Nat) : Nat → Nat
  | 0 => 0
  | i + 1 => if bt s i = 49 then rk s o i + Choose.ch (s.size - 1 - i) (o - n1 s i) else rk s o i
theorem rk_inv (s : ByteArray) : ∀ i, i ≤ s.size → rk s (n1 s s.size) i + Choose.ch (s.size - i) (n1 s s.size - n1 s i) ≤ Choose.ch s.size (n1 s s.size) := by
  intro i
  induction i with
  | zero => intro _; simp [rk, n1]
  | succ i ih =>
    intro hi
    have h := ih (by omega)
    obtain ⟨m, hm⟩ : ∃ m, s.size - i = m + 1 := ⟨s.size - i - 1, by omega⟩
    have hm1 : s.size - 1 - i = m := by omega
    have hm2 : s.size - (i + 1) = m := by omega
    have hmore := n1_more s (i + 1) (s.size - (i + 1))
    rw [show i + 1 + (s.size - (i + 1)) = s.size by omega] at hmore
    rw [hm] at h
    rw [hm2, rk, hm1]
    have hn : n1 s (i + 1) = n1 s i + (if bt s i = 49 then 1 else 0) := rfl
    by_cases hb : bt s i = 49
    · rw [if_pos hb] at hn ⊢
      obtain ⟨l, hl⟩ : ∃ l, n1 s s.size - n1 s i = l + 1 := ⟨n1 s s.size - n1 s i - 1, by omega⟩
      have hl2 : n1 s s.size - n1 s (i + 1) = l := by omega
      rw [hl, Choose.ch_succ] at h
      rw [hl, hl2]
      omega
    · have hn2 : n1 s (i + 1) = n1 s i := by simp [n1, hb]
      rw [if_neg hb, hn2]
      have : Choose.ch m (n1 s s.size - n1 s i) ≤ Choose.ch (m + 1) (n1 s s.size - n1 s i) := by
        cases hq : n1 s s.size - n1 s i with
        | zero => rw [Choose.ch_zero, Choose.ch_zero]; exact Nat.le_refl _
        | succ q => rw [Choose.ch_succ]; omega
      omega
theorem rk_lt (s : ByteArray) : rk s (n1 s s.size) s.size < Choose.ch s.size (n1 s s.size) := by
  have h := rk_inv s s.size (Nat.le_refl _)
  rw [Nat.sub_self, Nat.sub_self, Choose.ch_zero] at h
  omega
theorem rk_le (s : ByteArray) {i : Nat} (hi : i ≤ s.size) : rk s (n1 s s.size) i ≤ 2 ^ s.size := by
  have h := rk_inv s i hi
  have := ch_pow s.size (n1 s s.size)
  omega

theorem mod_split (x e : Nat) : x % 2 ^ (e + 1) = x % 2 ^ e + (if x.testBit e = true then 2 ^ e else 0) := by
  rw [Nat.pow_succ, Nat.mod_mul, Nat.testBit_eq_decide_div_mod_eq]
  by_cases h : x / 2 ^ e % 2 = 1
  · rw [h]; simp
  · have : x / 2 ^ e % 2 = 0 := by omega
    rw [this]; simp
theorem lt_bit {C R e : Nat} (hC : C.testBit e = false) (hR : R.testBit e = true) (h : ∀ j, e + 1 ≤ j → R.testBit j = C.testBit j) : C < R := by
  have hq : R / 2 ^ (e + 1) = C / 2 ^ (e + 1) := Nat.eq_of_testBit_eq fun i => by
    rw [Nat.testBit_div_two_pow, Nat.testBit_div_two_pow]
    exact h _ (by omega)
  have h1 := Nat.div_add_mod R (2 ^ (e + 1))
  have h2 := Nat.div_add_mod C (2 ^ (e + 1))
  rw [hq, mod_split, hR] at h1
  rw [mod_split, hC] at h2
  have h3 : C % 2 ^ e < 2 ^ e := Nat.mod_lt _ (Nat.pow_pos (by omega))
  simp at h1 h2
  omega
/-- the bits from E on are the same, and what is left of R are the lower ones -/
def Sec (R C E I : Nat) : Prop := (∀ i, E ≤ i → R.testBit i = C.testBit i) ∧ I = R % 2 ^ E
theorem sec_start {R C : Nat} (hR : R < 2 ^ 17) (hC : C < 2 ^ 17) : Sec R C 17 R :=
  ⟨fun i hi => by rw [Nat.testBit_lt_two_pow (Nat.lt_of_lt_of_le hR (Nat.pow_le_pow_right (by omega) hi)), Nat.testBit_lt_two_pow (Nat.lt_of_lt_of_le hC (Nat.pow_le_pow_right (by omega) hi))], (Nat.mod_eq_of_lt hR).symm⟩
theorem sec_none {R C I : Nat} (h : Sec R C 0 I) (hlt : R < C) : False := by
  have : R = C := Nat.eq_of_testBit_eq fun i => h.1 i (Nat.zero_le _)
  omega
theorem sec_skip {R C e I : Nat} (h : Sec R C (e + 1) I) (hlt : R < C) (hC : C.testBit e = false) : Sec R C e I := by
  have hR : R.testBit e = false := by
    cases hr : R.testBit e
    · rfl
    · have := lt_bit hC hr (fun j hj => h.1 j hj)
      omega
  refine ⟨fun i hi => ?_, ?_⟩
  · by_cases e1 : i = e
    · rw [e1, hR, hC]
    · exact h.1 i (by omega)
  · rw [h.2, mod_split, hR]
    simp
theorem sec_take {R C e I : Nat} (h : Sec R C (e + 1) I) (hC : C.testBit e = true) (hI : 2 ^ e ≤ I) : Sec R C e (I - 2 ^ e) := by
  have hm : R % 2 ^ e < 2 ^ e := Nat.mod_lt _ (Nat.pow_pos (by omega))
  have h2 := h.2
  rw [mod_split] at h2
  have hR : R.testBit e = true := by
    cases hr : R.testBit e
    · rw [hr] at h2
      simp at h2
      omega
    · rfl
  rw [hR] at h2
  simp at h2
  refine ⟨fun i hi => ?_, by omega⟩
  by_cases e1 : i = e
  · rw [e1, hR, hC]
  · exact h.1 i (by omega)
theorem sec_end {R C e I : Nat} (h : Sec R C (e + 1) I) (hC : C.testBit e = true) (hI : ¬ 2 ^ e ≤ I) : Pl.len (R ^^^ C) = e + 1 ∧ I = R % 2 ^ e := by
  have h2 := h.2
  rw [mod_split] at h2
  have hR : R.testBit e = false := by
    cases hr : R.testBit e
    · rfl
    · rw [hr] at h2
      simp at h2
      omega
  rw [hR] at h2
  simp at h2
  refine ⟨Pl.len_eq (Nat.ge_two_pow_of_testBit (by rw [Nat.testBit_xor, hR, hC]; rfl)) (Nat.lt_pow_two_of_testBit _ fun i hi => by rw [Nat.testBit_xor, h.1 i hi]; simp), h2⟩
end Go.Proofs.Ytamedggnkbhgeab
