/- Numbers and their decimal texts: the digits from the least on, and what reading digits one after another gives. -/
import Derived.Lib.ItoaNum
import Derived.Lib.ParseIntB
namespace Go.Proofs.YtpnifnpbolieoabDoor
open Go

/-- the digits of u as bytes, from the least on; none of 0 -/
def rev10 (u : Nat) : List Int := if h : u = 0 then [] else ((48 + u % 10 : Nat) : Int) :: rev10 (u / 10)
termination_by u
decreasing_by omega
theorem rev10_zero : rev10 0 = [] := by rw [rev10, dif_pos rfl]
theorem rev10_pos {u : Nat} (h : u ≠ 0) : rev10 u = ((48 + u % 10 : Nat) : Int) :: rev10 (u / 10) := by rw [rev10, dif_neg h]
theorem rev10_length (j : Nat) : ∀ u : Nat, u < 10 ^ j → (rev10 u).length ≤ j := by
  induction j with
  | zero =>
    intro u h
    have : u = 0 := by simpa using h
    subst this
    simp [rev10_zero]
  | succ j ih =>
    intro u h
    by_cases h0 : u = 0
    · subst h0
      simp [rev10_zero]
    · rw [rev10_pos h0]
      have := ih (u / 10) (by rw [Nat.pow_succ] at h; omega)
      simp
      omega
theorem rev10_dec (u : Nat) : 0 < u → (rev10 u).reverse.map (fun n => UInt8.ofNat n.toNat) = Lib.decDigits u := by
  induction u using Nat.strongRecOn with
  | _ u ih =>
    intro h
    rw [rev10_pos (by omega), Lib.decDigits]
    by_cases h2 : u < 10
    · rw [dif_pos h2, show u / 10 = 0 by omega, rev10_zero, Nat.mod_eq_of_lt h2]
      rfl
    · rw [dif_neg h2, ← ih (u / 10) (by omega) (by omega), List.reverse_cons, List.map_append]
      rfl
/-- the sign and the digits, from the least on -/
def revDec (n : Int) : List Int := rev10 n.natAbs ++ (if n < 0 then [45] else [])
theorem revDec_itoa (n : Int) (h : n ≠ 0) : (revDec n).reverse.map (fun n => UInt8.ofNat n.toNat) = Lib.itoa n := by
  unfold revDec Lib.itoa
  by_cases h0 : n < 0
  · rw [if_pos h0, if_pos h0, List.reverse_append, List.map_append, rev10_dec _ (by omega)]
    rfl
  · rw [if_neg h0, if_neg h0, List.append_nil, rev10_dec _ (by omega)]
    congr 1
    omega
theorem itoa_zero : Lib.itoa 0 = [48] := by
  unfold Lib.itoa
  rw [if_neg (by omega), Lib.decDigits, dif_pos (by decide)]
  rfl

/-- what the first k digits make -/
def valTo (l : List UInt8) : Nat → Nat
  | 0 => 0
  | k + 1 => 10 * valTo l k + ((l.getD k 0).toNat - 48)
theorem valTo_append (l r : List UInt8) : ∀ k, k ≤ l.length → valTo (l ++ r) k = valTo l k := by
  intro k
  induction k with
  | zero => intro _; rfl
  | succ k ih =>
    intro h
    show 10 * valTo (l ++ r) k + _ = 10 * valTo l k + _
    rw [ih (by omega), List.getD_eq_getElem?_getD, List.getD_eq_getElem?_getD, List.getElem?_append_left (by omega)]
theorem valTo_step (l : List UInt8) (k : Nat) : 10 * valTo l k ≤ valTo l (k + 1) := Nat.le_add_right _ _
theorem valTo_mono (l : List UInt8) (j : Nat) : ∀ k, valTo l j ≤ valTo l (j + k) := by
  intro k
  induction k with
  | zero => exact Nat.le_refl _
  | succ k ih =>
    have := valTo_step l (j + k)
    have : valTo l (j + (k + 1)) = valTo l (j + k + 1) := rfl
    omega
theorem valTo_before (l : List UInt8) (k n : Nat) (h : k < n) : 10 * valTo l k ≤ valTo l n := by
  obtain ⟨d, rfl⟩ : ∃ d, n = k + 1 + d := ⟨n - (k + 1), by omega⟩
  have h1 := valTo_step l k
  have h2 := valTo_mono l (k + 1) d
  omega
theorem toNat_dig (d : Nat) (h : d < 10) : (UInt8.ofNat (48 + d)).toNat = 48 + d := by
  rw [UInt8.toNat_ofNat']
  omega
/-- all are digits -/
def Digs (l : List UInt8) : Prop := ∀ b ∈ l, 48 ≤ b.toNat ∧ b.toNat ≤ 57
theorem dec_digs (u : Nat) : Digs (Lib.decDigits u) := by
  induction u using Nat.strongRecOn with
  | _ u ih =>
    rw [Lib.decDigits]
    by_cases h : u < 10
    · rw [dif_pos h]
      intro b hb
      rw [List.mem_singleton] at hb
      subst hb
      rw [toNat_dig u h]
      omega
    · rw [dif_neg h]
      intro b hb
      rcases List.mem_append.1 hb with hb | hb
      · exact ih (u / 10) (by omega) b hb
      · rw [List.mem_singleton] at hb
        subst hb
        rw [toNat_dig (u % 10) (by omega)]
        omega
theorem dec_val (u : Nat) : valTo (Lib.decDigits u) (Lib.decDigits u).length = u := by
  induction u using Nat.strongRecOn with
  | _ u ih =>
    rw [Lib.decDigits]
    by_cases h : u < 10
    · rw [dif_pos h]
      show 10 * 0 + ((UInt8.ofNat (48 + u)).toNat - 48) = u
      rw [toNat_dig u h]
      omega
    · rw [dif_neg h, List.length_append, List.length_singleton]
      show 10 * valTo _ _ + (_ - 48) = u
      rw [valTo_append _ _ _ (Nat.le_refl _), ih (u / 10) (by omega), List.getD_eq_getElem?_getD, List.getElem?_append_right (Nat.le_refl _)]
      simp only [Nat.sub_self, List.getElem?_cons_zero, Option.getD_some]
      rw [toNat_dig (u % 10) (by omega)]
      omega
theorem dec_pos (u : Nat) : 1 ≤ (Lib.decDigits u).length := by rw [Lib.decDigits_length]; exact Lib.nDigits_pos u
theorem dec_len (j : Nat) : ∀ u : Nat, u < 10 ^ (j + 1) → (Lib.decDigits u).length ≤ j + 1 := by
  induction j with
  | zero =>
    intro u h
    rw [Lib.decDigits, dif_pos (by simpa using h)]
    simp
  | succ j ih =>
    intro u h
    rw [Lib.decDigits]
    by_cases h2 : u < 10
    · rw [dif_pos h2]
      simp
    · rw [dif_neg h2]
      have := ih (u / 10) (by rw [Nat.pow_succ] at h; omega)
      simp
      omega
/-- reading on from acc -/
def readOn (acc : Nat) (l : List UInt8) : Nat := l.foldl (fun a c => a * 10 + (c.toNat - 48)) acc
theorem readOn_mono : ∀ (l : List UInt8) (acc : Nat), acc ≤ readOn acc l
  | [], acc => Nat.le_refl _
  | c :: r, acc => by
    have := readOn_mono r (acc * 10 + (c.toNat - 48))
    show acc ≤ readOn (acc * 10 + (c.toNat - 48)) r
    omega
theorem parse_digs (M : Nat) (hM : M < 18446744073709551616) : ∀ (l : List UInt8) (acc : Nat), Digs l → readOn acc l ≤ M → Lib.parseUintM M acc l = .ok (readOn acc l)
  | [], acc, _, _ => rfl
  | c :: r, acc, hd, hM2 => by
    have h1 := hd c (List.mem_cons_self ..)
    have h2 : acc * 10 + (c.toNat - 48) ≤ readOn acc (c :: r) := readOn_mono r _
    rw [Lib.parseUintM, if_pos h1, if_neg (by omega), if_neg (by omega)]
    exact parse_digs M hM r _ (fun b hb => hd b (List.mem_cons_of_mem _ hb)) hM2
theorem dec_read (u : Nat) : readOn 0 (Lib.decDigits u) = u := by
  induction u using Nat.strongRecOn with
  | _ u ih =>
    rw [Lib.decDigits]
    by_cases h : u < 10
    · rw [dif_pos h]
      show 0 * 10 + ((UInt8.ofNat (48 + u)).toNat - 48) = u
      rw [toNat_dig u h]
      omega
    · rw [dif_neg h]
      unfold readOn
      rw [List.foldl_append]
      have := ih (u / 10) (by omega)
      unfold readOn at this
      rw [this]
      show u / 10 * 10 + ((UInt8.ofNat (48 + u % 10)).toNat - 48) = u
      rw [toNat_dig (u % 10) (by omega)]
      omega
theorem e64 : (2 ^ 64 - 1 : Nat) = 18446744073709551615 := by decide
theorem parse_dec (u : Nat) (h : u < 18446744073709551616) : Lib.parseUintB 64 (Lib.decDigits u) = .ok u := by
  unfold Lib.parseUintB
  rw [if_neg (fun x => by have := dec_pos u; rw [x] at this; simp at this), e64, parse_digs _ (by decide) _ _ (dec_digs u) (by rw [dec_read]; omega), dec_read]
theorem parse_itoa (n : Int) (h0 : -9223372036854775808 ≤ n) (h1 : n ≤ 9223372036854775807) : Lib.parseIntB 64 (Lib.itoa n) = .ok n := by
  have e63 : (2 ^ (64 - 1) : Nat) = 9223372036854775808 := by decide
  unfold Lib.itoa
  by_cases hn : n < 0
  · rw [if_pos hn]
    unfold Lib.parseIntB
    have h45 : (45 : UInt8).toNat = 45 := rfl
    simp only [h45]
    rw [if_pos (by simp), parse_dec n.natAbs (by omega)]
    simp only [e63]
    rw [if_neg (by simp), if_neg (by omega), if_pos (by simp)]
    congr 1
    omega
  · rw [if_neg hn]
    have hd := dec_digs n.toNat
    have hp := parse_dec n.toNat (by omega)
    have hl := dec_pos n.toNat
    obtain ⟨c, r, hcr⟩ : ∃ c r, Lib.decDigits n.toNat = c :: r := by
      match h : Lib.decDigits n.toNat with
      | [] => rw [h] at hl; simp at hl
      | c :: r => exact ⟨c, r, rfl⟩
    rw [hcr] at hd hp ⊢
    have hc := hd c (List.mem_cons_self ..)
    unfold Lib.parseIntB
    simp only
    rw [if_neg (by omega), hp]
    simp only [e63]
    rw [if_neg (by omega), if_neg (by omega), if_neg (by omega)]
    congr 1
    omega
theorem itoa_inj (m n : Int) (hm0 : -9223372036854775808 ≤ m) (hm1 : m ≤ 9223372036854775807) (hn0 : -9223372036854775808 ≤ n) (hn1 : n ≤ 9223372036854775807) (h : Lib.itoa m = Lib.itoa n) : m = n := by
  have h1 := parse_itoa m hm0 hm1
  rw [h, parse_itoa n hn0 hn1] at h1
  exact (Lib.NumEnd.ok.inj h1).symm
theorem itoa_len (n : Int) (h0 : -9223372036854775808 ≤ n) (h1 : n ≤ 9223372036854775807) : (Lib.itoa n).length ≤ 20 := by
  unfold Lib.itoa
  have h2 := dec_len 18 n.natAbs (by have : (10 ^ (18 + 1) : Nat) = 10000000000000000000 := by decide
                                     omega)
  have h3 := dec_len 18 n.toNat (by have : (10 ^ (18 + 1) : Nat) = 10000000000000000000 := by decide
                                    omega)
  split
  · simp
    omega
  · omega
theorem itoa_pos (n : Int) : 1 ≤ (Lib.itoa n).length := by
  unfold Lib.itoa
  split
  · simp
  · exact dec_pos _
/-- a number's text is made of digits and of a sign ahead of them -/
theorem itoa_bytes (n : Int) : ∀ b ∈ Lib.itoa n, b.toNat = 45 ∨ (48 ≤ b.toNat ∧ b.toNat ≤ 57) := by
  unfold Lib.itoa
  split
  · intro b hb
    rcases List.mem_cons.1 hb with rfl | hb
    · exact .inl rfl
    · exact .inr (dec_digs _ b hb)
  · exact fun b hb => .inr (dec_digs _ b hb)
end Go.Proofs.YtpnifnpbolieoabDoor
