/- Plain facts: weights and the signs of parities. No program here. -/
import Derived.Test.YtgpcacbjmjpdnabWhs
import Derived.Test.YtgpcacbjmjpdnabPop
namespace Go.Proofs.Ytgpcacbjmjpdnab.Wt
open Wh Pop

theorem pcF_top : ∀ i n, pcF (i + 1) n = pcF i n + (n.testBit i).toNat := by
  intro i
  induction i with
  | zero =>
    intro n
    show n % 2 + pcF 0 (n / 2) = pcF 0 n + (n.testBit 0).toNat
    rw [Nat.testBit_zero]
    rcases (show n % 2 = 0 ∨ n % 2 = 1 by omega) with h | h <;> simp [pcF, h]
  | succ i ih =>
    intro n
    show n % 2 + pcF (i + 1) (n / 2) = n % 2 + pcF i (n / 2) + (n.testBit (i + 1)).toNat
    rw [ih, Nat.testBit_succ, Nat.add_assoc]
theorem pcF_zero : ∀ f, pcF f 0 = 0 := by
  intro f
  induction f with
  | zero => rfl
  | succ f ih => simp [pcF, ih]
theorem pcF_far {i n : Nat} (f : Nat) (h : n < 2 ^ i) : pcF (i + f) n = pcF i n := by
  have := pcF_split i f n 0 h
  rw [Nat.mul_zero, Nat.add_zero, pcF_zero, Nat.add_zero] at this
  exact this
theorem sg_pc (a x : Nat) : ∀ i, sg i a x = 1 - 2 * ((pcF i (a &&& x) % 2 : Nat) : Int) := by
  intro i
  induction i with
  | zero => simp [sg, pcF]
  | succ i ih =>
    simp only [sg]
    rw [ih, pcF_top, Nat.testBit_and]
    cases h : (a.testBit i && x.testBit i) with
    | false => simp
    | true =>
      simp only [if_true, Bool.toNat_true]
      omega
theorem sg_par {n a : Nat} (x : Nat) (ha : a < 2 ^ n) (hn : n ≤ 64) : sg n a x = 1 - 2 * ((pcF 64 (a &&& x) % 2 : Nat) : Int) := by
  have h : a &&& x < 2 ^ n := Nat.lt_of_le_of_lt Nat.and_le_left ha
  have := pcF_far (64 - n) h
  rw [show n + (64 - n) = 64 by omega] at this
  rw [sg_pc, this]

/-- the value as a sign -/
def sv (g : Nat → Bool) (x : Nat) : Int := 1 - 2 * ((g x).toNat : Int)
theorem sv_one (g : Nat → Bool) (x : Nat) : sv g x = 1 ∨ sv g x = -1 := by
  unfold sv
  cases g x <;> simp
/-- the part of the sum of signs before k -/
def spe (n : Nat) (g : Nat → Bool) (a k : Nat) : Int := sm (fun x => sg n a x * sv g x) k
theorem spe_all (n : Nat) (g : Nat → Bool) (a : Nat) : spe n g a (2 ^ n) = wh n (sv g) a := rfl
theorem spe_zero (n : Nat) (g : Nat → Bool) (a : Nat) : spe n g a 0 = 0 := rfl
theorem spe_le (n : Nat) (g : Nat → Bool) (a k : Nat) : -(k : Int) ≤ spe n g a k ∧ spe n g a k ≤ k := by
  have := sm_le (fun x => sg n a x * sv g x) 1 k (fun y _ => by
    rcases sg_one a y n with h | h <;> rcases sv_one g y with h2 | h2 <;> simp only [h, h2] <;> decide)
  rw [Int.mul_one] at this
  exact this
theorem spe_yes {n a k : Nat} {g : Nat → Bool} (ha : a < 2 ^ n) (hn : n ≤ 64) (h : (g k).toNat = pcF 64 (a &&& k) % 2) : spe n g a (k + 1) = spe n g a k + 1 := by
  show spe n g a k + sg n a k * sv g k = _
  rw [sg_par k ha hn, sv, h]
  rcases (show pcF 64 (a &&& k) % 2 = 0 ∨ pcF 64 (a &&& k) % 2 = 1 by omega) with h | h <;> rw [h] <;> simp
theorem spe_no {n a k : Nat} {g : Nat → Bool} (ha : a < 2 ^ n) (hn : n ≤ 64) (h : ¬ (g k).toNat = pcF 64 (a &&& k) % 2) : spe n g a (k + 1) = spe n g a k - 1 := by
  show spe n g a k + sg n a k * sv g k = _
  rw [sg_par k ha hn, sv]
  have h1 : (g k).toNat ≤ 1 := Bool.toNat_le _
  rcases (show pcF 64 (a &&& k) % 2 = 0 ∨ pcF 64 (a &&& k) % 2 = 1 by omega) with h2 | h2 <;> rcases (show (g k).toNat = 0 ∨ (g k).toNat = 1 by omega) with h3 | h3 <;> rw [h2, h3] <;> first | (exfalso; omega) | simp <;> omega

/-- a row of numbers -/
def row (f : Nat → Int) (N : Nat) : List Int := (List.range N).map f
theorem row_length (f : Nat → Int) (N : Nat) : (row f N).length = N := by simp [row]
theorem row_succ (f : Nat → Int) (N : Nat) : row f (N + 1) = row f N ++ [f N] := by simp [row, List.range_succ]
theorem row_congr {f g : Nat → Int} {N : Nat} (h : ∀ y, y < N → f y = g y) : row f N = row g N := by
  unfold row
  apply List.map_congr_left
  intro t ht
  exact h t (List.mem_range.1 ht)
theorem row_get {f : Nat → Int} {N i : Nat} (h : i < N) : (row f N)[i]? = some (f i) := by simp [row, h]
theorem row_set (f : Nat → Int) (N k : Nat) (v : Int) : (row f N).set k v = row (fun p => if p = k then v else f p) N := by
  apply List.ext_getElem?
  intro i
  rw [List.getElem?_set]
  by_cases hi : i < N
  · rw [row_get (f := fun p => if p = k then v else f p) hi, row_get (f := f) hi, row_length]
    by_cases e : k = i
    · subst e; simp [hi]
    · have e2 : ¬ i = k := fun x => e x.symm
      simp [e, e2]
  · have h1 : ∀ f : Nat → Int, (row f N)[i]? = none := fun f => List.getElem?_eq_none (by rw [row_length]; omega)
    rw [h1, h1]
    by_cases e : k = i
    · subst e; simp [row_length, hi]
    · simp [e]
theorem mid_row {g : Nat → Int} {i x N : Nat} (h : x.testBit i = false) : ((row (mid g i x) N).set x (mid g i x x + mid g i x (x ^^^ 2 ^ i))).set (x ^^^ 2 ^ i) (mid g i x x - mid g i x (x ^^^ 2 ^ i)) = row (mid g i (x + 1)) N := by
  rw [row_set, row_set]
  apply row_congr
  intro p _
  rw [mid_step h]
theorem mid_le (g : Nat → Int) (b : Int) (hb0 : 0 ≤ b) (hb : ∀ x, -b ≤ g x ∧ g x ≤ b) (i x p : Nat) : -(((2 ^ (i + 1) : Nat) : Int) * b) ≤ mid g i x p ∧ mid g i x p ≤ ((2 ^ (i + 1) : Nat) : Int) * b := by
  have h1 := tr_le g b hb i p
  have h2 := tr_le g b hb (i + 1) p
  have h3 : ((2 ^ i : Nat) : Int) * b ≤ ((2 ^ (i + 1) : Nat) : Int) * b := Int.mul_le_mul_of_nonneg_right (by have := Nat.pow_le_pow_right (n := 2) (by omega) (show i ≤ i + 1 by omega); omega) hb0
  unfold mid
  split <;> omega
end Go.Proofs.Ytgpcacbjmjpdnab.Wt
