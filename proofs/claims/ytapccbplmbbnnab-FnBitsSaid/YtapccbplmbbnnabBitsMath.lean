/- What the law FnBits needs of bits and their numbers. -/
import Derived.Test.YtapccbplmbbnnabNumber
import Derived.Test.YtapccbplmbbnnabDigits
import Derived.Test.YtapccbplmbbnnabOnes
import Derived.Test.YtapccbplmbbnnabXor
import Derived.Test.YtapccbplmbbnnabRuns
import Derived.Test.YtapccbplmbbnnabPop
namespace Go.Proofs.Ytapccbplmbbnnab
open Go.RowKit Go.PlainAid

theorem nums_get (l : List Int) (k : Nat) (hk : k < l.length) : (strOfNums l)[k]'(by rw [strOfNums_size]; exact hk) = UInt8.ofNat (l[k]).toNat := by
  have h1 := strOfNums_data l
  have h2 : ((strOfNums l).data.toList)[k]? = some (UInt8.ofNat (l[k]).toNat) := by rw [h1]; simp [List.getElem?_eq_getElem hk]
  have h3 : (strOfNums l).data[k]? = some (UInt8.ofNat (l[k]).toNat) := by simpa using h2
  exact (Array.getElem?_eq_some_iff.1 h3).2
theorem bt_nums (l : List Int) (k : Nat) (hk : k < l.length) (h0 : 0 ≤ l[k]) (h1 : l[k] ≤ 255) : bt (strOfNums l) k = l[k] := by
  rw [← get_bt _ k (by rw [strOfNums_size]; exact hk), nums_get l k hk]
  have : (UInt8.ofNat (l[k]).toNat).toNat = (l[k]).toNat := by
    simp
    omega
  omega
theorem nums_ext (s : ByteArray) (l : List Int) (hl : l.length = s.size) (h : ∀ k, (hk : k < l.length) → l[k] = bt s k) : strOfNums l = s := by
  apply ByteArray.ext
  apply Array.ext
  · show (strOfNums l).size = s.size
    rw [strOfNums_size]
    exact hl
  · intro i h1 h2
    have hi : i < l.length := by rw [← strOfNums_size l]; exact h1
    have e := nums_get l i hi
    rw [h i hi, ← get_bt s i (by omega)] at e
    have e2 : UInt8.ofNat ((s[i]'(by omega)).toNat : Int).toNat = s[i]'(by omega) := by simp
    rw [e2] at e
    exact e

theorem bt_bit {s : ByteArray} (h : AllIn 48 49 s) (k : Nat) (hk : k < s.size) : bt s k = 48 ∨ bt s k = 49 := by
  have := h k hk
  rw [get_bt s k hk] at this
  omega

theorem num_bit (s : ByteArray) (h : AllIn 48 49 s) : ∀ k, k ≤ s.size → ∀ i, i < k → numTo s k / 2 ^ (k - 1 - i) % 2 = bt s i - 48 := by
  intro k
  induction k with
  | zero => intro _ i hi; omega
  | succ k ih =>
    intro hk i hi
    have hb := bt_bit h k (by omega)
    unfold numTo
    by_cases hik : i = k
    · subst hik
      rw [show i + 1 - 1 - i = 0 by omega, Int.pow_zero, Int.ediv_one]
      omega
    · have e := ih (by omega) i (by omega)
      have hp : (2 : Int) ^ (k + 1 - 1 - i) = 2 * 2 ^ (k - 1 - i) := by
        rw [show k + 1 - 1 - i = (k - 1 - i) + 1 by omega, Int.pow_succ]
        omega
      rw [hp, ← Int.ediv_ediv_of_nonneg (by omega), show (2 * numTo s k + (bt s k - 48)) / 2 = numTo s k by omega]
      exact e

theorem low_number (s : ByteArray) (h : AllIn 48 49 s) : strOfNums (low (numTo s s.size) s.size) = s := by
  refine nums_ext s _ (low_length _ _) (fun k hk => ?_)
  rw [low_length] at hk
  have e : (low (numTo s s.size) s.size)[k]? = some (bt s k) := by
    rw [← top_all]
    unfold top
    rw [List.getElem?_map, List.getElem?_range hk]
    simp [dig, num_bit s h s.size (Nat.le_refl _) k hk]
    omega
  exact (List.getElem?_eq_some_iff.1 e).2

theorem xorTo_get (a b : ByteArray) (n k : Nat) (hk : k < (xorTo a b n).length) : (xorTo a b n)[k] = xorc (bt a k) (bt b k) := by simp [xorTo]
theorem xorc_in (x y : Int) : xorc x y = 48 ∨ xorc x y = 49 := by unfold xorc; split <;> simp
theorem bt_xor (a b : ByteArray) (n k : Nat) (hk : k < n) : bt (strOfNums (xorTo a b n)) k = xorc (bt a k) (bt b k) := by
  have hk2 : k < (xorTo a b n).length := by rw [xorTo_length]; exact hk
  have e := xorTo_get a b n k hk2
  have := xorc_in (bt a k) (bt b k)
  rw [bt_nums _ k hk2 (by omega) (by omega), e]
theorem xor_all (a b : ByteArray) (n : Nat) : AllIn 48 49 (strOfNums (xorTo a b n)) := by
  intro k hk
  rw [get_bt _ k hk]
  rw [strOfNums_size, xorTo_length] at hk
  rw [bt_xor a b n k hk]
  have := xorc_in (bt a k) (bt b k)
  omega
theorem xor_size (a b : ByteArray) (n : Nat) : (strOfNums (xorTo a b n)).size = n := by rw [strOfNums_size, xorTo_length]
theorem xor_twice (a b : ByteArray) (hab : a.size = b.size) (hA : AllIn 48 49 a) (hB : AllIn 48 49 b) : strOfNums (xorTo (strOfNums (xorTo a b a.size)) b a.size) = a := by
  refine nums_ext a _ (xorTo_length _ _ _) (fun k hk => ?_)
  rw [xorTo_get]
  rw [xorTo_length] at hk
  rw [bt_xor a b a.size k hk]
  have h1 := bt_bit hA k hk
  have h2 := bt_bit hB k (by omega)
  unfold xorc
  rcases h1 with h1 | h1 <;> rcases h2 with h2 | h2 <;> simp [h1, h2]

def sumI (l : List Int) : Int := l.foldl (· + ·) 0
theorem sumI_snoc (l : List Int) (c : Int) : sumI (l ++ [c]) = sumI l + c := by simp [sumI]
theorem foldl_add (l : List Int) : ∀ z : Int, l.foldl (· + ·) z = z + l.foldl (· + ·) 0 := by
  induction l with
  | nil => intro z; simp
  | cons x l ih => intro z; simp only [List.foldl_cons]; rw [ih (z + x), ih (0 + x)]; omega
theorem sumI_cons (x : Int) (l : List Int) : sumI (x :: l) = x + sumI l := by
  unfold sumI
  rw [List.foldl_cons, foldl_add]
  omega
theorem sumI_set : ∀ (l : List Int) (i : Nat) (c : Int) (h : i < l.length), sumI (l.set i c) = sumI l - l[i] + c := by
  intro l
  induction l with
  | nil => intro i c h; simp at h
  | cons x l ih =>
    intro i c h
    cases i with
    | zero => simp [sumI_cons]; omega
    | succ i => simp only [List.set_cons_succ, sumI_cons, List.getElem_cons_succ]; rw [ih i c (by simpa using h)]; omega
theorem sumI_bump (l : List Int) (h : 0 < l.length) : sumI (bump l) = sumI l + 1 := by
  unfold bump
  rw [sumI_set l _ _ (by omega), List.getD_eq_getElem?_getD, List.getElem?_eq_getElem (by omega)]
  simp
  omega
theorem runs_sum (s : ByteArray) : ∀ k, sumI (runsTo s k) = k := by
  intro k
  induction k with
  | zero => rfl
  | succ k ih =>
    unfold runsTo
    split
    · rw [sumI_snoc, ih]; omega
    · rename_i h
      have := (runsTo_length s k).2 (by omega)
      rw [sumI_bump _ this, ih]; omega
theorem runs_len (s : ByteArray) (k : Nat) : (runsTo s (k + 1)).length = (runsTo s k).length + if k = 0 ∨ bt s k ≠ bt s (k - 1) then 1 else 0 := by
  rw [show runsTo s (k + 1) = if k = 0 ∨ bt s k ≠ bt s (k - 1) then runsTo s k ++ [1] else bump (runsTo s k) from rfl]
  split <;> simp [bump_length]

/-- at how many of the first k places both have 1 -/
def bothTo (a b : ByteArray) : Nat → Nat
  | 0 => 0
  | k + 1 => bothTo a b k + if bt a k = 49 ∧ bt b k = 49 then 1 else 0
def numN (s : ByteArray) : Nat → Nat
  | 0 => 0
  | k + 1 => 2 * numN s k + (bt s k - 48).toNat
theorem numN_is (s : ByteArray) (h : AllIn 48 49 s) : ∀ k, k ≤ s.size → numTo s k = (numN s k : Nat) := by
  intro k
  induction k with
  | zero => intro _; rfl
  | succ k ih =>
    intro hk
    have := bt_bit h k (by omega)
    unfold numTo numN
    rw [ih (by omega)]
    omega
theorem pcF_zero : ∀ f, Pop.pcF f 0 = 0 := by
  intro f
  induction f with
  | zero => rfl
  | succ f ih => simp [Pop.pcF, ih]
theorem and_split (x y b c : Nat) (hb : b ≤ 1) (hc : c ≤ 1) : (2 * x + b &&& 2 * y + c) / 2 = x &&& y ∧ (2 * x + b &&& 2 * y + c) % 2 = b * c := by
  refine ⟨?_, ?_⟩
  · rw [Nat.and_div_two]
    rw [show (2 * x + b) / 2 = x by omega, show (2 * y + c) / 2 = y by omega]
  · have := Nat.and_mod_two_pow (a := 2 * x + b) (b := 2 * y + c) (n := 1)
    rw [Nat.pow_one] at this
    rw [this, show (2 * x + b) % 2 = b by omega, show (2 * y + c) % 2 = c by omega]
    rcases (show b = 0 ∨ b = 1 by omega) with rfl | rfl <;> rcases (show c = 0 ∨ c = 1 by omega) with rfl | rfl <;> rfl
theorem both_pc (a b : ByteArray) (n : Nat) (hA : AllIn 48 49 a) (hB : AllIn 48 49 b) (ha : n ≤ a.size) (hb : n ≤ b.size) : ∀ k f, k ≤ n → k ≤ f → Pop.pcF f (numN a k &&& numN b k) = bothTo a b k := by
  intro k
  induction k with
  | zero => intro f _ _; simp [numN, bothTo, pcF_zero]
  | succ k ih =>
    intro f h1 h2
    obtain ⟨f, rfl⟩ : ∃ g, f = g + 1 := ⟨f - 1, by omega⟩
    have h3 := bt_bit hA k (by omega)
    have h4 := bt_bit hB k (by omega)
    simp only [numN, Pop.pcF, bothTo]
    obtain ⟨e1, e2⟩ := and_split (numN a k) (numN b k) (bt a k - 48).toNat (bt b k - 48).toNat (by omega) (by omega)
    rw [e1, e2, ih f (by omega) (by omega)]
    rcases h3 with h3 | h3 <;> rcases h4 with h4 | h4 <;> simp [h3, h4] <;> omega
theorem bothTo_le (a b : ByteArray) : ∀ k, bothTo a b k ≤ k := by
  intro k
  induction k with
  | zero => simp [bothTo]
  | succ k ih => unfold bothTo; split <;> omega
end Go.Proofs.Ytapccbplmbbnnab
