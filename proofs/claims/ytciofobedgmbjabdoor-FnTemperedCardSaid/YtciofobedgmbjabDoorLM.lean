/- Linear machines: steps, masks before, powers by doubling. No program here. -/
import Derived.Test.YtciofobedgmbjabDoorTM
namespace Go.Proofs.YtciofobedgmbjabDoor.G2
set_option maxHeartbeats 400000

/-- what rows make of a state -/
def mpL (R : Nat → Nat) (s : Nat) (n : Nat) : Nat := nb (fun i => decide (pv (R i) s = 1)) n
theorem mpL_succ (R : Nat → Nat) (s n : Nat) : mpL R s (n + 1) = mpL R s n ||| pv (R n) s * 2 ^ n := by
  have e : (decide (pv (R n) s = 1)).toNat = pv (R n) s := by
    have := pv_le (R n) s
    rcases (show pv (R n) s = 0 ∨ pv (R n) s = 1 by omega) with h | h <;> rw [h] <;> rfl
  show nb _ n ||| (decide (pv (R n) s = 1)).toNat * 2 ^ n = _
  rw [e]
  rfl
theorem mpL_lt (R : Nat → Nat) (s n : Nat) : mpL R s n < 2 ^ n := nb_lt _ n
theorem mpL_bit (R : Nat → Nat) (s n j : Nat) : (mpL R s n).testBit j = (decide (j < n) && decide (pv (R j) s = 1)) := nb_bit _ j n
theorem mpL_more {R R' : Nat → Nat} {s W : Nat} (h : ∀ i, i < W → R i = R' i) (h0 : ∀ i, W ≤ i → pv (R' i) s = 0) (k : Nat) : mpL R' s (W + k) = mpL R s W := by
  apply Nat.eq_of_testBit_eq
  intro j
  rw [mpL_bit, mpL_bit]
  by_cases g : j < W
  · rw [h j g]; simp [g]; omega
  · rw [h0 j (by omega)]; simp [g]
theorem pv_none {a s W : Nat} (ha : ∀ j, j < W → a.testBit j = false) (hs : s < 2 ^ W) : pv a s = 0 := by
  rw [pv_xb, xb_none 64 fun i _ => ?_]
  · rfl
  · by_cases g : i < W
    · rw [ha i g]; rfl
    · rw [Nat.testBit_lt_two_pow (Nat.lt_of_lt_of_le hs (Nat.pow_le_pow_right (by omega) (by omega)))]; simp
/-- the mask before a step -/
def xrL (R : Nat → Nat) (m : Nat) : Nat → Nat
  | 0 => 0
  | n + 1 => if m.testBit n then xrL R m n ^^^ R n else xrL R m n
theorem xrL_congr {R R' : Nat → Nat} {m : Nat} : ∀ n, (∀ i, i < n → R i = R' i) → xrL R m n = xrL R' m n := by
  intro n
  induction n with
  | zero => intro _; rfl
  | succ n ih => intro h; rw [xrL, xrL, ih fun i hi => h i (by omega), h n (by omega)]
theorem xrL_more {R : Nat → Nat} {m W : Nat} (hm : m < 2 ^ W) : ∀ k, xrL R m (W + k) = xrL R m W := by
  intro k
  induction k with
  | zero => rfl
  | succ k ih => rw [← Nat.add_assoc, xrL, Nat.testBit_lt_two_pow (Nat.lt_of_lt_of_le hm (Nat.pow_le_pow_right (by omega) (by omega))), ih]; rfl
theorem xrL_lt {R : Nat → Nat} {m K : Nat} : ∀ n, (∀ i, i < n → R i < 2 ^ K) → xrL R m n < 2 ^ K := by
  intro n
  induction n with
  | zero => intro _; exact Nat.pow_pos (by omega)
  | succ n ih =>
    intro h
    rw [xrL]
    split
    · exact Nat.xor_lt_two_pow (ih fun i hi => h i (by omega)) (h n (by omega))
    · exact ih fun i hi => h i (by omega)
theorem xrL_zero (R : Nat → Nat) : ∀ n, xrL R 0 n = 0 := by
  intro n
  induction n with
  | zero => rfl
  | succ n ih => rw [xrL, ih]; simp
/-- the parity of a mask behind a step is that of the mask before it -/
theorem pv_xrL (R : Nat → Nat) (m s : Nat) : ∀ n, n ≤ 64 → pv (xrL R m n) s = pv m (mpL R s n) := by
  intro n
  induction n with
  | zero => intro _; rw [xrL, pv_zero, show mpL R s 0 = 0 from rfl, pv_zero']
  | succ n ih =>
    intro hn
    have h1 : mpL R s (n + 1) = mpL R s n ^^^ pv (R n) s * 2 ^ n := by
      rw [mpL_succ]
      apply Nat.eq_of_testBit_eq
      intro j
      rw [or_bit _ _ _ _ (pv_le _ _), Nat.testBit_xor, bit_one _ _ _ (pv_le _ _)]
      by_cases g : j = n
      · subst g; rw [Nat.testBit_lt_two_pow (mpL_lt R s j)]; simp
      · simp [g]
    rw [h1, pv_xor', ← ih (by omega), xrL]
    have h2 := pv_le (R n) s
    have h3 := pv_le (xrL R m n) s
    rcases (show pv (R n) s = 0 ∨ pv (R n) s = 1 by omega) with h | h
    · rw [h, Nat.zero_mul, pv_zero']
      split
      · rw [pv_xor, h]
      · omega
    · rw [h, Nat.one_mul, pv_pow m (by omega)]
      split
      · next e => rw [pv_xor, h, e]; rfl
      · next e => rw [show m.testBit n = false by simpa using e]; simp only [Bool.toNat_false]; omega
/-- a step and then another one -/
def thn (W : Nat) (f g : Nat → Nat) : Nat → Nat := fun i => xrL f (g i) W
/-- the loop of the powers -/
def pwG (W : Nat) : Nat → (Nat → Nat) → (Nat → Nat) → Nat → (Nat → Nat)
  | 0, o, _, _ => o
  | f + 1, o, r, n => if n = 0 then o else pwG W f (if n % 2 = 1 then thn W o r else o) (thn W r r) (n / 2)
theorem pwG_fuel (W : Nat) : ∀ f o r n, n < 2 ^ f → pwG W (f + 1) o r n = pwG W f o r n := by
  intro f
  induction f with
  | zero => intro o r n h; obtain rfl : n = 0 := by simpa using h
            rfl
  | succ f ih =>
    intro o r n h
    rw [pwG]
    conv => rhs; rw [pwG]
    by_cases g : n = 0
    · rw [if_pos g, if_pos g]
    · rw [if_neg g, if_neg g, ih _ _ _ (by rw [Nat.pow_succ] at h; omega)]
theorem pwG_step (W f : Nat) (o r : Nat → Nat) (n : Nat) (h : n < 2 ^ f) (h0 : ¬ n = 0) : pwG W f (if n % 2 = 1 then thn W o r else o) (thn W r r) (n / 2) = pwG W f o r n := by
  cases f with
  | zero => exact absurd (show n = 0 by simpa using h) h0
  | succ f =>
    rw [pwG_fuel W f _ _ (n / 2) (by rw [Nat.pow_succ] at h; omega)]
    conv => rhs; rw [pwG, if_neg h0]
/-- the rows of n steps -/
def pwL (W : Nat) (R : Nat → Nat) (n : Nat) : Nat → Nat := pwG W 64 (fun i => 2 ^ i) R n
theorem thn_lt {W : Nat} {f g : Nat → Nat} (hf : ∀ i, i < W → f i < 2 ^ W) (i : Nat) : thn W f g i < 2 ^ W := xrL_lt W hf
theorem pwG_lt {W : Nat} : ∀ f o r n, (∀ i, i < W → o i < 2 ^ W) → (∀ i, i < W → r i < 2 ^ W) → ∀ i, i < W → pwG W f o r n i < 2 ^ W := by
  intro f
  induction f with
  | zero => intro o r n ho _ i hi; exact ho i hi
  | succ f ih =>
    intro o r n ho hr i hi
    rw [pwG]
    split
    · exact ho i hi
    · refine ih _ _ _ (fun j hj => ?_) (fun j _ => thn_lt hr j) i hi
      split
      · exact thn_lt ho j
      · exact ho j hj
theorem pwL_lt {W : Nat} {R : Nat → Nat} (hR : ∀ i, i < W → R i < 2 ^ W) (n i : Nat) (hi : i < W) : pwL W R n i < 2 ^ W :=
  pwG_lt 64 _ R n (fun j hj => Nat.pow_lt_pow_right (by omega) hj) hR i hi
/-- powers of matrices of sixteen rows, of which the rows from W on are 0, are those of W rows -/
theorem pw_same {W : Nat} (hW : W ≤ 16) : ∀ f o o' r r' n, (∀ i, i < W → o i = o' i) → (∀ i, W ≤ i → ∀ j, j < W → (o i).testBit j = false) → (∀ i, i < W → r i = r' i ∧ r' i < 2 ^ W) → (∀ i, W ≤ i → r i = 0) →
    (∀ i, i < W → pwG 16 f o r n i = pwG W f o' r' n i) ∧ ∀ i, W ≤ i → ∀ j, j < W → (pwG 16 f o r n i).testBit j = false := by
  have hth : ∀ (a a' b b' : Nat → Nat), (∀ i, i < W → a i = a' i) → (∀ i, i < W → b i = b' i ∧ b' i < 2 ^ W) → ∀ i, i < W → thn 16 a b i = thn W a' b' i := by
    intro a a' b b' ha hb i hi
    unfold thn
    have h1 := hb i hi
    have h2 := xrL_more (R := a) h1.2 (16 - W)
    rw [show W + (16 - W) = 16 by omega] at h2
    rw [h1.1, h2, xrL_congr W ha]
  intro f
  induction f with
  | zero => intro o o' r r' n h1 h2 _ _; exact ⟨h1, h2⟩
  | succ f ih =>
    intro o o' r r' n h1 h2 h3 h4
    rw [pwG, pwG]
    by_cases h0 : n = 0
    · rw [if_pos h0, if_pos h0]; exact ⟨h1, h2⟩
    · rw [if_neg h0, if_neg h0]
      refine ih _ _ _ _ _ ?_ ?_ (fun i hi => ⟨hth r r' r r' (fun i hi => (h3 i hi).1) h3 i hi, thn_lt (fun j hj => (h3 j hj).2) i⟩) (fun i hi => by unfold thn; rw [h4 i hi, xrL_zero])
      · intro i hi
        by_cases hp : n % 2 = 1
        · rw [if_pos hp, if_pos hp]; exact hth o o' r r' h1 h3 i hi
        · rw [if_neg hp, if_neg hp]; exact h1 i hi
      · intro i hi j hj
        by_cases hp : n % 2 = 1
        · rw [if_pos hp]; unfold thn; rw [h4 i hi, xrL_zero]; simp
        · rw [if_neg hp]; exact h2 i hi j hj
theorem pwL_same {W : Nat} (hW : W ≤ 16) {R : Nat → Nat} (h3 : ∀ i, i < W → R i < 2 ^ W) (h4 : ∀ i, W ≤ i → R i = 0) (n : Nat) :
    (∀ i, i < W → pwL 16 R n i = pwL W R n i) ∧ ∀ i, W ≤ i → ∀ j, j < W → (pwL 16 R n i).testBit j = false :=
  pw_same hW 64 _ _ R R n (fun _ _ => rfl) (fun i hi j hj => by rw [pow_bit]; simp; omega) (fun i hi => ⟨rfl, h3 i hi⟩) h4
/-- so a state goes to the same one -/
theorem mpL_same {W : Nat} (hW : W ≤ 16) {R : Nat → Nat} (h3 : ∀ i, i < W → R i < 2 ^ W) (h4 : ∀ i, W ≤ i → R i = 0) (n s : Nat) (hs : s < 2 ^ W) : mpL (pwL 16 R n) s 16 = mpL (pwL W R n) s W := by
  obtain ⟨h1, h2⟩ := pwL_same hW h3 h4 n
  have := mpL_more (R := pwL W R n) (R' := pwL 16 R n) (s := s) (W := W) (fun i hi => (h1 i hi).symm) (fun i hi => pv_none (h2 i hi) hs) (16 - W)
  rwa [show W + (16 - W) = 16 by omega] at this
/-- and so do masks -/
theorem xrL_same {W : Nat} (hW : W ≤ 16) {R : Nat → Nat} (h3 : ∀ i, i < W → R i < 2 ^ W) (h4 : ∀ i, W ≤ i → R i = 0) (n m : Nat) (hm : m < 2 ^ W) : xrL (pwL 16 R n) m 16 = xrL (pwL W R n) m W := by
  obtain ⟨h1, _⟩ := pwL_same hW h3 h4 n
  have := xrL_more (R := pwL 16 R n) hm (16 - W)
  rw [show W + (16 - W) = 16 by omega] at this
  rw [this, xrL_congr W h1]
end Go.Proofs.YtciofobedgmbjabDoor.G2
