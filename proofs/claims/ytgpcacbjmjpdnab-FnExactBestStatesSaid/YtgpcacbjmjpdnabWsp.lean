/- Plain facts: products of a normal form and their greatest weight, immunity, the peak of a spectrum, shifts. No program here. -/
import Derived.Test.YtgpcacbjmjpdnabWt
namespace Go.Proofs.Ytgpcacbjmjpdnab.Wt
open Wh Pop

/-- the products below k -/
def prodL (h : Nat → Bool) : Nat → List Int
  | 0 => []
  | k + 1 => if h k then prodL h k ++ [(k : Int)] else prodL h k
theorem prodL_yes {h : Nat → Bool} {k : Nat} (e : h k = true) : prodL h (k + 1) = prodL h k ++ [(k : Int)] := by simp [prodL, e]
theorem prodL_no {h : Nat → Bool} {k : Nat} (e : h k = false) : prodL h (k + 1) = prodL h k := by simp [prodL, e]
theorem prodL_length (h : Nat → Bool) : ∀ k, (prodL h k).length ≤ k := by
  intro k
  induction k with
  | zero => simp [prodL]
  | succ k ih =>
    by_cases e : h k = true
    · rw [prodL_yes e, List.length_append, List.length_singleton]; omega
    · rw [prodL_no (by simpa using e)]; omega
theorem prodL_congr {h h' : Nat → Bool} : ∀ k, (∀ y, y < k → h y = h' y) → prodL h k = prodL h' k := by
  intro k
  induction k with
  | zero => intro _; rfl
  | succ k ih => intro e; simp only [prodL]; rw [ih (fun y hy => e y (by omega)), e k (by omega)]
theorem prodL_mem {h : Nat → Bool} {z : Int} : ∀ k, z ∈ prodL h k → 0 ≤ z ∧ z < k := by
  intro k
  induction k with
  | zero => simp [prodL]
  | succ k ih =>
    intro hz
    by_cases e : h k = true
    · rw [prodL_yes e, List.mem_append, List.mem_singleton] at hz
      rcases hz with hz | rfl
      · have := ih hz; omega
      · omega
    · rw [prodL_no (by simpa using e)] at hz
      have := ih hz; omega
/-- the greatest weight -/
def mxL (l : List Int) : Nat := l.foldl (fun m z => if m < pcF 64 z.toNat then pcF 64 z.toNat else m) 0
theorem mxL_nil : mxL [] = 0 := rfl
theorem mxL_snoc (l : List Int) (z : Int) : mxL (l ++ [z]) = if mxL l < pcF 64 z.toNat then pcF 64 z.toNat else mxL l := by unfold mxL; simp only [List.foldl_append, List.foldl_cons, List.foldl_nil]
theorem mxL_le (l : List Int) : mxL l ≤ 64 := by
  unfold mxL
  have : ∀ m, m ≤ 64 → l.foldl (fun m z => if m < pcF 64 z.toNat then pcF 64 z.toNat else m) m ≤ 64 := by
    induction l with
    | nil => intro m h; exact h
    | cons z l ih =>
      intro m h
      rw [List.foldl_cons]
      apply ih
      split
      · exact pcF_le 64 _
      · exact h
  exact this 0 (by omega)
theorem take_snoc {l : List Int} {j : Nat} {z : Int} (h : l[j]? = some z) : l.take (j + 1) = l.take j ++ [z] := by rw [List.take_add_one, h]; rfl

/-- the least weight of a place below k, but not 0, where there is something -/
def imm (f : Nat → Int) (n : Nat) : Nat → Nat
  | 0 => n + 1
  | k + 1 => if ¬ k = 0 ∧ ¬ f k = 0 then (if pcF 64 k < imm f n k then pcF 64 k else imm f n k) else imm f n k
theorem imm_le (f : Nat → Int) (n : Nat) : ∀ k, imm f n k ≤ n + 1 := by
  intro k
  induction k with
  | zero => exact Nat.le_refl _
  | succ k ih =>
    unfold imm
    split
    · split <;> omega
    · exact ih
theorem imm_yes {f : Nat → Int} {n k : Nat} (h0 : ¬ k = 0) (h : ¬ f k = 0) : imm f n (k + 1) = if pcF 64 k < imm f n k then pcF 64 k else imm f n k := by rw [imm, if_pos ⟨h0, h⟩]
theorem imm_no {f : Nat → Int} {n k : Nat} (h : k = 0 ∨ f k = 0) : imm f n (k + 1) = imm f n k := by rw [imm, if_neg (by omega)]
theorem imm_one (f : Nat → Int) (n : Nat) : imm f n 1 = n + 1 := by rw [imm_no (.inl rfl)]; rfl

/-- the first place below k with the greatest size -/
def pk (f : Nat → Int) : Nat → Nat
  | 0 => 0
  | k + 1 => if (f (pk f k)).natAbs < (f k).natAbs then k else pk f k
theorem pk_lt (f : Nat → Int) : ∀ k, 0 < k → pk f k < k := by
  intro k
  induction k with
  | zero => intro h; omega
  | succ k ih =>
    intro _
    unfold pk
    split
    · omega
    · by_cases e : k = 0
      · subst e; exact Nat.zero_lt_one
      · have := ih (by omega); omega
theorem pk_yes {f : Nat → Int} {k : Nat} (h : (f (pk f k)).natAbs < (f k).natAbs) : pk f (k + 1) = k := by rw [pk, if_pos h]
theorem pk_no {f : Nat → Int} {k : Nat} (h : ¬ (f (pk f k)).natAbs < (f k).natAbs) : pk f (k + 1) = pk f k := by rw [pk, if_neg h]
theorem pk_one (f : Nat → Int) : pk f 1 = 0 := by rw [pk]; split <;> rfl

/-- how many below k -/
def ct (h : Nat → Bool) : Nat → Nat
  | 0 => 0
  | k + 1 => ct h k + (h k).toNat
theorem ct_le (h : Nat → Bool) : ∀ k, ct h k ≤ k := by
  intro k
  induction k with
  | zero => exact Nat.le_refl _
  | succ k ih => have : (h k).toNat ≤ 1 := Bool.toNat_le _; simp only [ct]; omega
theorem pcF_ob (h : Nat → Bool) : ∀ k, pcF k (ob h k) = ct h k := by
  intro k
  induction k with
  | zero => rfl
  | succ k ih =>
    have e : ob h (k + 1) = ob h k + 2 ^ k * (h k).toNat := by rw [Nat.mul_comm]; rfl
    rw [pcF_top, ob_bit]
    have e2 : pcF k (ob h (k + 1)) = pcF k (ob h k) := by
      have := pcF_split k 0 (ob h k) (h k).toNat (ob_lt h k)
      rw [e]
      exact this
    rw [e2, ih]
    simp [ct]
theorem pc_ob (h : Nat → Bool) {N : Nat} (hN : N ≤ 64) : pcF 64 (ob h N) = ct h N := by
  have := pcF_far (64 - N) (ob_lt h N)
  rw [show N + (64 - N) = 64 by omega] at this
  rw [this, pcF_ob]
theorem ct_none (h : Nat → Bool) : ∀ k, ct h k = 0 ↔ ∀ y, y < k → h y = false := by
  intro k
  induction k with
  | zero => simp [ct]
  | succ k ih =>
    constructor
    · intro e y hy
      have e1 : ct h k = 0 ∧ (h k).toNat = 0 := by simp only [ct] at e; omega
      by_cases ek : y = k
      · subst ek; cases hh : h y with
        | false => rfl
        | true => rw [hh] at e1; exact absurd e1.2 (by decide)
      · exact ih.1 e1.1 y (by omega)
    · intro e
      have e1 := ih.2 fun y hy => e y (by omega)
      simp only [ct]
      rw [e1, e k (by omega)]
      rfl
theorem ct_full (h : Nat → Bool) : ∀ k, ct h k = k ↔ ∀ y, y < k → h y = true := by
  intro k
  induction k with
  | zero => simp [ct]
  | succ k ih =>
    have hl := ct_le h k
    have h1 : (h k).toNat ≤ 1 := Bool.toNat_le _
    constructor
    · intro e y hy
      have e1 : ct h k = k ∧ (h k).toNat = 1 := by simp only [ct] at e; omega
      by_cases ek : y = k
      · subst ek; cases hh : h y with
        | true => rfl
        | false => rw [hh] at e1; exact absurd e1.2 (by decide)
      · exact ih.1 e1.1 y (by omega)
    · intro e
      have e1 := ih.2 fun y hy => e y (by omega)
      simp only [ct]
      rw [e1, e k (by omega)]
      rfl
/-- the shifted values -/
def shf (g : Nat → Bool) (a x : Nat) : Bool := g (x ^^^ a)
def dif (g : Nat → Bool) (a x : Nat) : Bool := g x ^^ g (x ^^^ a)
/-- agreements below k, less the others -/
def sh (g : Nat → Bool) (a : Nat) : Nat → Int
  | 0 => 0
  | k + 1 => if g k = g (k ^^^ a) then sh g a k + 1 else sh g a k - 1
theorem sh_ct (g : Nat → Bool) (a : Nat) : ∀ k, sh g a k = (k : Int) - 2 * (ct (dif g a) k : Int) := by
  intro k
  induction k with
  | zero => rfl
  | succ k ih =>
    simp only [sh, ct, dif]
    rw [ih]
    cases g k <;> cases g (k ^^^ a) <;> simp <;> omega
theorem sh_le (g : Nat → Bool) (a k : Nat) : -(k : Int) ≤ sh g a k ∧ sh g a k ≤ k := by
  have := ct_le (dif g a) k
  rw [sh_ct]
  omega
theorem ob_dif (g : Nat → Bool) (a N : Nat) : ob g N ^^^ ob (shf g a) N = ob (dif g a) N := by
  apply ob_eq
  · exact Nat.xor_lt_two_pow (ob_lt _ _) (ob_lt _ _)
  · intro y hy
    rw [Nat.testBit_xor, ob_bit, ob_bit]
    simp [hy, shf, dif]
theorem ob_not (g : Nat → Bool) (N : Nat) : ob g N ^^^ (2 ^ N - 1) = ob (fun x => !g x) N := by
  apply ob_eq
  · exact Nat.xor_lt_two_pow (ob_lt _ _) (by have := Nat.one_le_two_pow (n := N); omega)
  · intro y hy
    rw [Nat.testBit_xor, ob_bit, Nat.testBit_two_pow_sub_one]
    simp [hy]
theorem ob_inj {f g : Nat → Bool} {N : Nat} : ob f N = ob g N ↔ ∀ y, y < N → f y = g y := by
  constructor
  · intro h y hy
    have h1 := ob_bit f y N
    have h2 := ob_bit g y N
    rw [h, h2] at h1
    simpa [hy] using h1.symm
  · intro h
    exact ob_congr h
/-- a shift that changes all values or none -/
def fixd (g : Nat → Bool) (N a : Nat) : Bool := decide (ob (shf g a) N = ob g N) || decide (ob (shf g a) N = ob (fun x => !g x) N)
theorem fixd_iff (g : Nat → Bool) (N a : Nat) : fixd g N a = true ↔ (sh g a N).natAbs = N := by
  have hl := ct_le (dif g a) N
  have h0 := ct_none (dif g a) N
  have h1 := ct_full (dif g a) N
  unfold fixd
  rw [Bool.or_eq_true, decide_eq_true_iff, decide_eq_true_iff, ob_inj, ob_inj, sh_ct]
  have e0 : (∀ y, y < N → shf g a y = g y) ↔ ∀ y, y < N → dif g a y = false := by
    constructor <;> intro h y hy <;> have := h y hy <;> revert this <;> simp only [shf, dif] <;> cases g y <;> cases g (y ^^^ a) <;> simp
  have e1 : (∀ y, y < N → shf g a y = !g y) ↔ ∀ y, y < N → dif g a y = true := by
    constructor <;> intro h y hy <;> have := h y hy <;> revert this <;> simp only [shf, dif] <;> cases g y <;> cases g (y ^^^ a) <;> simp
  rw [e0, e1, ← h0, ← h1]
  omega
end Go.Proofs.Ytgpcacbjmjpdnab.Wt
