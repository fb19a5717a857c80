/- Plain facts: what bits say of the states of a register, all at once. -/
import Derived.Test.YtgpcacbjmjpdnabJumpMath
import Derived.Test.YtgpcacbjmjpdnabWsp
import Derived.PlainAid
namespace Go.Proofs.Ytgpcacbjmjpdnab
open Go.PlainAid
open Wh (sm sg wh sm_congr sm_plus)

/-- what the bits say so far, by powers of x -/
def cnt (p : Nat) (t : ByteArray) : Nat → Nat → Int
  | 0, _ => 0
  | k + 1, x => if x = Pl.pw p k then (if bt t k = 49 then cnt p t k x - 1 else cnt p t k x + 1) else cnt p t k x
theorem cnt_le (p : Nat) (t : ByteArray) : ∀ (k : Nat) (x : Nat), -(k : Int) ≤ cnt p t k x ∧ cnt p t k x ≤ k := by
  intro k
  induction k with
  | zero => intro x; simp [cnt]
  | succ k ih =>
    intro x
    have := ih x
    simp only [cnt]
    split
    · split <;> omega
    · omega
/-- at how many places below k a state's outputs agree -/
def agI (W T : Nat) (t : ByteArray) (S : Nat) : Nat → Nat
  | 0 => 0
  | k + 1 => if itr W T S k % 2 = (decide (bt t k = 49)).toNat then agI W T t S k + 1 else agI W T t S k
theorem agI_le (W T : Nat) (t : ByteArray) (S : Nat) : ∀ k, agI W T t S k ≤ k := by
  intro k
  induction k with
  | zero => exact Nat.le_refl _
  | succ k ih => simp only [agI]; split <;> omega
theorem itr_bit {W T S : Nat} (hW : W ≤ 16) (hT : T < 2 ^ W) (hS : S < 2 ^ W) (i : Nat) : itr W T S i % 2 = Pop.pcF 64 (Pl.pw (polyN2 W T) i &&& S) % 2 := by
  rcases W with _ | V
  · have h1 := itr_lt (W := 0) (t := T) hS i
    have h0 : S = 0 := by simp at hS; exact hS
    subst h0
    rw [Nat.and_zero, pc_zero]
    simp at h1
    rw [h1]
  · rw [← jmp_itr hW hT hS i, jmp_front]
    have := pr_lt (Pl.pw (polyN2 (V + 1) T) i) S
    unfold pr at this ⊢
    omega
theorem sm_put (f g : Nat → Int) (x : Nat) (c : Int) : ∀ N, x < N → (∀ y, g y = if y = x then f y + c else f y) → sm g N = sm f N + c := by
  intro N
  induction N with
  | zero => intro h; omega
  | succ N ih =>
    intro h hg
    simp only [sm]
    by_cases e : x = N
    · subst e
      have h1 : sm g x = sm f x := sm_congr _ fun y hy => by rw [hg, if_neg (by omega)]
      rw [h1, hg, if_pos rfl]
      omega
    · rw [ih (by omega) hg, hg N, if_neg (by omega)]
      omega
theorem wh_cnt {W T S : Nat} (t : ByteArray) (hW : W ≤ 16) (hT : T < 2 ^ W) (hS : S < 2 ^ W) (hp : ∀ i, Pl.pw (polyN2 W T) i < 2 ^ W) :
    ∀ k : Nat, wh W (cnt (polyN2 W T) t k) S = 2 * (agI W T t S k : Int) - k := by
  intro k
  induction k with
  | zero =>
    unfold wh
    rw [sm_congr (g := fun _ => 0) _ (fun y _ => by simp [cnt]), Wh.sm_zero]
    rfl
  | succ k ih =>
    have hb := itr_bit hW hT hS k
    have hsg := Wt.sg_par (n := W) (a := S) (Pl.pw (polyN2 W T) k) hS (by omega)
    rw [Nat.and_comm, ← hb] at hsg
    have h2 : itr W T S k % 2 = 0 ∨ itr W T S k % 2 = 1 := by omega
    unfold wh at ih ⊢
    rw [sm_put (fun y => sg W S y * cnt (polyN2 W T) t k y) (fun y => sg W S y * cnt (polyN2 W T) t (k + 1) y) (Pl.pw (polyN2 W T) k) (if itr W T S k % 2 = (decide (bt t k = 49)).toNat then 1 else -1) _ (hp k) ?_, ih]
    · simp only [agI]
      split <;> omega
    · intro y
      by_cases e : y = Pl.pw (polyN2 W T) k
      · rw [if_pos e, cnt, if_pos e, e, hsg]
        by_cases hbt : bt t k = 49
        · rw [if_pos hbt, decide_eq_true hbt]
          rcases h2 with h2 | h2 <;> rw [h2] <;> simp <;> omega
        · rw [if_neg hbt, decide_eq_false hbt]
          rcases h2 with h2 | h2 <;> rw [h2] <;> simp <;> omega
      · rw [if_neg e, cnt, if_neg e]
/-- the greatest number below k, and where it is -/
def mxf (f : Nat → Nat) : Nat → Int
  | 0 => -1
  | k + 1 => if mxf f k < (f k : Int) then (f k : Int) else mxf f k
def best (f : Nat → Nat) (k : Nat) : List Int := Wt.prodL (fun S => decide ((f S : Int) = mxf f k)) k
theorem mxf_ge (f : Nat → Nat) : ∀ k S, S < k → (f S : Int) ≤ mxf f k := by
  intro k
  induction k with
  | zero => intro S h; omega
  | succ k ih =>
    intro S hS
    simp only [mxf]
    by_cases e : S = k
    · subst e; split <;> omega
    · have := ih S (by omega)
      split <;> omega
theorem mxf_le (f : Nat → Nat) (b : Nat) (h : ∀ S, f S ≤ b) : ∀ k, -1 ≤ mxf f k ∧ mxf f k ≤ b := by
  intro k
  induction k with
  | zero => simp [mxf]
  | succ k ih => simp only [mxf]; have := h k; split <;> omega
theorem best_new {f : Nat → Nat} {k : Nat} (h : mxf f k < (f k : Int)) : best f (k + 1) = [(k : Int)] ∧ mxf f (k + 1) = f k := by
  have hm : mxf f (k + 1) = f k := by simp only [mxf]; rw [if_pos h]
  refine ⟨?_, hm⟩
  unfold best
  rw [hm, Wt.prodL_yes (by simp), Wt.prodL_congr (h' := fun _ => false) k (fun y hy => by
    have := mxf_ge f k y hy
    simp
    omega)]
  have : ∀ j, Wt.prodL (fun _ => false) j = [] := by
    intro j
    induction j with
    | zero => rfl
    | succ j ih => rw [Wt.prodL_no rfl, ih]
  rw [this]
  rfl
theorem best_same {f : Nat → Nat} {k : Nat} (h : mxf f k = (f k : Int)) : best f (k + 1) = best f k ++ [(k : Int)] ∧ mxf f (k + 1) = mxf f k := by
  have hm : mxf f (k + 1) = mxf f k := by simp only [mxf]; rw [if_neg (by omega)]
  refine ⟨?_, hm⟩
  unfold best
  rw [hm, Wt.prodL_yes (by simp [h])]
theorem best_less {f : Nat → Nat} {k : Nat} (h : (f k : Int) < mxf f k) : best f (k + 1) = best f k ∧ mxf f (k + 1) = mxf f k := by
  have hm : mxf f (k + 1) = mxf f k := by simp only [mxf]; rw [if_neg (by omega)]
  refine ⟨?_, hm⟩
  unfold best
  rw [hm, Wt.prodL_no (by simp; omega)]
theorem best_length (f : Nat → Nat) (k : Nat) : (best f k).length ≤ k := Wt.prodL_length _ k
end Go.Proofs.Ytgpcacbjmjpdnab
