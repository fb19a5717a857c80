/- Plain facts: what a spectrum tells of fixed inputs. No program here. -/
import Derived.Test.YtgpcacbjmjpdnaaPars
namespace Go.Proofs.Ytgpcacbjmjpdnaa.Wt
open Wh Pop

/-- the first i bits of x that are in mask are those of v -/
def mt (mask v : Nat) : Nat → Nat → Bool
  | 0, _ => true
  | i + 1, x => mt mask v i x && (!mask.testBit i || (x.testBit i == v.testBit i))
/-- the sum over the x that match, with signs -/
def tm (n : Nat) (F : Nat → Int) (mask v i b : Nat) : Int := sm (fun x => if mt mask v i x then sg n b x * F x else 0) (2 ^ n)
/-- how many bits of mask are 1, below i -/
def wtm (mask : Nat) : Nat → Nat
  | 0 => 0
  | i + 1 => wtm mask i + (mask.testBit i).toNat
theorem sg_flip2 {n i : Nat} (hi : i < n) (b x : Nat) : sg n (b ^^^ 2 ^ i) x = if x.testBit i then -sg n b x else sg n b x := by
  rw [sg_xor]
  have h : ∀ m, sg m (2 ^ i) x = if i < m ∧ x.testBit i then -1 else 1 := by
    intro m
    induction m with
    | zero => simp [sg]
    | succ m ih =>
      simp only [sg, Nat.testBit_two_pow]
      by_cases e : i = m
      · subst e
        rw [ih]
        cases x.testBit i <;> simp
      · rw [ih]
        have : (decide (i = m)) = false := by simp [e]
        rw [this]
        have h2 : i < m + 1 ↔ i < m := by omega
        simp [h2]
  rw [h n]
  cases hx : x.testBit i
  · simp
  · simp [hi]
theorem tm_step {n i : Nat} (hi : i < n) (F : Nat → Int) (mask v b : Nat) (hm : mask.testBit i = true) :
    2 * tm n F mask v (i + 1) b = (if v.testBit i then tm n F mask v i b - tm n F mask v i (b ^^^ 2 ^ i) else tm n F mask v i b + tm n F mask v i (b ^^^ 2 ^ i)) := by
  unfold tm
  rw [← sm_mul]
  cases hv : v.testBit i
  · simp only [Bool.false_eq_true, if_false]
    rw [← sm_plus]
    apply sm_congr
    intro x _
    rw [sg_flip2 hi, mt, hm, hv]
    cases mt mask v i x <;> cases x.testBit i <;> simp [Int.neg_mul] <;> omega
  · simp only [if_true]
    rw [← sm_minus]
    apply sm_congr
    intro x _
    rw [sg_flip2 hi, mt, hm, hv]
    cases mt mask v i x <;> cases x.testBit i <;> simp [Int.neg_mul] <;> omega
theorem tm_same {n i : Nat} (F : Nat → Int) (mask v b : Nat) (hm : mask.testBit i = false) : tm n F mask v (i + 1) b = tm n F mask v i b := by
  unfold tm
  apply sm_congr
  intro x _
  rw [mt, hm]
  simp
/-- a is within the first i bits of mask -/
def inm (mask i a : Nat) : Prop := ∀ j, a.testBit j = true → j < i ∧ mask.testBit j = true
theorem inm_zero {mask i : Nat} : inm mask i 0 := fun j h => by simp at h
theorem inm_none {mask a : Nat} (h : inm mask 0 a) : a = 0 := by
  apply Nat.eq_of_testBit_eq
  intro j
  rw [Nat.zero_testBit]
  cases e : a.testBit j
  · rfl
  · have := (h j e).1; omega
theorem inm_up {mask i a : Nat} (h : inm mask i a) : inm mask (i + 1) a := fun j e => ⟨by have := (h j e).1; omega, (h j e).2⟩
theorem inm_flip {mask i a : Nat} (h : inm mask i a) (hm : mask.testBit i = true) : inm mask (i + 1) (a ^^^ 2 ^ i) ∧ ¬ a ^^^ 2 ^ i = 0 := by
  have hai : a.testBit i = false := by
    cases e : a.testBit i
    · rfl
    · have := (h i e).1; omega
  refine ⟨fun j e => ?_, fun e => ?_⟩
  · rw [flip_bit] at e
    by_cases hj : i = j
    · subst hj; exact ⟨by omega, hm⟩
    · have : a.testBit j = true := by simpa [hj] using e
      exact ⟨by have := (h j this).1; omega, (h j this).2⟩
  · have := congrArg (fun z => z.testBit i) e
    simp only [flip_bit, hai, Nat.zero_testBit] at this
    simp at this
/-- no sum but the first one counts -/
theorem tm_all {n : Nat} (F : Nat → Int) (mask v : Nat) : ∀ i, i ≤ n → ∀ b, 
    ((∀ a, inm mask i a → wh n F (b ^^^ a) = 0) → tm n F mask v i b = 0) ∧
    ((∀ a, inm mask i a → ¬ a = 0 → wh n F (b ^^^ a) = 0) → ((2 ^ wtm mask i : Nat) : Int) * tm n F mask v i b = wh n F b) := by
  intro i
  induction i with
  | zero =>
    intro _ b
    have e : tm n F mask v 0 b = wh n F b := by
      unfold tm wh
      exact sm_congr _ fun x _ => by simp [mt]
    rw [e]
    refine ⟨fun h => ?_, fun _ => by simp [wtm]⟩
    have := h 0 inm_zero
    rwa [Nat.xor_zero] at this
  | succ i ih =>
    intro hi b
    cases hm : mask.testBit i with
    | false =>
      have hw : wtm mask (i + 1) = wtm mask i := by simp [wtm, hm]
      rw [tm_same F mask v b hm, hw]
      exact ⟨fun h => (ih (by omega) b).1 fun a ha => h a (inm_up ha), fun h => (ih (by omega) b).2 fun a ha => h a (inm_up ha)⟩
    | true =>
      have hw : wtm mask (i + 1) = wtm mask i + 1 := by simp [wtm, hm]
      have hs := tm_step (show i < n by omega) F mask v b hm
      have hx : ∀ a, b ^^^ 2 ^ i ^^^ a = b ^^^ (a ^^^ 2 ^ i) := fun a => by rw [Nat.xor_assoc, Nat.xor_comm (2 ^ i)]
      refine ⟨fun h => ?_, fun h => ?_⟩
      · have h1 := (ih (by omega) b).1 fun a ha => h a (inm_up ha)
        have h2 := (ih (by omega) (b ^^^ 2 ^ i)).1 fun a ha => by rw [hx]; exact h _ (inm_flip ha hm).1
        rw [h1, h2] at hs
        have : 2 * tm n F mask v (i + 1) b = 0 := by rw [hs]; split <;> rfl
        omega
      · have h1 := (ih (by omega) b).2 fun a ha => h a (inm_up ha)
        have h2 := (ih (by omega) (b ^^^ 2 ^ i)).1 fun a ha => by rw [hx]; exact h _ (inm_flip ha hm).1 (inm_flip ha hm).2
        rw [h2] at hs
        have h3 : 2 * tm n F mask v (i + 1) b = tm n F mask v i b := by rw [hs]; split <;> omega
        rw [hw, Nat.pow_succ, Int.natCast_mul, Int.mul_assoc]
        rw [show ((2 : Nat) : Int) * tm n F mask v (i + 1) b = 2 * tm n F mask v (i + 1) b by rfl, h3, h1]
theorem sg_zero (x : Nat) : ∀ i, sg i 0 x = 1 := by
  intro i
  induction i with
  | zero => rfl
  | succ i ih => simp [sg, ih]
theorem wh_one {n b : Nat} (hb : b < 2 ^ n) (h0 : ¬ b = 0) : wh n (fun _ => 1) b = 0 := by
  obtain ⟨j, hj⟩ : ∃ j, b.testBit j = true := Nat.exists_testBit_of_ne_zero h0
  have hjn : j < n := by
    rcases Nat.lt_or_ge j n with h | h
    · exact h
    · rw [Nat.testBit_lt_two_pow (Nat.lt_of_lt_of_le hb (Nat.pow_le_pow_right (by omega) h))] at hj
      cases hj
  have h1 := sm_flip (fun x => sg n x b * 1) n j hjn
  have h2 : sm (fun a => (fun x => sg n x b * 1) (a ^^^ 2 ^ j)) (2 ^ n) = sm (fun x => (-1) * (sg n x b * 1)) (2 ^ n) := sm_congr _ fun a _ => by
    show sg n (a ^^^ 2 ^ j) b * 1 = _
    rw [sg_flip2 hjn, hj]
    simp
  rw [h2, sm_mul] at h1
  have h3 : wh n (fun _ => 1) b = sm (fun x => sg n x b * 1) (2 ^ n) := sm_congr _ fun y _ => by rw [sg_comm]
  rw [h3]
  omega
theorem wtm_pc (mask : Nat) : ∀ i, wtm mask i = pcF i mask := by
  intro i
  induction i with
  | zero => simp [wtm, pcF]
  | succ i ih => rw [wtm, pcF_top, ih]
theorem pc_mono {a m : Nat} (h : ∀ j, a.testBit j = true → m.testBit j = true) : ∀ i, pcF i a ≤ pcF i m := by
  intro i
  induction i with
  | zero => simp [pcF]
  | succ i ih =>
    rw [pcF_top, pcF_top]
    have : (a.testBit i).toNat ≤ (m.testBit i).toNat := by
      cases e : a.testBit i
      · simp
      · rw [h i e]; exact Nat.le_refl _
    omega
theorem inm_lt {mask n a : Nat} (h : inm mask n a) : a < 2 ^ n := by
  apply Nat.lt_pow_two_of_testBit
  intro j hj
  cases e : a.testBit j
  · rfl
  · have := (h j e).1; omega
theorem sm_ct (h : Nat → Bool) : ∀ k, sm (fun x => if h x then 1 else 0) k = (ct h k : Int) := by
  intro k
  induction k with
  | zero => rfl
  | succ k ih =>
    simp only [sm, ct]
    rw [ih]
    cases h k <;> simp
theorem sm_sv (h g : Nat → Bool) : ∀ k, sm (fun x => if h x then sv g x else 0) k = (ct h k : Int) - 2 * (ct (fun x => h x && g x) k : Int) := by
  intro k
  induction k with
  | zero => rfl
  | succ k ih =>
    simp only [sm, ct]
    rw [ih]
    unfold sv
    cases h k <;> cases g k <;> simp <;> omega
/-- what immunity says of fixed inputs -/
theorem fixed_part (n mask v : Nat) (g : Nat → Bool) (hz : ∀ a, inm mask n a → ¬ a = 0 → wh n (sv g) a = 0) :
    2 ^ wtm mask n * ct (fun x => mt mask v n x && g x) (2 ^ n) = ct g (2 ^ n) := by
  have h1 := (tm_all (n := n) (fun _ => 1) mask v n (Nat.le_refl _) 0).2 fun a ha h0 => by rw [Nat.zero_xor]; exact wh_one (inm_lt ha) h0
  have h2 := (tm_all (n := n) (sv g) mask v n (Nat.le_refl _) 0).2 fun a ha h0 => by rw [Nat.zero_xor]; exact hz a ha h0
  have e1 : tm n (fun _ => 1) mask v n 0 = (ct (mt mask v n) (2 ^ n) : Int) := by
    rw [← sm_ct]
    exact sm_congr _ fun x _ => by rw [sg_zero]; rfl
  have e2 : tm n (sv g) mask v n 0 = (ct (mt mask v n) (2 ^ n) : Int) - 2 * (ct (fun x => mt mask v n x && g x) (2 ^ n) : Int) := by
    rw [← sm_sv]
    exact sm_congr _ fun x _ => by rw [sg_zero, Int.one_mul]
  have e3 : wh n (fun _ => 1) 0 = ((2 ^ n : Nat) : Int) := by
    have : wh n (fun _ => 1) 0 = sm (fun _ => 1) (2 ^ n) := sm_congr _ fun x _ => by rw [sg_zero]; rfl
    rw [this, sm_const]
  have e4 : wh n (sv g) 0 = ((2 ^ n : Nat) : Int) - 2 * (ct g (2 ^ n) : Int) := by
    have h3 := sm_sv (fun _ => true) g (2 ^ n)
    have h4 : wh n (sv g) 0 = sm (fun x => if (fun _ => true) x then sv g x else 0) (2 ^ n) := sm_congr _ fun x _ => by rw [sg_zero, Int.one_mul]; rfl
    have h5 : ct (fun _ => true) (2 ^ n) = 2 ^ n := (ct_full (fun _ => true) (2 ^ n)).2 fun _ _ => rfl
    rw [h4, h3, h5]
    simp
  rw [e1, e3] at h1
  rw [e2, e4, Int.mul_sub, h1] at h2
  have h6 : ((2 ^ wtm mask n : Nat) : Int) * (2 * (ct (fun x => mt mask v n x && g x) (2 ^ n) : Int)) = 2 * (((2 ^ wtm mask n * ct (fun x => mt mask v n x && g x) (2 ^ n) : Nat) : Int)) := by
    rw [Int.natCast_mul, ← Int.mul_assoc, ← Int.mul_assoc, Int.mul_comm _ 2]
  rw [h6] at h2
  omega
theorem mt_iff {n mask v : Nat} (hm : mask < 2 ^ n) (hv : ∀ j, v.testBit j = true → mask.testBit j = true) (x : Nat) : mt mask v n x = decide (x &&& mask = v) := by
  have h : ∀ i, mt mask v i x = true ↔ ∀ j, j < i → mask.testBit j = true → x.testBit j = v.testBit j := by
    intro i
    induction i with
    | zero => simp [mt]
    | succ i ih =>
      rw [mt, Bool.and_eq_true, ih]
      constructor
      · rintro ⟨h1, h2⟩ j hj hmj
        by_cases e : j = i
        · subst e; rw [hmj] at h2; simpa using h2
        · exact h1 j (by omega) hmj
      · intro h1
        refine ⟨fun j hj => h1 j (by omega), ?_⟩
        cases e : mask.testBit i
        · simp
        · simp [h1 i (by omega) e]
  rw [Bool.eq_iff_iff, h n, decide_eq_true_eq]
  constructor
  · intro h1
    apply Nat.eq_of_testBit_eq
    intro j
    rw [Nat.testBit_and]
    cases e : mask.testBit j
    · cases e2 : v.testBit j
      · simp
      · rw [hv j e2] at e; cases e
    · have hj : j < n := by
        rcases Nat.lt_or_ge j n with h | h
        · exact h
        · rw [Nat.testBit_lt_two_pow (Nat.lt_of_lt_of_le hm (Nat.pow_le_pow_right (by omega) h))] at e
          cases e
      rw [h1 j hj e]
      simp
  · intro h1 j _ hmj
    rw [← h1, Nat.testBit_and, hmj]
    simp
end Go.Proofs.Ytgpcacbjmjpdnaa.Wt
