/- Equations over two elements: parities of common bits, rows in echelon form by their least bits, the least solution, elimination. No program here. -/
import Derived.Test.YtciofobedgmbjabDoorPop
import Derived.WalkKit
namespace Go.Proofs.YtciofobedgmbjabDoor.G2
set_option maxHeartbeats 400000

/-- an odd number of f 0 .. f (k-1) is true -/
def xb (f : Nat → Bool) : Nat → Bool
  | 0 => false
  | k + 1 => xb f k ^^ f k
theorem xb_congr {f g : Nat → Bool} : ∀ k, (∀ i, i < k → f i = g i) → xb f k = xb g k := by
  intro k
  induction k with
  | zero => intro _; rfl
  | succ k ih => intro h; simp only [xb]; rw [ih fun i hi => h i (by omega), h k (by omega)]
theorem xb_xor (f g : Nat → Bool) : ∀ k, xb (fun i => f i ^^ g i) k = (xb f k ^^ xb g k) := by
  intro k
  induction k with
  | zero => rfl
  | succ k ih => simp only [xb]; rw [ih]; cases xb f k <;> cases xb g k <;> cases f k <;> cases g k <;> rfl
theorem xb_none {f : Nat → Bool} : ∀ k, (∀ i, i < k → f i = false) → xb f k = false := by
  intro k
  induction k with
  | zero => intro _; rfl
  | succ k ih => intro h; simp only [xb]; rw [ih fun i hi => h i (by omega), h k (by omega)]; rfl
theorem xb_at {f : Nat → Bool} {i : Nat} : ∀ k, i < k → (∀ j, j < k → ¬ j = i → f j = false) → xb f k = f i := by
  intro k
  induction k with
  | zero => intro h; omega
  | succ k ih =>
    intro hi h
    simp only [xb]
    by_cases e : i = k
    · subst e
      rw [xb_none i fun j hj => h j (by omega) (by omega)]
      simp
    · rw [ih (by omega) fun j hj hne => h j (by omega) hne, h k (by omega) (fun x => e x.symm)]
      simp
theorem pcF_top : ∀ i n, Pop.pcF (i + 1) n = Pop.pcF i n + (n.testBit i).toNat := by
  intro i
  induction i with
  | zero => intro n; simp [Pop.pcF, Nat.testBit_zero]; rcases (show n % 2 = 0 ∨ n % 2 = 1 by omega) with h | h <;> simp [h]
  | succ i ih =>
    intro n
    rw [Pop.pcF, ih (n / 2), Pop.pcF, Nat.testBit_succ]
    omega
theorem pcF_xb (n : Nat) : ∀ k, Pop.pcF k n % 2 = (xb n.testBit k).toNat := by
  intro k
  induction k with
  | zero => rfl
  | succ k ih =>
    rw [pcF_top]
    simp only [xb]
    have : Pop.pcF k n % 2 = 0 ∨ Pop.pcF k n % 2 = 1 := by omega
    cases h1 : xb n.testBit k <;> cases h2 : n.testBit k <;> rw [h1] at ih <;> simp at ih ⊢ <;> omega

/-- the parity of the bits in common -/
def pv (a x : Nat) : Nat := Pop.pcF 64 (a &&& x) % 2
theorem pv_xb (a x : Nat) : pv a x = (xb (fun i => a.testBit i && x.testBit i) 64).toNat := by
  unfold pv
  rw [pcF_xb, xb_congr 64 fun i _ => Nat.testBit_and a x i]
theorem pv_le (a x : Nat) : pv a x ≤ 1 := by unfold pv; omega
theorem pv_comm (a x : Nat) : pv a x = pv x a := by unfold pv; rw [Nat.and_comm]
theorem pv_congr {a b x y : Nat} (h : ∀ i, (a.testBit i && x.testBit i) = (b.testBit i && y.testBit i)) : pv a x = pv b y := by
  rw [pv_xb, pv_xb, xb_congr 64 fun i _ => h i]
theorem toNat_xor (p q : Bool) : (p ^^ q).toNat = (p.toNat + q.toNat) % 2 := by cases p <;> cases q <;> rfl
theorem pv_xor (a b x : Nat) : pv (a ^^^ b) x = (pv a x + pv b x) % 2 := by
  rw [pv_xb, pv_xb, pv_xb, ← toNat_xor, ← xb_xor]
  refine congrArg Bool.toNat (xb_congr 64 fun i _ => ?_)
  rw [Nat.testBit_xor]
  cases a.testBit i <;> cases b.testBit i <;> cases x.testBit i <;> rfl
theorem pv_xor' (a x y : Nat) : pv a (x ^^^ y) = (pv a x + pv a y) % 2 := by rw [pv_comm, pv_xor, pv_comm x, pv_comm y]
theorem pv_zero (x : Nat) : pv 0 x = 0 := by rw [pv_xb, xb_none 64 fun i _ => by simp]; rfl
theorem pv_zero' (a : Nat) : pv a 0 = 0 := by rw [pv_comm, pv_zero]
theorem pv_at {a x i : Nat} (hi : i < 64) (h : ∀ j, ¬ j = i → (a.testBit j && x.testBit j) = false) : pv a x = (a.testBit i && x.testBit i).toNat := by
  rw [pv_xb, xb_at (i := i) 64 hi fun j _ hj => h j hj]
theorem pow_bit (c j : Nat) : (2 ^ c).testBit j = decide (c = j) := Nat.testBit_two_pow
theorem pv_pow (a : Nat) {i : Nat} (hi : i < 64) : pv a (2 ^ i) = (a.testBit i).toNat := by
  rw [pv_at hi fun j hj => by rw [pow_bit]; simp [Ne.symm hj], pow_bit]; simp
theorem bit_one (b c j : Nat) (hb : b ≤ 1) : (b * 2 ^ c).testBit j = (decide (j = c) && decide (b = 1)) := by
  rcases (show b = 0 ∨ b = 1 by omega) with rfl | rfl
  · simp
  · rw [Nat.one_mul, pow_bit]; simp [eq_comm]

theorem lt_of_top {x y : Nat} (i : Nat) (hx : x.testBit i = false) (hy : y.testBit i = true) (h : ∀ j, i < j → x.testBit j = y.testBit j) : x < y := by
  have h1 : x / 2 ^ (i + 1) = y / 2 ^ (i + 1) := Nat.eq_of_testBit_eq fun j => by rw [Nat.testBit_div_two_pow, Nat.testBit_div_two_pow]; exact h _ (by omega)
  have h2 : x % 2 ^ (i + 1) < 2 ^ i := by
    apply Nat.lt_pow_two_of_testBit
    intro j hj
    rw [Nat.testBit_mod_two_pow]
    by_cases e : j = i
    · subst e; rw [hx]; simp
    · have : decide (j < i + 1) = false := by simp; omega
      rw [this]; rfl
  have h3 : 2 ^ i ≤ y % 2 ^ (i + 1) := by
    apply Nat.ge_two_pow_of_testBit
    rw [Nat.testBit_mod_two_pow, hy]; simp
  have h4 := Nat.div_add_mod x (2 ^ (i + 1))
  have h5 := Nat.div_add_mod y (2 ^ (i + 1))
  rw [h1] at h4
  omega

/-- rows by the index of their least bit -/
def Ech (e : Nat → Nat) : Prop := (∀ i j, j < i → (e i).testBit j = false) ∧ ∀ i, ¬ e i = 0 → (e i).testBit i = true
def KerE (e : Nat → Nat) (x : Nat) : Prop := ∀ i, pv (e i) x = 0
def Bd (e : Nat → Nat) (w : Nat) : Prop := ∀ i, e i < 2 ^ (w + 1)
theorem Bd.far {e : Nat → Nat} {w i : Nat} (h : Bd e w) (he : Ech e) (hi : w < i) : e i = 0 := by
  by_cases h0 : e i = 0
  · exact h0
  · have h1 := he.2 i h0
    have h2 := h i
    have : (e i).testBit i = false := Nat.testBit_lt_two_pow (Nat.lt_of_lt_of_le h2 (Nat.pow_le_pow_right (by omega) hi))
    rw [this] at h1
    exact absurd h1 (by simp)

/-- the bits below c, the highest first, such that the rows there have even parity -/
def fillE (e : Nat → Nat) : Nat → Nat → Nat
  | 0, s => s
  | c + 1, s => fillE e c (s ||| pv (e c) s * 2 ^ c)
def Low (c s : Nat) : Prop := ∀ j, j < c → s.testBit j = false
theorem low_pow {c w : Nat} (h : c ≤ w) : Low c (2 ^ w) := fun j hj => by rw [pow_bit]; simp; omega
theorem or_bit (s b c j : Nat) (hb : b ≤ 1) : (s ||| b * 2 ^ c).testBit j = (s.testBit j || (decide (j = c) && decide (b = 1))) := by rw [Nat.testBit_or, bit_one b c j hb]
theorem Low.step {c s : Nat} (e : Nat → Nat) (h : Low (c + 1) s) : Low c (s ||| pv (e c) s * 2 ^ c) := fun j hj => by
  rw [or_bit _ _ _ _ (pv_le _ _), h j (by omega)]; simp; omega
theorem or_xor {c s b : Nat} (hb : b ≤ 1) (h : Low (c + 1) s) : s ||| b * 2 ^ c = s ^^^ b * 2 ^ c := by
  apply Nat.eq_of_testBit_eq
  intro j
  rw [or_bit _ _ _ _ hb, Nat.testBit_xor, bit_one b c j hb]
  by_cases e : j = c
  · subst e; rw [h j (by omega)]; simp
  · simp [e]
theorem fill_high {e : Nat → Nat} : ∀ c s, Low c s → ∀ j, c ≤ j → (fillE e c s).testBit j = s.testBit j := by
  intro c
  induction c with
  | zero => intro s _ j _; rfl
  | succ c ih =>
    intro s h j hj
    rw [fillE, ih _ (h.step e) j (by omega), or_bit _ _ _ _ (pv_le _ _)]
    have : decide (j = c) = false := by simp; omega
    simp [this]
theorem fill_top {e : Nat → Nat} {c s : Nat} (h : Low (c + 1) s) : (fillE e (c + 1) s).testBit c = decide (pv (e c) s = 1) := by
  rw [fillE, fill_high c _ (h.step e) c (Nat.le_refl _), or_bit _ _ _ _ (pv_le _ _), h c (by omega)]; simp
theorem fill_keep {e : Nat → Nat} (he : Ech e) {c s i : Nat} (h : Low c s) (hi : c ≤ i) : pv (e i) (fillE e c s) = pv (e i) s := by
  apply pv_congr
  intro j
  by_cases hj : j < i
  · rw [he.1 i j hj]; rfl
  · rw [fill_high c s h j (by omega)]
theorem fill_ker {e : Nat → Nat} (he : Ech e) : ∀ c s, c ≤ 64 → Low c s → ∀ i, i < c → pv (e i) (fillE e c s) = 0 := by
  intro c
  induction c with
  | zero => intro s _ _ i hi; omega
  | succ c ih =>
    intro s hc h i hi
    rw [fillE]
    by_cases hic : i < c
    · exact ih _ (by omega) (h.step e) i hic
    · obtain rfl : i = c := by omega
      rw [fill_keep he (h.step e) (Nat.le_refl _), or_xor (pv_le _ _) h, pv_xor']
      have h1 := pv_le (e i) s
      by_cases h0 : e i = 0
      · rw [h0, pv_zero, pv_zero]
      · rcases (show pv (e i) s = 0 ∨ pv (e i) s = 1 by omega) with g | g
        · rw [g, Nat.zero_mul, pv_zero']
        · rw [g, Nat.one_mul, pv_pow _ (by omega), he.2 i h0]; rfl
theorem fill_zero {e : Nat → Nat} : ∀ c s, Low c s → ∀ i, i < c → e i = 0 → (fillE e c s).testBit i = false := by
  intro c
  induction c with
  | zero => intro s _ i hi; omega
  | succ c ih =>
    intro s h i hi h0
    by_cases hic : i < c
    · rw [fillE]; exact ih _ (h.step e) i hic h0
    · obtain rfl : i = c := by omega
      rw [fill_top h, h0, pv_zero]; rfl
theorem fill_least {e : Nat → Nat} (he : Ech e) : ∀ c s, c ≤ 64 → Low c s → ∀ y, KerE e y → (∀ j, c ≤ j → y.testBit j = s.testBit j) → fillE e c s ≤ y := by
  intro c
  induction c with
  | zero =>
    intro s _ _ y _ hy
    have : y = s := Nat.eq_of_testBit_eq fun j => hy j (by omega)
    rw [this]
    exact Nat.le_refl _
  | succ c ih =>
    intro s hc h y hk hy
    have go : y.testBit c = decide (pv (e c) s = 1) → fillE e (c + 1) s ≤ y := by
      intro hb
      rw [fillE]
      refine ih _ (by omega) (h.step e) y hk fun j hj => ?_
      rw [or_bit _ _ _ _ (pv_le _ _)]
      by_cases e1 : j = c
      · subst e1; rw [h j (by omega), hb]; simp
      · rw [hy j (by omega)]; simp [e1]
    by_cases h0 : e c = 0
    · cases hb : y.testBit c with
      | false => exact go (by rw [hb, h0, pv_zero]; rfl)
      | true =>
        refine Nat.le_of_lt (lt_of_top c ?_ hb fun j hj => ?_)
        · exact fill_zero (c + 1) s h c (by omega) h0
        · rw [fill_high (c + 1) s h j (by omega), hy j (by omega)]
    · refine go ?_
      have h1 := hk c
      have h2 : pv (e c) y = pv (e c) (s ^^^ (y.testBit c).toNat * 2 ^ c) := by
        apply pv_congr
        intro j
        by_cases hj : j < c
        · rw [he.1 c j hj]; rfl
        · have g : y.testBit j = (s ^^^ (y.testBit c).toNat * 2 ^ c).testBit j := by
            rw [Nat.testBit_xor, bit_one _ _ _ (by cases y.testBit c <;> simp)]
            by_cases e1 : j = c
            · subst e1; rw [h j (by omega)]; cases y.testBit j <;> simp
            · rw [hy j (by omega)]; simp [e1]
          rw [← g]
      rw [h2, pv_xor'] at h1
      have h3 := pv_le (e c) s
      cases hb : y.testBit c with
      | false =>
        rw [hb] at h1
        simp only [Bool.toNat_false, Nat.zero_mul, pv_zero'] at h1
        have : pv (e c) s = 0 := by omega
        rw [this]; rfl
      | true =>
        rw [hb] at h1
        simp only [Bool.toNat_true, Nat.one_mul] at h1
        rw [pv_pow _ (by omega), he.2 c h0] at h1
        simp only [Bool.toNat_true] at h1
        have : pv (e c) s = 1 := by omega
        rw [this]; rfl

/-- the least solution with the bit at w -/
def solE (e : Nat → Nat) (w : Nat) : Nat := fillE e w (2 ^ w)
theorem sol_top (e : Nat → Nat) (w : Nat) : (solE e w).testBit w = true := by
  unfold solE
  rw [fill_high w _ (low_pow (Nat.le_refl _)) w (Nat.le_refl _), pow_bit]; simp
theorem sol_far (e : Nat → Nat) {w j : Nat} (h : w < j) : (solE e w).testBit j = false := by
  unfold solE
  rw [fill_high w _ (low_pow (Nat.le_refl _)) j (by omega), pow_bit]; simp; omega
theorem lt_of_bits {x n : Nat} (h : ∀ j, n ≤ j → x.testBit j = false) : x < 2 ^ n := Nat.lt_pow_two_of_testBit x fun i hi => h i hi
theorem sol_lt (e : Nat → Nat) (w : Nat) : solE e w < 2 ^ (w + 1) := lt_of_bits fun j hj => sol_far e (by omega)
theorem sol_ker {e : Nat → Nat} {w : Nat} (he : Ech e) (hb : Bd e w) (hw : w < 64) (h : e w = 0) : KerE e (solE e w) := by
  intro i
  by_cases hi : i < w
  · exact fill_ker he w _ (by omega) (low_pow (Nat.le_refl _)) i hi
  · by_cases hiw : i = w
    · subst hiw; rw [h, pv_zero]
    · rw [hb.far he (by omega), pv_zero]
theorem no_sol {e : Nat → Nat} {w x : Nat} (he : Ech e) (hb : Bd e w) (hw : w < 64) (h : ¬ e w = 0) (hx : x.testBit w = true) : ¬ KerE e x := by
  intro hk
  have h1 := hk w
  rw [pv_at hw (fun j hj => ?_), he.2 w h, hx] at h1
  · exact absurd h1 (by simp)
  · rcases Nat.lt_or_gt_of_ne hj with g | g
    · rw [he.1 w j g]; rfl
    · rw [Nat.testBit_lt_two_pow (Nat.lt_of_lt_of_le (hb w) (Nat.pow_le_pow_right (by omega) g))]; rfl
theorem sol_least {e : Nat → Nat} {w y : Nat} (he : Ech e) (hw : w ≤ 64) (hk : KerE e y) (hy : y < 2 ^ (w + 1)) (ht : y.testBit w = true) : solE e w ≤ y := by
  refine fill_least he w _ hw (low_pow (Nat.le_refl _)) y hk fun j hj => ?_
  rw [pow_bit]
  by_cases e1 : w = j
  · subst e1; rw [ht]; simp
  · rw [Nat.testBit_lt_two_pow (Nat.lt_of_lt_of_le hy (Nat.pow_le_pow_right (by omega) (by omega : w + 1 ≤ j)))]; simp [e1]

/-- a row put in -/
def putE (e : Nat → Nat) (k r : Nat) : Nat → Nat := fun i => if i = k then r else e i
theorem putE_ech {e : Nat → Nat} {k r : Nat} (he : Ech e) (hr : r.testBit k = true) (hl : Low k r) : Ech (putE e k r) := by
  constructor
  · intro i j hj
    unfold putE
    split
    · subst_vars; exact hl j hj
    · exact he.1 i j hj
  · intro i hi
    unfold putE at hi ⊢
    split
    · subst_vars; exact hr
    · rw [if_neg (by assumption)] at hi; exact he.2 i hi
theorem putE_bd {e : Nat → Nat} {k r w : Nat} (he : Bd e w) (hr : r < 2 ^ (w + 1)) : Bd (putE e k r) w := by
  intro i; unfold putE; split
  · exact hr
  · exact he i
theorem putE_ker {e : Nat → Nat} {k r : Nat} (h0 : e k = 0) (x : Nat) : KerE (putE e k r) x ↔ KerE e x ∧ pv r x = 0 := by
  constructor
  · intro h
    refine ⟨fun i => ?_, ?_⟩
    · by_cases e1 : i = k
      · subst e1; rw [h0, pv_zero]
      · have := h i; unfold putE at this; rwa [if_neg e1] at this
    · have := h k; unfold putE at this; rwa [if_pos rfl] at this
  · rintro ⟨h1, h2⟩ i
    unfold putE
    split
    · exact h2
    · exact h1 i
/-- a row that is reduced says the same -/
theorem red_ker {e : Nat → Nat} {r k x : Nat} (hk : KerE e x) : pv (r ^^^ e k) x = pv r x := by
  rw [pv_xor, hk k]; have := pv_le r x; omega
theorem none_ech : Ech fun _ => 0 := ⟨fun _ _ _ => by simp, fun _ h => absurd rfl h⟩
theorem none_bd (w : Nat) : Bd (fun _ => 0) w := fun _ => Nat.pow_pos (by omega)
theorem none_ker (x : Nat) : KerE (fun _ => 0) x := fun _ => pv_zero x

/-- two echelons of the same equations: the same places are open -/
theorem open_same {e e' : Nat → Nat} {w i : Nat} (he : Ech e) (he' : Ech e') (hb : Bd e w) (hw : w < 64) (hk : ∀ x, KerE e x → KerE e' x) (hi : i < w) (h : e i = 0) : e' i = 0 := by
  have hwi : i < 64 := by omega
  by_cases h0 : e' i = 0
  · exact h0
  · exfalso
    have hk2 : KerE e (fillE e i (2 ^ i)) := by
      intro j
      by_cases hj : j < i
      · exact fill_ker he i _ (by omega) (low_pow (Nat.le_refl _)) j hj
      · rw [fill_keep he (low_pow (Nat.le_refl _)) (by omega)]
        by_cases hjw : j < 64
        · rw [pv_pow _ hwi]
          by_cases e1 : j = i
          · subst e1; rw [h]; simp
          · rw [he.1 j i (by omega)]; rfl
        · rw [hb.far he (by omega), pv_zero]
    have h1 := hk _ hk2 i
    rw [fill_keep_pow hwi he' h0] at h1
    exact absurd h1 (by simp)
where
  fill_keep_pow {e e' : Nat → Nat} {i : Nat} (hi : i < 64) (he' : Ech e') (h0 : ¬ e' i = 0) : pv (e' i) (fillE e i (2 ^ i)) = 1 := by
    have h2 : pv (e' i) (fillE e i (2 ^ i)) = pv (e' i) (2 ^ i) := by
      apply pv_congr
      intro j
      by_cases hj : j < i
      · rw [he'.1 i j hj]; rfl
      · rw [fill_high i _ (low_pow (Nat.le_refl _)) j (by omega)]
    rw [h2, pv_pow _ hi, he'.2 i h0]; rfl
end Go.Proofs.YtciofobedgmbjabDoor.G2
