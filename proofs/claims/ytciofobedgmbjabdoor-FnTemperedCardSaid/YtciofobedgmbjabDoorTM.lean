/- Tempers: a change of a word by a shift of itself is undone by sixteen rounds; linear maps of states and their equations. No program here. -/
import Derived.Test.YtciofobedgmbjabDoorG4
namespace Go.Proofs.YtciofobedgmbjabDoor.G2
set_option maxHeartbeats 400000

/-- rounds that undo a change by g -/
def itG (g : Nat → Nat) (z : Nat) : Nat → Nat
  | 0 => z
  | k + 1 => z ^^^ g (itG g z k)
/-- a change by g makes bits right, place after place -/
def Rght (D : Nat → Nat → Prop) (g : Nat → Nat) : Prop := ∀ k a b, (∀ j, D k j → a.testBit j = b.testBit j) → ∀ j, D (k + 1) j → (g a).testBit j = (g b).testBit j
theorem it_agree {D : Nat → Nat → Prop} {g : Nat → Nat} (hg : Rght D g) (h0 : ∀ j, ¬ D 0 j) {z y : Nat} (hy : y = z ^^^ g y) : ∀ k j, D k j → (itG g z k).testBit j = y.testBit j := by
  intro k
  induction k with
  | zero => intro j hj; exact absurd hj (h0 j)
  | succ k ih =>
    intro j hj
    have h1 := hg k _ _ ih j hj
    have h2 : y.testBit j = (z ^^^ g y).testBit j := by rw [← hy]
    rw [itG, h2, Nat.testBit_xor, Nat.testBit_xor, h1]
theorem it_next {D : Nat → Nat → Prop} {g : Nat → Nat} (hg : Rght D g) (h0 : ∀ j, ¬ D 0 j) (z : Nat) : ∀ k j, D k j → (itG g z k).testBit j = (itG g z (k + 1)).testBit j := by
  intro k
  induction k with
  | zero => intro j hj; exact absurd hj (h0 j)
  | succ k ih =>
    intro j hj
    have h1 := hg k _ _ ih j hj
    rw [itG, itG, Nat.testBit_xor, Nat.testBit_xor, h1]
theorem it_lt {g : Nat → Nat} {z : Nat} (hz : z < 65536) (hl : ∀ y, y < 65536 → g y < 65536) : ∀ k, itG g z k < 65536 := by
  intro k
  induction k with
  | zero => exact hz
  | succ k ih => exact Nat.xor_lt_two_pow (n := 16) hz (hl _ ih)
theorem bit_16 {a j : Nat} (h : a < 65536) (hj : 16 ≤ j) : a.testBit j = false := Nat.testBit_lt_two_pow (Nat.lt_of_lt_of_le (show a < 2 ^ 16 from h) (Nat.pow_le_pow_right (by omega) hj))
theorem eq_16 {a b : Nat} (ha : a < 65536) (hb : b < 65536) (h : ∀ j, j < 16 → a.testBit j = b.testBit j) : a = b := by
  apply Nat.eq_of_testBit_eq
  intro j
  by_cases g : j < 16
  · exact h j g
  · rw [bit_16 ha (by omega), bit_16 hb (by omega)]
/-- the change, and what undoes it -/
theorem it_back {D : Nat → Nat → Prop} {g : Nat → Nat} (hg : Rght D g) (h0 : ∀ j, ¬ D 0 j) (h16 : ∀ j, j < 16 → D 16 j) (hl : ∀ y, y < 65536 → g y < 65536) {y : Nat} (hy : y < 65536) : itG g (y ^^^ g y) 16 = y := by
  have hz : y ^^^ g y < 65536 := Nat.xor_lt_two_pow (n := 16) hy (hl y hy)
  exact eq_16 (it_lt hz hl 16) hy fun j hj => it_agree hg h0 (by rw [Nat.xor_assoc, Nat.xor_self, Nat.xor_zero]) 16 j (h16 j hj)
theorem it_there {D : Nat → Nat → Prop} {g : Nat → Nat} (hg : Rght D g) (h0 : ∀ j, ¬ D 0 j) (h16 : ∀ j, j < 16 → D 16 j) (hl : ∀ y, y < 65536 → g y < 65536) {z : Nat} (hz : z < 65536) : itG g z 16 ^^^ g (itG g z 16) = z := by
  have h1 := eq_16 (it_lt hz hl 16) (it_lt hz hl 17) fun j hj => it_next hg h0 z 16 j (h16 j hj)
  have h2 : itG g z 17 = z ^^^ g (itG g z 16) := rfl
  rw [h2] at h1
  have go : ∀ a b, a = z ^^^ b → a ^^^ b = z := fun a b e => by rw [e, Nat.xor_assoc, Nat.xor_self, Nat.xor_zero]
  exact go _ _ h1

/-- down by s, up by s within a mask -/
def dnG (s y : Nat) : Nat := y / 2 ^ s
def upG (s m y : Nat) : Nat := y * 2 ^ s &&& m
theorem dn_bit (s y j : Nat) : (dnG s y).testBit j = y.testBit (j + s) := by unfold dnG; rw [Nat.testBit_div_two_pow]
theorem up_bit (s m y j : Nat) : (upG s m y).testBit j = (decide (s ≤ j) && y.testBit (j - s) && m.testBit j) := by unfold upG; rw [Nat.testBit_and, Nat.testBit_mul_two_pow]
theorem dn_lt {s y : Nat} (h : y < 65536) : dnG s y < 65536 := Nat.lt_of_le_of_lt (Nat.div_le_self _ _) h
theorem up_lt {s m y : Nat} (hm : m < 65536) : upG s m y < 65536 := Nat.lt_of_le_of_lt Nat.and_le_right hm
theorem dn_right {s : Nat} (hs : 1 ≤ s) : Rght (fun k j => 16 ≤ j + k ∧ 1 ≤ k) fun y => dnG s (y % 65536) := by
  intro k a b h j hj
  simp only [dn_bit]
  rw [show (65536 : Nat) = 2 ^ 16 from rfl, Nat.testBit_mod_two_pow, Nat.testBit_mod_two_pow]
  by_cases g : j + s < 16
  · by_cases g2 : 1 ≤ k
    · rw [h (j + s) ⟨by omega, g2⟩]
    · omega
  · have : decide (j + s < 16) = false := by simp; omega
    rw [this]; rfl
theorem up_right {s m : Nat} (hs : 1 ≤ s) : Rght (fun k j => j < k) (upG s m) := by
  intro k a b h j hj
  rw [up_bit, up_bit]
  by_cases g : s ≤ j
  · rw [h (j - s) (by omega)]
  · simp [g]
theorem dn_mod {s y : Nat} (h : y < 65536) : dnG s (y % 65536) = dnG s y := by rw [Nat.mod_eq_of_lt h]
theorem it_dn (s z : Nat) (hz : z < 65536) : ∀ k, itG (fun y => dnG s (y % 65536)) z k = itG (dnG s) z k := by
  intro k
  induction k with
  | zero => rfl
  | succ k ih => rw [itG, itG, ih, dn_mod (it_lt hz (fun y hy => dn_lt hy) k)]
theorem dn_back {s y : Nat} (hs : 1 ≤ s) (hy : y < 65536) : itG (dnG s) (y ^^^ dnG s y) 16 = y := by
  have h := it_back (dn_right hs) (fun j hj => by omega) (fun j hj => ⟨by omega, by omega⟩) (fun y hy => by rw [dn_mod hy]; exact dn_lt hy) hy
  rw [dn_mod hy, it_dn s _ (Nat.xor_lt_two_pow (n := 16) hy (dn_lt hy))] at h
  exact h
theorem dn_there {s z : Nat} (hs : 1 ≤ s) (hz : z < 65536) : itG (dnG s) z 16 ^^^ dnG s (itG (dnG s) z 16) = z := by
  have h := it_there (dn_right hs) (fun j hj => by omega) (fun j hj => ⟨by omega, by omega⟩) (fun y hy => by rw [dn_mod hy]; exact dn_lt hy) hz
  rw [it_dn s z hz, dn_mod (it_lt hz (fun y hy => dn_lt hy) 16)] at h
  exact h
theorem up_back {s m y : Nat} (hs : 1 ≤ s) (hm : m < 65536) (hy : y < 65536) : itG (upG s m) (y ^^^ upG s m y) 16 = y :=
  it_back (up_right hs) (fun j hj => by omega) (fun j hj => hj) (fun y _ => up_lt hm) hy
theorem up_there {s m z : Nat} (hs : 1 ≤ s) (hm : m < 65536) (hz : z < 65536) : itG (upG s m) z 16 ^^^ upG s m (itG (upG s m) z 16) = z :=
  it_there (up_right hs) (fun j hj => by omega) (fun j hj => hj) (fun y _ => up_lt hm) hz

/-- a temper's numbers: down, up with a mask, up with a mask, down -/
structure Tm where
  (d1 u1 m1 u2 m2 d2 : Nat)
def Tm.ok (t : Tm) : Prop := (1 ≤ t.d1 ∧ t.d1 ≤ 16) ∧ (1 ≤ t.u1 ∧ t.u1 ≤ 16) ∧ t.m1 < 65536 ∧ (1 ≤ t.u2 ∧ t.u2 ≤ 16) ∧ t.m2 < 65536 ∧ 1 ≤ t.d2 ∧ t.d2 ≤ 16
def ch1 (t : Tm) (y : Nat) : Nat := y ^^^ dnG t.d1 y
def ch2 (t : Tm) (y : Nat) : Nat := y ^^^ upG t.u1 t.m1 y
def ch3 (t : Tm) (y : Nat) : Nat := y ^^^ upG t.u2 t.m2 y
def ch4 (t : Tm) (y : Nat) : Nat := y ^^^ dnG t.d2 y
def tmp (t : Tm) (y : Nat) : Nat := ch4 t (ch3 t (ch2 t (ch1 t y)))
def unt (t : Tm) (z : Nat) : Nat := itG (dnG t.d1) (itG (upG t.u1 t.m1) (itG (upG t.u2 t.m2) (itG (dnG t.d2) z 16) 16) 16) 16
theorem ch1_lt {t : Tm} {y : Nat} (h : y < 65536) : ch1 t y < 65536 := Nat.xor_lt_two_pow (n := 16) h (dn_lt h)
theorem ch2_lt {t : Tm} (ht : t.ok) {y : Nat} (h : y < 65536) : ch2 t y < 65536 := Nat.xor_lt_two_pow (n := 16) h (up_lt ht.2.2.1)
theorem ch3_lt {t : Tm} (ht : t.ok) {y : Nat} (h : y < 65536) : ch3 t y < 65536 := Nat.xor_lt_two_pow (n := 16) h (up_lt ht.2.2.2.2.1)
theorem ch4_lt {t : Tm} {y : Nat} (h : y < 65536) : ch4 t y < 65536 := Nat.xor_lt_two_pow (n := 16) h (dn_lt h)
theorem tmp_lt {t : Tm} (ht : t.ok) {y : Nat} (h : y < 65536) : tmp t y < 65536 := ch4_lt (ch3_lt ht (ch2_lt ht (ch1_lt h)))
theorem unt_tmp {t : Tm} (ht : t.ok) {y : Nat} (h : y < 65536) : unt t (tmp t y) = y := by
  unfold unt tmp
  have h1 := ch1_lt (t := t) h
  have h2 := ch2_lt ht h1
  have h3 := ch3_lt ht h2
  rw [ch4, dn_back ht.2.2.2.2.2.1 h3, ch3, up_back ht.2.2.2.1.1 ht.2.2.2.2.1 h2, ch2, up_back ht.2.1.1 ht.2.2.1 h1, ch1, dn_back ht.1.1 h]
theorem unt_lt {t : Tm} (ht : t.ok) {z : Nat} (h : z < 65536) : unt t z < 65536 :=
  it_lt (it_lt (it_lt (it_lt h (fun _ => dn_lt) 16) (fun _ _ => up_lt ht.2.2.2.2.1) 16) (fun _ _ => up_lt ht.2.2.1) 16) (fun _ => dn_lt) 16
theorem tmp_unt {t : Tm} (ht : t.ok) {z : Nat} (h : z < 65536) : tmp t (unt t z) = z := by
  have h1 := it_lt (g := dnG t.d2) h (fun _ => dn_lt) 16
  have h2 := it_lt (g := upG t.u2 t.m2) h1 (fun _ _ => up_lt ht.2.2.2.2.1) 16
  have h3 := it_lt (g := upG t.u1 t.m1) h2 (fun _ _ => up_lt ht.2.2.1) 16
  unfold unt tmp
  rw [ch1, dn_there ht.1.1 h3, ch2, up_there ht.2.1.1 ht.2.2.1 h2, ch3, up_there ht.2.2.2.1.1 ht.2.2.2.2.1 h1, ch4, dn_there ht.2.2.2.2.2.1 h]

/-- maps for which the exclusive or of two states goes to that of what they go to -/
def Lin (f : Nat → Nat) : Prop := ∀ x y, f (x ^^^ y) = f x ^^^ f y
theorem dn_lin (s : Nat) : Lin (dnG s) := fun x y => by
  apply Nat.eq_of_testBit_eq; intro j
  rw [dn_bit, Nat.testBit_xor, Nat.testBit_xor, dn_bit, dn_bit]
theorem up_lin (s m : Nat) : Lin (upG s m) := fun x y => by
  apply Nat.eq_of_testBit_eq; intro j
  rw [up_bit, Nat.testBit_xor, Nat.testBit_xor, up_bit, up_bit]
  cases decide (s ≤ j) <;> cases m.testBit j <;> simp
theorem xor_swap4 (x y a b : Nat) : x ^^^ y ^^^ (a ^^^ b) = x ^^^ a ^^^ (y ^^^ b) := by
  apply Nat.eq_of_testBit_eq; intro j
  simp only [Nat.testBit_xor]
  cases x.testBit j <;> cases y.testBit j <;> cases a.testBit j <;> cases b.testBit j <;> rfl
theorem self_lin {g : Nat → Nat} (h : Lin g) : Lin fun y => y ^^^ g y := fun x y => by
  show x ^^^ y ^^^ g (x ^^^ y) = _
  rw [h x y, xor_swap4]
theorem tmp_lin (t : Tm) : Lin (tmp t) := fun x y => by
  unfold tmp
  rw [show ch1 t (x ^^^ y) = ch1 t x ^^^ ch1 t y from self_lin (dn_lin _) x y, show ∀ a b, ch2 t (a ^^^ b) = ch2 t a ^^^ ch2 t b from self_lin (up_lin _ _), show ∀ a b, ch3 t (a ^^^ b) = ch3 t a ^^^ ch3 t b from self_lin (up_lin _ _), show ∀ a b, ch4 t (a ^^^ b) = ch4 t a ^^^ ch4 t b from self_lin (dn_lin _)]
theorem lin_zero {f : Nat → Nat} (h : Lin f) : f 0 = 0 := by
  have := h 0 0
  rw [Nat.xor_self, Nat.xor_self] at this
  exact this
theorem flip_small {x n : Nat} (h : x < 2 ^ (n + 1)) (hb : x.testBit n = true) : x ^^^ 2 ^ n < 2 ^ n := lt_of_bits fun j hj => by
  rw [Nat.testBit_xor, pow_bit]
  by_cases g : n = j
  · subst g; rw [hb]; simp
  · rw [Nat.testBit_lt_two_pow (Nat.lt_of_lt_of_le h (Nat.pow_le_pow_right (by omega) (by omega)))]; simp [g]
theorem lt_small {x n : Nat} (h : x < 2 ^ (n + 1)) (hb : x.testBit n = false) : x < 2 ^ n := lt_of_bits fun j hj => by
  by_cases g : n = j
  · subst g; exact hb
  · exact Nat.testBit_lt_two_pow (Nat.lt_of_lt_of_le h (Nat.pow_le_pow_right (by omega) (by omega)))
theorem lin_bits {f : Nat → Nat} (h : Lin f) (i : Nat) : ∀ n x, x < 2 ^ n → (f x).testBit i = xb (fun j => (f (2 ^ j)).testBit i && x.testBit j) n := by
  intro n
  induction n with
  | zero => intro x hx; obtain rfl : x = 0 := by simpa using hx
            rw [lin_zero h]; simp [xb]
  | succ n ih =>
    intro x hx
    cases hb : x.testBit n with
    | false =>
      rw [ih x (lt_small hx hb)]
      simp only [xb]
      rw [hb]; simp
    | true =>
      have e : x = (x ^^^ 2 ^ n) ^^^ 2 ^ n := by rw [Nat.xor_assoc, Nat.xor_self, Nat.xor_zero]
      have h1 := ih _ (flip_small hx hb)
      have h2 : (f x).testBit i = ((f (x ^^^ 2 ^ n)).testBit i ^^ (f (2 ^ n)).testBit i) := by rw [← Nat.testBit_xor, ← h, ← e]
      rw [h2, h1]
      simp only [xb]
      rw [hb, Bool.and_true]
      congr 1
      apply xb_congr
      intro j hj
      rw [Nat.testBit_xor, pow_bit]
      have : decide (n = j) = false := by simp; omega
      rw [this]; simp
/-- the number with bits f 0 .. f (n-1) -/
def nb (f : Nat → Bool) : Nat → Nat
  | 0 => 0
  | n + 1 => nb f n ||| (f n).toNat * 2 ^ n
theorem nb_bit (f : Nat → Bool) (j : Nat) : ∀ n, (nb f n).testBit j = (decide (j < n) && f j) := by
  intro n
  induction n with
  | zero => simp [nb]
  | succ n ih =>
    rw [nb, or_bit _ _ _ _ (by cases f n <;> simp), ih]
    by_cases g : j = n
    · subst g; cases f j <;> simp
    · have : decide (j < n + 1) = decide (j < n) := by congr 1; exact propext ⟨fun _ => by omega, fun _ => by omega⟩
      rw [this]; simp [g]
theorem nb_lt (f : Nat → Bool) (n : Nat) : nb f n < 2 ^ n := lt_of_bits fun j hj => by rw [nb_bit]; simp; omega
/-- row i of the matrix of a map -/
def rwM (f : Nat → Nat) (n i : Nat) : Nat := nb (fun j => (f (2 ^ j)).testBit i) n
theorem xb_far {f : Nat → Bool} {n : Nat} (h : ∀ j, n ≤ j → f j = false) : ∀ k, xb f (n + k) = xb f n := by
  intro k
  induction k with
  | zero => rfl
  | succ k ih => rw [← Nat.add_assoc, xb, ih, h _ (by omega)]; simp
theorem rw_pv {f : Nat → Nat} (h : Lin f) {n x : Nat} (i : Nat) (hn : n ≤ 64) (hx : x < 2 ^ n) : pv (rwM f n i) x = ((f x).testBit i).toNat := by
  rw [pv_xb, lin_bits h i n x hx]
  have h0 : ∀ j, n ≤ j → ((rwM f n i).testBit j && x.testBit j) = false := fun j hj => by
    have : decide (j < n) = false := by simp; omega
    rw [rwM, nb_bit, this]; rfl
  have h1 := xb_far (f := fun j => (rwM f n i).testBit j && x.testBit j) (n := n) h0 (64 - n)
  rw [show n + (64 - n) = 64 by omega] at h1
  rw [h1]
  refine congrArg Bool.toNat (xb_congr n fun j hj => ?_)
  rw [rwM, nb_bit]
  simp [hj]
/-- the equations of a state behind a step -/
def eqM (rows : Nat → Nat) (w z : Nat) : Nat → List Nat
  | 0 => []
  | n + 1 => eqM rows w z n ++ [rows n ||| (z.testBit n).toNat * 2 ^ w]
theorem eq_ker {rows : Nat → Nat} {w z x : Nat} (hw : w < 64) (hr : ∀ i, rows i < 2 ^ w) (hx : x.testBit w = true) : ∀ n, Ker (eqM rows w z n) x ↔ ∀ i, i < n → pv (rows i) x = (z.testBit i).toNat := by
  intro n
  induction n with
  | zero => exact ⟨fun _ i hi => by omega, fun _ => ker_nil x⟩
  | succ n ih =>
    rw [eqM, ker_snoc, ih]
    have e : pv (rows n ||| (z.testBit n).toNat * 2 ^ w) x = 0 ↔ pv (rows n) x = (z.testBit n).toNat := by
      have e1 : rows n ||| (z.testBit n).toNat * 2 ^ w = rows n ^^^ (z.testBit n).toNat * 2 ^ w := by
        apply Nat.eq_of_testBit_eq; intro j
        rw [Nat.testBit_or, Nat.testBit_xor, bit_one _ _ _ (by cases z.testBit n <;> simp)]
        by_cases g : j = w
        · subst g; rw [Nat.testBit_lt_two_pow (hr n)]; simp
        · simp [g]
      have h1 := pv_le (rows n) x
      rw [e1, pv_xor]
      cases hb : z.testBit n with
      | false => simp only [Bool.toNat_false, Nat.zero_mul, pv_zero]; omega
      | true => simp only [Bool.toNat_true, Nat.one_mul]; rw [pv_one hw, hx]; simp only [Bool.toNat_true]; omega
    rw [e]
    constructor
    · rintro ⟨h1, h2⟩ i hi
      by_cases g : i = n
      · subst g; exact h2
      · exact h1 i (by omega)
    · intro h; exact ⟨fun i hi => h i (by omega), h n (by omega)⟩
/-- a state that has one state before it, whichever it is -/
theorem one_before {f b : Nat → Nat} (hf : Lin f) {w z : Nat} (hw : w < 63) (hlt : ∀ x, x < 2 ^ w → f x < 2 ^ w) (hz : z < 2 ^ w) (hb : b z < 2 ^ w) (h1 : f (b z) = z) (hinj : ∀ x, x < 2 ^ w → f x = 0 → x = 0) {e : Nat → Nat} (h : Same e w (eqM (rwM f w) w z w)) :
    e w = 0 ∧ opE e 0 w = 0 ∧ solE e w = b z + 2 ^ w := by
  have hr : ∀ i, rwM f w i < 2 ^ w := fun i => nb_lt _ w
  have key : ∀ x, x < 2 ^ w → (x ||| 2 ^ w).testBit w = true ∧ (x ||| 2 ^ w < 2 ^ (w + 1)) ∧ (Ker (eqM (rwM f w) w z w) (x ||| 2 ^ w) ↔ f x = z) := by
    intro x hx
    have hb1 : (x ||| 2 ^ w).testBit w = true := by rw [Nat.testBit_or, pow_bit]; simp
    have hxw : x ||| 2 ^ w = x ^^^ 2 ^ w := by
      apply Nat.eq_of_testBit_eq; intro j
      rw [Nat.testBit_or, Nat.testBit_xor, pow_bit]
      by_cases g : w = j
      · subst g; rw [Nat.testBit_lt_two_pow hx]; simp
      · simp [g]
    refine ⟨hb1, Nat.or_lt_two_pow (Nat.lt_of_lt_of_le hx (Nat.pow_le_pow_right (by omega) (by omega))) (Nat.pow_lt_pow_right (by omega) (by omega)), ?_⟩
    rw [eq_ker (by omega) hr hb1]
    have hp : ∀ i, pv (rwM f w i) (x ||| 2 ^ w) = ((f x).testBit i).toNat := fun i => by
      rw [hxw, pv_xor', pv_pow _ (by omega), Nat.testBit_lt_two_pow (hr i), rw_pv hf i (by omega) hx]
      simp only [Bool.toNat_false]
      cases (f x).testBit i <;> rfl
    constructor
    · intro k
      apply Nat.eq_of_testBit_eq; intro i
      by_cases g : i < w
      · have := k i g
        rw [hp i] at this
        cases h1 : (f x).testBit i <;> cases h2 : z.testBit i <;> rw [h1, h2] at this <;> simp at this ⊢
      · have hi : 2 ^ w ≤ 2 ^ i := Nat.pow_le_pow_right (by omega) (by omega)
        rw [Nat.testBit_lt_two_pow (Nat.lt_of_lt_of_le (hlt x hx) hi), Nat.testBit_lt_two_pow (Nat.lt_of_lt_of_le hz hi)]
    · intro k i _; rw [hp i, k]
  obtain ⟨k1, k2, k3⟩ := key (b z) hb
  have he0 := (slv_iff h (by omega)).1 ⟨_, k1, fun j hj => Nat.testBit_lt_two_pow (Nat.lt_of_lt_of_le k2 (Nat.pow_le_pow_right (by omega) (by omega))), k3.2 h1⟩
  have huniq : ∀ y, y.testBit w = true → y < 2 ^ (w + 1) → Ker (eqM (rwM f w) w z w) y → y = b z ||| 2 ^ w := by
    intro y hy hy2 hk
    have hx := flip_small hy2 hy
    have e1 : (y ^^^ 2 ^ w) ||| 2 ^ w = y := by
      apply Nat.eq_of_testBit_eq; intro j
      rw [Nat.testBit_or, Nat.testBit_xor, pow_bit]
      by_cases g : w = j
      · subst g; rw [hy]; simp
      · simp [g]
    obtain ⟨_, _, m3⟩ := key _ hx
    rw [e1] at m3
    have m4 := m3.1 hk
    have m5 : f ((y ^^^ 2 ^ w) ^^^ b z) = 0 := by rw [hf, m4, h1, Nat.xor_self]
    have m6 := hinj _ (Nat.xor_lt_two_pow hx hb) m5
    have m7 : y ^^^ 2 ^ w = b z := by
      apply Nat.eq_of_testBit_eq; intro j
      have m8 : ((y ^^^ 2 ^ w) ^^^ b z).testBit j = false := by rw [m6]; simp
      rw [Nat.testBit_xor] at m8
      cases g1 : (y ^^^ 2 ^ w).testBit j <;> cases g2 : (b z).testBit j <;> rw [g1, g2] at m8 <;> simp at m8 ⊢
    rw [← e1, m7]
  have hsol := huniq _ (sol_top e w) (sol_lt e w) ((h.2.2 _).1 (sol_ker h.1 h.2.1 (by omega) he0))
  refine ⟨he0, ?_, ?_⟩
  · have hno : ∀ c, c < w → ¬ e c = 0 := by
      intro c hc g
      have hs0 := zero_of_open hc g
      have t1 := (try_one (n := w - (c + 1)) h (by omega) he0 (by omega) hs0).2 g
      obtain ⟨x, t2, t3, t4⟩ := t1
      rw [ker_snoc, ker_app] at t4
      have t5 := huniq x t2 (lt_of_bits fun j hj => t3 j (by omega)) t4.1.1
      have t6 := t4.2
      rw [pv_two (by omega) (by omega) t2, t5, ← hsol, hs0] at t6
      simp at t6
    have : ∀ n c, c + n ≤ w → opE e c n = 0 := by
      intro n
      induction n with
      | zero => intro c _; rfl
      | succ n ih => intro c hcn; rw [opE, ih (c + 1) (by omega), if_neg (hno c (by omega))]
    exact this w 0 (by omega)
  · have t1 := Nat.two_pow_add_eq_or_of_lt hb 1
    rw [Nat.mul_one] at t1
    rw [hsol, Nat.or_comm, ← t1, Nat.add_comm]
end Go.Proofs.YtciofobedgmbjabDoor.G2
