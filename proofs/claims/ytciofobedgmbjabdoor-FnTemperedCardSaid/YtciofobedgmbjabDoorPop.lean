/- Plain facts: how many bits of a number are 1; the steps of math/bits.OnesCount64; the lowest bit taken away. No program here. -/
import Derived.WalkKit
namespace Go.Proofs.YtciofobedgmbjabDoor.Pop
set_option maxRecDepth 100000

/-- how many of the lowest f bits of n are 1 -/
def pcF : Nat → Nat → Nat
  | 0, _ => 0
  | f + 1, n => n % 2 + pcF f (n / 2)

theorem pcF_le : ∀ f n, pcF f n ≤ f := by
  intro f
  induction f with
  | zero => intro n; simp [pcF]
  | succ f ih => intro n; have := ih (n / 2); simp only [pcF]; omega

theorem pcF_split : ∀ j f a b, a < 2 ^ j → pcF (j + f) (a + 2 ^ j * b) = pcF j a + pcF f b := by
  intro j
  induction j with
  | zero => intro f a b h; have : a = 0 := by simpa using h
            subst this; simp [pcF]
  | succ j ih =>
    intro f a b h
    rw [show j + 1 + f = (j + f) + 1 by omega, Nat.pow_succ]
    simp only [pcF]
    have e1 : (a + 2 ^ j * 2 * b) % 2 = a % 2 := by rw [Nat.mul_assoc, Nat.mul_left_comm]; omega
    have e2 : (a + 2 ^ j * 2 * b) / 2 = a / 2 + 2 ^ j * b := by rw [Nat.mul_assoc, Nat.mul_left_comm]; omega
    rw [e1, e2, ih f (a / 2) b (by rw [Nat.pow_succ] at h; omega)]
    omega

theorem and_two (a b : Nat) : a &&& b = (a % 2) * (b % 2) + 2 * (a / 2 &&& b / 2) := by
  have h1 : (a &&& b) / 2 = a / 2 &&& b / 2 := Nat.and_div_two
  have h2 : (a &&& b) % 2 = (a % 2) * (b % 2) := by
    have := Nat.and_mod_two_pow (a := a) (b := b) (n := 1)
    rw [Nat.pow_one] at this
    rw [this]
    have ha : a % 2 = 0 ∨ a % 2 = 1 := by omega
    have hb : b % 2 = 0 ∨ b % 2 = 1 := by omega
    rcases ha with ha | ha <;> rcases hb with hb | hb <;> rw [ha, hb] <;> rfl
  omega

/-- the lowest bit that is 1 taken away -/
theorem pcF_low : ∀ f n, 0 < n → n < 2 ^ f → pcF f (n &&& (n - 1)) + 1 = pcF f n := by
  intro f
  induction f with
  | zero => intro n h0 h1; simp at h1; omega
  | succ f ih =>
    intro n h0 h1
    rw [Nat.pow_succ] at h1
    have ha := and_two n (n - 1)
    simp only [pcF]
    by_cases ho : n % 2 = 1
    · have e : (n - 1) / 2 = n / 2 := by omega
      have e2 : (n - 1) % 2 = 0 := by omega
      rw [e, e2, Nat.mul_zero, Nat.and_self] at ha
      have e3 : (n &&& (n - 1)) % 2 = 0 := by omega
      have e4 : (n &&& (n - 1)) / 2 = n / 2 := by omega
      rw [e3, e4, ho]; omega
    · have e : (n - 1) / 2 = n / 2 - 1 := by omega
      have e2 : n % 2 = 0 := by omega
      rw [e, e2, Nat.zero_mul] at ha
      have e3 : (n &&& (n - 1)) % 2 = 0 := by omega
      have e4 : (n &&& (n - 1)) / 2 = n / 2 &&& (n / 2 - 1) := by omega
      rw [e3, e4, e2]
      have := ih (n / 2) (by omega) (by omega)
      omega
theorem low_lt (n : Nat) (h : 0 < n) : n &&& (n - 1) < n := Nat.lt_of_le_of_lt Nat.and_le_right (by omega)

/-- a mask of j bytes -/
def mask (m : Nat) : Nat → Nat
  | 0 => 0
  | j + 1 => m + 256 * mask m j

theorem and_block (a b c d : Nat) (ha : a < 256) (hc : c < 256) : (a + 256 * b) &&& (c + 256 * d) = (a &&& c) + 256 * (b &&& d) := by
  have h1 : ((a + 256 * b) &&& (c + 256 * d)) % 2 ^ 8 = a &&& c := by
    rw [Nat.and_mod_two_pow, show (a + 256 * b) % 2 ^ 8 = a by omega, show (c + 256 * d) % 2 ^ 8 = c by omega]
  have h2 : ((a + 256 * b) &&& (c + 256 * d)) / 2 ^ 8 = b &&& d := by
    rw [Nat.and_div_two_pow, show (a + 256 * b) / 2 ^ 8 = b by omega, show (c + 256 * d) / 2 ^ 8 = d by omega]
  omega

def S1 (j x : Nat) : Nat := (x / 2 &&& mask 85 j) + (x &&& mask 85 j)
def S2 (j x : Nat) : Nat := (x / 4 &&& mask 51 j) + (x &&& mask 51 j)
def S3 (j x : Nat) : Nat := (x / 16 + x) &&& mask 15 j
def t1 (a : Nat) : Nat := (a / 2 &&& 85) + (a &&& 85)
def t2 (a : Nat) : Nat := (a / 4 &&& 51) + (a &&& 51)
def t3 (a : Nat) : Nat := (a / 16 + a) &&& 15

theorem c1 : ∀ a, a < 256 → ∀ r, r < 2 → (a / 2 + 128 * r) &&& 85 = a / 2 &&& 85 := by decide +kernel
theorem c2 : ∀ a, a < 256 → ∀ r, r < 4 → (a / 4 + 64 * r) &&& 51 = a / 4 &&& 51 := by decide +kernel
theorem c3 : ∀ a, a < 69 → ∀ r, r < 5 → (a / 16 + 16 * r + a) &&& 15 = (a / 16 + a) &&& 15 := by decide +kernel
theorem c4 : ∀ a, a < 256 → t1 a < 256 ∧ t2 (t1 a) < 69 ∧ t2 (t1 a) % 16 < 5 ∧ t3 (t2 (t1 a)) = pcF 8 a := by decide +kernel

theorem S1_step (j a b : Nat) (ha : a < 256) : S1 (j + 1) (a + 256 * b) = t1 a + 256 * S1 j b := by
  unfold S1 t1
  rw [show mask 85 (j + 1) = 85 + 256 * mask 85 j from rfl, and_block a b _ _ ha (by omega), show (a + 256 * b) / 2 = (a / 2 + 128 * (b % 2)) + 256 * (b / 2) by omega, and_block _ _ _ _ (by omega) (by omega), c1 a ha _ (by omega)]
  omega
theorem S2_step (j a b : Nat) (ha : a < 256) : S2 (j + 1) (a + 256 * b) = t2 a + 256 * S2 j b := by
  unfold S2 t2
  rw [show mask 51 (j + 1) = 51 + 256 * mask 51 j from rfl, and_block a b _ _ ha (by omega), show (a + 256 * b) / 4 = (a / 4 + 64 * (b % 4)) + 256 * (b / 4) by omega, and_block _ _ _ _ (by omega) (by omega), c2 a ha _ (by omega)]
  omega
theorem S3_step (j a b : Nat) (ha : a < 69) (hb : b % 16 < 5) : S3 (j + 1) (a + 256 * b) = t3 a + 256 * S3 j b := by
  unfold S3 t3
  rw [show mask 15 (j + 1) = 15 + 256 * mask 15 j from rfl, show (a + 256 * b) / 16 + (a + 256 * b) = (a / 16 + 16 * (b % 16) + a) + 256 * (b / 16 + b) by omega, and_block _ _ _ _ (by omega) (by omega), c3 a ha _ hb]

/-- the first three steps over j bytes -/
def C (j x : Nat) : Nat := S3 j (S2 j (S1 j x))
theorem nib (j x : Nat) : S2 j (S1 j x) % 16 < 5 := by
  cases j with
  | zero => simp [S2, S1, mask]
  | succ j =>
    rw [show x = x % 256 + 256 * (x / 256) by omega, S1_step j _ _ (by omega), S2_step j _ _ ((c4 _ (by omega)).1)]
    have := (c4 (x % 256) (by omega)).2.2.1
    omega
theorem C_step (j a b : Nat) (ha : a < 256) : C (j + 1) (a + 256 * b) = pcF 8 a + 256 * C j b := by
  have h := c4 a ha
  unfold C
  rw [S1_step j a b ha, S2_step j _ _ h.1, S3_step j _ _ h.2.1 (nib j b), h.2.2.2]

theorem div1 (u v y : Nat) (h : y = u + 256 * v) (hu : u < 256) : y / 256 = v := by omega
theorem div2 (u v s y : Nat) {w : Nat} (h : y = u + 256 * v) (g : v = s + 256 * w) (hu : u < 256) (hs : s < 256) : y / 65536 = w := by omega
theorem div4 (u0 u1 u2 u3 v1 v2 v3 w y : Nat) (h0 : y = u0 + 256 * v1) (h1 : v1 = u1 + 256 * v2) (h2 : v2 = u2 + 256 * v3) (h3 : v3 = u3 + 256 * w) (l0 : u0 < 256) (l1 : u1 < 256) (l2 : u2 < 256) (l3 : u3 < 256) : y / 4294967296 = w := by
  have e1 : y / 65536 = v2 := div2 u0 v1 u1 y h0 h1 l0 l1
  have e2 : v2 / 65536 = w := div2 u2 v3 u3 v2 h2 h3 l2 l3
  rw [show (4294967296 : Nat) = 65536 * 65536 by rfl, ← Nat.div_div_eq_div_mul, e1, e2]

/-- the last steps of 8 bytes of at most 8 each -/
theorem fold8 (a0 a1 a2 a3 a4 a5 a6 a7 Y1 Y2 Y3 Y4 Y5 Y6 y : Nat) (h0 : a0 ≤ 8) (h1 : a1 ≤ 8) (h2 : a2 ≤ 8) (h3 : a3 ≤ 8) (h4 : a4 ≤ 8) (h5 : a5 ≤ 8) (h6 : a6 ≤ 8) (h7 : a7 ≤ 8)
    (g0 : y = a0 + 256 * Y1) (g1 : Y1 = a1 + 256 * Y2) (g2 : Y2 = a2 + 256 * Y3) (g3 : Y3 = a3 + 256 * Y4) (g4 : Y4 = a4 + 256 * Y5) (g5 : Y5 = a5 + 256 * Y6) (g6 : Y6 = a6 + 256 * a7)
    (y1 y2 y3 : Nat) (e1 : y1 = y + y / 256) (e2 : y2 = y1 + y1 / 65536) (e3 : y3 = y2 + y2 / 4294967296) :
    y3 % 128 = a0 + a1 + a2 + a3 + a4 + a5 + a6 + a7 ∧ y3 < 9223372036854775808 ∧ y1 < 18446744073709551616 ∧ y2 < 18446744073709551616 ∧ y < 18446744073709551616 := by
  rw [div1 a0 Y1 y g0 (by omega)] at e1
  have z0 : y1 = (a0 + a1) + 256 * (Y1 + Y2) := by omega
  have z1 : Y1 + Y2 = (a1 + a2) + 256 * (Y2 + Y3) := by omega
  have z2 : Y2 + Y3 = (a2 + a3) + 256 * (Y3 + Y4) := by omega
  have z3 : Y3 + Y4 = (a3 + a4) + 256 * (Y4 + Y5) := by omega
  have z4 : Y4 + Y5 = (a4 + a5) + 256 * (Y5 + Y6) := by omega
  have z5 : Y5 + Y6 = (a5 + a6) + 256 * (Y6 + a7) := by omega
  have z6 : Y6 + a7 = (a6 + a7) + 256 * a7 := by omega
  rw [div2 _ _ (a1 + a2) y1 z0 z1 (by omega) (by omega)] at e2
  obtain ⟨Z1, q1⟩ : ∃ z, Y1 + Y2 = z := ⟨_, rfl⟩
  obtain ⟨Z2, q2⟩ : ∃ z, Y2 + Y3 = z := ⟨_, rfl⟩
  obtain ⟨Z3, q3⟩ : ∃ z, Y3 + Y4 = z := ⟨_, rfl⟩
  obtain ⟨Z4, q4⟩ : ∃ z, Y4 + Y5 = z := ⟨_, rfl⟩
  obtain ⟨Z5, q5⟩ : ∃ z, Y5 + Y6 = z := ⟨_, rfl⟩
  obtain ⟨Z6, q6⟩ : ∃ z, Y6 + a7 = z := ⟨_, rfl⟩
  have bY6 : Y6 ≤ 2056 := by omega
  have bY5 : Y5 ≤ 526344 := by omega
  have bY4 : Y4 ≤ 134744072 := by omega
  have bY3 : Y3 ≤ 34494482440 := by omega
  have bY2 : Y2 ≤ 8830587504648 := by omega
  have bY1 : Y1 ≤ 2260630401189896 := by omega
  have bY0 : y ≤ 578721382704613384 := by omega
  rw [q1] at z0 z1
  rw [q2] at z1 z2 e2
  rw [q3] at z2 z3
  rw [q4] at z3 z4
  rw [q5] at z4 z5
  rw [q6] at z5 z6
  have bZ2 : Z2 ≤ 8865081987088 := by omega
  have bZ4 : Z4 ≤ 135270416 := by omega
  have by1 : y1 ≤ 580982013105803280 := by omega
  clear g0 g1 g2 g3 g4 g5 g6 e1 q1 q2 q3 q4 q5 q6 bY6 bY5 bY4 bY3 bY2 bY1
  have u0 : y2 = (a0 + a1 + (a2 + a3)) + 256 * (Z1 + Z3) := by omega
  have u1 : Z1 + Z3 = (a1 + a2 + (a3 + a4)) + 256 * (Z2 + Z4) := by omega
  have u2 : Z2 + Z4 = (a2 + a3 + (a4 + a5)) + 256 * (Z3 + Z5) := by omega
  have u3 : Z3 + Z5 = (a3 + a4 + (a5 + a6)) + 256 * (Z4 + Z6) := by omega
  have u4 : Z4 + Z6 = (a4 + a5 + (a6 + a7)) + 256 * (Z5 + a7) := by omega
  rw [div4 _ _ _ _ _ _ _ _ y2 u0 u1 u2 u3 (by omega) (by omega) (by omega) (by omega)] at e3
  have bZ6 : Z4 + Z6 ≤ 270540832 := by omega
  have by2 : y2 ≤ 580990878187790368 := by omega
  clear z0 z1 z2 z3 z4 z5 z6 e2 u1 u2 u3
  refine ⟨by omega, by omega, by omega, by omega, by omega⟩

theorem C8 (x : Nat) (hx : x < 18446744073709551616) (y1 y2 y3 : Nat) (e1 : y1 = C 8 x + C 8 x / 256) (e2 : y2 = y1 + y1 / 65536) (e3 : y3 = y2 + y2 / 4294967296) :
    y3 % 128 = pcF 64 x ∧ y3 < 9223372036854775808 ∧ y1 < 18446744073709551616 ∧ y2 < 18446744073709551616 ∧ C 8 x < 18446744073709551616 := by
  obtain ⟨b0, x1, r0, l0⟩ : ∃ b r, x = b + 256 * r ∧ b < 256 := ⟨x % 256, x / 256, by omega, by omega⟩
  obtain ⟨b1, x2, r1, l1⟩ : ∃ b r, x1 = b + 256 * r ∧ b < 256 := ⟨x1 % 256, x1 / 256, by omega, by omega⟩
  obtain ⟨b2, x3, r2, l2⟩ : ∃ b r, x2 = b + 256 * r ∧ b < 256 := ⟨x2 % 256, x2 / 256, by omega, by omega⟩
  obtain ⟨b3, x4, r3, l3⟩ : ∃ b r, x3 = b + 256 * r ∧ b < 256 := ⟨x3 % 256, x3 / 256, by omega, by omega⟩
  obtain ⟨b4, x5, r4, l4⟩ : ∃ b r, x4 = b + 256 * r ∧ b < 256 := ⟨x4 % 256, x4 / 256, by omega, by omega⟩
  obtain ⟨b5, x6, r5, l5⟩ : ∃ b r, x5 = b + 256 * r ∧ b < 256 := ⟨x5 % 256, x5 / 256, by omega, by omega⟩
  obtain ⟨b6, x7, r6, l6⟩ : ∃ b r, x6 = b + 256 * r ∧ b < 256 := ⟨x6 % 256, x6 / 256, by omega, by omega⟩
  have l7 : x7 < 256 := by omega
  have r7 : x7 = x7 + 256 * 0 := by omega
  have hC : C 8 x = pcF 8 b0 + 256 * (pcF 8 b1 + 256 * (pcF 8 b2 + 256 * (pcF 8 b3 + 256 * (pcF 8 b4 + 256 * (pcF 8 b5 + 256 * (pcF 8 b6 + 256 * pcF 8 x7)))))) := by
    rw [r0, C_step 7 _ _ l0, r1, C_step 6 _ _ l1, r2, C_step 5 _ _ l2, r3, C_step 4 _ _ l3, r4, C_step 3 _ _ l4, r5, C_step 2 _ _ l5, r6, C_step 1 _ _ l6]
    conv => lhs; rw [r7]
    rw [C_step 0 _ _ l7]
    simp [C, S3, mask]
  have hp : pcF 64 x = pcF 8 b0 + pcF 8 b1 + pcF 8 b2 + pcF 8 b3 + pcF 8 b4 + pcF 8 b5 + pcF 8 b6 + pcF 8 x7 := by
    rw [r0, show (64 : Nat) = 8 + 56 by omega, pcF_split 8 56 b0 x1 l0, r1, show (56 : Nat) = 8 + 48 by omega, pcF_split 8 48 b1 x2 l1, r2, show (48 : Nat) = 8 + 40 by omega, pcF_split 8 40 b2 x3 l2, r3, show (40 : Nat) = 8 + 32 by omega, pcF_split 8 32 b3 x4 l3, r4, show (32 : Nat) = 8 + 24 by omega, pcF_split 8 24 b4 x5 l4, r5, show (24 : Nat) = 8 + 16 by omega, pcF_split 8 16 b5 x6 l5, r6, show (16 : Nat) = 8 + 8 by omega, pcF_split 8 8 b6 x7 l6]
    omega
  have := fold8 _ _ _ _ _ _ _ _ _ _ _ _ _ _ _ (pcF_le 8 b0) (pcF_le 8 b1) (pcF_le 8 b2) (pcF_le 8 b3) (pcF_le 8 b4) (pcF_le 8 b5) (pcF_le 8 b6) (pcF_le 8 x7) hC rfl rfl rfl rfl rfl rfl y1 y2 y3 e1 e2 e3
  rw [hp]
  exact this
end Go.Proofs.YtciofobedgmbjabDoor.Pop
