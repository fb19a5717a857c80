/- Plain facts on the periods of registers: what the order of the polynomial says of them. No walk here. -/
import Derived.Test.YtapccbplmbbnnacJumpMath
import Derived.Test.YtapccbplmbbnnacRegCyc
import Derived.Test.YtapccbplmbbnnacOrder
namespace Go.Proofs.Ytapccbplmbbnnac

theorem CycP.unlike {s : Nat → Nat} {b c : Nat} (h : CycP s b c) : Unlike s (b + c) := fun i j hij hj e => by
  have := h.2.2.2 i (j - i) (by omega) (by rw [show i + (j - i) = j by omega]; exact e.symm)
  omega
theorem CycP.fits {s : Nat → Nat} {b c N : Nat} (h : CycP s b c) (hs : ∀ i, s i < N) : b + c ≤ N := by
  have hu := h.unlike
  have hc := h.1
  obtain ⟨k, hk⟩ : ∃ k, b + c = k + 1 := ⟨b + c - 1, by omega⟩
  rw [hk] at hu ⊢
  exact Unlike.room hs hu
theorem CycP.divides {s : Nat → Nat} {c m : Nat} (hst : Steps s) (h : CycP s 0 c) (e : s m = s 0) : m % c = 0 := by
  have hper : ∀ q r, s (r + q * c) = s r := by
    intro q
    induction q with
    | zero => intro r; simp
    | succ q ih =>
      intro r
      have h1 := h.2.1
      rw [Nat.succ_mul, ← Nat.add_assoc]
      have := hst.from h1 (i := r + q * c) (by omega)
      rw [this, ih]
  have h2 := hper (m / c) (m % c)
  have h3 : m % c + m / c * c = m := by rw [Nat.mul_comm]; exact Nat.mod_add_div m c
  rw [h3, e] at h2
  apply Classical.byContradiction
  intro hne
  have := (h.2.2.2 0 (m % c) (by omega) (by rw [Nat.zero_add]; exact h2.symm)).1
  have := Nat.mod_lt m h.1
  omega
theorem jmp_bits (p s : Nat) : ∀ k n n', jmp p s n k = jmp p s n' k → ∀ i, i < k → pr (Pl.pw p (n + i)) s = pr (Pl.pw p (n' + i)) s := by
  intro k
  induction k with
  | zero => intro n n' _ i hi; omega
  | succ k ih =>
    intro n n' h i hi
    rw [jmp_front, jmp_front] at h
    have a := pr_lt (Pl.pw p n) s
    have b := pr_lt (Pl.pw p n') s
    cases i with
    | zero => rw [Nat.add_zero, Nat.add_zero]; omega
    | succ i =>
      have := ih (n + 1) (n' + 1) (by omega) i (by omega)
      rwa [show n + 1 + i = n + (i + 1) by omega, show n' + 1 + i = n' + (i + 1) by omega] at this
theorem jmp_none (p s : Nat) : ∀ k n, (∀ i, i < k → pr (Pl.pw p (n + i)) s = 0) → jmp p s n k = 0 := by
  intro k
  induction k with
  | zero => intro n _; rfl
  | succ k ih =>
    intro n h
    rw [jmp_front, ih (n + 1) (fun i hi => by rw [show n + 1 + i = n + (i + 1) by omega]; exact h (i + 1) (by omega))]
    have := h 0 (by omega)
    rw [Nat.add_zero] at this
    omega
theorem jmp_same (p s : Nat) : ∀ k n n', (∀ i, i < k → pr (Pl.pw p (n + i)) s = pr (Pl.pw p (n' + i)) s) → jmp p s n k = jmp p s n' k := by
  intro k
  induction k with
  | zero => intro n n' _; rfl
  | succ k ih =>
    intro n n' h
    rw [jmp_front, jmp_front, ih (n + 1) (n' + 1) (fun i hi => by rw [show n + 1 + i = n + (i + 1) by omega, show n' + 1 + i = n' + (i + 1) by omega]; exact h (i + 1) (by omega))]
    have := h 0 (by omega)
    rw [Nat.add_zero, Nat.add_zero] at this
    omega
theorem pw_shift {p : Nat} (hp : 0 < p) (n i : Nat) : Pl.pw p (n + i) = Pl.rem p (Pl.pw p n * 2 ^ i) := by
  have h := Pl.rem_shl hp (2 ^ n) i
  show Pl.rem p (2 ^ (n + i)) = _
  rw [Nat.pow_add, ← h]
  rfl
theorem pw_same {p : Nat} (hp : 0 < p) {n m : Nat} (h : Pl.pw p n = Pl.pw p m) (i : Nat) : Pl.pw p (n + i) = Pl.pw p (m + i) := by
  rw [pw_shift hp, pw_shift hp, h]

/-- behind as many steps as the order, every state has come again -/
theorem itr_order {W T S c : Nat} (hW : W ≤ 16) (hT : T < 2 ^ W) (hS : S < 2 ^ W) (ho : OrdP (polyN2 W T) c) : itr W T S c = S := by
  rw [← jmp_itr hW hT hS c]
  conv => rhs; rw [← jmp_zero (t := T) hW hT hS]
  refine jmp_same _ _ _ _ _ fun i _ => ?_
  rw [pw_same (poly_pos W T) ho.2.1 i]
theorem nxt_none {W T : Nat} (hW : W ≤ 16) (hT : T < 2 ^ W) : nxt W T 0 = 0 := by
  have h : ∀ n, jmp (polyN2 W T) 0 n W = 0 := fun n => jmp_none _ _ _ _ fun i _ => by
    unfold pr
    rw [Nat.and_zero, pc_zero]
  have := jmp_next (s := 0) hW hT 0
  rw [h 0, h 1] at this
  exact this
theorem itr_dead {W T : Nat} (hW : W ≤ 16) (hT : T < 2 ^ W) : ∀ n, itr W T 0 n = 0 := by
  intro n
  induction n with
  | zero => rfl
  | succ n ih =>
    show nxt W T (itr W T 0 n) = 0
    rw [ih]
    exact nxt_none hW hT
def gap (y v : Nat) : Nat := if v < y then v - 1 else v - 2
theorem gap_lt {y v o : Nat} (h0 : 0 < v) (h1 : v ≤ o) (h2 : ¬ v = y) (hy : 0 < y) (hyo : y ≤ o) : gap y v < o - 1 := by
  unfold gap
  by_cases h : v < y
  · rw [if_pos h]; omega
  · rw [if_neg h]; omega
theorem gap_inj {y v u : Nat} (hy : 0 < y) (h0 : 0 < v) (h2 : ¬ v = y) (g0 : 0 < u) (g2 : ¬ u = y) (e : gap y v = gap y u) : v = u := by
  unfold gap at e
  by_cases h : v < y
  · rw [if_pos h] at e
    by_cases g : u < y
    · rw [if_pos g] at e; omega
    · rw [if_neg g] at e; omega
  · rw [if_neg h] at e
    by_cases g : u < y
    · rw [if_pos g] at e; omega
    · rw [if_neg g] at e; omega
/-- if there are as many powers of x as remainders but 0, each of these is one -/
theorem pw_all {p o y : Nat} (h0 : 3 ≤ p) (h1 : p % 2 = 1) (ho : OrdP p o) (hlen : 2 ^ (Pl.len p - 1) = o + 1) (hy : 0 < y) (hyo : y ≤ o) : ∃ m, m < o ∧ Pl.pw p m = y := by
  apply Classical.byContradiction
  intro hno
  have hne : ∀ i, i < o → ¬ Pl.pw p i = y := fun i hi e => hno ⟨i, hi, e⟩
  have hpos : ∀ i, i < o → 0 < Pl.pw p i := fun i hi => by
    apply Nat.pos_of_ne_zero
    intro e
    have h2 := pw_shift (p := p) (by omega) i (o - i)
    rw [e, Nat.zero_mul, Pl.rem_zero, show i + (o - i) = o by omega, ho.2.1, pw_one h0] at h2
    omega
  have hlt : ∀ i, Pl.pw p i ≤ o := fun i => by
    have := Pl.rem_lt (p := p) (by omega) (2 ^ i)
    rw [hlen] at this
    exact Nat.le_of_lt_succ this
  have hop := ho.1
  obtain ⟨i, j, hij, hj, e⟩ := pigeon (o - 1) (fun i => gap y (Pl.pw p i)) (fun i hi => gap_lt (hpos i (by omega)) (hlt i) (hne i (by omega)) hy hyo)
  have e2 : Pl.pw p i = Pl.pw p j := gap_inj hy (hpos i (by omega)) (hne i (by omega)) (hpos j (by omega)) (hne j (by omega)) e
  have e3 := pw_back h1 (j - i) i (by rw [show i + (j - i) = j by omega]; exact e2.symm)
  exact ho.2.2 (j - i) (by omega) (by omega) e3

/-- with a primitive polynomial all states but 0 are on one cycle -/
theorem full_cycle {W T S o c : Nat} (hW : W ≤ 16) (hT : T < 2 ^ W) (hS : S < 2 ^ W) (h0 : 3 ≤ polyN2 W T) (h1 : polyN2 W T % 2 = 1) (ho : OrdP (polyN2 W T) o) (hfull : o + 1 = 2 ^ W) (hne : ¬ S = 0) (hc : CycP (itr W T S) 0 c) : c = o := by
  have hco : c ≤ o := (hc.2.2.2 0 o ho.1 (by rw [Nat.zero_add]; exact itr_order hW hT hS ho)).1
  apply Nat.le_antisymm hco
  apply Nat.le_of_not_lt
  intro hlt
  have hp := poly_pos W T
  have hlen : 2 ^ (Pl.len (polyN2 W T) - 1) = o + 1 := by rw [polyN2_len hT, hfull]; rfl
  have ha : ¬ Pl.pw (polyN2 W T) c = 1 := fun e => ho.2.2 c hc.1 hlt (by rw [e, pw_one h0])
  have hal : Pl.pw (polyN2 W T) c < 2 ^ W := by
    have := Pl.rem_lt hp (2 ^ c)
    rw [hlen, hfull] at this
    exact this
  have hW0 : 0 < W := by
    apply Nat.pos_of_ne_zero
    rintro rfl
    simp at hS
    exact hne hS
  have hy1 : 0 < Pl.pw (polyN2 W T) c ^^^ 1 := by
    apply Nat.pos_of_ne_zero
    intro e
    have := congrArg (· ^^^ 1) e
    simp only [Pl.xor_twice, Nat.zero_xor] at this
    exact ha this
  have hy2 : Pl.pw (polyN2 W T) c ^^^ 1 < 2 ^ W := Nat.xor_lt_two_pow hal (by have : 2 ^ 1 ≤ 2 ^ W := Nat.pow_le_pow_right (by omega) hW0; omega)
  obtain ⟨m, hm, e⟩ := pw_all h0 h1 ho hlen hy1 (by omega)
  have hz : itr W T S m = 0 := by
    rw [← jmp_itr hW hT hS m]
    refine jmp_none _ _ _ _ fun i hi => ?_
    have hb := jmp_bits (polyN2 W T) S W c 0 (by rw [jmp_itr hW hT hS c, jmp_zero hW hT hS]; have := hc.2.1; rwa [Nat.zero_add] at this) i hi
    rw [pw_shift hp, e]
    have e2 : (Pl.pw (polyN2 W T) c ^^^ 1) * 2 ^ i = Pl.pw (polyN2 W T) c * 2 ^ i ^^^ 2 ^ i := by
      have := Pl.xor_shl (Pl.pw (polyN2 W T) c) 1 i
      rwa [Nat.one_mul] at this
    rw [e2, Pl.rem_xor, ← pw_shift hp, pr_xor, hb, Nat.zero_add]
    have := pr_lt (Pl.pw (polyN2 W T) i) S
    show (pr (Pl.pw (polyN2 W T) i) S + pr (Pl.rem (polyN2 W T) (2 ^ i)) S) % 2 = 0
    have e3 : Pl.rem (polyN2 W T) (2 ^ i) = Pl.pw (polyN2 W T) i := rfl
    rw [e3]
    omega
  have h2 := itr_add W T S m (o - m)
  rw [show m + (o - m) = o by omega, hz, itr_dead hW hT, itr_order hW hT hS ho] at h2
  exact hne h2
end Go.Proofs.Ytapccbplmbbnnac
