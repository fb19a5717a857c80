/- The factors of a polynomial: impl.FactorsOf, spec.FactorsOf, the law FnExactFactorsOf. -/
import Derived.Test.YtapccbplmbbnnabLawPower
import Derived.Test.YtapccbplmbbnnabSlice64
namespace Go.Proofs.Ytapccbplmbbnnab
open Go.RowKit Go.PlainAid
set_option maxHeartbeats 400000

/-- a quotient's bits -/
theorem divF_or : ∀ f q a d, (Pl.divF f q a d).1 = q ||| (Pl.divF f 0 a d).1 := by
  intro f
  induction f with
  | zero => intro q a d; simp [Pl.divF]
  | succ f ih =>
    intro q a d
    by_cases h : Pl.len a < Pl.len d
    · rw [Pl.divF_end h, Pl.divF_end h]; simp
    · rw [Pl.divF_next h, Pl.divF_next h, ih, ih (0 ||| _), Nat.zero_or, Nat.or_assoc]
theorem divF_lt {d : Nat} (hd : 0 < d) : ∀ f a, (Pl.divF f 0 a d).1 < 2 ^ (Pl.len a + 1 - Pl.len d) := by
  intro f
  induction f with
  | zero => intro a; exact Nat.pow_pos (by omega)
  | succ f ih =>
    intro a
    by_cases h : Pl.len a < Pl.len d
    · rw [Pl.divF_end h]; exact Nat.pow_pos (by omega)
    · have hc := Pl.len_cut hd (show Pl.len d ≤ Pl.len a by omega)
      have h1 := ih (a ^^^ d * 2 ^ (Pl.len a - Pl.len d))
      rw [Pl.divF_next h, divF_or, Nat.zero_or]
      apply Nat.or_lt_two_pow
      · exact Nat.pow_lt_pow_right (by omega) (by omega)
      · exact Nat.lt_of_lt_of_le h1 (Nat.pow_le_pow_right (by omega) (by omega))
theorem quo_len {a d : Nat} (hd : 0 < d) (h : Pl.len d ≤ Pl.len a) : Pl.len (Pl.quo d a) = Pl.len a - Pl.len d + 1 := by
  have h1 := divF_lt hd 64 a
  rw [show Pl.len a + 1 - Pl.len d = Pl.len a - Pl.len d + 1 by omega] at h1
  apply Pl.len_eq
  · unfold Pl.quo
    rw [Pl.divF_next (by omega), divF_or, Nat.zero_or]
    exact Nat.left_le_or
  · exact h1
theorem len_two {q : Nat} (h : 2 ≤ q) : 2 ≤ Pl.len q := by
  have h1 := Pl.len_half q (by omega)
  have h2 := Pl.len_pos (show 0 < q / 2 by omega)
  omega
theorem len_mono {a b : Nat} (h : a ≤ b) : Pl.len a ≤ Pl.len b := Pl.len_of_lt _ _ (Nat.lt_of_le_of_lt h (Pl.lt_len b))

/-- the factors, from q on -/
def fac : Nat → Nat → Nat → List Int
  | 0, _, _ => []
  | f + 1, p, q => if 2 * Pl.len q ≤ Pl.len p + 1 then (if Pl.rem q p = 0 then (q : Int) :: fac f (Pl.quo q p) q else fac f p (q + 1)) else (if p = 1 then [] else [(p : Int)])
def facM (p q : Nat) : Nat := Pl.len p * 262144 + (131072 - q)
theorem len_one : Pl.len 1 = 1 := rfl
theorem fac_one (f q : Nat) (hq : 2 ≤ q) : fac f 1 q = [] := by
  cases f with
  | zero => rfl
  | succ f =>
    have := len_two hq
    rw [fac, len_one, if_neg (by omega), if_pos rfl]
/-- what the loops keep -/
def FacP (T : List Int) (f p q : Nat) (l : List Int) : Prop := 1 ≤ p ∧ p < 131072 ∧ 2 ≤ q ∧ facM p q < f ∧ l.length + Pl.len p ≤ 18 ∧ l ++ fac f p q = T
theorem FacP.take {T : List Int} {f p q : Nat} {l : List Int} (h : FacP T f p q l) (h1 : 2 * Pl.len q ≤ Pl.len p + 1) (h2 : Pl.rem q p = 0) :
    FacP T (f - 1) (Pl.quo q p) q (l ++ [(q : Int)]) ∧ facM (Pl.quo q p) q < facM p q := by
  obtain ⟨a, b, c, d, e, g⟩ := h
  have hq := len_two c
  have hl := quo_len (a := p) (d := q) (by omega) (by omega)
  have hm : facM (Pl.quo q p) q < facM p q := by unfold facM; omega
  obtain ⟨f', rfl⟩ : ∃ f', f = f' + 1 := ⟨f - 1, by omega⟩
  rw [fac, if_pos h1, if_pos h2] at g
  have hp : 0 < Pl.quo q p := Nat.pos_of_ne_zero (fun x => by rw [x, Pl.len_zero] at hl; omega)
  have hb : Pl.quo q p < 2 ^ 17 := Pl.lt_of_len (by
    have := Pl.len_of_lt 17 p b
    omega)
  exact ⟨⟨hp, hb, c, by rw [Nat.add_sub_cancel]; omega, by simp; omega, by rw [Nat.add_sub_cancel, List.append_assoc]; exact g⟩, hm⟩
theorem FacP.skip {T : List Int} {f p q : Nat} {l : List Int} (h : FacP T f p q l) (h1 : 2 * Pl.len q ≤ Pl.len p + 1) (h2 : ¬ Pl.rem q p = 0) :
    FacP T (f - 1) p (q + 1) l ∧ facM p (q + 1) < facM p q ∧ q < 1024 := by
  obtain ⟨a, b, c, d, e, g⟩ := h
  have hp := Pl.len_of_lt 17 p b
  have hq : q < 2 ^ 9 := Pl.lt_of_len (by omega)
  have hm : facM p (q + 1) < facM p q := by unfold facM; omega
  obtain ⟨f', rfl⟩ : ∃ f', f = f' + 1 := ⟨f - 1, by omega⟩
  rw [fac, if_pos h1, if_neg h2] at g
  exact ⟨⟨a, b, by omega, by rw [Nat.add_sub_cancel]; omega, e, by rw [Nat.add_sub_cancel]; exact g⟩, hm, by omega⟩
theorem FacP.last {T : List Int} {f p q : Nat} {l : List Int} (h : FacP T f p q l) (h1 : ¬ 2 * Pl.len q ≤ Pl.len p + 1) : T = if p = 1 then l else l ++ [(p : Int)] := by
  obtain ⟨a, b, c, d, e, g⟩ := h
  obtain ⟨f', rfl⟩ : ∃ f', f = f' + 1 := ⟨f - 1, by omega⟩
  rw [fac, if_neg h1] at g
  rw [← g]
  split <;> simp
theorem FacP.own {T : List Int} {f p q : Nat} {l : List Int} (h : FacP T f p q l) (h1 : ¬ 2 * Pl.len q ≤ Pl.len p + 1) (h2 : 1 < p) :
    FacP T (f - 1) 1 p (l ++ [(p : Int)]) ∧ facM 1 p < facM p q := by
  have hT := h.last h1
  rw [if_neg (by omega)] at hT
  obtain ⟨a, b, c, d, e, g⟩ := h
  have hp := len_two h2
  have hm : facM 1 p < facM p q := by unfold facM; rw [len_one]; omega
  exact ⟨⟨Nat.le_refl _, by omega, by omega, by omega, by simp [len_one]; omega, by rw [fac_one _ _ (by omega), List.append_nil]; exact hT.symm⟩, hm⟩
theorem FacP.done {T : List Int} {f q : Nat} {l : List Int} (h : FacP T f 1 q l) : T = l := by
  obtain ⟨a, b, c, d, e, g⟩ := h
  rw [fac_one _ _ c, List.append_nil] at g
  exact g.symm
def facT (n : Nat) : List Int := fac 8388608 n 2
theorem FacP.start {n : Nat} (h0 : 1 ≤ n) (h1 : n < 131072) : FacP (facT n) 8388608 n 2 [] := by
  have := Pl.len_of_lt 17 n h1
  exact ⟨h0, h1, Nat.le_refl _, by unfold facM; omega, by simp; omega, rfl⟩
theorem rem_own {p : Nat} (h : 0 < p) : Pl.rem p p = 0 ∧ Pl.quo p p = 1 := by
  refine ⟨Pl.rem_self h, ?_⟩
  have h1 := quo_len (a := p) (d := p) h (Nat.le_refl _)
  rw [Nat.sub_self] at h1
  have h2 := Pl.lt_len (Pl.quo p p)
  rw [h1] at h2
  have h3 : Pl.quo p p ≠ 0 := fun x => by rw [x, Pl.len_zero] at h1; omega
  omega
theorem fac_len {T : List Int} {f p q : Nat} {l : List Int} (h : FacP T f p q l) : l.length ≤ 18 := by have := h.2.2.2.2.1; omega
theorem fac_length : ∀ f p q, p < 131072 → 1 ≤ p → 2 ≤ q → (fac f p q).length ≤ Pl.len p := by
  intro f
  induction f with
  | zero => intro p q _ _ _; simp [fac]
  | succ f ih =>
    intro p q h1 h0 h2
    have hq := len_two h2
    rw [fac]
    split
    · rename_i hc
      split
      · have hl := quo_len (a := p) (d := q) (by omega) (by omega)
        have hp := Pl.len_of_lt 17 p h1
        have hlt : Pl.quo q p < 2 ^ 17 := Pl.lt_of_len (by omega)
        have hpos : 0 < Pl.quo q p := Nat.pos_of_ne_zero (fun x => by rw [x, Pl.len_zero] at hl; omega)
        have := ih (Pl.quo q p) q hlt hpos h2
        rw [List.length_cons]
        omega
      · exact ih p (q + 1) h1 h0 (by omega)
    · have := Pl.len_pos (show 0 < p by omega)
      split <;> simp
      omega
theorem facT_len {n : Nat} (h0 : 1 ≤ n) (h1 : n < 131072) : (facT n).length ≤ 400 := by
  have a := fac_length 8388608 n 2 h1 h0 (Nat.le_refl _)
  have b := Pl.len_of_lt 17 n h1
  unfold facT
  omega
end Go.Proofs.Ytapccbplmbbnnab
