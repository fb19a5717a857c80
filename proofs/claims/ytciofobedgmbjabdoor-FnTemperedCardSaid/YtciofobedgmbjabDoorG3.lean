/- Elimination of equations over two elements: solvable, the step by a pivot, the least solution by trying, how many bits are free, the rank. No program here. -/
import Derived.Test.YtciofobedgmbjabDoorG2
namespace Go.Proofs.YtciofobedgmbjabDoor.G2
set_option maxHeartbeats 400000

/-- all equations hold -/
def Ker (eqs : List Nat) (x : Nat) : Prop := ∀ r, r ∈ eqs → pv r x = 0
/-- a solution with the bit at w -/
def Sol (eqs : List Nat) (w x : Nat) : Prop := x.testBit w = true ∧ (∀ j, w < j → x.testBit j = false) ∧ Ker eqs x
def Slv (eqs : List Nat) (w : Nat) : Prop := ∃ x, Sol eqs w x
theorem ker_nil (x : Nat) : Ker [] x := fun r h => absurd h (by simp)
theorem ker_snoc (eqs : List Nat) (r x : Nat) : Ker (eqs ++ [r]) x ↔ Ker eqs x ∧ pv r x = 0 := by
  constructor
  · intro h; exact ⟨fun q hq => h q (by simp [hq]), h r (by simp)⟩
  · rintro ⟨h1, h2⟩ q hq
    rcases List.mem_append.1 hq with g | g
    · exact h1 q g
    · rw [List.mem_singleton.1 g]; exact h2
/-- the rows behind a step of the elimination: the pivot's row is left out, and added to those with the bit c -/
def elim (c at_ p : Nat) : List Nat → Nat → List Nat
  | [], _ => []
  | r :: l, i => if i = at_ then elim c at_ p l (i + 1) else (if r.testBit c then r ^^^ p else r) :: elim c at_ p l (i + 1)
theorem elim_snoc (c at_ p : Nat) (r : Nat) : ∀ (l : List Nat) i, elim c at_ p (l ++ [r]) i = elim c at_ p l i ++ (if i + l.length = at_ then [] else [if r.testBit c then r ^^^ p else r]) := by
  intro l
  induction l with
  | nil => intro i; simp [elim]
  | cons a l ih =>
    intro i
    rw [List.cons_append, elim, elim, ih (i + 1)]
    rw [show i + 1 + l.length = i + (a :: l).length by simp; omega]
    by_cases h : i = at_
    · rw [if_pos h, if_pos h]
    · rw [if_neg h, if_neg h]; rfl
theorem mem_elim {c at_ p q : Nat} : ∀ (l : List Nat) i, q ∈ elim c at_ p l i ↔ ∃ k, ∃ h : k < l.length, ¬ i + k = at_ ∧ q = (if (l[k]).testBit c then l[k] ^^^ p else l[k]) := by
  intro l
  induction l with
  | nil => intro i; simp [elim]
  | cons a l ih =>
    intro i
    rw [elim]
    have key : (∃ k, ∃ h : k < l.length, ¬ i + 1 + k = at_ ∧ q = (if (l[k]).testBit c then l[k] ^^^ p else l[k])) ↔ ∃ k, ∃ h : k + 1 < (a :: l).length, ¬ i + (k + 1) = at_ ∧ q = (if ((a :: l)[k + 1]).testBit c then (a :: l)[k + 1] ^^^ p else (a :: l)[k + 1]) := by
      constructor
      · rintro ⟨k, h, h1, h2⟩; exact ⟨k, by simp; omega, by omega, by simpa using h2⟩
      · rintro ⟨k, h, h1, h2⟩; exact ⟨k, by simp at h; omega, by omega, by simpa using h2⟩
    by_cases h : i = at_
    · rw [if_pos h, ih, key]
      constructor
      · rintro ⟨k, h1, h2⟩; exact ⟨k + 1, h1, h2⟩
      · rintro ⟨k, h1, h2, h3⟩
        cases k with
        | zero => exact absurd h (by omega)
        | succ k => exact ⟨k, h1, h2, h3⟩
    · rw [if_neg h, List.mem_cons, ih, key]
      constructor
      · rintro (g | ⟨k, h1, h2⟩)
        · exact ⟨0, by simp, by omega, by simpa using g⟩
        · exact ⟨k + 1, h1, h2⟩
      · rintro ⟨k, h1, h2, h3⟩
        cases k with
        | zero => exact .inl (by simpa using h3)
        | succ k => exact .inr ⟨k, h1, h2, h3⟩
/-- bit c chosen anew -/
theorem pv_flip {r x c : Nat} (hc : c < 64) (h : r.testBit c = true) : pv r (x ^^^ 2 ^ c) = 1 - pv r x := by
  rw [pv_xor', pv_pow _ hc, h]
  have := pv_le r x
  simp only [Bool.toNat_true]; omega
theorem pv_flip_no {r x c : Nat} (hc : c < 64) (h : r.testBit c = false) : pv r (x ^^^ 2 ^ c) = pv r x := by
  rw [pv_xor', pv_pow _ hc, h]
  have := pv_le r x
  simp only [Bool.toNat_false]; omega
theorem slv_elim {l : List Nat} {c at_ w : Nat} (hat : at_ < l.length) (hp : (l[at_]).testBit c = true) (hcw : c < w) (hw : w < 64) : Slv (elim c at_ l[at_] l 0) w ↔ Slv l w := by
  constructor
  · rintro ⟨x, h1, h2, h3⟩
    have hb : ∀ j, ¬ j = c → (x ^^^ 2 ^ c).testBit j = x.testBit j := fun j hj => by rw [Nat.testBit_xor, pow_bit]; simp [Ne.symm hj]
    have go : ∀ y, (y = x ∨ y = x ^^^ 2 ^ c) → pv l[at_] y = 0 → Slv l w := by
      intro y hy hp0
      have hyr : ∀ q, q.testBit c = false → pv q y = pv q x := fun q hq => by
        rcases hy with rfl | rfl
        · rfl
        · exact pv_flip_no (by omega) hq
      refine ⟨y, ?_, ?_, ?_⟩
      · rcases hy with rfl | rfl
        · exact h1
        · rw [hb w (by omega)]; exact h1
      · intro j hj
        rcases hy with rfl | rfl
        · exact h2 j hj
        · rw [hb j (by omega)]; exact h2 j hj
      · intro r hr
        obtain ⟨k, hk, rfl⟩ := List.getElem_of_mem hr
        by_cases ek : k = at_
        · subst ek; exact hp0
        · have hm := h3 _ ((mem_elim l 0).2 ⟨k, hk, by omega, rfl⟩)
          by_cases hbk : (l[k]).testBit c = true
          · rw [if_pos hbk] at hm
            have h0 : (l[k] ^^^ l[at_]).testBit c = false := by rw [Nat.testBit_xor, hbk, hp]; rfl
            rw [← hyr _ h0, pv_xor, hp0] at hm
            have := pv_le l[k] y
            omega
          · rw [if_neg hbk] at hm
            rw [hyr _ (by simpa using hbk)]; exact hm
    have hc : c < 64 := by omega
    have fl := fun y => pv_flip (x := y) hc hp
    generalize l[at_] = p at go fl
    have h4 := pv_le p x
    rcases (show pv p x = 0 ∨ pv p x = 1 by omega) with g | g
    · exact go x (.inl rfl) g
    · exact go (x ^^^ 2 ^ c) (.inr rfl) (by rw [fl, g])
  · rintro ⟨x, h1, h2, h3⟩
    refine ⟨x, h1, h2, fun q hq => ?_⟩
    obtain ⟨k, hk, _, rfl⟩ := (mem_elim l 0).1 hq
    have hk0 := h3 _ (List.getElem_mem hk)
    split
    · rw [pv_xor, hk0, h3 _ (List.getElem_mem hat)]
    · exact hk0
theorem elim_bit {l : List Nat} {c at_ j : Nat} (hat : at_ < l.length) (hp : (l[at_]).testBit c = true) (hl : ∀ r, r ∈ l → ∀ j, j < c → r.testBit j = false) : ∀ q, q ∈ elim c at_ l[at_] l 0 → j < c + 1 → q.testBit j = false := by
  intro q hq hj
  obtain ⟨k, hk, _, rfl⟩ := (mem_elim l 0).1 hq
  have a1 := hl _ (List.getElem_mem hk)
  have a2 := hl _ (List.getElem_mem hat)
  by_cases e : j = c
  · subst e
    split
    · rw [Nat.testBit_xor, hp]; simp_all
    · simp_all
  · split
    · rw [Nat.testBit_xor, a1 j (by omega), a2 j (by omega)]; rfl
    · exact a1 j (by omega)
theorem elim_lt {l : List Nat} {c at_ w : Nat} (hat : at_ < l.length) (hl : ∀ r, r ∈ l → r < 2 ^ w) : ∀ q, q ∈ elim c at_ l[at_] l 0 → q < 2 ^ w := by
  intro q hq
  obtain ⟨k, hk, _, rfl⟩ := (mem_elim l 0).1 hq
  split
  · exact Nat.xor_lt_two_pow (hl _ (List.getElem_mem hk)) (hl _ (List.getElem_mem hat))
  · exact hl _ (List.getElem_mem hk)
/-- at the end: nothing below w is left -/
theorem slv_end {l : List Nat} {w : Nat} (hw : w < 64) (hl : ∀ r, r ∈ l → ∀ j, j < w → r.testBit j = false) (hb : ∀ r, r ∈ l → r < 2 ^ (w + 1)) : Slv l w ↔ ∀ r, r ∈ l → r = 0 := by
  constructor
  · rintro ⟨x, h1, h2, h3⟩ r hr
    have h4 := h3 r hr
    have hz : ∀ j, ¬ j = w → r.testBit j = false := fun j hj => by
      rcases Nat.lt_or_gt_of_ne hj with g | g
      · exact hl r hr j g
      · exact Nat.testBit_lt_two_pow (Nat.lt_of_lt_of_le (hb r hr) (Nat.pow_le_pow_right (by omega) g))
    rw [pv_at hw (fun j hj => by rw [hz j hj]; rfl), h1] at h4
    apply Nat.eq_of_testBit_eq
    intro j
    rw [Nat.zero_testBit]
    by_cases e : j = w
    · subst e
      cases h : r.testBit j with
      | false => rfl
      | true => rw [h] at h4; exact absurd h4 (by simp)
    · exact hz j e
  · intro h
    refine ⟨2 ^ w, by rw [pow_bit]; simp, fun j hj => by rw [pow_bit]; simp; omega, fun r hr => ?_⟩
    rw [h r hr, pv_zero]

/-- equations and an echelon that says the same -/
def Same (e : Nat → Nat) (w : Nat) (eqs : List Nat) : Prop := Ech e ∧ Bd e w ∧ ∀ x, KerE e x ↔ Ker eqs x
theorem slv_iff {e : Nat → Nat} {w : Nat} {eqs : List Nat} (h : Same e w eqs) (hw : w < 64) : Slv eqs w ↔ e w = 0 := by
  obtain ⟨he, hb, hk⟩ := h
  constructor
  · rintro ⟨x, h1, _, h3⟩
    by_cases h0 : e w = 0
    · exact h0
    · exact absurd ((hk x).2 h3) (no_sol he hb hw h0 h1)
  · intro h0
    exact ⟨solE e w, sol_top e w, fun j hj => sol_far e hj, (hk _).1 (sol_ker he hb hw h0)⟩

/-- the equations of the bits of s above c: bit i is bit i of s -/
def fixE (s w : Nat) : Nat → Nat → List Nat
  | _, 0 => []
  | c, n + 1 => fixE s w (c + 1) n ++ [if s.testBit c then 2 ^ c ||| 2 ^ w else 2 ^ c]
theorem pv_one {x c : Nat} (hc : c < 64) : pv (2 ^ c) x = (x.testBit c).toNat := by rw [pv_comm, pv_pow x hc]
theorem pv_two {x c w : Nat} (hc : c < w) (hw : w < 64) (hx : x.testBit w = true) : pv (2 ^ c ||| 2 ^ w) x = 1 - (x.testBit c).toNat := by
  have : 2 ^ c ||| 2 ^ w = 2 ^ c ^^^ 2 ^ w := by
    apply Nat.eq_of_testBit_eq
    intro j
    rw [Nat.testBit_or, Nat.testBit_xor, pow_bit, pow_bit]
    by_cases e : c = j
    · subst e; have : decide (w = c) = false := by simp; omega
      rw [this]; simp
    · simp [e]
  rw [this, pv_xor, pv_one (by omega), pv_one hw, hx]
  cases x.testBit c <;> rfl
theorem ker_app (l m : List Nat) (x : Nat) : Ker (l ++ m) x ↔ Ker l x ∧ Ker m x := by
  constructor
  · intro h; exact ⟨fun q hq => h q (by simp [hq]), fun q hq => h q (by simp [hq])⟩
  · rintro ⟨h1, h2⟩ q hq
    rcases List.mem_append.1 hq with g | g
    · exact h1 q g
    · exact h2 q g
theorem fix_ker {s w x : Nat} (hw : w < 64) (hx : x.testBit w = true) : ∀ n c, c + n = w → (Ker (fixE s w c n) x ↔ ∀ j, c ≤ j → j < w → x.testBit j = s.testBit j) := by
  intro n
  induction n with
  | zero => intro c _; exact ⟨fun _ j h1 h2 => by omega, fun _ => ker_nil x⟩
  | succ n ih =>
    intro c hc
    rw [fixE, ker_snoc, ih (c + 1) (by omega)]
    have : pv (if s.testBit c then 2 ^ c ||| 2 ^ w else 2 ^ c) x = 0 ↔ x.testBit c = s.testBit c := by
      cases h : s.testBit c with
      | true => rw [if_pos rfl, pv_two (by omega) hw hx]; cases x.testBit c <;> simp
      | false => rw [if_neg (by simp), pv_one (by omega)]; cases x.testBit c <;> simp
    rw [this]
    constructor
    · rintro ⟨h1, h2⟩ j h3 h4
      by_cases e : j = c
      · subst e; exact h2
      · exact h1 j (by omega) h4
    · intro h; exact ⟨fun j h1 h2 => h j (by omega) h2, h c (Nat.le_refl _) (by omega)⟩
/-- trying bit c, with the bits above as in the least solution -/
theorem try_zero {e : Nat → Nat} {w c n : Nat} {eqs : List Nat} (h : Same e w eqs) (hw : w < 64) (h0 : e w = 0) (hc : c + 1 + n = w) :
    Slv (eqs ++ fixE (solE e w) w (c + 1) n ++ [2 ^ c]) w ↔ (solE e w).testBit c = false := by
  obtain ⟨he, hb, hk⟩ := h
  constructor
  · rintro ⟨x, h1, h2, h3⟩
    rw [ker_snoc, ker_app, fix_ker hw h1 n (c + 1) hc, pv_one (by omega)] at h3
    obtain ⟨⟨h4, h5⟩, h6⟩ := h3
    have hxc : x.testBit c = false := by cases h : x.testBit c with | false => rfl | true => rw [h] at h6; exact absurd h6 (by simp)
    have hle := sol_least he (by omega) ((hk x).2 h4) (lt_of_bits fun j hj => h2 j (by omega)) h1
    cases hs : (solE e w).testBit c with
    | false => rfl
    | true =>
      exfalso
      have := lt_of_top c hxc hs fun j hj => by
        by_cases g : j < w
        · exact h5 j (by omega) g
        · by_cases g2 : j = w
          · subst g2; rw [h1, sol_top]
          · rw [h2 j (by omega), sol_far e (by omega)]
      omega
  · intro hs
    refine ⟨solE e w, sol_top e w, fun j hj => sol_far e hj, ?_⟩
    rw [ker_snoc, ker_app, fix_ker hw (sol_top e w) n (c + 1) hc, pv_one (by omega), hs]
    exact ⟨⟨(hk _).1 (sol_ker he hb hw h0), fun j _ _ => rfl⟩, rfl⟩
theorem try_one {e : Nat → Nat} {w c n : Nat} {eqs : List Nat} (h : Same e w eqs) (hw : w < 64) (h0 : e w = 0) (hc : c + 1 + n = w) (hs : (solE e w).testBit c = false) :
    Slv (eqs ++ fixE (solE e w) w (c + 1) n ++ [2 ^ c ||| 2 ^ w]) w ↔ e c = 0 := by
  obtain ⟨he, hb, hk⟩ := h
  constructor
  · rintro ⟨x, h1, h2, h3⟩
    rw [ker_snoc, ker_app, fix_ker hw h1 n (c + 1) hc, pv_two (by omega) hw h1] at h3
    obtain ⟨⟨h4, h5⟩, h6⟩ := h3
    have hxc : x.testBit c = true := by cases h : x.testBit c with | true => rfl | false => rw [h] at h6; exact absurd h6 (by simp)
    by_cases hec : e c = 0
    · exact hec
    · exfalso
      have k1 := (hk x).2 h4 c
      have k2 := sol_ker he hb hw h0 c
      have k3 : pv (e c) x = pv (e c) (solE e w ^^^ 2 ^ c) := by
        apply pv_congr
        intro j
        by_cases g : j < c
        · rw [he.1 c j g]; rfl
        · have : x.testBit j = (solE e w ^^^ 2 ^ c).testBit j := by
            rw [Nat.testBit_xor, pow_bit]
            by_cases g1 : c = j
            · subst g1; rw [hxc, hs]; simp
            · by_cases g2 : j < w
              · rw [h5 j (by omega) g2]; simp [g1]
              · by_cases g3 : j = w
                · subst g3; rw [h1, sol_top]; simp [g1]
                · rw [h2 j (by omega), sol_far e (by omega)]; simp [g1]
          rw [this]
      rw [pv_flip (by omega) (he.2 c hec), k1, k2] at k3
      omega
  · intro hec
    -- the bits above as in the least solution, bit c, the others filled in
    obtain ⟨S, hS⟩ : ∃ S, solE e w = S := ⟨_, rfl⟩
    have hlow : ∀ j, ((S / 2 ^ c * 2 ^ c) ^^^ 2 ^ c).testBit j = ((decide (c ≤ j) && S.testBit j) ^^ decide (c = j)) := fun j => by
      rw [Nat.testBit_xor, pow_bit, Nat.testBit_mul_two_pow, Nat.testBit_div_two_pow]
      by_cases g : c ≤ j
      · rw [show j - c + c = j by omega]
      · simp [g]
    obtain ⟨B, hB⟩ : ∃ B, (S / 2 ^ c * 2 ^ c) ^^^ 2 ^ c = B := ⟨_, rfl⟩
    rw [hB] at hlow
    have hL : Low c B := fun j hj => by
      have a1 : decide (c ≤ j) = false := by simp; omega
      have a2 : decide (c = j) = false := by simp; omega
      rw [hlow, a1, a2]; rfl
    have hSk := sol_ker he hb hw h0
    rw [hS] at hs hSk
    have hst := sol_top e w
    have hsf : ∀ j, w < j → S.testBit j = false := fun j hj => by rw [← hS]; exact sol_far e hj
    rw [hS] at hst ⊢
    have hF : ∀ j, c ≤ j → (fillE e c B).testBit j = (S.testBit j ^^ decide (c = j)) := fun j hj => by rw [fill_high c B hL j hj, hlow]; simp [hj]
    have hFw : (fillE e c B).testBit w = true := by rw [hF w (by omega), hst]; have : decide (c = w) = false := by simp; omega
                                                    rw [this]; rfl
    refine ⟨fillE e c B, hFw, fun j hj => ?_, ?_⟩
    · rw [hF j (by omega), hsf j hj]; have : decide (c = j) = false := by simp; omega
      rw [this]; rfl
    · rw [ker_snoc, ker_app, fix_ker hw hFw n (c + 1) hc, pv_two (by omega) hw hFw, hF c (Nat.le_refl _), hs]
      refine ⟨⟨(hk _).1 fun i => ?_, fun j h1 _ => ?_⟩, by simp⟩
      · by_cases hi : i < c
        · exact fill_ker he c B (by omega) hL i hi
        · rw [fill_keep he hL (by omega)]
          by_cases hic : i = c
          · subst hic; rw [hec, pv_zero]
          · have : pv (e i) B = pv (e i) S := by
              apply pv_congr
              intro j
              by_cases g : j < i
              · rw [he.1 i j g]; rfl
              · have : B.testBit j = S.testBit j := by rw [hlow]; have a1 : decide (c ≤ j) = true := by simp; omega
                                                       have a2 : decide (c = j) = false := by simp; omega
                                                       rw [a1, a2]; simp
                rw [this]
            rw [this]; exact hSk i
      · rw [hF j (by omega)]; have : decide (c = j) = false := by simp; omega
        rw [this]; simp
theorem zero_of_open {e : Nat → Nat} {w c : Nat} (hc : c < w) (h : e c = 0) : (solE e w).testBit c = false := fill_zero w _ (low_pow (Nat.le_refl _)) c hc h

/-- how many of the places from c to w - 1 are open -/
def opE (e : Nat → Nat) : Nat → Nat → Nat
  | _, 0 => 0
  | c, n + 1 => opE e (c + 1) n + if e c = 0 then 1 else 0
theorem opE_congr {e e' : Nat → Nat} : ∀ n c, (∀ i, c ≤ i → i < c + n → (e i = 0 ↔ e' i = 0)) → opE e c n = opE e' c n := by
  intro n
  induction n with
  | zero => intro c _; rfl
  | succ n ih =>
    intro c h
    rw [opE, opE, ih (c + 1) fun i h1 h2 => h i (by omega) (by omega)]
    by_cases g : e c = 0
    · rw [if_pos g, if_pos ((h c (Nat.le_refl _) (by omega)).1 g)]
    · rw [if_neg g, if_neg fun x => g ((h c (Nat.le_refl _) (by omega)).2 x)]
theorem opE_le (e : Nat → Nat) : ∀ n c, opE e c n ≤ n := by
  intro n
  induction n with
  | zero => intro c; exact Nat.le_refl _
  | succ n ih => intro c; have := ih (c + 1); rw [opE]; split <;> omega
theorem same_open {e e' : Nat → Nat} {w : Nat} {eqs : List Nat} (h : Same e w eqs) (h' : Same e' w eqs) (hw : w < 64) : opE e 0 w = opE e' 0 w :=
  opE_congr w 0 fun i _ hi => ⟨open_same h.1 h'.1 h.2.1 hw (fun x hx => (h'.2.2 x).2 ((h.2.2 x).1 hx)) (by omega), open_same h'.1 h.1 h'.2.1 hw (fun x hx => (h.2.2 x).2 ((h'.2.2 x).1 hx)) (by omega)⟩
theorem same_sol {e e' : Nat → Nat} {w : Nat} {eqs : List Nat} (h : Same e w eqs) (h' : Same e' w eqs) (hw : w < 64) (h0 : e w = 0) : e' w = 0 ∧ solE e w = solE e' w := by
  have h1 := (slv_iff h' hw).1 ((slv_iff h hw).2 h0)
  refine ⟨h1, Nat.le_antisymm ?_ ?_⟩
  · exact sol_least h.1 (by omega) ((h.2.2 _).2 ((h'.2.2 _).1 (sol_ker h'.1 h'.2.1 hw h1))) (sol_lt e' w) (sol_top e' w)
  · exact sol_least h'.1 (by omega) ((h'.2.2 _).2 ((h.2.2 _).1 (sol_ker h.1 h.2.1 hw h0))) (sol_lt e w) (sol_top e w)
end Go.Proofs.YtciofobedgmbjabDoor.G2
