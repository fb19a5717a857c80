/- Orders: the ascending list, two places exchanged, and what is among the first numbers. -/
namespace Go.Proofs.Ytmnnpkmjamhmcaa

/-- 0, 1, .., n - 1 -/
def asc (n : Nat) : List Int := (List.range n).map fun i : Nat => (i : Int)
theorem asc_length (n : Nat) : (asc n).length = n := by simp [asc]
theorem asc_get {n i : Nat} (h : i < n) : (asc n)[i]? = some (i : Int) := by
  unfold asc
  rw [List.getElem?_map, List.getElem?_range h]
  rfl
theorem asc_succ (n : Nat) : asc (n + 1) = asc n ++ [(n : Int)] := by simp [asc, List.range_succ]
theorem asc_mem {n : Nat} {x : Int} : x ∈ asc n ↔ 0 ≤ x ∧ x < n := by
  unfold asc
  rw [List.mem_map]
  constructor
  · rintro ⟨i, hi, rfl⟩
    rw [List.mem_range] at hi
    omega
  · rintro ⟨h0, h1⟩
    exact ⟨x.toNat, List.mem_range.2 (by omega), by omega⟩
/-- two places exchanged -/
def swp (l : List Int) (i j : Nat) : List Int := (l.set i (l.getD j 0)).set j (l.getD i 0)
theorem swp_length (l : List Int) (i j : Nat) : (swp l i j).length = l.length := by simp [swp]
theorem swp_get {l : List Int} {i j k : Nat} (hi : i < l.length) (hj : j < l.length) (_ : k < l.length) : (swp l i j).getD k 0 = if k = j then l.getD i 0 else if k = i then l.getD j 0 else l.getD k 0 := by
  unfold swp
  by_cases e : k = j
  · subst e
    rw [if_pos rfl, List.getD_eq_getElem?_getD, List.getElem?_set_self (by rw [List.length_set]; exact hj), Option.getD_some]
  · rw [if_neg e, List.getD_eq_getElem?_getD, List.getElem?_set_ne (fun x => e x.symm)]
    by_cases e2 : k = i
    · subst e2
      rw [if_pos rfl, List.getElem?_set_self hi, Option.getD_some]
    · rw [if_neg e2, List.getElem?_set_ne (fun x => e2 x.symm), ← List.getD_eq_getElem?_getD]
theorem mem_getD {l : List Int} {x : Int} : x ∈ l ↔ ∃ k, k < l.length ∧ l.getD k 0 = x := by
  constructor
  · intro h
    obtain ⟨k, hk, e⟩ := List.mem_iff_getElem.1 h
    exact ⟨k, hk, by rw [List.getD_eq_getElem?_getD, List.getElem?_eq_getElem hk]; exact e⟩
  · rintro ⟨k, hk, e⟩
    rw [List.getD_eq_getElem?_getD, List.getElem?_eq_getElem hk] at e
    rw [← e]
    exact List.getElem_mem _
theorem mem_swp {l : List Int} {i j : Nat} (hi : i < l.length) (hj : j < l.length) (x : Int) : x ∈ swp l i j ↔ x ∈ l := by
  rw [mem_getD, mem_getD]
  constructor
  · rintro ⟨k, hk, e⟩
    rw [swp_length] at hk
    rw [swp_get hi hj hk] at e
    split at e
    · exact ⟨i, hi, e⟩
    · split at e
      · exact ⟨j, hj, e⟩
      · exact ⟨k, hk, e⟩
  · rintro ⟨k, hk, e⟩
    by_cases e1 : k = j
    · subst e1
      by_cases e2 : i = k
      · subst e2
        exact ⟨i, by rw [swp_length]; exact hi, by rw [swp_get hi hi hi, if_pos rfl]; exact e⟩
      · exact ⟨i, by rw [swp_length]; exact hi, by rw [swp_get hi hj hi, if_neg e2, if_pos rfl]; exact e⟩
    · by_cases e2 : k = i
      · subst e2
        exact ⟨j, by rw [swp_length]; exact hj, by rw [swp_get hi hj hj, if_pos rfl]; exact e⟩
      · exact ⟨k, by rw [swp_length]; exact hk, by rw [swp_get hi hj hk, if_neg e1, if_neg e2]; exact e⟩

/-- an order of 1 to 12 things -/
def OrdP (xs : List Int) : Prop := (1 ≤ xs.length ∧ xs.length ≤ 12) ∧ (∀ (i : Nat) (x : Int), xs[i]? = some x → 0 ≤ x ∧ x < (xs.length : Nat)) ∧ ∀ (i j : Nat) (x : Int), i < j → xs[i]? = some x → xs[j]? ≠ some x
instance (xs : List Int) : Decidable (OrdP xs) := by
  have : OrdP xs ↔ (1 ≤ xs.length ∧ xs.length ≤ 12) ∧ (∀ x ∈ xs, 0 ≤ x ∧ x < (xs.length : Nat)) ∧ xs.Nodup := by
    refine ⟨fun ⟨h1, h2, h3⟩ => ⟨h1, fun x hx => ?_, ?_⟩, fun ⟨h1, h2, h3⟩ => ⟨h1, fun i x hx => h2 x (List.mem_of_getElem? hx), fun i j x hij hi hj => ?_⟩⟩
    · obtain ⟨i, hi, e⟩ := List.mem_iff_getElem.1 hx
      exact h2 i x (by rw [List.getElem?_eq_getElem hi, e])
    · rw [List.nodup_iff_pairwise_ne, List.pairwise_iff_getElem]
      intro i j hi hj hij e
      exact h3 i j _ hij (List.getElem?_eq_getElem hi) (by rw [List.getElem?_eq_getElem hj, e])
    · rw [List.nodup_iff_pairwise_ne, List.pairwise_iff_getElem] at h3
      obtain ⟨a1, a2⟩ := List.getElem?_eq_some_iff.1 hi
      obtain ⟨b1, b2⟩ := List.getElem?_eq_some_iff.1 hj
      exact h3 i j a1 b1 hij (a2.trans b2.symm)
  exact decidable_of_iff _ this.symm
/-- whether x is among the first k numbers -/
def among (xs : List Int) (k : Nat) (x : Int) : Bool := (xs.take k).contains x
theorem among_iff {xs : List Int} {k : Nat} {x : Int} : among xs k x = true ↔ ∃ i, i < k ∧ xs[i]? = some x := by
  unfold among
  rw [List.contains_iff_mem, List.mem_iff_getElem?]
  constructor
  · rintro ⟨i, h⟩
    by_cases hi : i < k
    · exact ⟨i, hi, by rw [List.getElem?_take_of_lt hi] at h; exact h⟩
    · rw [List.getElem?_take_eq_none (by omega)] at h
      cases h
  · rintro ⟨i, hi, h⟩
    exact ⟨i, by rw [List.getElem?_take_of_lt hi]; exact h⟩
theorem among_succ {xs : List Int} {k : Nat} {x y : Int} (hy : xs[k]? = some y) : among xs (k + 1) x = (decide (x = y) || among xs k x) := by
  rw [Bool.eq_iff_iff, Bool.or_eq_true, among_iff, among_iff, decide_eq_true_iff]
  constructor
  · rintro ⟨i, hi, h⟩
    by_cases e : i = k
    · subst e
      rw [hy] at h
      cases h
      exact .inl rfl
    · exact .inr ⟨i, by omega, h⟩
  · rintro (rfl | ⟨i, hi, h⟩)
    · exact ⟨k, by omega, hy⟩
    · exact ⟨i, by omega, h⟩
/-- the first k numbers are as an order wants them -/
def OrdTo (xs : List Int) (k : Nat) : Prop := ∀ (i : Nat) (x : Int), i < k → xs[i]? = some x → (0 ≤ x ∧ x < (xs.length : Nat)) ∧ among xs i x = false
theorem OrdTo.next {xs : List Int} {k : Nat} {x : Int} (h : OrdTo xs k) (hx : xs[k]? = some x) (h1 : 0 ≤ x ∧ x < (xs.length : Nat)) (h2 : among xs k x = false) : OrdTo xs (k + 1) := fun i y hi hy => by
  by_cases e : i = k
  · subst e
    rw [hx] at hy
    cases hy
    exact ⟨h1, h2⟩
  · exact h i y (by omega) hy
theorem ordP_iff {xs : List Int} (h : 1 ≤ xs.length ∧ xs.length ≤ 12) : OrdP xs ↔ OrdTo xs xs.length := by
  constructor
  · rintro ⟨_, h2, h3⟩ i x hi hx
    refine ⟨h2 i x hx, ?_⟩
    cases e : among xs i x with
    | false => rfl
    | true =>
      obtain ⟨j, hj, hj2⟩ := among_iff.1 e
      exact absurd hx (h3 j i x hj hj2)
  · intro h2
    refine ⟨h, fun i x hx => (h2 i x (List.getElem?_eq_some_iff.1 hx).1 hx).1, fun i j x hij hi hj => ?_⟩
    have h4 := (h2 j x (List.getElem?_eq_some_iff.1 hj).1 hj).2
    have h5 := among_iff.2 ⟨i, hij, hi⟩
    rw [h4] at h5
    cases h5
theorem not_ordP {xs : List Int} {k : Nat} {x : Int} (hx : xs[k]? = some x) (h : ¬ ((0 ≤ x ∧ x < (xs.length : Nat)) ∧ among xs k x = false)) : ¬ OrdP xs := fun hP => h ((ordP_iff hP.1).1 hP k x (List.getElem?_eq_some_iff.1 hx).1 hx)
theorem OrdP.getD {xs : List Int} (h : OrdP xs) {i : Nat} (hi : i < xs.length) : 0 ≤ xs.getD i 0 ∧ xs.getD i 0 < (xs.length : Nat) := by
  rw [List.getD_eq_getElem?_getD, List.getElem?_eq_getElem hi]
  exact h.2.1 i _ (List.getElem?_eq_getElem hi)

/-- the list and whether a choice failed, after k choices of a shuffle of n things from the last place down; a choice is at most its place less gap -/
def shD (cs : List Int) (gap n : Nat) : Nat → List Int × Bool
  | 0 => (asc n, false)
  | k + 1 =>
    let s := shD cs gap n k
    let c := cs.getD k 0
    if 0 ≤ c ∧ c ≤ ((n - 1 - k : Nat) : Int) - gap then (swp s.1 (n - 1 - k) c.toNat, s.2) else (swp s.1 (n - 1 - k) 0, true)
theorem shD_length (cs : List Int) (gap n : Nat) : ∀ k, (shD cs gap n k).1.length = n := by
  intro k
  induction k with
  | zero => exact asc_length n
  | succ k ih =>
    simp only [shD]
    split <;> simp [swp_length, ih]
theorem shD_fail {cs : List Int} {gap n k : Nat} (h : (shD cs gap n k).2 = true) : ∀ m, (shD cs gap n (k + m)).2 = true := by
  intro m
  induction m with
  | zero => exact h
  | succ m ih =>
    rw [show k + (m + 1) = (k + m) + 1 from rfl]
    simp only [shD]
    split
    · exact ih
    · rfl
theorem shD_yes {cs : List Int} {gap n k : Nat} (h : 0 ≤ cs.getD k 0 ∧ cs.getD k 0 ≤ ((n - 1 - k : Nat) : Int) - gap) : shD cs gap n (k + 1) = (swp (shD cs gap n k).1 (n - 1 - k) (cs.getD k 0).toNat, (shD cs gap n k).2) := by
  simp only [shD]
  rw [if_pos h]
theorem shD_no {cs : List Int} {gap n k : Nat} (h : ¬ (0 ≤ cs.getD k 0 ∧ cs.getD k 0 ≤ ((n - 1 - k : Nat) : Int) - gap)) : shD cs gap n (k + 1) = (swp (shD cs gap n k).1 (n - 1 - k) 0, true) := by
  simp only [shD]
  rw [if_neg h]

/-- the same for naive shuffles -/
def nvD (cs : List Int) (n : Nat) : Nat → List Int × Bool
  | 0 => (asc n, false)
  | k + 1 =>
    let s := nvD cs n k
    let c := cs.getD k 0
    if 0 ≤ c ∧ c ≤ ((n : Nat) : Int) - 1 then (swp s.1 k c.toNat, s.2) else (swp s.1 k 0, true)
theorem nvD_length (cs : List Int) (n : Nat) : ∀ k, (nvD cs n k).1.length = n := by
  intro k
  induction k with
  | zero => exact asc_length n
  | succ k ih =>
    simp only [nvD]
    split <;> simp [swp_length, ih]
theorem nvD_ok {cs : List Int} {n : Nat} (h : ∀ (i : Nat) (x : Int), cs[i]? = some x → 0 ≤ x ∧ x ≤ (n : Int) - 1) : ∀ k, k ≤ cs.length → (nvD cs n k).2 = false := by
  intro k
  induction k with
  | zero => intro _; rfl
  | succ k ih =>
    intro hk
    simp only [nvD]
    have hc : cs.getD k 0 = cs[k] := by rw [List.getD_eq_getElem?_getD, List.getElem?_eq_getElem (by omega)]; rfl
    rw [if_pos (by rw [hc]; exact h k _ (List.getElem?_eq_getElem (by omega)))]
    exact ih (by omega)
theorem nvD_bad {cs : List Int} {n j : Nat} {x : Int} (hx : cs[j]? = some x) (h : ¬ (0 ≤ x ∧ x ≤ (n : Int) - 1)) : ∀ k, j < k → (nvD cs n k).2 = true := by
  intro k
  induction k with
  | zero => intro hk; omega
  | succ k ih =>
    intro hk
    simp only [nvD]
    by_cases e : j = k
    · subst e
      have hc : cs.getD j 0 = x := by rw [List.getD_eq_getElem?_getD, hx]; rfl
      rw [if_neg (by rw [hc]; exact h)]
    · split
      · exact ih (by omega)
      · rfl

/-- what is moving, and the choices, after k steps back from an order -/
def coD (xs : List Int) : Nat → List Int × List Int
  | 0 => (asc xs.length, [])
  | k + 1 =>
    let s := coD xs k
    let at0 := s.1.idxOf (xs.getD (xs.length - 1 - k) 0)
    (swp s.1 (xs.length - 1 - k) at0, s.2 ++ [(at0 : Int)])
theorem coD_length (xs : List Int) : ∀ k, (coD xs k).1.length = xs.length ∧ (coD xs k).2.length = k := by
  intro k
  induction k with
  | zero => exact ⟨asc_length _, rfl⟩
  | succ k ih => simp [coD, swp_length, ih]
theorem coD_mem {xs : List Int} (h : OrdP xs) : ∀ k, k < xs.length → ∀ x, x ∈ (coD xs k).1 ↔ 0 ≤ x ∧ x < (xs.length : Nat) := by
  intro k
  induction k with
  | zero => intro _ x; exact asc_mem
  | succ k ih =>
    intro hk x
    have ih := ih (by omega)
    have hl := (coD_length xs k).1
    simp only [coD]
    rw [mem_swp (by omega) (by
      have := List.idxOf_lt_length_iff.2 ((ih _).2 (h.getD (i := xs.length - 1 - k) (by omega)))
      omega)]
    exact ih x
theorem coD_at {xs : List Int} (h : OrdP xs) {k : Nat} (hk : k < xs.length) : (coD xs k).1.idxOf (xs.getD (xs.length - 1 - k) 0) < xs.length := by
  have := List.idxOf_lt_length_iff.2 ((coD_mem h k hk _).2 (h.getD (i := xs.length - 1 - k) (by omega)))
  rw [(coD_length xs k).1] at this
  exact this

/-- the product of 1, 2, .., n -/
def fac : Nat → Nat
  | 0 => 1
  | n + 1 => (n + 1) * fac n
/-- how many behind i are less than the one at i -/
def lessAt (xs : List Int) (i : Nat) : Nat → Nat
  | 0 => 0
  | m + 1 => lessAt xs i m + if xs.getD (i + 1 + m) 0 < xs.getD i 0 then 1 else 0
/-- the rank, by the first k places -/
def rkH (xs : List Int) : Nat → Nat
  | 0 => 0
  | k + 1 => rkH xs k * (xs.length - k) + lessAt xs k (xs.length - 1 - k)
def rkS (xs : List Int) : Nat → Nat
  | 0 => 0
  | k + 1 => rkS xs k + lessAt xs k (xs.length - 1 - k) * fac (xs.length - 1 - k)
theorem rkS_eq (xs : List Int) : ∀ k, k ≤ xs.length → rkS xs k = rkH xs k * fac (xs.length - k) := by
  intro k
  induction k with
  | zero => intro _; simp [rkS, rkH]
  | succ k ih =>
    intro hk
    simp only [rkS, rkH]
    rw [ih (by omega)]
    obtain ⟨m, hm⟩ : ∃ m, xs.length - k = m + 1 := ⟨xs.length - k - 1, by omega⟩
    have e1 : xs.length - 1 - k = m := by omega
    have e2 : xs.length - (k + 1) = m := by omega
    rw [hm, e1, e2, fac, Nat.add_mul (rkH xs k * (m + 1)), Nat.mul_assoc]
theorem rk_eq (xs : List Int) : rkS xs xs.length = rkH xs xs.length := by
  rw [rkS_eq xs _ (Nat.le_refl _), Nat.sub_self]
  simp [fac]
end Go.Proofs.Ytmnnpkmjamhmcaa
