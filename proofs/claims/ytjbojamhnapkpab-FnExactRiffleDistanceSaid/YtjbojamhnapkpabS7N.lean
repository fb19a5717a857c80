/- Orders by ranks, counts of cycles and rising sequences, ranks of sets: the mathematics. -/
import Derived.Test.YtjbojamhnapkpabS7M
namespace Go.Proofs.Ytjbojamhnapkpab

theorem fac_pos : ∀ n, 0 < fac n := by
  intro n
  induction n with
  | zero => decide
  | succ n ih => exact Nat.mul_pos (Nat.succ_pos n) ih
/-- the digit of a rank for a place with i behind it -/
def dig (r i : Nat) : Nat := r / fac i % (i + 1)
theorem dig_spec (r i : Nat) : r % fac (i + 1) / fac i = dig r i := by
  unfold dig
  rw [fac, Nat.mul_comm, Nat.mod_mul_right_div_self]
theorem dig_rest (r i : Nat) : r % fac (i + 1) % fac i = r % fac i := by
  rw [fac]
  exact Nat.mod_mod_of_dvd r ⟨i + 1, Nat.mul_comm _ _⟩
theorem dig_lt (r i : Nat) : dig r i < i + 1 := Nat.mod_lt _ (Nat.succ_pos i)
theorem div_fac (r i : Nat) : r / fac i / (i + 1) = r / fac (i + 1) := by
  rw [Nat.div_div_eq_div_mul, fac, Nat.mul_comm]
/-- what is left, and the order, after p places -/
def atD (n r : Nat) : Nat → List Int × List Int
  | 0 => (asc n, [])
  | p + 1 =>
    let s := atD n r p
    let k := dig r (n - 1 - p)
    (s.1.eraseIdx k, s.2 ++ [s.1.getD k 0])
theorem atD_length (n r : Nat) : ∀ p, p ≤ n → (atD n r p).1.length = n - p ∧ (atD n r p).2.length = p := by
  intro p
  induction p with
  | zero => intro _; exact ⟨asc_length n, rfl⟩
  | succ p ih =>
    intro hp
    obtain ⟨h1, h2⟩ := ih (by omega)
    have hd := dig_lt r (n - 1 - p)
    simp only [atD]
    rw [List.length_eraseIdx_of_lt (by omega), List.length_append, h1, h2]
    exact ⟨by omega, rfl⟩
theorem atD_mem (n r : Nat) : ∀ p, p ≤ n → ∀ x, x ∈ (atD n r p).1 → 0 ≤ x ∧ x < n := by
  intro p
  induction p with
  | zero => intro _ x hx; exact asc_mem.1 hx
  | succ p ih =>
    intro hp x hx
    simp only [atD] at hx
    exact ih (by omega) x (List.mem_of_mem_eraseIdx hx)
theorem atD_in (n r p : Nat) (hp : p < n) : 0 ≤ (atD n r p).1.getD (dig r (n - 1 - p)) 0 ∧ (atD n r p).1.getD (dig r (n - 1 - p)) 0 < n := by
  have h1 := (atD_length n r p (by omega)).1
  have hd := dig_lt r (n - 1 - p)
  exact atD_mem n r p (by omega) _ (mem_getD.2 ⟨_, by omega, rfl⟩)

/-- a row more of a table of counts -/
def cnNext (kp : Nat → Nat → Int) (t : Nat) (l : List Int) : List Int := (List.range 13).map fun j => if j = 0 then 0 else kp (t + 1) j * l.getD j 0 + ((t : Int) + 1 - kp (t + 1) (j - 1)) * l.getD (j - 1) 0
def cnRow (kp : Nat → Nat → Int) : Nat → List Int
  | 0 => 1 :: List.replicate 12 0
  | t + 1 => cnNext kp t (cnRow kp t)
def kpC (t _ : Nat) : Int := (t : Int) - 1
def kpR (_ j : Nat) : Int := (j : Int)
theorem cnRow_length (kp : Nat → Nat → Int) : ∀ t, (cnRow kp t).length = 13 := by
  intro t
  cases t <;> simp [cnRow, cnNext]
theorem cnC_in : ∀ t, t < 13 → ∀ j, j < 13 → 0 ≤ (cnRow kpC t).getD j 0 ∧ (cnRow kpC t).getD j 0 ≤ 479001600 ∧ (t < j → (cnRow kpC t).getD j 0 = 0) := by decide +kernel
theorem cnR_in : ∀ t, t < 13 → ∀ j, j < 13 → 0 ≤ (cnRow kpR t).getD j 0 ∧ (cnRow kpR t).getD j 0 ≤ 479001600 ∧ (t < j → (cnRow kpR t).getD j 0 = 0) := by decide +kernel
/-- a row on its way to the next one: the numbers above m are new -/
def cnMid (kp : Nat → Nat → Int) (t m : Nat) : List Int := (List.range 13).map fun j => if j ≤ m ∨ t + 1 < j then (cnRow kp t).getD j 0 else (cnRow kp (t + 1)).getD j 0
theorem cnMid_length (kp : Nat → Nat → Int) (t m : Nat) : (cnMid kp t m).length = 13 := by simp [cnMid]
theorem cnMid_get {kp : Nat → Nat → Int} {t m j : Nat} (hj : j < 13) : (cnMid kp t m).getD j 0 = if j ≤ m ∨ t + 1 < j then (cnRow kp t).getD j 0 else (cnRow kp (t + 1)).getD j 0 := by
  unfold cnMid
  rw [List.getD_eq_getElem?_getD, List.getElem?_map, List.getElem?_range hj]
  rfl
theorem list_ext13 {l l' : List Int} (h : l.length = 13) (h' : l'.length = 13) (e : ∀ j, j < 13 → l.getD j 0 = l'.getD j 0) : l = l' := by
  refine List.ext_getElem (h.trans h'.symm) fun i h1 h2 => ?_
  have := e i (by omega)
  rwa [List.getD_eq_getElem?_getD, List.getD_eq_getElem?_getD, List.getElem?_eq_getElem h1, List.getElem?_eq_getElem h2] at this
theorem cnRow_succ {kp : Nat → Nat → Int} {t j : Nat} (hj : j < 13) : (cnRow kp (t + 1)).getD j 0 = if j = 0 then 0 else kp (t + 1) j * (cnRow kp t).getD j 0 + ((t : Int) + 1 - kp (t + 1) (j - 1)) * (cnRow kp t).getD (j - 1) 0 := by
  rw [cnRow, cnNext, List.getD_eq_getElem?_getD, List.getElem?_map, List.getElem?_range hj]
  rfl
theorem getD_set {l : List Int} {i j : Nat} {v : Int} (hj : j < l.length) : (l.set i v).getD j 0 = if i = j then v else l.getD j 0 := by
  rw [List.getD_eq_getElem?_getD, List.getElem?_set, List.getD_eq_getElem?_getD]
  by_cases e : i = j
  · subst e
    simp [hj]
  · rw [if_neg e, if_neg e]
theorem cnMid_start {kp : Nat → Nat → Int} {t : Nat} : cnMid kp t (t + 1) = cnRow kp t :=
  list_ext13 (cnMid_length ..) (cnRow_length ..) fun j hj => by
    rw [cnMid_get hj, if_pos (by omega)]
theorem cnMid_step {kp : Nat → Nat → Int} {t m : Nat} (hm : m ≤ t) : (cnMid kp t (m + 1)).set (m + 1) (kp (t + 1) (m + 1) * (cnRow kp t).getD (m + 1) 0 + ((t : Int) + 1 - kp (t + 1) m) * (cnRow kp t).getD m 0) = cnMid kp t m :=
  list_ext13 (by rw [List.length_set, cnMid_length]) (cnMid_length ..) fun j hj => by
    rw [getD_set (by rw [cnMid_length]; exact hj), cnMid_get hj, cnMid_get hj]
    by_cases e : m + 1 = j
    · subst e
      rw [if_pos rfl, if_neg (by omega), cnRow_succ hj, if_neg (by omega)]
      rfl
    · rw [if_neg e]
      by_cases e2 : j ≤ m ∨ t + 1 < j
      · rw [if_pos (by omega), if_pos e2]
      · rw [if_neg (by omega), if_neg e2]
theorem cnMid_end {kp : Nat → Nat → Int} {t : Nat} (hz : ∀ j, j < 13 → t + 1 < j → (cnRow kp t).getD j 0 = 0 ∧ (cnRow kp (t + 1)).getD j 0 = 0) : (cnMid kp t 0).set 0 0 = cnRow kp (t + 1) :=
  list_ext13 (by rw [List.length_set, cnMid_length]) (cnRow_length ..) fun j hj => by
    rw [getD_set (by rw [cnMid_length]; exact hj), cnMid_get hj]
    by_cases e : 0 = j
    · subst e
      rw [if_pos rfl, cnRow_succ hj, if_pos rfl]
    · rw [if_neg e]
      by_cases e2 : t + 1 < j
      · rw [if_pos (.inr e2), (hz j hj e2).1, (hz j hj e2).2]
      · rw [if_neg (by omega)]
end Go.Proofs.Ytjbojamhnapkpab
