/- A row of a table of counts, made of the one before: the mathematics. -/
import Derived.Test.YtjbojamhnapkpabS7N
namespace Go.Proofs.Ytjbojamhnapkpab

/-- the first t + 1 numbers of a row -/
def rowT (kp : Nat → Nat → Int) (t : Nat) : List Int := (cnRow kp t).take (t + 1)
theorem rowT_length (kp : Nat → Nat → Int) {t : Nat} (h : t < 13) : (rowT kp t).length = t + 1 := by
  unfold rowT
  rw [List.length_take, cnRow_length]
  omega
theorem rowT_get {kp : Nat → Nat → Int} {t j : Nat} (h : j < t + 1) : (rowT kp t).getD j 0 = (cnRow kp t).getD j 0 := by
  unfold rowT
  rw [List.getD_eq_getElem?_getD, List.getElem?_take_of_lt h, List.getD_eq_getElem?_getD]
/-- the row on its way to the next one, by its first k numbers -/
def mdD (kp : Nat → Nat → Int) (t k : Nat) : List Int := (List.range (t + 2)).map fun j => (if j < k then kp (t + 1) j * (cnRow kp t).getD j 0 else 0) + (if 1 ≤ j ∧ j ≤ k then ((t : Int) + 1 - kp (t + 1) (j - 1)) * (cnRow kp t).getD (j - 1) 0 else 0)
theorem mdD_length (kp : Nat → Nat → Int) (t k : Nat) : (mdD kp t k).length = t + 2 := by simp [mdD]
theorem mdD_get {kp : Nat → Nat → Int} {t k j : Nat} (h : j < t + 2) : (mdD kp t k).getD j 0 = (if j < k then kp (t + 1) j * (cnRow kp t).getD j 0 else 0) + (if 1 ≤ j ∧ j ≤ k then ((t : Int) + 1 - kp (t + 1) (j - 1)) * (cnRow kp t).getD (j - 1) 0 else 0) := by
  unfold mdD
  rw [List.getD_eq_getElem?_getD, List.getElem?_map, List.getElem?_range h]
  rfl
theorem list_extN {l l' : List Int} (h : l.length = l'.length) (e : ∀ j, j < l.length → l.getD j 0 = l'.getD j 0) : l = l' := by
  refine List.ext_getElem h fun i h1 h2 => ?_
  have := e i h1
  rwa [List.getD_eq_getElem?_getD, List.getD_eq_getElem?_getD, List.getElem?_eq_getElem h1, List.getElem?_eq_getElem h2] at this
theorem rep_get {n j : Nat} : (List.replicate n (0 : Int)).getD j 0 = 0 := by
  rw [List.getD_eq_getElem?_getD, List.getElem?_replicate]
  split <;> rfl
theorem mdD_zero (kp : Nat → Nat → Int) (t : Nat) : mdD kp t 0 = List.replicate (t + 2) 0 := list_extN (by rw [mdD_length, List.length_replicate]) fun j hj => by
  rw [mdD_length] at hj
  rw [mdD_get hj, rep_get, if_neg (by omega), if_neg (by omega)]
  rfl
theorem mdD_one {kp : Nat → Nat → Int} {t : Nat} (h : (cnRow kp t).getD 0 0 = 0) : mdD kp t 1 = List.replicate (t + 2) 0 := list_extN (by rw [mdD_length, List.length_replicate]) fun j hj => by
  rw [mdD_length] at hj
  rw [mdD_get hj, rep_get]
  by_cases e0 : j = 0
  · subst e0
    rw [if_pos (by omega), if_neg (by omega), h]
    simp
  · rw [if_neg (by omega)]
    by_cases e1 : j = 1
    · subst e1
      rw [if_pos (by omega), h]
      simp
    · rw [if_neg (by omega)]
      rfl
/-- the number at k before the step -/
def mdB (kp : Nat → Nat → Int) (t k : Nat) : Int := if 1 ≤ k then ((t : Int) + 1 - kp (t + 1) (k - 1)) * (cnRow kp t).getD (k - 1) 0 else 0
theorem mdD_at {kp : Nat → Nat → Int} {t k : Nat} (h : k ≤ t) : (mdD kp t k).getD k 0 = mdB kp t k ∧ (mdD kp t k).getD (k + 1) 0 = 0 := by
  constructor
  · rw [mdD_get (by omega), if_neg (by omega), Int.zero_add]
    unfold mdB
    by_cases e : 1 ≤ k
    · rw [if_pos ⟨e, Nat.le_refl _⟩, if_pos e]
    · rw [if_neg (fun x => e x.1), if_neg e]
  · rw [mdD_get (by omega), if_neg (by omega), if_neg (by omega)]
    rfl
theorem mdD_step {kp : Nat → Nat → Int} {t k : Nat} : ((mdD kp t k).set k (mdB kp t k + kp (t + 1) k * (cnRow kp t).getD k 0)).set (k + 1) (((t : Int) + 1 - kp (t + 1) k) * (cnRow kp t).getD k 0) = mdD kp t (k + 1) := list_extN (by rw [List.length_set, List.length_set, mdD_length, mdD_length]) fun j hj => by
  rw [List.length_set, List.length_set, mdD_length] at hj
  rw [getD_set (by rw [List.length_set, mdD_length]; exact hj), getD_set (by rw [mdD_length]; exact hj)]
  by_cases e1 : k + 1 = j
  · subst e1
    rw [if_pos rfl, mdD_get hj, if_neg (by omega), if_pos (by omega), Int.zero_add]
    rfl
  · rw [if_neg e1]
    by_cases e2 : k = j
    · subst e2
      rw [if_pos rfl, mdD_get hj, if_pos (by omega)]
      unfold mdB
      by_cases e3 : 1 ≤ k
      · rw [if_pos e3, if_pos (by omega), Int.add_comm]
      · rw [if_neg e3, if_neg (by omega), Int.zero_add, Int.add_zero]
    · rw [if_neg e2, mdD_get hj, mdD_get hj]
      by_cases e4 : j < k
      · rw [if_pos e4, if_pos (show j < k + 1 by omega)]
        by_cases e5 : 1 ≤ j
        · rw [if_pos (by omega), if_pos (by omega)]
        · rw [if_neg (by omega), if_neg (by omega)]
      · rw [if_neg e4, if_neg (by omega), if_neg (by omega), if_neg (by omega)]
theorem mdD_end {kp : Nat → Nat → Int} {t : Nat} (ht : t < 12) (h0 : kp (t + 1) 0 * (cnRow kp t).getD 0 0 = 0) (hz : (cnRow kp t).getD (t + 1) 0 = 0) : mdD kp t (t + 1) = rowT kp (t + 1) := list_extN (by rw [mdD_length, rowT_length kp (by omega)]) fun j hj => by
  rw [mdD_length] at hj
  rw [mdD_get hj, rowT_get hj, cnRow_succ (by omega)]
  by_cases e0 : j = 0
  · subst e0
    rw [if_pos (by omega), if_neg (by omega), if_pos rfl, h0]
    rfl
  · rw [if_neg e0]
    by_cases e1 : j = t + 1
    · subst e1
      rw [if_neg (by omega), if_pos (by omega), hz, Int.mul_zero]
    · rw [if_pos (by omega), if_pos (by omega)]
end Go.Proofs.Ytjbojamhnapkpab
