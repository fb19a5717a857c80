/- Cycles of an order: the mathematics. -/
import Derived.Test.YtjbojamhnapkpabS7M
namespace Go.Proofs.Ytjbojamhnapkpab

/-- the cycle from a place on, as far as its places are not seen; at most f places -/
def cyL (xs : List Int) : Nat → List Bool → Nat → List Int
  | 0, _, _ => []
  | f + 1, seen, i => if seen.getD i true then [] else (i : Int) :: cyL xs f (seen.set i true) (xs.getD i 0).toNat
/-- what is seen behind it -/
def cyS (xs : List Int) : Nat → List Bool → Nat → List Bool
  | 0, seen, _ => seen
  | f + 1, seen, i => if seen.getD i true then seen else cyS xs f (seen.set i true) (xs.getD i 0).toNat
/-- how many places are not seen -/
def freeN (seen : List Bool) : Nat := seen.countP (· == false)
theorem freeN_set {seen : List Bool} {i : Nat} (h : seen.getD i true = false) : freeN (seen.set i true) + 1 = freeN seen := by
  have hi : i < seen.length := by
    rcases Nat.lt_or_ge i seen.length with h1 | h1
    · exact h1
    · rw [List.getD_eq_getElem?_getD, List.getElem?_eq_none h1] at h
      cases h
  have h2 : seen[i] = false := by rwa [List.getD_eq_getElem?_getD, List.getElem?_eq_getElem hi] at h
  unfold freeN
  rw [List.countP_set hi, h2]
  have : 0 < seen.countP (· == false) := List.countP_pos_iff.2 ⟨seen[i], List.getElem_mem _, by rw [h2]; rfl⟩
  rw [if_pos (by decide), if_neg (by decide)]
  omega
theorem freeN_pos {seen : List Bool} {i : Nat} (h : seen.getD i true = false) : 0 < freeN seen := by have := freeN_set h; omega
theorem freeN_le (seen : List Bool) : freeN seen ≤ seen.length := List.countP_le_length
theorem cyS_length (xs : List Int) : ∀ f seen i, (cyS xs f seen i).length = seen.length := by
  intro f
  induction f with
  | zero => intro seen i; rfl
  | succ f ih =>
    intro seen i
    unfold cyS
    split
    · rfl
    · rw [ih, List.length_set]
theorem cyL_length (xs : List Int) : ∀ f seen i, (cyL xs f seen i).length + freeN (cyS xs f seen i) = freeN seen := by
  intro f
  induction f with
  | zero => intro seen i; simp [cyL, cyS]
  | succ f ih =>
    intro seen i
    unfold cyL cyS
    split
    · simp
    · rename_i h
      have h2 := freeN_set (seen := seen) (i := i) (by simpa using h)
      have := ih (seen.set i true) (xs.getD i 0).toNat
      rw [List.length_cons]
      omega
theorem cyL_seen {xs : List Int} {f : Nat} {seen : List Bool} {i : Nat} (h : seen.getD i true = true) : cyL xs f seen i = [] ∧ cyS xs f seen i = seen := by
  cases f with
  | zero => exact ⟨rfl, rfl⟩
  | succ f => unfold cyL cyS; rw [if_pos h, if_pos h]; exact ⟨rfl, rfl⟩
theorem cyL_free {xs : List Int} {f : Nat} {seen : List Bool} {i : Nat} (h : seen.getD i true = false) : cyL xs (f + 1) seen i = (i : Int) :: cyL xs f (seen.set i true) (xs.getD i 0).toNat ∧ cyS xs (f + 1) seen i = cyS xs f (seen.set i true) (xs.getD i 0).toNat := by
  rw [cyL, cyS, if_neg (by rw [h]; decide), if_neg (by rw [h]; decide)]
  exact ⟨rfl, rfl⟩
theorem cyL_len (xs : List Int) : ∀ f seen i, (cyL xs f seen i).length ≤ f := by
  intro f
  induction f with
  | zero => intro seen i; exact Nat.le_refl _
  | succ f ih =>
    intro seen i
    unfold cyL
    split
    · exact Nat.zero_le _
    · rw [List.length_cons]
      have := ih (seen.set i true) (xs.getD i 0).toNat
      omega
/-- two lists of what is seen that are alike below n -/
def Alike (n : Nat) (s t : List Bool) : Prop := n ≤ s.length ∧ n ≤ t.length ∧ ∀ j, j < n → s.getD j true = t.getD j true
theorem Alike.set {n : Nat} {s t : List Bool} (h : Alike n s t) (i : Nat) (v : Bool) : Alike n (s.set i v) (t.set i v) := by
  refine ⟨by rw [List.length_set]; exact h.1, by rw [List.length_set]; exact h.2.1, fun j hj => ?_⟩
  have := h.2.2 j hj
  have h1 := h.1
  have h2 := h.2.1
  simp only [List.getD_eq_getElem?_getD, List.getElem?_set] at this ⊢
  by_cases e : i = j
  · subst e
    rw [if_pos rfl, if_pos rfl, if_pos (by omega), if_pos (by omega)]
  · rw [if_neg e, if_neg e]
    exact this
theorem cyL_alike {xs : List Int} {n : Nat} (hx : ∀ (i : Nat) (x : Int), xs[i]? = some x → 0 ≤ x ∧ x < (n : Int)) (hn : 0 < n) : ∀ f s t i, Alike n s t → i < n → cyL xs f s i = cyL xs f t i ∧ Alike n (cyS xs f s i) (cyS xs f t i) := by
  intro f
  induction f with
  | zero => intro s t i h _; exact ⟨rfl, h⟩
  | succ f ih =>
    intro s t i h hi
    have e := h.2.2 i hi
    have hb : (xs.getD i 0).toNat < n := by
      rw [List.getD_eq_getElem?_getD]
      cases hk : xs[i]? with
      | none => exact hn
      | some x =>
        have := hx i x hk
        simp only [Option.getD_some]
        omega
    unfold cyL cyS
    rw [e]
    by_cases c : t.getD i true = true
    · rw [if_pos c, if_pos c, if_pos c, if_pos c]
      exact ⟨rfl, h⟩
    · rw [if_neg c, if_neg c, if_neg c, if_neg c]
      obtain ⟨h1, h2⟩ := ih (s.set i true) (t.set i true) _ (h.set i true) hb
      exact ⟨by rw [h1], h2⟩
/-- what is seen, and the cycles, by the places below k -/
def cysD (xs : List Int) (L : Nat) : Nat → List Bool × List (List Int)
  | 0 => (List.replicate L false, [])
  | k + 1 =>
    let s := cysD xs L k
    if s.1.getD k true then s else (cyS xs 12 s.1 k, s.2 ++ [cyL xs 12 s.1 k])
theorem cysD_seen {xs : List Int} {L k : Nat} (h : (cysD xs L k).1.getD k true = true) : cysD xs L (k + 1) = cysD xs L k := by
  simp only [cysD]
  rw [if_pos h]
theorem cysD_free {xs : List Int} {L k : Nat} (h : (cysD xs L k).1.getD k true = false) : cysD xs L (k + 1) = (cyS xs 12 (cysD xs L k).1 k, (cysD xs L k).2 ++ [cyL xs 12 (cysD xs L k).1 k]) := by
  simp only [cysD]
  rw [if_neg (by rw [h]; decide)]
theorem cysD_length (xs : List Int) (L : Nat) : ∀ k, (cysD xs L k).1.length = L := by
  intro k
  induction k with
  | zero => simp [cysD]
  | succ k ih =>
    simp only [cysD]
    split
    · exact ih
    · rw [cyS_length]; exact ih
theorem cysD_count (xs : List Int) (L : Nat) : ∀ k, (cysD xs L k).2.length ≤ k ∧ ∀ l ∈ (cysD xs L k).2, l.length ≤ 12 := by
  intro k
  induction k with
  | zero => exact ⟨Nat.le_refl _, fun l hl => by simp [cysD] at hl⟩
  | succ k ih =>
    simp only [cysD]
    split
    · exact ⟨by omega, ih.2⟩
    · dsimp only
      refine ⟨by rw [List.length_append, List.length_singleton]; omega, fun l hl => ?_⟩
      rw [List.mem_append, List.mem_singleton] at hl
      rcases hl with hl | rfl
      · exact ih.2 l hl
      · exact cyL_len _ _ _ _
theorem cysD_alike {xs : List Int} {n L M : Nat} (hx : ∀ (i : Nat) (x : Int), xs[i]? = some x → 0 ≤ x ∧ x < (n : Int)) (hL : n ≤ L) (hM : n ≤ M) : ∀ k, k ≤ n → (cysD xs L k).2 = (cysD xs M k).2 ∧ Alike n (cysD xs L k).1 (cysD xs M k).1 := by
  intro k
  induction k with
  | zero =>
    intro _
    refine ⟨rfl, by simpa [cysD] using hL, by simpa [cysD] using hM, fun j hj => ?_⟩
    simp only [cysD, List.getD_eq_getElem?_getD, List.getElem?_replicate]
    rw [if_pos (by omega), if_pos (by omega)]
  | succ k ih =>
    intro hk
    obtain ⟨h1, h2⟩ := ih (by omega)
    obtain ⟨a1, a2⟩ := cyL_alike hx (by omega) 12 _ _ k h2 (by omega)
    have e := h2.2.2 k (by omega)
    cases hc : (cysD xs M k).1.getD k true with
    | true =>
      rw [hc] at e
      rw [cysD_seen hc, cysD_seen e]
      exact ⟨h1, h2⟩
    | false =>
      rw [hc] at e
      rw [cysD_free hc, cysD_free e]
      exact ⟨by rw [h1, a1], a2⟩
end Go.Proofs.Ytjbojamhnapkpab
