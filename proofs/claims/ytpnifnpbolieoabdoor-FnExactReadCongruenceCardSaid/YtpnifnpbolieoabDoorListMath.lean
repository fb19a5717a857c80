/- Texts with commas: their parts, what cutting them at the commas gives, and the text of a list. -/
import Derived.Test.YtpnifnpbolieoabDoorDecMath
import Derived.Lib.Split
import Derived.Lib.Join
namespace Go.Proofs.YtpnifnpbolieoabDoor
open Go

/-- the parts between the commas -/
def segs : List UInt8 → List (List UInt8)
  | [] => [[]]
  | c :: r => if c = 44 then [] :: segs r else match segs r with
    | [] => [[c]]
    | h :: t => (c :: h) :: t
theorem segs_ne : ∀ l, segs l ≠ []
  | [] => by simp [segs]
  | c :: r => by
    unfold segs
    split
    · simp
    · split <;> simp
def Plain (l : List UInt8) : Prop := ∀ b ∈ l, b ≠ 44
theorem segs_last : ∀ (a : List UInt8), Plain a → segs a = [a]
  | [], _ => rfl
  | c :: r, h => by
    unfold segs
    rw [if_neg (h c (List.mem_cons_self ..)), segs_last r (fun b hb => h b (List.mem_cons_of_mem _ hb))]
theorem segs_comma : ∀ (a r : List UInt8), Plain a → segs (a ++ 44 :: r) = a :: segs r
  | [], r, _ => by
    show segs (44 :: r) = _
    rw [segs, if_pos rfl]
  | c :: a, r, h => by
    show segs (c :: (a ++ 44 :: r)) = _
    rw [segs, if_neg (h c (List.mem_cons_self ..)), segs_comma a r (fun b hb => h b (List.mem_cons_of_mem _ hb))]
theorem segs_len : ∀ l, (segs l).length ≤ l.length + 1
  | [] => by simp [segs]
  | c :: r => by
    have ih := segs_len r
    unfold segs
    split
    · simp
      omega
    · split
      · simp
      · next h => rw [h] at ih; simp at ih ⊢; omega

theorem index_comma (l : List UInt8) : (Lib.index l [44] = -1 ∧ Plain l) ∨ ∃ i : Nat, Lib.index l [44] = i ∧ i < l.length ∧ Plain (l.take i) ∧ l = l.take i ++ 44 :: l.drop (i + 1) := by
  have key : ∀ (m : List UInt8) (j : Nat), Lib.occAt m [44] j = true ↔ m[j]? = some 44 := by
    intro m
    induction m with
    | nil => intro j; simp [Lib.occAt]
    | cons c r ih =>
      intro j
      cases j with
      | zero => simp [Lib.occAt]; exact eq_comm
      | succ j => simpa [Lib.occAt] using ih j
  rcases Lib.index_spec l [44] with ⟨h1, h2⟩ | ⟨i, h1, h2, h3, h4⟩
  · refine .inl ⟨h1, fun b hb e => ?_⟩
    subst e
    obtain ⟨j, hj, hj2⟩ := List.mem_iff_getElem.1 hb
    have := (key l j).2 (by rw [List.getElem?_eq_getElem hj, hj2])
    rw [h2 j (by omega)] at this
    exact Bool.noConfusion this
  · have h5 := (key l i).1 h3
    obtain ⟨h6, h7⟩ := List.getElem?_eq_some_iff.1 h5
    refine .inr ⟨i, h1, h6, fun b hb e => ?_, ?_⟩
    · subst e
      obtain ⟨j, hj, hj2⟩ := List.mem_iff_getElem.1 hb
      rw [List.length_take] at hj
      rw [List.getElem_take] at hj2
      have := (key l j).2 (by rw [List.getElem?_eq_getElem (by omega), hj2])
      rw [h4 j (by omega)] at this
      exact Bool.noConfusion this
    · rw [← h7, ← List.drop_eq_getElem_cons h6, List.take_append_drop]

theorem split_segs : ∀ (k : Nat) (l : List UInt8), (Lib.splitK [44] 0 k l).length = min (k + 1) (segs l).length ∧ ((segs l).length ≤ k + 1 → Lib.splitK [44] 0 k l = segs l)
  | 0, l => by
    have hn : 0 < (segs l).length := List.length_pos_iff.2 (segs_ne l)
    refine ⟨?_, fun h => ?_⟩
    · show 1 = _
      omega
    · show [l] = _
      rcases index_comma l with ⟨_, h2⟩ | ⟨i, h1, h2, h3, h4⟩
      · exact (segs_last l h2).symm
      · rw [h4, segs_comma _ _ h3] at h
        have := List.length_pos_iff.2 (segs_ne (l.drop (i + 1)))
        rw [List.length_cons] at h
        omega
  | k + 1, l => by
    rcases index_comma l with ⟨h1, h2⟩ | ⟨i, h1, h2, h3, h4⟩
    · rw [segs_last l h2, Lib.splitK, h1, if_pos (by decide)]
      exact ⟨by simp, fun _ => rfl⟩
    · obtain ⟨ih1, ih2⟩ := split_segs k (l.drop (i + 1))
      have hs : segs l = l.take i :: segs (l.drop (i + 1)) := by
        conv => lhs; rw [h4]
        exact segs_comma _ _ h3
      have hk : Lib.splitK [44] 0 (k + 1) l = l.take i :: Lib.splitK [44] 0 k (l.drop (i + 1)) := by
        rw [Lib.splitK, h1, if_neg (by simp)]
        simp
      rw [hs, hk]
      refine ⟨?_, fun h => ?_⟩
      · simp only [List.length_cons]
        omega
      · rw [ih2 (by simp at h; omega)]

/-- the text of numbers that are one or more -/
def textOf (xs : List Int) : List UInt8 := Lib.join (xs.map Lib.itoa) [44]
theorem textOf_one (x : Int) : textOf [x] = Lib.itoa x := Lib.join_one _ _
theorem textOf_next (xs : List Int) (x : Int) (h : xs ≠ []) : textOf (xs ++ [x]) = textOf xs ++ [44] ++ Lib.itoa x := by
  match xs, h with
  | y :: r, _ =>
    unfold textOf
    rw [List.cons_append, List.map_cons, List.map_cons, Lib.join_cons, Lib.join_cons]
    unfold Lib.joinTail
    simp
theorem textOf_pos (xs : List Int) (h : xs ≠ []) : 1 ≤ (textOf xs).length := by
  match xs, h with
  | y :: r, _ =>
    unfold textOf
    rw [List.map_cons, Lib.join_cons, List.length_append]
    have := itoa_pos y
    omega
theorem itoa_plain (n : Int) : Plain (Lib.itoa n) := by
  intro b hb e
  subst e
  have := itoa_bytes n 44 hb
  have e44 : (44 : UInt8).toNat = 44 := rfl
  omega
end Go.Proofs.YtpnifnpbolieoabDoor
