/- Samples: the numbers drawn, in their order: mathematics (smD, insA, sortA of S7S). -/
import Derived.Test.YtjbojamhnapkpacS7S
namespace Go.Proofs.Ytjbojamhnapkpac

/-- a number of a list is more than x -/
def dn (x : Int) (p : List Int) : Bool := p.any fun y => decide (x < y)
/-- x is put to its place as soon as it is seen -/
def pt (x : Int) (p : List Int) : List Int := if dn x p then insA x p else p
theorem insA_append (x : Int) (p q : List Int) : insA x (p ++ q) = if dn x p then insA x p ++ q else p ++ insA x q := by
  induction p with
  | nil => simp [dn]
  | cons y l ih =>
    by_cases h : x < y
    · simp [insA, dn, h]
    · have e : dn x (y :: l) = dn x l := by simp [dn, h]
      rw [e]
      simp only [List.cons_append, insA, if_neg h]
      rw [ih]
      split <;> simp
theorem dn_snoc (x y : Int) (p : List Int) : dn x (p ++ [y]) = (dn x p || decide (x < y)) := by simp [dn]
theorem pt_done {x y : Int} {p : List Int} (h : dn x p = true) : pt x (p ++ [y]) = pt x p ++ [y] := by
  unfold pt
  rw [dn_snoc, h, Bool.true_or, if_pos rfl, if_pos rfl, insA_append, if_pos h]
theorem pt_now {x y : Int} {p : List Int} (h : dn x p = false) (hy : x < y) : pt x (p ++ [y]) = (pt x p ++ [x]) ++ [y] := by
  unfold pt
  rw [dn_snoc, h, Bool.false_or, decide_eq_true hy, if_pos rfl, if_neg (by simp), insA_append, if_neg (by rw [h]; simp)]
  simp [insA, hy]
theorem pt_not {x y : Int} {p : List Int} (h : dn x p = false) (hy : ¬ x < y) : pt x (p ++ [y]) = pt x p ++ [y] := by
  unfold pt
  rw [dn_snoc, h, Bool.false_or, decide_eq_false hy, if_neg (by simp), if_neg (by simp)]
theorem pt_end {x : Int} {p : List Int} (h : dn x p = true) : insA x p = pt x p := by
  unfold pt
  rw [if_pos h]
theorem pt_last {x : Int} {p : List Int} (h : dn x p = false) : insA x p = pt x p ++ [x] := by
  have := insA_append x p []
  rw [List.append_nil, if_neg (by rw [h]; simp)] at this
  unfold pt
  rw [if_neg (by rw [h]; simp), this, insA]
theorem insA_perm (x : Int) (l : List Int) : (insA x l).Perm (x :: l) := by
  induction l with
  | nil => exact List.Perm.refl _
  | cons y l ih =>
    unfold insA
    split
    · exact List.Perm.refl _
    · exact (ih.cons y).trans (List.Perm.swap x y l)
theorem insA_sorted (x : Int) (l : List Int) (h : l.Pairwise (· ≤ ·)) : (insA x l).Pairwise (· ≤ ·) := by
  induction l with
  | nil => simp [insA]
  | cons y l ih =>
    rw [List.pairwise_cons] at h
    unfold insA
    split
    · rename_i hx
      rw [List.pairwise_cons, List.pairwise_cons]
      refine ⟨fun z hz => ?_, h⟩
      rcases List.mem_cons.1 hz with e | e
      · omega
      · have := h.1 z e
        omega
    · rename_i hx
      rw [List.pairwise_cons]
      refine ⟨fun z hz => ?_, ih h.2⟩
      rcases (insA_mem x z l).1 hz with e | e
      · omega
      · exact h.1 z e
theorem sortA_both (l : List Int) : (sortA l).Perm l ∧ (sortA l).Pairwise (· ≤ ·) := by
  have : ∀ (l s : List Int), s.Pairwise (· ≤ ·) → (l.foldl (fun s x => insA x s) s).Perm (s ++ l) ∧ (l.foldl (fun s x => insA x s) s).Pairwise (· ≤ ·) := by
    intro l
    induction l with
    | nil => intro s hs; rw [List.append_nil]; exact ⟨List.Perm.refl _, hs⟩
    | cons x l ih =>
      intro s hs
      rw [List.foldl_cons]
      obtain ⟨h1, h2⟩ := ih _ (insA_sorted x s hs)
      refine ⟨h1.trans ?_, h2⟩
      exact ((insA_perm x s).append_right l).trans (List.perm_middle.symm)
  have h := this l [] List.Pairwise.nil
  rw [List.nil_append] at h
  exact h
theorem merge_sortA (l : List Int) : (l.mergeSort fun x y => decide (x ≤ y)) = sortA l := by
  have h1 := List.pairwise_mergeSort (le := fun x y : Int => decide (x ≤ y)) (fun a b c h1 h2 => by simp only [decide_eq_true_eq] at *; omega) (fun a b => by simp only [Bool.or_eq_true, decide_eq_true_eq]; omega) l
  have h2 := sortA_both l
  refine List.Perm.eq_of_pairwise (le := (· ≤ · : Int → Int → Prop)) (fun a b _ _ h3 h4 => by omega) (h1.imp fun h => by simpa using h) h2.2 ((List.mergeSort_perm l _).trans h2.1.symm)
theorem sortA_mem (z : Int) (l : List Int) : z ∈ sortA l ↔ z ∈ l := (sortA_both l).1.mem_iff
theorem sortA_has (x : Int) (l : List Int) : (sortA l).contains x = l.contains x := by
  rw [Bool.eq_iff_iff, List.contains_iff_mem, List.contains_iff_mem, sortA_mem]

/-- the number that a choice c draws at the place of j -/
def smX (s : List Int) (c j : Int) : Int := if s.contains c then j else c
theorem smD_yes {n k : Nat} {cs : List Int} {x j : Int} (hx : cs.getD k 0 = x) (hj : ((n - cs.length + k : Nat) : Int) = j) (h : 0 ≤ x ∧ x ≤ j) : smD n cs (k + 1) = ((smD n cs k).1 ++ [smX (smD n cs k).1 x j], (smD n cs k).2) := by
  subst hj
  simp only [smD]
  rw [hx, if_pos h]
  rfl
theorem smD_no {n k : Nat} {cs : List Int} {x j : Int} (hx : cs.getD k 0 = x) (hj : ((n - cs.length + k : Nat) : Int) = j) (h : ¬ (0 ≤ x ∧ x ≤ j)) : smD n cs (k + 1) = ((smD n cs k).1 ++ [smX (smD n cs k).1 0 j], true) := by
  subst hj
  simp only [smD]
  rw [hx, if_neg h]
  rfl
theorem smD_in (n : Nat) (cs : List Int) : ∀ k z, z ∈ (smD n cs k).1 → 0 ≤ z ∧ z < ((n - cs.length + k : Nat) : Int) := by
  intro k
  induction k with
  | zero => intro z h; simp [smD] at h
  | succ k ih =>
    intro z hz
    obtain ⟨j, hj⟩ : ∃ j : Int, ((n - cs.length + k : Nat) : Int) = j := ⟨_, rfl⟩
    have hj2 : ((n - cs.length + (k + 1) : Nat) : Int) = j + 1 := by omega
    rw [hj2]
    rw [hj] at ih
    by_cases h : 0 ≤ cs.getD k 0 ∧ cs.getD k 0 ≤ j
    · rw [smD_yes rfl hj h] at hz
      rcases List.mem_append.1 hz with e | e
      · have := ih z e
        omega
      · rw [List.mem_singleton] at e
        unfold smX at e
        split at e <;> omega
    · rw [smD_no rfl hj h] at hz
      rcases List.mem_append.1 hz with e | e
      · have := ih z e
        omega
      · rw [List.mem_singleton] at e
        unfold smX at e
        split at e <;> omega
theorem smX_new (n k : Nat) (cs : List Int) (c j : Int) (hj : ((n - cs.length + k : Nat) : Int) = j) : smX (smD n cs k).1 c j ∉ (smD n cs k).1 := by
  unfold smX
  split
  · intro h
    have := smD_in n cs k _ h
    omega
  · rename_i h
    rwa [List.contains_iff_mem] at h
theorem smD_fail {n : Nat} {cs : List Int} {k : Nat} (h : (smD n cs k).2 = true) : ∀ d, (smD n cs (k + d)).2 = true := by
  intro d
  induction d with
  | zero => exact h
  | succ d ih =>
    rw [← Nat.add_assoc]
    simp only [smD]
    split
    · exact ih
    · rfl
/-- what a sample is -/
def smRes (n : Nat) (cs : List Int) : List Int × Bool := if ((1 ≤ n ∧ n ≤ 12) ∧ cs.length ≤ n) ∧ (smD n cs cs.length).2 = false then (sortA (smD n cs cs.length).1, true) else ([], false)
theorem smRes_length (n : Nat) (cs : List Int) : (smRes n cs).1.length ≤ 12 := by
  unfold smRes
  split
  · rename_i h
    rw [sortA_length, smD_length]
    omega
  · exact Nat.zero_le _
end Go.Proofs.Ytjbojamhnapkpac
