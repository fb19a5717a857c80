/- Ranks of sets, samples, reservoirs: the mathematics. -/
import Derived.Test.YtjbojamhnapkpacS7N
import Derived.Test.YtjbojamhnapkpacChoose
namespace Go.Proofs.Ytjbojamhnapkpac

/-- the sets that go on with a number, when m are missing and q numbers are behind it -/
def wayS (q m : Nat) : Nat := if m = 0 then 0 else Choose.ch q (m - 1)
/-- the rank and how many of the set are met, by the numbers below k -/
def rsD (n : Nat) (xs : List Int) : Nat → Nat × Nat
  | 0 => (0, 0)
  | k + 1 =>
    let s := rsD n xs k
    if xs[s.2]? = some (k : Int) then (s.1, s.2 + 1) else (s.1 + wayS (n - 1 - k) (xs.length - s.2), s.2)
/-- numbers that rise, from 0 to n - 1 -/
def SetP (n : Nat) (xs : List Int) : Prop := (∀ (i : Nat) (x : Int), xs[i]? = some x → 0 ≤ x ∧ x < n) ∧ ∀ (i : Nat) (x y : Int), xs[i]? = some x → xs[i + 1]? = some y → x < y
theorem rsD_le (n : Nat) (xs : List Int) : ∀ k, (rsD n xs k).2 ≤ xs.length := by
  intro k
  induction k with
  | zero => exact Nat.zero_le _
  | succ k ih =>
    simp only [rsD]
    split
    · rename_i h
      exact (List.getElem?_eq_some_iff.1 h).1
    · exact ih
theorem rsD_next {n : Nat} {xs : List Int} (h : SetP n xs) : ∀ (k : Nat) (x : Int), xs[(rsD n xs k).2]? = some x → (k : Int) ≤ x := by
  intro k
  induction k with
  | zero => intro x hx; exact (h.1 _ x hx).1
  | succ k ih =>
    intro x hx
    simp only [rsD] at hx
    split at hx
    · rename_i h1
      have := h.2 _ _ _ h1 hx
      omega
    · rename_i h1
      have h2 := ih x hx
      have : x ≠ (k : Int) := fun e => h1 (by rw [hx, e])
      omega
theorem ch_zero_right (n : Nat) : Choose.ch n 0 = 1 := by cases n <;> rfl
theorem wayS_ch {q m : Nat} : wayS q m + Choose.ch q m = Choose.ch (q + 1) m := by
  unfold wayS
  cases m with
  | zero => simp [ch_zero_right]
  | succ m => rfl
theorem rsD_rank {n : Nat} {xs : List Int} : ∀ k, k ≤ n → (rsD n xs k).1 + Choose.ch (n - k) (xs.length - (rsD n xs k).2) ≤ Choose.ch n xs.length := by
  intro k
  induction k with
  | zero => intro _; simp [rsD]
  | succ k ih =>
    intro hk
    have ih := ih (by omega)
    have e : n - k = (n - 1 - k) + 1 := by omega
    have e2 : n - (k + 1) = n - 1 - k := by omega
    rw [e, ← wayS_ch] at ih
    rw [e2]
    simp only [rsD]
    split
    · rename_i h1
      have h2 := (List.getElem?_eq_some_iff.1 h1).1
      have h3 : wayS (n - 1 - k) (xs.length - (rsD n xs k).2) = Choose.ch (n - 1 - k) (xs.length - ((rsD n xs k).2 + 1)) := by
        unfold wayS
        rw [if_neg (by omega)]
        rfl
      dsimp only
      omega
    · dsimp only
      omega

/-- the set so far, and the rank that is left, by the numbers below k -/
def saD (n size rank : Nat) : Nat → List Int × Nat
  | 0 => ([], rank)
  | k + 1 =>
    let s := saD n size rank k
    let many := wayS (n - 1 - k) (size - s.1.length)
    if s.2 < many then (s.1 ++ [(k : Int)], s.2) else (s.1, s.2 - many)
theorem saD_in {n size rank : Nat} (h : rank < Choose.ch n size) : ∀ k, k ≤ n → (saD n size rank k).1.length ≤ size ∧ (saD n size rank k).2 < Choose.ch (n - k) (size - (saD n size rank k).1.length) := by
  intro k
  induction k with
  | zero => intro _; exact ⟨Nat.zero_le _, h⟩
  | succ k ih =>
    intro hk
    obtain ⟨i1, i2⟩ := ih (by omega)
    have e : n - k = (n - 1 - k) + 1 := by omega
    have e2 : n - (k + 1) = n - 1 - k := by omega
    rw [e, ← wayS_ch] at i2
    rw [e2]
    simp only [saD]
    split
    · rename_i h1
      have hm : size - (saD n size rank k).1.length ≠ 0 := by
        intro e0
        unfold wayS at h1
        rw [if_pos e0] at h1
        omega
      have h3 : wayS (n - 1 - k) (size - (saD n size rank k).1.length) = Choose.ch (n - 1 - k) (size - ((saD n size rank k).1.length + 1)) := by
        unfold wayS
        rw [if_neg hm]
        rfl
      dsimp only
      rw [List.length_append, List.length_singleton]
      exact ⟨by omega, by omega⟩
    · dsimp only
      exact ⟨i1, by omega⟩
theorem saD_stop {n size rank k : Nat} (h : (saD n size rank k).1.length = size) : ∀ m, (saD n size rank (k + m)).1 = (saD n size rank k).1 := by
  intro m
  induction m with
  | zero => rfl
  | succ m ih =>
    rw [show k + (m + 1) = (k + m) + 1 from rfl]
    simp only [saD]
    rw [ih, h, Nat.sub_self, if_neg (by simp [wayS])]

/-- what a reservoir keeps and whether a choice failed, after k choices -/
def rvD (slots : Nat) (cs : List Int) : Nat → List Int × Bool
  | 0 => (asc slots, false)
  | k + 1 =>
    let s := rvD slots cs k
    let c := cs.getD k 0
    if 0 ≤ c ∧ c ≤ ((slots + k : Nat) : Int) then (if c < slots then s.1.set c.toNat ((slots + k : Nat) : Int) else s.1, s.2) else (s.1.set 0 ((slots + k : Nat) : Int), true)
theorem rvD_length (slots : Nat) (cs : List Int) : ∀ k, (rvD slots cs k).1.length = slots := by
  intro k
  induction k with
  | zero => exact asc_length slots
  | succ k ih =>
    simp only [rvD]
    split
    · simp only
      split <;> simp [ih]
    · simp [ih]
theorem rvD_fail {slots : Nat} {cs : List Int} {k : Nat} (h : (rvD slots cs k).2 = true) : ∀ m, (rvD slots cs (k + m)).2 = true := by
  intro m
  induction m with
  | zero => exact h
  | succ m ih =>
    rw [show k + (m + 1) = (k + m) + 1 from rfl]
    simp only [rvD]
    split
    · exact ih
    · rfl

/-- put to its place among rising numbers -/
def insA (x : Int) : List Int → List Int
  | [] => [x]
  | y :: l => if x < y then x :: y :: l else y :: insA x l
def sortA (l : List Int) : List Int := l.foldl (fun s x => insA x s) []
theorem insA_length (x : Int) (l : List Int) : (insA x l).length = l.length + 1 := by
  induction l with
  | nil => rfl
  | cons y l ih => unfold insA; split <;> simp [ih]
theorem insA_mem (x z : Int) (l : List Int) : z ∈ insA x l ↔ z = x ∨ z ∈ l := by
  induction l with
  | nil => simp [insA]
  | cons y l ih =>
    unfold insA
    split
    · simp
    · rw [List.mem_cons, ih, List.mem_cons]
      constructor
      · rintro (h | h | h)
        · exact .inr (.inl h)
        · exact .inl h
        · exact .inr (.inr h)
      · rintro (h | h | h)
        · exact .inr (.inl h)
        · exact .inl h
        · exact .inr (.inr h)
theorem sortA_snoc (l : List Int) (x : Int) : sortA (l ++ [x]) = insA x (sortA l) := by simp [sortA]
theorem sortA_length (l : List Int) : (sortA l).length = l.length := by
  have : ∀ (l s : List Int), (l.foldl (fun s x => insA x s) s).length = s.length + l.length := by
    intro l
    induction l with
    | nil => intro s; rfl
    | cons x l ih => intro s; rw [List.foldl_cons, ih, insA_length, List.length_cons]; omega
  have h := this l []
  rw [List.length_nil, Nat.zero_add] at h
  exact h
/-- the numbers that are drawn, and whether a choice failed, after k choices of all cs -/
def smD (n : Nat) (cs : List Int) : Nat → List Int × Bool
  | 0 => ([], false)
  | k + 1 =>
    let s := smD n cs k
    let c := cs.getD k 0
    let j := n - cs.length + k
    if 0 ≤ c ∧ c ≤ (j : Int) then (s.1 ++ [if s.1.contains c then (j : Int) else c], s.2) else (s.1 ++ [if s.1.contains 0 then (j : Int) else 0], true)
theorem smD_length (n : Nat) (cs : List Int) : ∀ k, (smD n cs k).1.length = k := by
  intro k
  induction k with
  | zero => rfl
  | succ k ih => simp only [smD]; split <;> simp [ih]
end Go.Proofs.Ytjbojamhnapkpac
