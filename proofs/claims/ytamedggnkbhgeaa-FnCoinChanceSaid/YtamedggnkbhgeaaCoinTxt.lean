/- A coin over a number's text of bits: coin is cn. -/
import Derived.Test.YtamedggnkbhgeaaCoinMath
import Derived.Test.YtamedggnkbhgeaaR8T
namespace Go.Proofs.Ytamedggnkbhgeaa
open Go.RowKit Go.PlainAid

theorem low_get (n : Int) : ∀ (k j : Nat), j < k → (low n k)[j]? = some (dig n (k - 1 - j)) := by
  intro k
  induction k with
  | zero => intro j h; omega
  | succ k ih =>
    intro j h
    cases j with
    | zero => simp [low]
    | succ j => rw [low, List.getElem?_cons_succ, ih j (by omega), show k + 1 - 1 - (j + 1) = k - 1 - j by omega]
theorem dig_in (n : Int) (i : Nat) : 48 ≤ dig n i ∧ dig n i ≤ 49 := by
  unfold dig
  omega
theorem bt_low (x n j : Nat) (h : j < n) : bt (strOfNums (low (x : Int) n)) j = 48 + ((x / 2 ^ (n - 1 - j) % 2 : Nat) : Int) := by
  have hl : j < (strOfNums (low (x : Int) n)).size := by rw [strOfNums_size, low_length]; exact h
  have h1 := strOfNums_data (low (x : Int) n)
  have hd := dig_in (x : Int) (n - 1 - j)
  have h2 : ((strOfNums (low (x : Int) n)).data.toList)[j]? = some (UInt8.ofNat (dig (x : Int) (n - 1 - j)).toNat) := by rw [h1, List.getElem?_map, low_get _ _ _ h]; rfl
  have h3 : (strOfNums (low (x : Int) n)).data[j]? = some (UInt8.ofNat (dig (x : Int) (n - 1 - j)).toNat) := by simpa using h2
  have h4 : (strOfNums (low (x : Int) n))[j]'hl = UInt8.ofNat (dig (x : Int) (n - 1 - j)).toNat := (Array.getElem?_eq_some_iff.1 h3).2
  rw [← get_bt _ j hl, h4]
  have e : (UInt8.ofNat (dig (x : Int) (n - 1 - j)).toNat).toNat = (dig (x : Int) (n - 1 - j)).toNat := by
    simp
    omega
  rw [e, Int.toNat_of_nonneg (by omega)]
  unfold dig
  rw [Int.natCast_emod, Int.natCast_ediv]
  simp
theorem low_bits (x n : Nat) (hn : n ≤ 400) : BitsP (strOfNums (low (x : Int) n)) := by
  refine ⟨by rw [strOfNums_size, low_length]; exact hn, fun k hk => ?_⟩
  have hk2 : k < n := by rwa [strOfNums_size, low_length] at hk
  rw [get_bt _ k hk, bt_low x n k hk2]
  omega
/-- the coin of a text is the coin of its number -/
theorem coin_cn (s : ByteArray) (den : Int) (x n : Nat) (hb : ∀ f, f < n → bt s (n - 1 - f) = 48 + ((x / 2 ^ f % 2 : Nat) : Int)) : ∀ (f : Nat) (r : Int) (i : Nat), i + f = n →
    (cn den f r x = -1 ∧ coin s den f r i = (0, 0, false)) ∨ ((cn den f r x = 0 ∨ cn den f r x = 1) ∧ ∃ u : Nat, i + 1 ≤ u ∧ u ≤ n ∧ coin s den f r i = (cn den f r x, (u : Int), true)) := by
  intro f
  induction f with
  | zero => intro r i _; exact .inl ⟨rfl, rfl⟩
  | succ f ih =>
    intro r i hi
    have h1 := hb f (by omega)
    rw [show n - 1 - f = i by omega] at h1
    have hm : x / 2 ^ f % 2 = 0 ∨ x / 2 ^ f % 2 = 1 := by omega
    simp only [cn, coin]
    rw [h1]
    by_cases h : r * 2 < den
    · rw [if_pos h, if_pos h]
      rcases hm with e | e
      · rw [e, if_pos rfl, if_pos (by decide)]
        rcases ih (r * 2) (i + 1) (by omega) with g | ⟨g, u, g1, g2, g3⟩
        · exact .inl g
        · exact .inr ⟨g, u, by omega, g2, g3⟩
      · rw [e, if_neg (by decide), if_neg (by decide)]
        exact .inr ⟨.inl rfl, i + 1, by omega, by omega, rfl⟩
    · rw [if_neg h, if_neg h]
      rcases hm with e | e
      · rw [e, if_neg (by decide), if_neg (by decide)]
        exact .inr ⟨.inr rfl, i + 1, by omega, by omega, rfl⟩
      · rw [e, if_pos rfl, if_pos (by decide)]
        rcases ih (r * 2 - den) (i + 1) (by omega) with g | ⟨g, u, g1, g2, g3⟩
        · exact .inl g
        · exact .inr ⟨g, u, by omega, g2, g3⟩
/-- more bits change nothing that is drawn -/
theorem coin_more (s t : ByteArray) (den : Int) (n : Nat) (hb : ∀ i, i < n → bt t i = bt s i) (g : Nat) (a u : Int) : ∀ (f : Nat) (r : Int) (i : Nat), i + f = n → coin s den f r i = (a, u, true) → coin t den (f + g) r i = (a, u, true) := by
  intro f
  induction f with
  | zero => intro r i _ h; exact absurd (congrArg (fun z => z.2.2) h) (by simp [coin])
  | succ f ih =>
    intro r i hi h
    rw [show f + 1 + g = (f + g) + 1 by omega]
    simp only [coin] at h ⊢
    rw [hb i (by omega)]
    by_cases h1 : r * 2 < den
    · rw [if_pos h1] at h ⊢
      by_cases h2 : bt s i = 48
      · rw [if_pos h2] at h ⊢; exact ih _ _ (by omega) h
      · rw [if_neg h2] at h ⊢; exact h
    · rw [if_neg h1] at h ⊢
      by_cases h2 : bt s i = 49
      · rw [if_pos h2] at h ⊢; exact ih _ _ (by omega) h
      · rw [if_neg h2] at h ⊢; exact h
end Go.Proofs.Ytamedggnkbhgeaa
