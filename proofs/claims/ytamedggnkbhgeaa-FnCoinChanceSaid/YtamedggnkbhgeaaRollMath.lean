/- What rolls draw: the models of CoinFrom, RollReject, RollDice. Of no program. -/
import Derived.Test.YtamedggnkbhgeaaNumber
namespace Go.Proofs.Ytamedggnkbhgeaa
open Go.RowKit Go.PlainAid

/-- CoinFrom with f bits left, from the remainder r on, at bit i -/
def coin (s : ByteArray) (den : Int) : Nat → Int → Nat → Int × Int × Bool
  | 0, _, _ => (0, 0, false)
  | f + 1, r, i =>
    if r * 2 < den then (if bt s i = 48 then coin s den f (r * 2) (i + 1) else (0, (i + 1 : Nat), true))
    else (if bt s i = 49 then coin s den f (r * 2 - den) (i + 1) else (1, (i + 1 : Nat), true))
/-- the number of k bits from bit i on -/
def numF (s : ByteArray) (i : Nat) : Nat → Int
  | 0 => 0
  | k + 1 => 2 * numF s i k + (bt s (i + k) - 48)
theorem numF_le (s : ByteArray) (h : AllIn 48 49 s) (i : Nat) : ∀ k, i + k ≤ s.size → 0 ≤ numF s i k ∧ numF s i k + 1 ≤ 2 ^ k := by
  intro k
  induction k with
  | zero => exact fun _ => ⟨by simp [numF], by simp [numF]⟩
  | succ k ih =>
    intro h1
    obtain ⟨g1, g2⟩ := ih (by omega)
    have hb := h (i + k) (by omega)
    rw [get_bt s (i + k) (by omega)] at hb
    have hp : (2 : Int) ^ (k + 1) = 2 * 2 ^ k := by rw [Int.pow_succ]; omega
    unfold numF
    omega
/-- RollReject at bit i, with f rounds left -/
def rej (s : ByteArray) (n : Int) (k : Nat) : Nat → Nat → Int × Int × Bool
  | 0, _ => (0, 0, false)
  | f + 1, i => if i + k ≤ s.size then (if numF s i k < n then (numF s i k, (i + k : Nat), true) else rej s n k f (i + k)) else (0, 0, false)
/-- RollDice with v ways and the number c, at bit u -/
def dice (s : ByteArray) (n : Int) : Nat → Int → Int → Nat → Int × Int × Bool
  | 0, _, _, _ => (0, 0, false)
  | f + 1, v, c, u => if v < n then (if u < s.size then dice s n f (2 * v) (2 * c + (bt s u - 48)) (u + 1) else (0, 0, false)) else if c < n then (c, (u : Int), true) else dice s n f (v - n) (c - n) u
end Go.Proofs.Ytamedggnkbhgeaa
