/- Boxes: what is counted. Of no program. -/
import Derived.Test.YtmnnpkmjamhmcaaPtA
import Derived.Test.YtmnnpkmjamhmcaaS7A
namespace Go.Proofs.Ytmnnpkmjamhmcaa
open Go.RowKit Go.PlainAid
set_option maxHeartbeats 800000

def cn (xs : List Int) (k : Nat) : Nat := (xs.getD k 0).toNat
/-- the sum of the first cuts -/
def smc (xs : List Int) : Nat → Nat
  | 0 => 0
  | k + 1 => smc xs k + cn xs k
/-- the box of a point by its first sides -/
def bx (p xs : List Int) (b : Nat) : Nat → Nat
  | 0 => 0
  | k + 1 => bx p xs b k * 2 ^ cn xs k + cn p k / 2 ^ (b - cn xs k)
theorem smc_mono (xs : List Int) {a b : Nat} (h : a ≤ b) : smc xs a ≤ smc xs b := by
  induction b with
  | zero => obtain rfl : a = 0 := by omega
            exact Nat.le_refl _
  | succ b ih =>
    by_cases e : a = b + 1
    · subst e; exact Nat.le_refl _
    · have := ih (by omega)
      simp only [smc]; omega
theorem cut_lt {x b c : Nat} (hx : x < 2 ^ b) (hc : c ≤ b) : x / 2 ^ (b - c) < 2 ^ c := by
  rw [Nat.div_lt_iff_lt_mul (Nat.two_pow_pos _), ← Nat.pow_add, show c + (b - c) = b by omega]
  exact hx
theorem bx_lt {p xs : List Int} {b n : Nat} (hp : ∀ i, i < n → cn p i < 2 ^ b) (hx : ∀ i, i < n → cn xs i ≤ b) : ∀ k, k ≤ n → bx p xs b k < 2 ^ smc xs k := by
  intro k
  induction k with
  | zero => intro _; simp [bx, smc]
  | succ k ih =>
    intro hk
    have h1 := ih (by omega)
    have h2 := cut_lt (hp k (by omega)) (hx k (by omega))
    simp only [bx, smc]
    rw [Nat.pow_add]
    have : (bx p xs b k + 1) * 2 ^ cn xs k ≤ 2 ^ smc xs k * 2 ^ cn xs k := Nat.mul_le_mul_right _ h1
    rw [Nat.add_mul, Nat.one_mul] at this
    omega
theorem or10 (x c y : Nat) (hx : x * 2 ^ c ≤ 4095) (hc : c ≤ 6) (hy : y < 2 ^ c) : bits .or .i64 ((x * 2 ^ c : Nat) : Int) (y : Int) = ((x * 2 ^ c + y : Nat) : Int) := by
  have e1 : x * 2 ^ c ||| y = x * 2 ^ c + y := by
    have := Nat.two_pow_add_eq_or_of_lt (i := c) hy x
    rw [Nat.mul_comm]
    exact this.symm
  have h2 : 2 ^ c ≤ 2 ^ 6 := Nat.pow_le_pow_right (by omega) hc
  show IntKind.i64.wrap ((BitVec.ofInt 64 ((x * 2 ^ c : Nat) : Int) ||| BitVec.ofInt 64 (y : Int)).toNat : Int) = _
  rw [BitVec.toNat_or, BitVec.ofInt_natCast, BitVec.ofInt_natCast, BitVec.toNat_ofNat, BitVec.toNat_ofNat, Nat.mod_eq_of_lt (by omega), Nat.mod_eq_of_lt (by omega), e1, IntKind.wrap_i64]
  omega
theorem bx_step {p xs : List Int} {b i c x : Nat} (hc : cn xs i = c) (hx : cn p i = x) (hcb : c ≤ b) (hb : b ≤ 6) (hxb : x < 2 ^ b) (h6 : smc xs (i + 1) ≤ 6) (hlt : bx p xs b i < 2 ^ smc xs i) :
    bits .or .i64 (wrap64 (((bx p xs b i : Nat) : Int) * 2 ^ c)) ((x : Int) / 2 ^ (b - c)) = ((bx p xs b (i + 1) : Nat) : Int) := by
  have e1 : ((bx p xs b i : Nat) : Int) * 2 ^ c = ((bx p xs b i * 2 ^ c : Nat) : Int) := by push_cast; rfl
  have e2 : (x : Int) / 2 ^ (b - c) = ((x / 2 ^ (b - c) : Nat) : Int) := by push_cast; rfl
  have h1 : bx p xs b i * 2 ^ c ≤ 2 ^ smc xs i * 2 ^ c := Nat.mul_le_mul_right _ (by omega)
  rw [← Nat.pow_add] at h1
  have h2 : smc xs i + c ≤ 6 := by rw [smc, hc] at h6; exact h6
  have h3 : 2 ^ (smc xs i + c) ≤ 2 ^ 6 := Nat.pow_le_pow_right (by omega) h2
  have h4 : bx p xs b i * 2 ^ c ≤ 4095 := by omega
  have e3 : wrap64 ((bx p xs b i * 2 ^ c : Nat) : Int) = ((bx p xs b i * 2 ^ c : Nat) : Int) := by unfold wrap64; omega
  rw [e1, e2, e3, or10 _ _ _ h4 (by omega) (cut_lt hxb hcb), bx, hc, hx]
/-- the counts of the boxes behind the first points -/
def bcl (f : Nat → List Int) (xs : List Int) (b n : Nat) : Nat → List Int
  | 0 => List.replicate (2 ^ smc xs n) 0
  | k + 1 => (bcl f xs b n k).set (bx (f k) xs b n) ((bcl f xs b n k).getD (bx (f k) xs b n) 0 + 1)
theorem bcl_length (f : Nat → List Int) (xs : List Int) (b n k : Nat) : (bcl f xs b n k).length = 2 ^ smc xs n := by
  induction k with
  | zero => simp [bcl]
  | succ k ih => simp [bcl, ih]
theorem bcl_in (f : Nat → List Int) (xs : List Int) (b n k : Nat) : ∀ i, 0 ≤ (bcl f xs b n k).getD i 0 ∧ (bcl f xs b n k).getD i 0 ≤ k := by
  induction k with
  | zero =>
    intro i
    simp only [bcl, List.getD_eq_getElem?_getD, List.getElem?_replicate]
    split <;> simp
  | succ k ih =>
    intro i
    simp only [bcl]
    by_cases hi : i < (bcl f xs b n k).length
    · rw [getD_set7 hi]
      split
      · have := ih (bx (f k) xs b n); omega
      · have := ih i; omega
    · have e : ∀ v : Int, ((bcl f xs b n k).set (bx (f k) xs b n) v).getD i 0 = 0 := fun v => by
        rw [List.getD_eq_getElem?_getD, List.getElem?_eq_none (by rw [List.length_set]; omega)]; rfl
      rw [e]
      omega
/-- cuts as they are asked -/
def CutP (m : Nat) (f : Nat → List Int) (b : Int) (n : Nat) (xs : List Int) : Prop := PtsP m f b ∧ n = (f 0).length ∧ (∀ (i : Nat) (c : Int), xs[i]? = some c → 0 ≤ c ∧ c ≤ b) ∧ smc xs n ≤ 6
theorem cn_of {xs : List Int} {i : Nat} {c : Int} (h : xs[i]? = some c) (hc : 0 ≤ c) : ((cn xs i : Nat) : Int) = c := by
  unfold cn
  rw [List.getD_eq_getElem?_getD, h, Option.getD_some]
  omega
end Go.Proofs.Ytmnnpkmjamhmcaa
