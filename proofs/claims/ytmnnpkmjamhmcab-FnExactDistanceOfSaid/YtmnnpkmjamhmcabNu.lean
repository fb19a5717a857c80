/- NuM, NuP, NuQ, NuR in one text (tools/merge.py). -/
import Derived.Test.YtmnnpkmjamhmcabRowC
import Derived.Test.YtmnnpkmjamhmcabVA
import Derived.Test.YtmnnpkmjamhmcabFrac
namespace Go.Proofs.Ytmnnpkmjamhmcab
open Go Go.RowKit

/-- the digit i of N -/
def dig (B N i : Nat) : Nat := N / B ^ i % B
/-- the number with the first n digits r -/
def vf (B : Nat) (r : Nat → Nat) : Nat → Nat
  | 0 => 0
  | k + 1 => vf B r k + r k * B ^ k
theorem dig_lt {B : Nat} (hB : 0 < B) (N i : Nat) : dig B N i < B := Nat.mod_lt _ hB
theorem mod_step (B N k : Nat) : N % B ^ (k + 1) = N % B ^ k + dig B N k * B ^ k := by
  rw [Nat.mod_pow_succ, Nat.mul_comm]; rfl
theorem mod_full {B N n : Nat} (h : N < B ^ n) : N % B ^ n = N := Nat.mod_eq_of_lt h
theorem vf_congr {B : Nat} {r s : Nat → Nat} : ∀ {k : Nat}, (∀ i, i < k → r i = s i) → vf B r k = vf B s k
  | 0, _ => rfl
  | k + 1, h => by
    have := vf_congr (B := B) (k := k) fun i hi => h i (by omega)
    simp only [vf]
    rw [this, h k (by omega)]
theorem vf_lt {B : Nat} {r : Nat → Nat} : ∀ {k : Nat}, (∀ i, i < k → r i < B) → vf B r k < B ^ k
  | 0, _ => by simp [vf]
  | k + 1, h => by
    have h1 := vf_lt (B := B) (k := k) fun i hi => h i (by omega)
    have h2 := h k (by omega)
    have h3 : (r k + 1) * B ^ k ≤ B * B ^ k := Nat.mul_le_mul_right _ h2
    simp only [vf]
    rw [Nat.pow_succ, Nat.mul_comm (B ^ k)]
    rw [Nat.add_mul, Nat.one_mul] at h3
    omega
theorem vf_dig (B N : Nat) : ∀ n, vf B (dig B N) n = N % B ^ n
  | 0 => by simp [vf, Nat.mod_one]
  | n + 1 => by rw [vf, vf_dig B N n, mod_step]
theorem vf_mod {B : Nat} {r : Nat → Nat} {k : Nat} : ∀ {n : Nat}, (∀ i, i < n → r i < B) → k ≤ n → vf B r n % B ^ k = vf B r k
  | 0, _, hk => by
    obtain rfl : k = 0 := by omega
    simp [vf]
  | n + 1, h, hk => by
    by_cases e : k = n + 1
    · subst e
      exact Nat.mod_eq_of_lt (vf_lt h)
    · have h1 := vf_mod (B := B) (r := r) (k := k) (n := n) (fun i hi => h i (by omega)) (by omega)
      simp only [vf]
      obtain ⟨d, rfl⟩ : ∃ d, n = k + d := ⟨n - k, by omega⟩
      rw [Nat.pow_add, ← Nat.mul_assoc, Nat.mul_comm (r (k + d)), Nat.mul_assoc, Nat.add_mul_mod_self_left, h1]
theorem vf_digit {B : Nat} {r : Nat → Nat} {n t : Nat} (h : ∀ i, i < n → r i < B) (ht : t < n) : dig B (vf B r n) t = r t := by
  have h1 := mod_step B (vf B r n) t
  rw [vf_mod h (by omega), vf_mod h (by omega)] at h1
  simp only [vf] at h1
  have hB : 0 < B := by have := h t ht; omega
  have h2 : 0 < B ^ t := Nat.pow_pos hB
  have h3 : r t * B ^ t = dig B (vf B r n) t * B ^ t := by omega
  exact (Nat.eq_of_mul_eq_mul_right h2 h3).symm
theorem vf_set {B : Nat} {r s : Nat → Nat} {j : Nat} (hs : ∀ i, i ≠ j → s i = r i) : ∀ {n : Nat}, j < n → vf B s n + r j * B ^ j = vf B r n + s j * B ^ j
  | 0, h => by omega
  | n + 1, h => by
    simp only [vf]
    by_cases e : j = n
    · subst e
      rw [vf_congr (r := s) (s := r) fun i hi => hs i (by omega)]
      omega
    · have := vf_set (B := B) hs (n := n) (by omega)
      rw [hs n (by omega)]
      omega
/-- as many digits as N needs -/
def Ln (B N l : Nat) : Prop := N < B ^ l ∧ (l = 0 ∨ B ^ (l - 1) ≤ N)
theorem Ln.zero (B : Nat) : Ln B 0 0 := ⟨by simp, .inl rfl⟩
theorem Ln.pos {B N l : Nat} (h : Ln B N l) : 0 < l ↔ 0 < N := by
  obtain ⟨h1, h2⟩ := h
  constructor
  · intro hl
    rcases h2 with h2 | h2
    · omega
    · have : 0 < B ^ l := by omega
      have h3 : 0 < B := by
        rcases Nat.eq_zero_or_pos B with e | e
        · subst e
          rw [Nat.zero_pow hl] at this
          omega
        · exact e
      exact Nat.lt_of_lt_of_le (Nat.pow_pos h3) h2
  · intro hN
    rcases Nat.eq_zero_or_pos l with e | e
    · subst e
      simp at h1
      omega
    · exact e
theorem Ln.le {B N l n : Nat} (hB : 1 < B) (h : Ln B N l) (hn : N < B ^ n) : l ≤ n := by
  rcases h.2 with h2 | h2
  · omega
  · apply Nat.le_of_not_lt
    intro hl
    have : B ^ n ≤ B ^ (l - 1) := Nat.pow_le_pow_right (by omega) (by omega)
    omega
theorem Ln.uniq {B N l n : Nat} (hB : 1 < B) (h : Ln B N l) (h' : Ln B N n) : l = n := Nat.le_antisymm (h.le hB h'.1) (h'.le hB h.1)
theorem Ln.lt {B N M l n : Nat} (hB : 1 < B) (h : Ln B N l) (h' : Ln B M n) (hl : l < n) : N < M := by
  rcases h'.2 with e | e
  · omega
  · exact Nat.lt_of_lt_of_le (Nat.lt_of_lt_of_le h.1 (Nat.pow_le_pow_right (by omega) (by omega))) e
theorem dig_top {B N l : Nat} (h : N < B ^ (l + 1)) : dig B N l = N / B ^ l := by
  unfold dig
  apply Nat.mod_eq_of_lt
  rw [Nat.div_lt_iff_lt_mul (by
    rcases Nat.eq_zero_or_pos B with e | e
    · subst e
      simp at h
    · exact Nat.pow_pos e)]
  rwa [Nat.pow_succ, Nat.mul_comm] at h
theorem drop_zero {B N l : Nat} (h : N < B ^ (l + 1)) (h0 : dig B N l = 0) : N < B ^ l := by
  rw [dig_top h] at h0
  rcases Nat.eq_zero_or_pos B with e | e
  · subst e
    simp at h
  · exact Nat.lt_of_div_eq_zero (Nat.pow_pos e) h0
theorem Ln.of_top {B N l : Nat} (h : N < B ^ (l + 1)) (h0 : dig B N l ≠ 0) : Ln B N (l + 1) := by
  refine ⟨h, .inr ?_⟩
  rw [dig_top h] at h0
  rw [Nat.add_sub_cancel]
  apply Nat.le_of_not_lt
  intro hl
  exact h0 (Nat.div_eq_of_lt hl)
theorem dig_hi {B N l i : Nat} (hB : 0 < B) (h : N < B ^ l) (hi : l ≤ i) : dig B N i = 0 := by
  unfold dig
  rw [Nat.div_eq_of_lt (Nat.lt_of_lt_of_le h (Nat.pow_le_pow_right hB hi)), Nat.zero_mod]
/-- comparing from the greatest digit: equal above k, and less at k -/
theorem cmp_lt {B N M k : Nat} (h : N / B ^ (k + 1) = M / B ^ (k + 1)) (hd : dig B N k < dig B M k) : N < M := by
  have e1 := Nat.div_add_mod N (B ^ k)
  have e2 := Nat.div_add_mod M (B ^ k)
  have f1 := Nat.div_add_mod (N / B ^ k) B
  have f2 := Nat.div_add_mod (M / B ^ k) B
  rw [Nat.div_div_eq_div_mul, ← Nat.pow_succ] at f1 f2
  have : N / B ^ k < M / B ^ k := by
    rw [← f1, ← f2, h]
    exact Nat.add_lt_add_left hd _
  apply Nat.lt_of_not_le
  intro hle
  have := Nat.div_le_div_right (c := B ^ k) hle
  omega
theorem cmp_eq {B N M k : Nat} (h : N / B ^ (k + 1) = M / B ^ (k + 1)) (hd : dig B N k = dig B M k) : N / B ^ k = M / B ^ k := by
  have f1 := Nat.div_add_mod (N / B ^ k) B
  have f2 := Nat.div_add_mod (M / B ^ k) B
  rw [Nat.div_div_eq_div_mul, ← Nat.pow_succ] at f1 f2
  unfold dig at hd
  rw [h, hd] at f1
  exact f1.symm.trans f2
/-- a sum, one digit more -/
theorem sum_step {B N M k c x c' S : Nat} (h : N % B ^ k + M % B ^ k = S + c * B ^ k) (hx : dig B N k + dig B M k + c = x + c' * B) :
    N % B ^ (k + 1) + M % B ^ (k + 1) = S + x * B ^ k + c' * B ^ (k + 1) := by
  rw [mod_step, mod_step, Nat.pow_succ]
  generalize B ^ k = P at *
  generalize dig B N k = n at *
  generalize dig B M k = m at *
  have : (n + m + c) * P = (x + c' * B) * P := by rw [hx]
  grind
/-- a difference, one digit more -/
theorem diff_step {B N M k c x c' S : Nat} (h : N % B ^ k + c * B ^ k = S + M % B ^ k) (hx : dig B N k + c' * B = x + dig B M k + c) :
    N % B ^ (k + 1) + c' * B ^ (k + 1) = S + x * B ^ k + M % B ^ (k + 1) := by
  rw [mod_step, mod_step, Nat.pow_succ]
  generalize B ^ k = P at *
  generalize dig B N k = n at *
  generalize dig B M k = m at *
  have : (n + c' * B) * P = (x + m + c) * P := by rw [hx]
  grind
/-- a product, one digit more -/
theorem mul_step {B M i k n c c' x y R R' Q : Nat} (h : R + c * B ^ (i + k) = Q + n * (M % B ^ k) * B ^ i) (hx : y + n * dig B M k + c = x + c' * B) (hR : R' + y * B ^ (i + k) = R + x * B ^ (i + k)) :
    R' + c' * B ^ (i + (k + 1)) = Q + n * (M % B ^ (k + 1)) * B ^ i := by
  rw [mod_step, ← Nat.add_assoc, Nat.pow_succ, Nat.pow_add] at *
  generalize B ^ k = P at *
  generalize B ^ i = O at *
  generalize dig B M k = m at *
  have : (y + n * m + c) * (O * P) = (x + c' * B) * (O * P) := by rw [hx]
  grind
end Go.Proofs.Ytmnnpkmjamhmcab

namespace Go.Proofs.Ytmnnpkmjamhmcab
open Go Go.RowKit

/-- digits in block b that may be written -/
def WA (kd : IntKind) (W : World) (b n : Nat) (f : Nat → Nat) : Prop := ∀ j, j < n → W.cell? ⟨b, j, none⟩ = some (.int kd (f j)) ∧ W.frozen? ⟨b, j, none⟩ = false
theorem WA.below {kd : IntKind} {V V1 : World} {b n m : Nat} {f : Nat → Nat} (h : WA kd V b n f) (hb : Below m V V1) (hm : b < m) : WA kd V1 b n f := fun j hj =>
  ⟨(hb.cell (p := ⟨b, j, none⟩) hm).trans (h j hj).1, (hb.frozen (p := ⟨b, j, none⟩) hm).trans (h j hj).2⟩
theorem WA.far {kd : IntKind} {V V1 : World} {b n : Nat} {f : Nat → Nat} (h : WA kd V b n f) (hb : Below V.heap.size V V1) : WA kd V1 b n f := fun j hj =>
  h.below hb (World.block_lt_of_cell? V _ (h j hj).1) j hj
theorem WA.drewN {kd : IntKind} {V : World} {b n : Nat} {f : Nat → Nat} (h : WA kd V b n f) (m : Nat) : WA kd (V.drewN m) b n f := h
theorem WA.drew {kd : IntKind} {V : World} {b n : Nat} {f : Nat → Nat} (h : WA kd V b n f) : WA kd V.drew b n f := h
theorem WA.set {kd : IntKind} {W : World} {b n : Nat} {f : Nat → Nat} (h : WA kd W b n f) (k v : Nat) : WA kd (W.setCell ⟨b, k, none⟩ (.int kd v)) b n (fun j => if j = k then v else f j) := fun j hj => by
  rw [World.frozen?_setCell]
  refine ⟨?_, (h j hj).2⟩
  by_cases e : j = k
  · subst e
    simp only [if_pos]
    exact World.cell?_setCell_same W _ _ (h j hj).1
  · simp only [if_neg e]
    rw [cell_otherD (addr_neD (by omega))]
    exact (h j hj).1
theorem WA.made {kd : IntKind} {w : World} {B g n cap : Nat} {e : TypeId} (h : w.ownsRow B e 1 (.slice (some ⟨g, 0, none⟩) n cap) n (madeCells (Value.int kd 0).cells (n * 1)).toList) : WA kd w g n (fun _ => 0) := fun j hj => by
  rw [pad_made] at h
  have hl : ((pad [] n).map (Value.int kd)).length = n := by simp [pad]
  have h1 := World.ownsRow.cellAt h j (by omega)
  refine ⟨?_, World.ownsRow.frozenAt h j⟩
  rw [h1]
  simp [pad, hj]
theorem WA.of_own {kd : IntKind} {w : World} {B g n cap : Nat} {e : TypeId} {f : Nat → Nat} (h : w.ownsRow B e 1 (.slice (some ⟨g, 0, none⟩) n cap) n ((List.range n).map fun i => .int kd (f i))) : WA kd w g n f := fun j hj => by
  have h1 := World.ownsRow.cellAt h j (by simpa using hj)
  refine ⟨?_, World.ownsRow.frozenAt h j⟩
  rw [h1]
  simp [hj]
theorem WA.congr {kd : IntKind} {W : World} {b n : Nat} {f g : Nat → Nat} (h : WA kd W b n f) (hfg : ∀ j, j < n → f j = g j) : WA kd W b n g := fun j hj => by rw [← hfg j hj]; exact h j hj

/-- the slice a, l, c has the digits of N, no more -/
def Na (kd : IntKind) (B : Nat) (W : World) (a : Option Addr) (l c N : Nat) : Prop := l ≤ c ∧ Ln B N l ∧ ∀ j, j < l → ∃ g, a = some ⟨g, 0, none⟩ ∧ g < W.heap.size ∧ W.cell? ⟨g, j, none⟩ = some (.int kd (dig B N j))
theorem Na.far {kd : IntKind} {B : Nat} {W V : World} {a : Option Addr} {l c N : Nat} (h : Na kd B W a l c N) (hb : Below W.heap.size W V) : Na kd B V a l c N := ⟨h.1, h.2.1, fun j hj => by
  obtain ⟨g, e, hg, hc⟩ := h.2.2 j hj
  exact ⟨g, e, Nat.lt_of_lt_of_le hg hb.size, (hb.cell (p := ⟨g, j, none⟩) hg).trans hc⟩⟩
theorem Na.drewN {kd : IntKind} {B : Nat} {W : World} {a : Option Addr} {l c N : Nat} (h : Na kd B W a l c N) (m : Nat) : Na kd B (W.drewN m) a l c N := h
theorem Na.drew {kd : IntKind} {B : Nat} {W : World} {a : Option Addr} {l c N : Nat} (h : Na kd B W a l c N) : Na kd B W.drew a l c N := h
theorem Na.zero (kd : IntKind) (B : Nat) (W : World) (a : Option Addr) (c : Nat) : Na kd B W a 0 c 0 := ⟨Nat.zero_le _, Ln.zero B, fun _ hj => absurd hj (Nat.not_lt_zero _)⟩
theorem Na.pos {kd : IntKind} {B : Nat} {W : World} {a : Option Addr} {l c N : Nat} (h : Na kd B W a l c N) : 0 < l ↔ 0 < N := h.2.1.pos
/-- digits that are read, zeros at the end among them -/
def Nr (kd : IntKind) (B : Nat) (W : World) (g l N : Nat) : Prop := N < B ^ l ∧ ∀ j, j < l → W.cell? ⟨g, j, none⟩ = some (.int kd (dig B N j))
theorem Nr.of_wa {kd : IntKind} {B : Nat} {W : World} {b n : Nat} {f : Nat → Nat} (h : WA kd W b n f) (hf : ∀ i, i < n → f i < B) : Nr kd B W b n (vf B f n) := ⟨vf_lt hf, fun j hj => by rw [vf_digit hf hj]; exact (h j hj).1⟩
theorem Nr.far {kd : IntKind} {B : Nat} {W V : World} {g l N : Nat} (h : Nr kd B W g l N) (hb : Below W.heap.size W V) : Nr kd B V g l N := ⟨h.1, fun j hj => (hb.cell (p := ⟨g, j, none⟩) (World.block_lt_of_cell? W _ (h.2 j hj))).trans (h.2 j hj)⟩
theorem Nr.drewN {kd : IntKind} {B : Nat} {W : World} {g l N : Nat} (h : Nr kd B W g l N) (m : Nat) : Nr kd B (W.drewN m) g l N := h
theorem Nr.less {kd : IntKind} {B : Nat} {W : World} {g l N : Nat} (h : Nr kd B W g (l + 1) N) (h0 : dig B N l = 0) : Nr kd B W g l N := ⟨drop_zero h.1 h0, fun j hj => h.2 j (by omega)⟩
theorem Nr.na {kd : IntKind} {B : Nat} {W : World} {g l c N : Nat} (h : Nr kd B W g l N) (hc : l ≤ c) (ht : l = 0 ∨ dig B N (l - 1) ≠ 0) : Na kd B W (some ⟨g, 0, none⟩) l c N := by
  refine ⟨hc, ?_, fun j hj => ⟨g, rfl, World.block_lt_of_cell? W _ (h.2 j hj), h.2 j hj⟩⟩
  rcases l with _ | l
  · exact ⟨h.1, .inl rfl⟩
  · exact Ln.of_top h.1 (by simpa using ht)

/-- a bound on numbers -/
def Sz (N e : Nat) : Prop := N < 2 ^ e
theorem Sz.up {N e f : Nat} (h : Sz N e) (hf : e ≤ f) : Sz N f := Nat.lt_of_lt_of_le h (Nat.pow_le_pow_right (by omega) hf)
theorem Sz.le {N M e : Nat} (h : Sz M e) (hn : N ≤ M) : Sz N e := Nat.lt_of_le_of_lt hn h
theorem Sz.mul {N M e f : Nat} (h : Sz N e) (h' : Sz M f) : Sz (N * M) (e + f) := by
  unfold Sz at *
  rw [Nat.pow_add]
  exact Nat.mul_lt_mul'' h h'
theorem Sz.add {N M e : Nat} (h : Sz N e) (h' : Sz M e) : Sz (N + M) (e + 1) := by
  unfold Sz at *
  rw [Nat.pow_succ]
  omega
theorem Sz.len30 {N l e K : Nat} (h : Sz N e) (he : e ≤ 30 * K) (hl : Ln 1073741824 N l) : l ≤ K := hl.le (by omega) (by
  have h' := h.up he
  unfold Sz at h'
  have e : (1073741824 : Nat) = 2 ^ 30 := by decide
  rw [e, ← Nat.pow_mul]
  exact h')
theorem Sz.len64 {N l e K : Nat} (h : Sz N e) (he : e ≤ 64 * K) (hl : Ln 18446744073709551616 N l) : l ≤ K := hl.le (by omega) (by
  have h' := h.up he
  unfold Sz at h'
  have e : (18446744073709551616 : Nat) = 2 ^ 64 := by decide
  rw [e, ← Nat.pow_mul]
  exact h')
end Go.Proofs.Ytmnnpkmjamhmcab

namespace Go.Proofs.Ytmnnpkmjamhmcab
open Go Go.RowKit

theorem low_uniq {a b c d : Nat} (h1 : Nat.Coprime a b) (h2 : Nat.Coprime c d) (hb : 0 < b) (h : a * d = c * b) : a = c ∧ b = d := by
  have e1 : b ∣ d := h1.symm.dvd_of_dvd_mul_left ⟨c, by rw [h, Nat.mul_comm]⟩
  have e2 : d ∣ b := h2.symm.dvd_of_dvd_mul_left ⟨a, by rw [← h, Nat.mul_comm]⟩
  have e3 : b = d := Nat.dvd_antisymm e1 e2
  subst e3
  exact ⟨Nat.eq_of_mul_eq_mul_right hb h, rfl⟩
theorem VF.cop {n d : Int} (h : VF n d) : Nat.Coprime n.natAbs d.natAbs := by
  have := h.2.2.2.2
  unfold gcdI Int.gcd at this
  unfold Nat.Coprime
  omega
theorem VF.uniq {n d n' d' : Int} (h : VF n d) (h' : VF n' d') (e : n * d' = n' * d) : n = n' ∧ d = d' := by
  have a1 := h.1
  have a2 := h'.1
  have e1 : n.natAbs * d'.natAbs = n'.natAbs * d.natAbs := by rw [← Int.natAbs_mul, ← Int.natAbs_mul, e]
  have e2 := (low_uniq h.cop h'.cop (by omega) e1).2
  have e3 : d = d' := by omega
  subst e3
  exact ⟨Int.eq_of_mul_eq_mul_right (by omega) e, rfl⟩
/-- the fraction that P over Q is, if it is a valid one -/
def IsFr (P Q n d : Int) (ok : Bool) : Prop := (ok = true ∧ VF n d ∧ n * Q = P * d) ∨ (ok = false ∧ n = 0 ∧ d = 0 ∧ ∀ x y, VF x y → x * Q ≠ P * y)
theorem IsFr.uniq {P Q n d n' d' : Int} {ok ok' : Bool} (hQ : Q ≠ 0) (h : IsFr P Q n d ok) (h' : IsFr P Q n' d' ok') : n = n' ∧ d = d' ∧ ok = ok' := by
  rcases h with ⟨h1, h2, h3⟩ | ⟨h1, h2, h3, h4⟩ <;> rcases h' with ⟨k1, k2, k3⟩ | ⟨k1, k2, k3, k4⟩
  · obtain ⟨e1, e2⟩ := h2.uniq k2 (Int.eq_of_mul_eq_mul_right hQ (by grind))
    exact ⟨e1, e2, by rw [h1, k1]⟩
  · exact absurd h3 (k4 _ _ h2)
  · exact absurd k3 (h4 _ _ k2)
  · exact ⟨by rw [h2, k2], by rw [h3, k3], by rw [h1, k1]⟩
theorem IsFr.congr {P Q P' Q' n d : Int} {ok : Bool} (hQ : Q ≠ 0) (hQ' : Q' ≠ 0) (e : P * Q' = P' * Q) (h : IsFr P Q n d ok) : IsFr P' Q' n d ok := by
  rcases h with ⟨h1, h2, h3⟩ | ⟨h1, h2, h3, h4⟩
  · exact .inl ⟨h1, h2, Int.eq_of_mul_eq_mul_right hQ (by grind)⟩
  · exact .inr ⟨h1, h2, h3, fun x y hv hx => h4 x y hv (Int.eq_of_mul_eq_mul_right hQ' (by grind))⟩
theorem IsFr.of_VF {n d : Int} (h : VF n d) : IsFr n d n d true := .inl ⟨rfl, h, rfl⟩
/-- lowest terms within the limits, or not -/
theorem IsFr.low {N D : Nat} (hD : 0 < D) (hc : Nat.Coprime N D) (s : Int) (hs : s = 1 ∨ s = -1) (hN : N ≤ 1000000000000000000) (hD2 : D ≤ 1000000000000000000) : IsFr (s * N) D (s * N) D true := by
  refine .inl ⟨rfl, ⟨by omega, by omega, by rcases hs with rfl | rfl <;> omega, by rcases hs with rfl | rfl <;> omega, ?_⟩, rfl⟩
  unfold gcdI Int.gcd
  have : (s * (N : Int)).natAbs = N := by rcases hs with rfl | rfl <;> omega
  rw [this, Int.natAbs_natCast]
  exact congrArg Int.ofNat hc
theorem IsFr.high {N D : Nat} (_hD : 0 < D) (hc : Nat.Coprime N D) (s : Int) (hs : s = 1 ∨ s = -1) (h : ¬ (N ≤ 1000000000000000000 ∧ D ≤ 1000000000000000000)) : IsFr (s * N) D 0 0 false := by
  refine .inr ⟨rfl, rfl, rfl, fun x y hv e => h ?_⟩
  have a1 := hv.1
  have a2 := hv.2
  have e1 : x.natAbs * D = N * y.natAbs := by
    have := congrArg Int.natAbs e
    rw [Int.natAbs_mul, Int.natAbs_mul, Int.natAbs_mul, Int.natAbs_natCast, Int.natAbs_natCast] at this
    rw [this]
    rcases hs with rfl | rfl <;> simp
  obtain ⟨e2, e3⟩ := low_uniq hv.cop hc (by omega) e1
  omega
theorem gcd_low {N D : Nat} (hD : 0 < D) : 0 < Nat.gcd N D ∧ Nat.Coprime (N / Nat.gcd N D) (D / Nat.gcd N D) ∧ 0 < D / Nat.gcd N D ∧ N = N / Nat.gcd N D * Nat.gcd N D ∧ D = D / Nat.gcd N D * Nat.gcd N D := by
  have h := Nat.gcd_pos_of_pos_right N hD
  exact ⟨h, Nat.coprime_div_gcd_div_gcd h, Nat.div_pos (Nat.le_of_dvd hD (Nat.gcd_dvd_right N D)) h, (Nat.div_mul_cancel (Nat.gcd_dvd_left N D)).symm, (Nat.div_mul_cancel (Nat.gcd_dvd_right N D)).symm⟩
theorem cop_of {h k hp kp : Nat} (e3 : h * kp = hp * k + 1 ∨ hp * k = h * kp + 1) : Nat.Coprime h k := by
  have g1 : Nat.gcd h k ∣ h * kp := Nat.dvd_mul_right_of_dvd (Nat.gcd_dvd_left h k) kp
  have g2 : Nat.gcd h k ∣ hp * k := Nat.dvd_mul_left_of_dvd (Nat.gcd_dvd_right h k) hp
  refine Nat.dvd_one.1 ?_
  rcases e3 with e | e
  · exact (Nat.dvd_add_right g2).1 (e ▸ g1)
  · exact (Nat.dvd_add_right g1).1 (e ▸ g2)
/-- Euclid's quotients: n over d is left, the parts so far are h over k, and before hp over kp -/
def Euc (N D n d h k hp kp : Nat) : Prop := N = h * n + hp * d ∧ D = k * n + kp * d ∧ (h * kp = hp * k + 1 ∨ hp * k = h * kp + 1)
theorem Euc.start (N D : Nat) : Euc N D N D 1 0 0 1 := ⟨by omega, by omega, by omega⟩
theorem Euc.step {N D n d h k hp kp : Nat} (E : Euc N D n d h k hp kp) : Euc N D d (n % d) (n / d * h + hp) (n / d * k + kp) h k := by
  obtain ⟨e1, e2, e3⟩ := E
  have q := Nat.div_add_mod n d
  generalize n / d = u at *
  generalize n % d = v at *
  subst q
  refine ⟨by grind, by grind, by grind⟩
theorem Euc.stop {N D n h k hp kp : Nat} (E : Euc N D n 0 h k hp kp) : N = h * n ∧ D = k * n ∧ Nat.Coprime h k := by
  obtain ⟨e1, e2, e3⟩ := E
  exact ⟨by omega, by omega, cop_of e3⟩
/-- parts so far are never greater than the last ones -/
theorem Euc.bound {N D n d h k hp kp : Nat} (E : Euc N D n d h k hp kp) (hd : 0 < n) (hD : 0 < D) : h ≤ N / Nat.gcd N D ∧ k ≤ D / Nat.gcd N D := by
  obtain ⟨e1, e2, e3⟩ := E
  have hg := Nat.gcd_pos_of_pos_right N hD
  have d1 : Nat.gcd n d ∣ N := by rw [e1]; exact Nat.dvd_add (Nat.dvd_mul_left_of_dvd (Nat.gcd_dvd_left n d) h) (Nat.dvd_mul_left_of_dvd (Nat.gcd_dvd_right n d) hp)
  have d2 : Nat.gcd n d ∣ D := by rw [e2]; exact Nat.dvd_add (Nat.dvd_mul_left_of_dvd (Nat.gcd_dvd_left n d) k) (Nat.dvd_mul_left_of_dvd (Nat.gcd_dvd_right n d) kp)
  -- the common divisor of N and D divides n
  have d3 : Nat.gcd N D ∣ n := by
    have x1 : Nat.gcd N D ∣ N * kp := Nat.dvd_mul_right_of_dvd (Nat.gcd_dvd_left N D) kp
    have x2 : Nat.gcd N D ∣ hp * D := Nat.dvd_mul_left_of_dvd (Nat.gcd_dvd_right N D) hp
    rcases e3 with e | e
    · have : N * kp = hp * D + n := by rw [e1, e2]; grind
      exact (Nat.dvd_add_right x2).1 (this ▸ x1)
    · have : hp * D = N * kp + n := by rw [e1, e2]; grind
      exact (Nat.dvd_add_right x1).1 (this ▸ x2)
  have x3 := Nat.le_of_dvd hd d3
  constructor
  · rw [Nat.le_div_iff_mul_le hg]
    calc h * Nat.gcd N D ≤ h * n := Nat.mul_le_mul_left _ x3
      _ ≤ N := by omega
  · rw [Nat.le_div_iff_mul_le hg]
    calc k * Nat.gcd N D ≤ k * n := Nat.mul_le_mul_left _ x3
      _ ≤ D := by omega
end Go.Proofs.Ytmnnpkmjamhmcab

namespace Go.Proofs.Ytmnnpkmjamhmcab
open Go Go.RowKit

theorem split_down {N M q r i : Nat} (h : N / 2 ^ (i + 1) = q * M + r) : N / 2 ^ i = 2 * q * M + (2 * r + N / 2 ^ i % 2) := by
  have e := Nat.div_add_mod (N / 2 ^ i) 2
  rw [Nat.div_div_eq_div_mul, ← Nat.pow_succ, h] at e
  grind
theorem split_more {N M q r i : Nat} (h : N / 2 ^ i = q * M + r) (hr : M ≤ r) : N / 2 ^ i = (q + 1) * M + (r - M) := by
  rw [h, Nat.add_mul, Nat.one_mul]
  omega
theorem split_end {N M q r : Nat} (h : N / 2 ^ 0 = q * M + r) (hr : r < M) : q = N / M ∧ r = N % M := by
  rw [Nat.pow_zero, Nat.div_one] at h
  subst h
  have hM : 0 < M := by omega
  rw [Nat.mul_comm q M, Nat.mul_add_div hM, Nat.mul_add_mod, Nat.div_eq_of_lt hr, Nat.mod_eq_of_lt hr]
  omega
theorem bit_of (N i : Nat) : dig 1073741824 N (i / 30) / 2 ^ (i % 30) % 2 = N / 2 ^ i % 2 := by
  have hj : i % 30 < 30 := Nat.mod_lt _ (by omega)
  have hi : i = 30 * (i / 30) + i % 30 := (Nat.div_add_mod i 30).symm
  generalize i % 30 = j at *
  generalize i / 30 = u at *
  subst hi
  have e : (1073741824 : Nat) = 2 ^ 30 := by decide
  unfold dig
  rw [e, ← Nat.pow_mul, Nat.pow_add, ← Nat.div_div_eq_div_mul]
  generalize N / 2 ^ (30 * u) = x
  have e2 : (2 : Nat) ^ 30 = 2 ^ j * (2 * 2 ^ (29 - j)) := by rw [← Nat.pow_succ', ← Nat.pow_add]; congr 1; omega
  rw [e2, Nat.mod_mul_right_div_self, Nat.mod_mod_of_dvd _ (Nat.dvd_mul_right _ _)]
theorem bits_above {N n i : Nat} (h : N < 1073741824 ^ n) (hi : 30 * n ≤ i) : N / 2 ^ i = 0 := by
  apply Nat.div_eq_of_lt
  have e : (1073741824 : Nat) = 2 ^ 30 := by decide
  rw [e, ← Nat.pow_mul] at h
  exact Nat.lt_of_lt_of_le h (Nat.pow_le_pow_right (by omega) hi)

/-- the common denominator of the first k fractions -/
def scl (xs : List (Int × Int)) : Nat → Nat
  | 0 => 1
  | k + 1 => scl xs k * ((xs.getD k (0, 1)).2.toNat / Nat.gcd (xs.getD k (0, 1)).2.toNat (scl xs k % (xs.getD k (0, 1)).2.toNat))
theorem scl_dvd {xs : List (Int × Int)} {k j : Nat} (h : k ≤ j) : scl xs k ∣ scl xs j := by
  induction j with
  | zero =>
    obtain rfl : k = 0 := by omega
    exact Nat.dvd_refl _
  | succ j ih =>
    by_cases e : k = j + 1
    · subst e
      exact Nat.dvd_refl _
    · exact Nat.dvd_trans (ih (by omega)) (Nat.dvd_mul_right _ _)
theorem scl_den {xs : List (Int × Int)} {k j : Nat} (h : k < j) : (xs.getD k (0, 1)).2.toNat ∣ scl xs j := by
  refine Nat.dvd_trans ?_ (scl_dvd (show k + 1 ≤ j by omega))
  simp only [scl]
  generalize (xs.getD k (0, 1)).2.toNat = d
  generalize scl xs k = T
  have e : Nat.gcd d (T % d) = Nat.gcd d T := by rw [Nat.gcd_comm d (T % d), ← Nat.gcd_rec, ]
  rw [e]
  obtain ⟨t, ht⟩ := Nat.gcd_dvd_right d T
  obtain ⟨u, hu⟩ := Nat.gcd_dvd_left d T
  rcases Nat.eq_zero_or_pos (Nat.gcd d T) with h0 | h0
  · rw [h0, Nat.zero_mul] at hu ht
    rw [hu, ht]
    simp
  · have e2 : d / Nat.gcd d T = u := by
      have := congrArg (· / Nat.gcd d T) hu
      simpa [Nat.mul_div_cancel_left _ h0] using this
    rw [e2]
    exact ⟨t, by conv => { lhs; rw [ht] }; conv => { rhs; rw [hu] }; grind⟩
theorem scl_pos {xs : List (Int × Int)} {k : Nat} (h : ∀ i, i < k → 1 ≤ (xs.getD i (0, 1)).2) : 0 < scl xs k := by
  induction k with
  | zero => exact Nat.one_pos
  | succ k ih =>
    have h1 := h k (by omega)
    have h2 := ih fun i hi => h i (by omega)
    simp only [scl]
    refine Nat.mul_pos h2 (Nat.div_pos (Nat.le_of_dvd (by omega) (Nat.gcd_dvd_left _ _)) (Nat.gcd_pos_of_pos_left _ (by omega)))
theorem scl_sz {xs : List (Int × Int)} {k : Nat} (h : ∀ i, i < k → (xs.getD i (0, 1)).2 ≤ 1000000000000000000) : Sz (scl xs k) (60 * k + 1) := by
  induction k with
  | zero => exact (by decide : 1 < 2 ^ (60 * 0 + 1))
  | succ k ih =>
    have h1 := h k (by omega)
    have h2 := ih fun i hi => h i (by omega)
    simp only [scl]
    have h3 : Sz ((xs.getD k (0, 1)).2.toNat / Nat.gcd (xs.getD k (0, 1)).2.toNat (scl xs k % (xs.getD k (0, 1)).2.toNat)) 60 := by
      refine Nat.lt_of_le_of_lt (Nat.div_le_self _ _) ?_
      have : (1000000000000000000 : Nat) < 2 ^ 60 := by decide
      omega
    exact (h2.mul h3).up (by omega)
/-- a chance as a whole number over the common denominator -/
def wgt (T : Nat) (p : Int × Int) : Nat := T / p.2.toNat * p.1.toNat
theorem wgt_eq {T : Nat} {p : Int × Int} (hd : p.2.toNat ∣ T) : wgt T p * p.2.toNat = T * p.1.toNat := by
  obtain ⟨t, rfl⟩ := hd
  unfold wgt
  rcases Nat.eq_zero_or_pos p.2.toNat with e | e
  · rw [e]; simp
  · rw [Nat.mul_div_cancel_left _ e]
    grind
/-- the sum of the first k fractions, as a numerator and a denominator -/
def rat (xs : List (Int × Int)) : Nat → Int × Int
  | 0 => (0, 1)
  | k + 1 => ((rat xs k).1 * (xs.getD k (0, 1)).2 + (xs.getD k (0, 1)).1 * (rat xs k).2, (rat xs k).2 * (xs.getD k (0, 1)).2)
/-- the sum of the first k weights -/
def wsm (T : Nat) (xs : List (Int × Int)) : Nat → Nat
  | 0 => 0
  | k + 1 => wsm T xs k + wgt T (xs.getD k (0, 1))
theorem rat_pos {xs : List (Int × Int)} {k : Nat} (h : ∀ i, i < k → 1 ≤ (xs.getD i (0, 1)).2) : 0 < (rat xs k).2 := by
  induction k with
  | zero => exact Int.one_pos
  | succ k ih =>
    have h1 := h k (by omega)
    exact Int.mul_pos (ih fun i hi => h i (by omega)) (by omega)
theorem rat_wsm {T : Nat} {xs : List (Int × Int)} {k : Nat} (h : ∀ i, i < k → 1 ≤ (xs.getD i (0, 1)).2 ∧ 0 ≤ (xs.getD i (0, 1)).1 ∧ (xs.getD i (0, 1)).2.toNat ∣ T) : (T : Int) * (rat xs k).1 = (rat xs k).2 * (wsm T xs k : Nat) := by
  induction k with
  | zero => simp [rat, wsm]
  | succ k ih =>
    obtain ⟨h1, h2, h3⟩ := h k (by omega)
    have h4 := ih fun i hi => h i (by omega)
    have h5 := wgt_eq h3
    have h6 : ((wgt T (xs.getD k (0, 1)) : Nat) : Int) * (xs.getD k (0, 1)).2 = T * (xs.getD k (0, 1)).1 := by
      have := congrArg Int.ofNat h5
      have e1 : (((xs.getD k (0, 1)).2.toNat : Nat) : Int) = (xs.getD k (0, 1)).2 := by omega
      have e2 : (((xs.getD k (0, 1)).1.toNat : Nat) : Int) = (xs.getD k (0, 1)).1 := by omega
      rw [← e1, ← e2]
      exact_mod_cast h5
    simp only [rat, wsm]
    push_cast
    generalize ((wgt T (xs.getD k (0, 1)) : Nat) : Int) = w at *
    grind
end Go.Proofs.Ytmnnpkmjamhmcab
