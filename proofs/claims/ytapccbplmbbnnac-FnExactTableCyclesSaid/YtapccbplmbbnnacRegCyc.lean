/- The cycle of a register: spec.RegisterCycle, impl.RegisterCycle, the law FnExactRegisterCycle. -/
import Derived.Test.YtapccbplmbbnnacCycR
import Derived.Test.YtapccbplmbbnnacRegBits
import Derived.Test.YtapccbplmbbnnacSlice64
namespace Go.Proofs.Ytapccbplmbbnnac
open Go.RowKit Go.PlainAid
set_option maxHeartbeats 800000

/-- the table of the steps at which the states came first, after k steps -/
def visL (s : Nat → Nat) (N : Nat) : Nat → List Int
  | 0 => List.replicate N 0
  | k + 1 => (visL s N k).set (s k) ((k : Int) + 1)
theorem visL_length (s : Nat → Nat) (N : Nat) : ∀ k, (visL s N k).length = N := by
  intro k
  induction k with
  | zero => simp [visL]
  | succ k ih => simp [visL, ih]
theorem visL_get (s : Nat → Nat) (N x : Nat) (hx : x < N) : ∀ k, ((visL s N k)[x]? = some 0 ∧ ∀ j, j < k → ¬ s j = x) ∨ ∃ j, j < k ∧ s j = x ∧ (visL s N k)[x]? = some ((j : Int) + 1) := by
  intro k
  induction k with
  | zero => exact .inl ⟨by simp [visL, hx], fun j hj => by omega⟩
  | succ k ih =>
    by_cases he : s k = x
    · exact .inr ⟨k, by omega, he, by simp only [visL]; rw [he, List.getElem?_set_self (by rw [visL_length]; exact hx)]⟩
    · have e : (visL s N (k + 1))[x]? = (visL s N k)[x]? := by simp only [visL]; rw [List.getElem?_set_ne he]
      rcases ih with ⟨h1, h2⟩ | ⟨j, h1, h2, h3⟩
      · exact .inl ⟨e.trans h1, fun j hj => by
          by_cases ej : j = k
          · rw [ej]; exact he
          · exact h2 j (by omega)⟩
      · exact .inr ⟨j, by omega, h2, e.trans h3⟩
/-- states all different -/
def Unlike (s : Nat → Nat) (k : Nat) : Prop := ∀ i j, i < j → j < k → ¬ s i = s j
theorem Unlike.next {s : Nat → Nat} {k : Nat} (h : Unlike s k) (hk : ∀ j, j < k → ¬ s j = s k) : Unlike s (k + 1) := fun i j hij hj => by
  by_cases e : j = k
  · subst e; exact hk i hij
  · exact h i j hij (by omega)
theorem Unlike.room {s : Nat → Nat} {N k : Nat} (hs : ∀ i, s i < N) (h : Unlike s (k + 1)) : k < N := by
  apply Nat.lt_of_not_le
  intro hle
  obtain ⟨i, j, hij, hj, e⟩ := pigeon N s (fun i _ => hs i)
  exact h i j hij (by omega) e
theorem Unlike.cyc {s : Nat → Nat} (hst : Steps s) {k i : Nat} (h : Unlike s k) (hi : i < k) (e : s i = s k) : CycP s i (k - i) := by
  have hM : s (i + (k - i)) = s i := by rw [show i + (k - i) = k by omega]; exact e.symm
  refine cycP_of (M := i) hst (by omega) hM (fun j h0 h1 => ?_) hM (fun j hj => ?_)
  · exact fun x => h i (i + j) (by omega) (by omega) x.symm
  · exact fun x => h j (j + (k - i)) (by omega) (by omega) x.symm
theorem CycP.unique {s : Nat → Nat} {b c b' c' : Nat} (h : CycP s b c) (g : CycP s b' c') : b = b' ∧ c = c' := by
  have h1 := h.2.2.2 b' c' g.1 g.2.1
  have h2 := g.2.2.2 b c h.1 h.2.1
  omega
theorem itr_steps (W t S : Nat) : Steps (itr W t S) := fun i j h => by
  show nxt W t (itr W t S i) = nxt W t (itr W t S j)
  rw [h]

theorem cyc_exists {s : Nat → Nat} (hst : Steps s) {N : Nat} (hs : ∀ i, s i < N) : ∃ b c, CycP s b c := by
  have key : ∀ n, Unlike s n ∨ ∃ k i, i < k ∧ Unlike s k ∧ s i = s k := by
    intro n
    induction n with
    | zero => exact .inl fun i j _ hj => by omega
    | succ n ih =>
      rcases ih with h | h
      · by_cases hx : ∃ j, j < n ∧ s j = s n
        · obtain ⟨j, hj, e⟩ := hx
          exact .inr ⟨n, j, hj, h, e⟩
        · exact .inl (h.next fun j hj e => hx ⟨j, hj, e⟩)
      · exact .inr h
  rcases key (N + 1) with h | ⟨k, i, hi, hU, e⟩
  · have := Unlike.room hs h
    omega
  · exact ⟨i, k - i, hU.cyc hst hi e⟩
theorem implCycle_yes (W t S : Nat) (w : World) (hW : W ≤ 16) (ht : t < 2 ^ W) (hs : S < 2 ^ W) (hp : StateP W t S) :
    Calls Try.prog 17 #[.agg #[.int .i64 W, .int .i64 t], .int .i64 S] w fun e w' => ∃ b c : Nat, e = .returned (.tuple #[.int .i64 b, .int .i64 c, .bool true]) ∧ CycP (itr W t S) b c ∧ Below w.heap.size w w' := by
  have HS := Lib.hid hp
  have HC : Hid (∀ w : World, Calls Try.prog 35 #[.func (.func 36) #[] #[], .agg #[.int .i64 W, .int .i64 t], .int .i64 S] w fun e w' => (∃ b' c' : Nat, e = .returned (.tuple #[.int .i64 b', .int .i64 c']) ∧ CycP (itr W t S) b' c') ∧ Below w.heap.size w w') := fun w => by
    have hp : 2 ^ W ≤ 2 ^ 16 := Nat.pow_le_pow_right (by omega) hW
    obtain ⟨b, c, h0, h1, h2⟩ := comes_again (s := itr W t S) (N := 2 ^ W) (fun i => itr_lt hs i)
    exact cycleR_any (itr W t S) W t w 65536 b c (itr_steps W t S) h0 (by omega) h2 (Nat.le_refl _) (fun k V => regNext_any W t (itr W t S k) V hW ht (itr_lt hs k))
  clear hp ht hs hW
  go_enter Try.func17, Try.ntmps17
  go_wp2_with fail
  refine (hasState_b _ _ _ true _ (decide_eq_true HS.out)).mono ?_
  rintro e w1 ⟨rfl, hb⟩
  obtain ⟨b1, z1, c1, d1⟩ := keepR (b := w.heap.size) (x := .int .i64 W) (y := .int .i64 t) ((Below.refl w.heap.size w).alloc (Nat.le_refl _) _) hb (Nat.le_refl _) (by simp) (by simp [go_sem]) (by simp [go_sem])
  clear hb
  go_wp2_with fail
  refine (HC.out _).mono ?_
  rintro e w2 ⟨⟨b, c, rfl, hcy⟩, hb⟩
  have HCY := Lib.hid hcy
  obtain ⟨b2, _⟩ := keepR b1 hb (Nat.le_refl _) z1 c1 d1
  clear hb b1 z1 c1 d1 hcy
  go_wp2
  go_ret3
  exact ⟨b, c, rfl, HCY.out, b2⟩
theorem implCycle_no (x t s : Int) (w : World) (h : ¬ StateP x t s) :
    Calls Try.prog 17 #[.agg #[.int .i64 x, .int .i64 t], .int .i64 s] w fun e w' => e = .returned (.tuple #[.int .i64 0, .int .i64 0, .bool false]) ∧ Below w.heap.size w w' := by
  have HS := Lib.hid h
  clear h
  go_enter Try.func17, Try.ntmps17
  go_wp2_with fail
  refine (hasState_b _ _ _ false _ (decide_eq_false HS.out)).mono ?_
  rintro e w1 ⟨rfl, hb⟩
  have b1 := ((Below.refl w.heap.size w).alloc (Nat.le_refl _) _).trans (hb.mono (by simp))
  clear hb
  go_wp2
  go_ret3
  exact ⟨rfl, b1⟩
end Go.Proofs.Ytapccbplmbbnnac
