/- Radical inverses: impl.RadicalInverse, spec.l10Inverse, spec.RadicalInverse, the law. -/
import Derived.Test.YtmnnpkmjamhmcabMake
import Derived.Test.YtmnnpkmjamhmcabBtw
namespace Go.Proofs.Ytmnnpkmjamhmcab
open Go.RowKit Go.PlainAid
set_option maxHeartbeats 800000

/-- the numerator and the denominator: rounds, the rest of the number, what there is -/
def rdx (b : Nat) : Nat → Nat → Nat → Nat → Nat × Nat
  | 0, _, num, den => (num, den)
  | k + 1, n, num, den => if n = 0 then (num, den) else rdx b k (n / b) (num * b + n % b) (den * b)
def rad (b n : Nat) : Nat × Nat := rdx b 20 n 0 1
theorem rdx_zero (b k num den : Nat) : rdx b k 0 num den = (num, den) := by
  cases k <;> simp [rdx]
/-- the loop's state -/
def RdI (b n0 n num den : Nat) : Prop := ∃ k, rdx b k n num den = rad b n0 ∧ n < 2 ^ k ∧ num < den ∧ den ≤ 36000000 ∧ den * n ≤ 1000000 ∧ 1 ≤ den
theorem RdI.first {b n0 : Nat} (h : n0 ≤ 1000000) : RdI b n0 n0 0 1 := ⟨20, rfl, by omega, by omega, by omega, by omega, by omega⟩
theorem RdI.next {b n0 n num den : Nat} (hb : 2 ≤ b) (hb2 : b ≤ 36) (h : RdI b n0 n num den) (hn : 0 < n) : RdI b n0 (n / b) (num * b + n % b) (den * b) ∧ den ≤ 1000000 := by
  obtain ⟨k, h1, h2, h3, h4, h5, h6⟩ := h
  have hden : den ≤ 1000000 := Nat.le_trans (Nat.le_mul_of_pos_right den hn) h5
  cases k with
  | zero => omega
  | succ k =>
    have hm : n % b < b := Nat.mod_lt _ (by omega)
    refine ⟨⟨k, ?_, ?_, ?_, ?_, ?_, ?_⟩, hden⟩
    · rw [rdx, if_neg (by omega)] at h1
      exact h1
    · have : n / b ≤ n / 2 := Nat.div_le_div_left hb (by omega)
      have : 2 ^ (k + 1) = 2 ^ k * 2 := Nat.pow_succ 2 k
      omega
    · have : (num + 1) * b ≤ den * b := Nat.mul_le_mul_right b h3
      have e : (num + 1) * b = num * b + b := by rw [Nat.add_mul, Nat.one_mul]
      omega
    · have : den * b ≤ 1000000 * 36 := Nat.mul_le_mul hden hb2
      omega
    · have : b * (n / b) ≤ n := Nat.mul_div_le n b
      calc den * b * (n / b) = den * (b * (n / b)) := Nat.mul_assoc _ _ _
        _ ≤ den * n := Nat.mul_le_mul_left den this
        _ ≤ 1000000 := h5
    · exact Nat.mul_pos h6 (by omega)
theorem RdI.done {b n0 num den : Nat} (h : RdI b n0 0 num den) : rad b n0 = (num, den) := by
  obtain ⟨k, h1, _⟩ := h
  rw [rdx_zero] at h1
  exact h1.symm
theorem rad_in {b n : Nat} (hb : 2 ≤ b) (hb2 : b ≤ 36) (h : n ≤ 1000000) : (rad b n).1 < (rad b n).2 ∧ (rad b n).2 ≤ 36000000 ∧ 1 ≤ (rad b n).2 := by
  have key : ∀ k n num den, RdI b n num den = RdI b n num den → ∀ m, RdI b m n num den → n < 2 ^ k → (rad b m).1 < (rad b m).2 ∧ (rad b m).2 ≤ 36000000 ∧ 1 ≤ (rad b m).2 := by
    intro k
    induction k with
    | zero =>
      intro n num den _ m h hn
      obtain rfl : n = 0 := by omega
      rw [h.done]
      obtain ⟨_, _, _, h3, h4, _, h6⟩ := h
      exact ⟨h3, h4, h6⟩
    | succ k ih =>
      intro n num den _ m h hn
      by_cases h0 : n = 0
      · subst h0
        rw [h.done]
        obtain ⟨_, _, _, h3, h4, _, h6⟩ := h
        exact ⟨h3, h4, h6⟩
      · refine ih _ _ _ rfl m (h.next hb hb2 (by omega)).1 ?_
        have : n / b ≤ n / 2 := Nat.div_le_div_left hb (by omega)
        have : 2 ^ (k + 1) = 2 ^ k * 2 := Nat.pow_succ 2 k
        omega
  exact key 20 n 0 1 rfl n (RdI.first h) (by omega)
theorem rad_yes (n b : Nat) (w : World) (hn : n ≤ 1000000) (hb : 2 ≤ b) (hb2 : b ≤ 36) :
    Calls Try.prog 16 #[.int .i64 n, .int .i64 b] w fun e w' => e = .returned (.tuple #[.agg #[.int .i64 (mkN (rad b n).1 (rad b n).2), .int .i64 (mkD (rad b n).1 (rad b n).2)], .bool true]) ∧ Below w.heap.size w w' := by
  have H1 : Hid (∀ W, Calls Try.prog 53 #[.int .i64 n, .int .i64 0, .int .i64 1000000] W fun e w' => e = .returned (.bool true) ∧ W = w') := btw64_b n 0 1000000 true (decide_eq_true (by omega))
  have H2 : Hid (∀ W, Calls Try.prog 53 #[.int .i64 b, .int .i64 2, .int .i64 36] W fun e w' => e = .returned (.bool true) ∧ W = w') := btw64_b b 2 36 true (decide_eq_true (by omega))
  have HF := Lib.hid (RdI.first (b := b) hn)
  have hdn := rad_in hb hb2 hn
  obtain ⟨⟨N0, D0⟩, hND⟩ : ∃ p, rad b n = p := ⟨_, rfl⟩
  rw [hND] at hdn ⊢
  have HDN := Lib.hid hdn
  have HND := Lib.hid hND
  clear hdn hND
  go_enter Try.func16, Try.ntmps16
  go_wp2_with (go_at_call 53; first | (with_reducible refine (H1.out _).mono ?_; rintro e w1 ⟨rfl, rfl⟩) | (with_reducible refine (H2.out _).mono ?_; rintro e w1 ⟨rfl, rfl⟩))
  go_loop [0, 6, 7] (fun nv uv dv => ∃ k num den : Nat, nv = .int .i64 k ∧ uv = .int .i64 num ∧ dv = .int .i64 den ∧ k ≤ 1000000 ∧ num ≤ 36000000 ∧ den ≤ 36000000 ∧ Hid (RdI b n k num den)) (fun nv _ _ => (intOf nv).toNat)
  case atStart => exact ⟨n, 0, 1, rfl, rfl, rfl, hn, by omega, by omega, HF⟩
  case round =>
    obtain ⟨k, num, den, rfl, rfl, rfl, hk, hnum, hden, HR⟩ := hrel
    by_cases h0 : 0 < k
    · obtain ⟨hR, hd1⟩ := HR.out.next hb hb2 h0
      have hl := HR.out
      obtain ⟨_, _, _, hlt, _⟩ := hl
      have hR2 := hR
      obtain ⟨_, _, _, hlt2, hden2, _⟩ := hR2
      have HN := Lib.hid hR
      have e1 : (k : Int).tmod (b : Int) = ((k % b : Nat) : Int) := by rw [Int.tmod_eq_emod_of_nonneg (by omega)]; rfl
      have e2 : (k : Int).tdiv (b : Int) = ((k / b : Nat) : Int) := by rw [Int.tdiv_eq_ediv_of_nonneg (by omega)]; rfl
      have hq : k / b ≤ k / 2 := Nat.div_le_div_left hb (by omega)
      have hr : k % b < b := Nat.mod_lt _ (by omega)
      have e3 : (num : Int) * (b : Int) = ((num * b : Nat) : Int) := rfl
      have e4 : (den : Int) * (b : Int) = ((den * b : Nat) : Int) := rfl
      generalize k / b = q at e2 hq HN
      generalize k % b = r at e1 hr HN hlt2
      generalize num * b = p at e3 HN hlt2
      generalize den * b = d at e4 HN hlt2 hden2
      clear hR HR
      go_wp2
      go_round
      case rel => exact ⟨q, p + r, d, by first | rfl | go_num, by go_num, by first | rfl | go_num, by omega, by omega, by omega, HN⟩
      case measure => simp [intOf]; omega
    · obtain rfl : k = 0 := by omega
      have hd := HR.out.done
      rw [HND.out] at hd
      cases hd
      have hdn := HDN.out
      have HM := Lib.hid (make_yes (N0 : Int) (D0 : Int) (w.alloc (.cells #[.int .i64 0, .int .i64 0] 27)) (by omega) (by omega) (by omega) (by omega) (by omega))
      clear hdn HR
      go_wp2_with fail
      refine HM.out.mono ?_
      rintro e w1 ⟨rfl, hb⟩
      obtain ⟨b1, z1, c0, c1, f0, f1⟩ := keepW (b := w.heap.size) (x := .int .i64 0) (y := .int .i64 0) ((Below.refl w.heap.size w).alloc (Nat.le_refl _) _) hb (Nat.le_refl _) (by simp) (by simp [go_sem]) (by simp [go_sem]) (by simp [go_sem]) (by simp [go_sem])
      clear hb
      go_wp2
      exact bodyPost_ret (v := .tuple #[.agg #[.int .i64 (mkN N0 D0), .int .i64 (mkD N0 D0)], .bool true]) (by simp [results, Try.results16, go_sem, c0, c1]) rfl ⟨rfl, (b1.setCell (by simp) _).setCell (by simp) _⟩
theorem rad_no (n b : Int) (w : World) (h : ¬ ((0 ≤ n ∧ n ≤ 1000000) ∧ 2 ≤ b ∧ b ≤ 36)) :
    Calls Try.prog 16 #[.int .i64 n, .int .i64 b] w fun e w' => e = .returned (.tuple #[.agg #[.int .i64 0, .int .i64 0], .bool false]) ∧ Below w.heap.size w w' := by
  by_cases h1 : 0 ≤ n ∧ n ≤ 1000000
  · have H1 : Hid (∀ W, Calls Try.prog 53 #[.int .i64 n, .int .i64 0, .int .i64 1000000] W fun e w' => e = .returned (.bool true) ∧ W = w') := btw64_b n 0 1000000 true (decide_eq_true (by omega))
    have H2 : Hid (∀ W, Calls Try.prog 53 #[.int .i64 b, .int .i64 2, .int .i64 36] W fun e w' => e = .returned (.bool false) ∧ W = w') := btw64_b b 2 36 false (decide_eq_false (by omega))
    clear h h1
    go_enter Try.func16, Try.ntmps16
    go_wp2_with (go_at_call 53; first | (with_reducible refine (H1.out _).mono ?_; rintro e w1 ⟨rfl, rfl⟩) | (with_reducible refine (H2.out _).mono ?_; rintro e w1 ⟨rfl, rfl⟩))
    go_returns
    exact ⟨rfl, by go_grown⟩
  · have H1 : Hid (∀ W, Calls Try.prog 53 #[.int .i64 n, .int .i64 0, .int .i64 1000000] W fun e w' => e = .returned (.bool false) ∧ W = w') := btw64_b n 0 1000000 false (decide_eq_false (by omega))
    clear h h1
    go_enter Try.func16, Try.ntmps16
    go_wp2_with (go_at_call 53; (with_reducible refine (H1.out _).mono ?_; rintro e w1 ⟨rfl, rfl⟩))
    go_returns
    exact ⟨rfl, by go_grown⟩
end Go.Proofs.Ytmnnpkmjamhmcab
