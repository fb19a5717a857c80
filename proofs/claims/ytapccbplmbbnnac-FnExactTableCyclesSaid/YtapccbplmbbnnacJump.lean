/- Jumps of registers: impl.JumpRegister, spec.JumpRegister, the law FnExactJumpRegister. -/
import Derived.Test.YtapccbplmbbnnacRegLaws
namespace Go.Proofs.Ytapccbplmbbnnac
open Go.RowKit Go.PlainAid
set_option maxHeartbeats 400000

/-- the first k bits of the state after n steps -/
def jmp (p s n : Nat) : Nat → Nat
  | 0 => 0
  | k + 1 => jmp p s n k + Pop.pcF 64 (Pl.pw p (n + k) &&& s) % 2 * 2 ^ k
theorem jmp_lt (p s n : Nat) : ∀ k, jmp p s n k < 2 ^ k := by
  intro k
  induction k with
  | zero => simp [jmp]
  | succ k ih =>
    rw [jmp, Nat.pow_succ]
    have h : Pop.pcF 64 (Pl.pw p (n + k) &&& s) % 2 * 2 ^ k ≤ 1 * 2 ^ k := Nat.mul_le_mul_right _ (by omega)
    omega
theorem jmp_step {p s n k c : Nat} (hk : k ≤ 16) (hc : Pop.pcF 64 (Pl.pw p (n + k) &&& s) % 2 = c) : bits .or .i64 (jmp p s n k : Int) (wrap64 ((c : Int) * 2 ^ k)) = (jmp p s n (k + 1) : Nat) := by
  rw [or_shl hk (jmp_lt p s n k) (by omega), jmp, hc]
theorem poly_pos (W t : Nat) : 0 < polyN2 W t := by
  have : 0 < 2 ^ W := Nat.pow_pos (by omega)
  unfold polyN2
  omega
theorem poly_lt {W t : Nat} (hW : W ≤ 16) (ht : t < 2 ^ W) : polyN2 W t < 4294967296 := by
  have : 2 ^ W ≤ 2 ^ 16 := Nat.pow_le_pow_right (by omega) hW
  unfold polyN2
  omega

theorem jump_yes (W t s n : Nat) (w : World) (hW : W ≤ 16) (ht : t < 2 ^ W) (hs : s < 65536) (hn : n ≤ 1000000000000000000) (hp : StateP W t s) :
    Calls Try.prog 19 #[.agg #[.int .i64 W, .int .i64 t], .int .i64 s, .int .i64 n] w fun e w' => e = .returned (.tuple #[.int .i64 (jmp (polyN2 W t) s n W), .bool true]) ∧ Below w.heap.size w w' := by
  have HS := Lib.hid hp
  have H1 := Lib.hid ht
  have h0 := poly_pos W t
  have h2 := poly_lt hW ht
  have HI : Hid (∀ w : World, Calls Try.prog 24 #[.int .i64 n, .int .i64 0, .int .i64 1000000000000000000] w fun e w' => e = .returned (.bool true) ∧ w = w') := fun w => btw64_b _ _ _ _ (decide_eq_true (by omega)) w
  have HQ : Hid (∀ w : World, Calls Try.prog 38 #[.agg #[.int .i64 W, .int .i64 t]] w fun e w' => e = .returned (.int .i64 (polyN2 W t)) ∧ Below w.heap.size w w') := fun w => poly_any W t w hW ht
  clear hp ht
  obtain ⟨p, hp⟩ : ∃ p, polyN2 W t = p := ⟨_, rfl⟩
  rw [hp] at h0 h2 HQ ⊢
  have HX : Hid (∀ w : World, Calls Try.prog 39 #[.int .i64 p, .int .i64 n] w fun e w' => e = .returned (.int .i64 (Pl.pw p (n + 0))) ∧ w = w') := fun w => powerOfX_any p n w (by omega) h0 h2
  clear hp
  go_enter Try.func19, Try.ntmps19
  go_wp2_with fail
  refine (hasState_b _ _ _ true _ (decide_eq_true HS.out)).mono ?_
  rintro e w1 ⟨rfl, hb⟩
  obtain ⟨b1, z1, c1, d1⟩ := keepR (b := w.heap.size) (x := .int .i64 W) (y := .int .i64 t) ((Below.refl w.heap.size w).alloc (Nat.le_refl _) _) hb (Nat.le_refl _) (by simp) (by simp [go_sem]) (by simp [go_sem])
  clear hb
  go_wp2_with (go_at_call 24; with_reducible refine (HI.out _).mono ?_; rintro e w2 ⟨rfl, rfl⟩)
  refine (HQ.out _).mono ?_
  rintro e w2 ⟨rfl, hb⟩
  obtain ⟨b2, z2, c2, d2⟩ := keepR b1 hb (Nat.le_refl _) z1 c1 d1
  clear hb b1 z1 c1 d1
  go_wp2_with (go_at_call 39; with_reducible refine (HX.out _).mono ?_; rintro e w3 ⟨rfl, rfl⟩)
  go_loop [8, 10, 11, 28] (fun j o _ i => ∃ k : Nat, k ≤ W ∧ j = .int .i64 (jmp p s n k) ∧ o = .int .i64 (Pl.pw p (n + k)) ∧ i = .int .i64 k) (fun _ _ _ i => W - (intOf i).toNat)
  case atStart => exact ⟨0, Nat.zero_le _, rfl, rfl, rfl⟩
  case round =>
    obtain ⟨k, hk, rfl, rfl, rfl⟩ := hrel
    by_cases hlt : k < W
    · obtain ⟨x, hx⟩ : ∃ x, Pl.pw p (n + k) &&& s = x := ⟨_, rfl⟩
      have hpw := pw_lt h0 h2 (n + k)
      have hx1 : x ≤ s := by rw [← hx]; exact Nat.and_le_right
      have E := i64_andI (Pl.pw p (n + k) : Int) (s : Int) _ s x rfl rfl hx (by omega) (by omega)
      obtain ⟨c, hc⟩ : ∃ c, Pop.pcF 64 x % 2 = c := ⟨_, rfl⟩
      have HP : Hid (∀ w : World, Calls Try.prog 40 #[.int .i64 x] w fun e w' => e = .returned (.int .i64 c) ∧ w = w') := fun w => by rw [← hc]; exact parity_any x w (by omega)
      have E2 := jmp_step (p := p) (s := s) (n := n) (k := k) (c := c) (by omega) (by rw [hx]; exact hc)
      have HT : Hid (∀ w : World, Calls Try.prog 41 #[.int .i64 p, .int .i64 (Pl.pw p (n + k))] w fun e w' => e = .returned (.int .i64 (Pl.pw p (n + k + 1))) ∧ w = w') := fun w => by
        rw [Pl.pw_succ]
        exact timesX_any p _ w h0 h2 (Pl.rem_lt h0 _)
      clear hx hc
      go_wp2_with (first | (go_at_call 40; with_reducible refine (HP.out _).mono ?_; rintro e w3 ⟨rfl, rfl⟩) | (go_at_call 41; with_reducible refine (HT.out _).mono ?_; rintro e w3 ⟨rfl, rfl⟩))
      go_round
      case rel => exact ⟨k + 1, by omega, rfl, rfl, by go_num⟩
      case measure => simp [intOf]; omega
    · obtain rfl : k = W := by omega
      go_wp2
      go_ret2
      exact ⟨rfl, b2⟩
theorem jump_no (x t s n : Int) (w : World) (h : ¬ (StateP x t s ∧ 0 ≤ n ∧ n ≤ 1000000000000000000)) :
    Calls Try.prog 19 #[.agg #[.int .i64 x, .int .i64 t], .int .i64 s, .int .i64 n] w fun e w' => e = .returned (.tuple #[.int .i64 0, .bool false]) ∧ Below w.heap.size w w' := by
  by_cases hp : StateP x t s
  · have HS := Lib.hid hp
    have HI : Hid (∀ w : World, Calls Try.prog 24 #[.int .i64 n, .int .i64 0, .int .i64 1000000000000000000] w fun e w' => e = .returned (.bool false) ∧ w = w') := fun w => btw64_b _ _ _ _ (decide_eq_false fun y => h ⟨hp, y⟩) w
    clear hp h
    go_enter Try.func19, Try.ntmps19
    go_wp2_with fail
    refine (hasState_b _ _ _ true _ (decide_eq_true HS.out)).mono ?_
    rintro e w1 ⟨rfl, hb⟩
    have b1 := ((Below.refl w.heap.size w).alloc (Nat.le_refl _) _).trans (hb.mono (by simp))
    clear hb
    go_wp2_with (go_at_call 24; with_reducible refine (HI.out _).mono ?_; rintro e w2 ⟨rfl, rfl⟩)
    go_ret2
    exact ⟨rfl, b1⟩
  · have HS := Lib.hid hp
    clear hp h
    go_enter Try.func19, Try.ntmps19
    go_wp2_with fail
    refine (hasState_b _ _ _ false _ (decide_eq_false HS.out)).mono ?_
    rintro e w1 ⟨rfl, hb⟩
    have b1 := ((Below.refl w.heap.size w).alloc (Nat.le_refl _) _).trans (hb.mono (by simp))
    clear hb
    go_wp2
    go_ret2
    exact ⟨rfl, b1⟩
end Go.Proofs.Ytapccbplmbbnnac
