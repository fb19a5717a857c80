/- The laws FnExactValidRegister, FnExactStepRegister, FnExactPolyOf; the polynomial of a register. -/
import Derived.Test.YtapccbplmbbnnaaReg
namespace Go.Proofs.Ytapccbplmbbnnaa
open Go.RowKit Go.PlainAid
set_option maxHeartbeats 400000

/-- the polynomial of a register -/
def polyN2 (W t : Nat) : Nat := t + 2 ^ W
theorem or_poly {W t : Nat} (hW : W ≤ 16) (ht : t < 2 ^ W) : bits .or .i64 (2 ^ W) (t : Int) = (polyN2 W t : Nat) := by
  have h2 : 2 ^ W ≤ 2 ^ 16 := Nat.pow_le_pow_right (by omega) hW
  have e : (2 : Int) ^ W = ((2 ^ W : Nat) : Int) := by simp
  have h3 := or_above ht 1
  rw [e, i64_orN _ _ (by omega) (by omega), Nat.or_comm]
  unfold polyN2
  rw [Nat.mul_one] at h3
  rw [h3]
theorem poly_any (W t : Nat) (w : World) (hW : W ≤ 16) (ht : t < 2 ^ W) :
    Calls Try.prog 50 #[.agg #[.int .i64 W, .int .i64 t]] w fun e w' => e = .returned (.int .i64 (polyN2 W t)) ∧ Below w.heap.size w w' := by
  have E := or_poly hW ht
  obtain ⟨P, hP⟩ : ∃ P : Int, 2 ^ W = P := ⟨_, rfl⟩
  obtain ⟨p1, p2⟩ := pow62 W (by omega)
  rw [hP] at p1 p2 E
  clear ht
  go_enter Try.func50, Try.ntmps50
  go_wp2
  go_quiet (fail)
  go_wp2
  go_ret
  exact ⟨rfl, below_drewN ((Below.refl _ _).alloc (Nat.le_refl _) _) _⟩
theorem l02Of_any (g W t : Nat) (w : World) (h0 : w.cell? ⟨g, 0, none⟩ = some (.int .i64 W)) (h1 : w.cell? ⟨g, 1, none⟩ = some (.int .i64 t)) (hW : W ≤ 16) (ht : t < 2 ^ W) :
    Calls Try.prog 49 #[.pointer (some ⟨g, 0, none⟩)] w fun e w' => e = .returned (.int .i64 (polyN2 W t)) ∧ ∃ m, w' = w.drewN m := by
  have E := or_poly hW ht
  obtain ⟨P, hP⟩ : ∃ P : Int, 2 ^ W = P := ⟨_, rfl⟩
  obtain ⟨p1, p2⟩ := pow62 W (by omega)
  rw [hP] at p1 p2 E
  clear ht
  go_enter Try.func49, Try.ntmps49
  go_wp2
  go_quiet (fail)
  go_wp2
  go_ret
  exact ⟨rfl, _, rfl⟩
theorem specValid_b (x t : Int) (b : Bool) (w : World) (h : decide (RegP x t) = b) :
    Calls Try.prog 15 #[.agg #[.int .i64 x, .int .i64 t]] w fun e w' => e = .returned (.bool b) ∧ Below w.heap.size w w' := by
  have H := Lib.hid h
  clear h
  go_enter Try.func15, Try.ntmps15
  go_wp2_with (go_at_call 40; refine (l02Is_b w.heap.size x t b _ (by simp [go_sem]) (by simp [go_sem]) H.out).mono ?_; rintro e w1 ⟨rfl, m, rfl⟩)
  go_ret
  exact ⟨rfl, below_drewN ((Below.refl _ _).alloc (Nat.le_refl _) _) _⟩
theorem lawValid (x t : Int) (w : World) :
    Calls Try.prog 3 #[.agg #[.int .i64 x, .int .i64 t]] w fun e w' => e = .returned (.bool true) ∧ Below w.heap.size w w' := by
  obtain ⟨b, hb⟩ : ∃ b, decide (RegP x t) = b := ⟨_, rfl⟩
  have HB := Lib.hid hb
  have e : (b != b) = false := by simp
  clear hb
  go_enter Try.func3, Try.ntmps3
  go_wp2_with fail
  refine (toReg_any _ _ _).mono ?_
  rintro e w1 ⟨rfl, hb⟩
  obtain ⟨b1, z1, c1, d1⟩ := keepR (b := w.heap.size) (x := .int .i64 x) (y := .int .i64 t) ((Below.refl w.heap.size w).alloc (Nat.le_refl _) _) hb (Nat.le_refl _) (by simp) (by simp [go_sem]) (by simp [go_sem])
  clear hb
  go_wp2_with fail
  refine (specValid_b _ _ _ _ HB.out).mono ?_
  rintro e w2 ⟨rfl, hb⟩
  obtain ⟨b2, z2, c2, d2⟩ := keepR b1 hb (Nat.le_refl _) z1 c1 d1
  clear hb b1 z1 c1 d1
  go_wp2_with fail
  refine (toReg_any _ _ _).mono ?_
  rintro e w3 ⟨rfl, hb⟩
  obtain ⟨b3, z3, c3, d3⟩ := keepR b2 hb (Nat.le_refl _) z2 c2 d2
  clear hb b2 z2 c2 d2
  go_wp2_with fail
  refine (valid_b _ _ _ _ HB.out).mono ?_
  rintro e w4 ⟨rfl, hb⟩
  obtain ⟨b4, _⟩ := keepR b3 hb (Nat.le_refl _) z3 c3 d3
  clear hb b3 z3 c3 d3
  go_wp2
  go_ret
  exact ⟨rfl, b4⟩
theorem step_yes (W t s : Nat) (w : World) (hW : W ≤ 16) (ht : t < 2 ^ W) (hs : s < 2 ^ W) (hp : StateP W t s) :
    Calls Try.prog 19 #[.agg #[.int .i64 W, .int .i64 t], .int .i64 s] w fun e w' => e = .returned (.tuple #[.int .i64 (nxt W t s), .int .i64 (s % 2 : Nat), .bool true]) ∧ Below w.heap.size w w' := by
  have HS := Lib.hid hp
  have H1 := Lib.hid ht
  have H2 := Lib.hid hs
  have EB := and_one_i64' (s : Int)
  clear hp ht hs
  go_enter Try.func19, Try.ntmps19
  go_wp2_with fail
  refine (hasState_b _ _ _ true _ (decide_eq_true HS.out)).mono ?_
  rintro e w1 ⟨rfl, hb⟩
  obtain ⟨b1, z1, c1, d1⟩ := keepR (b := w.heap.size) (x := .int .i64 W) (y := .int .i64 t) ((Below.refl w.heap.size w).alloc (Nat.le_refl _) _) hb (Nat.le_refl _) (by simp) (by simp [go_sem]) (by simp [go_sem])
  clear hb
  go_wp2_with fail
  refine (next_any W t s _ hW H1.out H2.out).mono ?_
  rintro e w2 ⟨rfl, hb⟩
  obtain ⟨b2, _⟩ := keepR b1 hb (Nat.le_refl _) z1 c1 d1
  clear hb b1 z1 c1 d1
  go_wp2
  go_ret3
  exact ⟨rfl, b2⟩
theorem step_no (x t s : Int) (w : World) (h : ¬ StateP x t s) :
    Calls Try.prog 19 #[.agg #[.int .i64 x, .int .i64 t], .int .i64 s] w fun e w' => e = .returned (.tuple #[.int .i64 0, .int .i64 0, .bool false]) ∧ Below w.heap.size w w' := by
  have HS := Lib.hid h
  clear h
  go_enter Try.func19, Try.ntmps19
  go_wp2_with fail
  refine (hasState_b _ _ _ false _ (decide_eq_false HS.out)).mono ?_
  rintro e w1 ⟨rfl, hb⟩
  have b1 := ((Below.refl w.heap.size w).alloc (Nat.le_refl _) _).trans (hb.mono (by simp))
  clear hb
  go_wp2
  go_ret3
  exact ⟨rfl, b1⟩
theorem specStep_yes (W t s : Nat) (w : World) (hW : W ≤ 16) (ht2 : t < 65536) (hs : s < 2 ^ W) (hp : StateP W t s) :
    Calls Try.prog 18 #[.agg #[.int .i64 W, .int .i64 t], .int .i64 s] w fun e w' => e = .returned (.tuple #[.int .i64 (nxt W t s), .int .i64 (s % 2 : Nat), .bool true]) ∧ Below w.heap.size w w' := by
  have HS := Lib.hid hp
  have H2 := Lib.hid hs
  clear hp hs
  go_enter Try.func18, Try.ntmps18
  go_wp2_with (first | (go_at_call 43; refine (l02Both_b w.heap.size W t s true _ (by simp [go_sem]) (by simp [go_sem]) (decide_eq_true HS.out)).mono ?_; rintro e w1 ⟨rfl, m, rfl⟩) | (go_at_call 44; refine (l02Step_any w.heap.size W t s _ (by simp [go_sem]) (by simp [go_sem]) hW ht2 H2.out).mono ?_; rintro e w1 ⟨rfl, m, rfl⟩))
  go_ret3
  exact ⟨rfl, below_drewN ((Below.refl _ _).alloc (Nat.le_refl _) _) _⟩
theorem specStep_no (x t s : Int) (w : World) (h : ¬ StateP x t s) :
    Calls Try.prog 18 #[.agg #[.int .i64 x, .int .i64 t], .int .i64 s] w fun e w' => e = .returned (.tuple #[.int .i64 0, .int .i64 0, .bool false]) ∧ Below w.heap.size w w' := by
  have HS := Lib.hid h
  clear h
  go_enter Try.func18, Try.ntmps18
  go_wp2_with (go_at_call 43; refine (l02Both_b w.heap.size x t s false _ (by simp [go_sem]) (by simp [go_sem]) (decide_eq_false HS.out)).mono ?_; rintro e w1 ⟨rfl, m, rfl⟩)
  go_ret3
  exact ⟨rfl, below_drewN ((Below.refl _ _).alloc (Nat.le_refl _) _) _⟩
theorem lawStep_of (x t s v u : Int) (r : Bool) (w : World)
    (S : Hid (∀ w : World, Calls Try.prog 18 #[.agg #[.int .i64 x, .int .i64 t], .int .i64 s] w fun e w' => e = .returned (.tuple #[.int .i64 v, .int .i64 u, .bool r]) ∧ Below w.heap.size w w'))
    (I : Hid (∀ w : World, Calls Try.prog 19 #[.agg #[.int .i64 x, .int .i64 t], .int .i64 s] w fun e w' => e = .returned (.tuple #[.int .i64 v, .int .i64 u, .bool r]) ∧ Below w.heap.size w w')) :
    Calls Try.prog 4 #[.agg #[.int .i64 x, .int .i64 t], .int .i64 s] w fun e w' => e = .returned (.bool true) ∧ Below w.heap.size w w' := by
  have e1 : (v != v) = false := by simp
  have e2 : (u != u) = false := by simp
  have e3 : (r != r) = false := by simp
  go_enter Try.func4, Try.ntmps4
  go_wp2_with fail
  refine (toReg_any _ _ _).mono ?_
  rintro e w1 ⟨rfl, hb⟩
  obtain ⟨b1, z1, c1, d1⟩ := keepR (b := w.heap.size) (x := .int .i64 x) (y := .int .i64 t) ((Below.refl w.heap.size w).alloc (Nat.le_refl _) _) hb (Nat.le_refl _) (by simp) (by simp [go_sem]) (by simp [go_sem])
  clear hb
  go_wp2_with fail
  refine (S.out _).mono ?_
  rintro e w2 ⟨rfl, hb⟩
  obtain ⟨b2, z2, c2, d2⟩ := keepR b1 hb (Nat.le_refl _) z1 c1 d1
  clear hb b1 z1 c1 d1
  go_wp2_with fail
  refine (toReg_any _ _ _).mono ?_
  rintro e w3 ⟨rfl, hb⟩
  obtain ⟨b3, z3, c3, d3⟩ := keepR b2 hb (Nat.le_refl _) z2 c2 d2
  clear hb b2 z2 c2 d2
  go_wp2_with fail
  refine (I.out _).mono ?_
  rintro e w4 ⟨rfl, hb⟩
  obtain ⟨b4, _⟩ := keepR b3 hb (Nat.le_refl _) z3 c3 d3
  clear hb b3 z3 c3 d3
  go_wp2
  go_ret
  exact ⟨rfl, b4⟩
theorem lawStep (x t s : Int) (w : World) :
    Calls Try.prog 4 #[.agg #[.int .i64 x, .int .i64 t], .int .i64 s] w fun e w' => e = .returned (.bool true) ∧ Below w.heap.size w w' := by
  by_cases h : StateP x t s
  · have h' := h
    obtain ⟨W, T, S, rfl, rfl, rfl, hW, t1, s1, t2, s2⟩ := h.nat
    exact lawStep_of _ _ _ _ _ _ w (fun w => specStep_yes W T S w hW t2 s1 h') (fun w => step_yes W T S w hW t1 s1 h')
  · exact lawStep_of _ _ _ _ _ _ w (fun w => specStep_no x t s w h) (fun w => step_no x t s w h)
theorem polyOf_yes (W t : Nat) (w : World) (hW : W ≤ 16) (ht : t < 2 ^ W) (hp : RegP W t) :
    Calls Try.prog 23 #[.agg #[.int .i64 W, .int .i64 t]] w fun e w' => e = .returned (.tuple #[.int .i64 (polyN2 W t), .bool true]) ∧ Below w.heap.size w w' := by
  have HS := Lib.hid hp
  have H1 := Lib.hid ht
  clear hp ht
  go_enter Try.func23, Try.ntmps23
  go_wp2_with fail
  refine (valid_b _ _ true _ (decide_eq_true HS.out)).mono ?_
  rintro e w1 ⟨rfl, hb⟩
  obtain ⟨b1, z1, c1, d1⟩ := keepR (b := w.heap.size) (x := .int .i64 W) (y := .int .i64 t) ((Below.refl w.heap.size w).alloc (Nat.le_refl _) _) hb (Nat.le_refl _) (by simp) (by simp [go_sem]) (by simp [go_sem])
  clear hb
  go_wp2_with fail
  refine (poly_any W t _ hW H1.out).mono ?_
  rintro e w2 ⟨rfl, hb⟩
  obtain ⟨b2, _⟩ := keepR b1 hb (Nat.le_refl _) z1 c1 d1
  clear hb b1 z1 c1 d1
  go_wp2
  go_ret2
  exact ⟨rfl, b2⟩
theorem polyOf_no (x t : Int) (w : World) (h : ¬ RegP x t) :
    Calls Try.prog 23 #[.agg #[.int .i64 x, .int .i64 t]] w fun e w' => e = .returned (.tuple #[.int .i64 0, .bool false]) ∧ Below w.heap.size w w' := by
  have HS := Lib.hid h
  clear h
  go_enter Try.func23, Try.ntmps23
  go_wp2_with fail
  refine (valid_b _ _ false _ (decide_eq_false HS.out)).mono ?_
  rintro e w1 ⟨rfl, hb⟩
  have b1 := ((Below.refl w.heap.size w).alloc (Nat.le_refl _) _).trans (hb.mono (by simp))
  clear hb
  go_wp2
  go_ret2
  exact ⟨rfl, b1⟩
theorem specPolyOf_yes (W t : Nat) (w : World) (hW : W ≤ 16) (ht : t < 2 ^ W) (hp : RegP W t) :
    Calls Try.prog 22 #[.agg #[.int .i64 W, .int .i64 t]] w fun e w' => e = .returned (.tuple #[.int .i64 (polyN2 W t), .bool true]) ∧ Below w.heap.size w w' := by
  have HS := Lib.hid hp
  have H2 := Lib.hid ht
  clear hp ht
  go_enter Try.func22, Try.ntmps22
  go_wp2_with (first | (go_at_call 40; refine (l02Is_b w.heap.size W t true _ (by simp [go_sem]) (by simp [go_sem]) (decide_eq_true HS.out)).mono ?_; rintro e w1 ⟨rfl, m, rfl⟩) | (go_at_call 49; refine (l02Of_any w.heap.size W t _ (by simp [go_sem]) (by simp [go_sem]) hW H2.out).mono ?_; rintro e w1 ⟨rfl, m, rfl⟩))
  go_ret2
  exact ⟨rfl, below_drewN ((Below.refl _ _).alloc (Nat.le_refl _) _) _⟩
theorem specPolyOf_no (x t : Int) (w : World) (h : ¬ RegP x t) :
    Calls Try.prog 22 #[.agg #[.int .i64 x, .int .i64 t]] w fun e w' => e = .returned (.tuple #[.int .i64 0, .bool false]) ∧ Below w.heap.size w w' := by
  have HS := Lib.hid h
  clear h
  go_enter Try.func22, Try.ntmps22
  go_wp2_with (go_at_call 40; refine (l02Is_b w.heap.size x t false _ (by simp [go_sem]) (by simp [go_sem]) (decide_eq_false HS.out)).mono ?_; rintro e w1 ⟨rfl, m, rfl⟩)
  go_ret2
  exact ⟨rfl, below_drewN ((Below.refl _ _).alloc (Nat.le_refl _) _) _⟩
theorem lawPolyOf_of (x t v : Int) (r : Bool) (w : World)
    (S : Hid (∀ w : World, Calls Try.prog 22 #[.agg #[.int .i64 x, .int .i64 t]] w fun e w' => e = .returned (.tuple #[.int .i64 v, .bool r]) ∧ Below w.heap.size w w'))
    (I : Hid (∀ w : World, Calls Try.prog 23 #[.agg #[.int .i64 x, .int .i64 t]] w fun e w' => e = .returned (.tuple #[.int .i64 v, .bool r]) ∧ Below w.heap.size w w')) :
    Calls Try.prog 6 #[.agg #[.int .i64 x, .int .i64 t]] w fun e w' => e = .returned (.bool true) ∧ Below w.heap.size w w' := by
  have e1 : (v != v) = false := by simp
  have e3 : (r != r) = false := by simp
  go_enter Try.func6, Try.ntmps6
  go_wp2_with fail
  refine (toReg_any _ _ _).mono ?_
  rintro e w1 ⟨rfl, hb⟩
  obtain ⟨b1, z1, c1, d1⟩ := keepR (b := w.heap.size) (x := .int .i64 x) (y := .int .i64 t) ((Below.refl w.heap.size w).alloc (Nat.le_refl _) _) hb (Nat.le_refl _) (by simp) (by simp [go_sem]) (by simp [go_sem])
  clear hb
  go_wp2_with fail
  refine (S.out _).mono ?_
  rintro e w2 ⟨rfl, hb⟩
  obtain ⟨b2, z2, c2, d2⟩ := keepR b1 hb (Nat.le_refl _) z1 c1 d1
  clear hb b1 z1 c1 d1
  go_wp2_with fail
  refine (toReg_any _ _ _).mono ?_
  rintro e w3 ⟨rfl, hb⟩
  obtain ⟨b3, z3, c3, d3⟩ := keepR b2 hb (Nat.le_refl _) z2 c2 d2
  clear hb b2 z2 c2 d2
  go_wp2_with fail
  refine (I.out _).mono ?_
  rintro e w4 ⟨rfl, hb⟩
  obtain ⟨b4, _⟩ := keepR b3 hb (Nat.le_refl _) z3 c3 d3
  clear hb b3 z3 c3 d3
  go_wp2
  go_ret
  exact ⟨rfl, b4⟩
theorem lawPolyOf (x t : Int) (w : World) :
    Calls Try.prog 6 #[.agg #[.int .i64 x, .int .i64 t]] w fun e w' => e = .returned (.bool true) ∧ Below w.heap.size w w' := by
  by_cases h : RegP x t
  · have h' := h
    obtain ⟨hx, ht⟩ := h
    obtain ⟨W, rfl, hW⟩ := width_of hx
    obtain ⟨T, rfl, t1, t2⟩ := state_of hW ht
    exact lawPolyOf_of _ _ _ _ w (fun w => specPolyOf_yes W T w hW t1 h') (fun w => polyOf_yes W T w hW t1 h')
  · exact lawPolyOf_of _ _ _ _ w (fun w => specPolyOf_no x t w h) (fun w => polyOf_no x t w h)
end Go.Proofs.Ytapccbplmbbnnaa
