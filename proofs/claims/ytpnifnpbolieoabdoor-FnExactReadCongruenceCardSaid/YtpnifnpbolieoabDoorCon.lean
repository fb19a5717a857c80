/- Congruences: whether they are valid, their steps: impl and spec; the laws FnExactValidCongruence and FnExactNextState. -/
import Derived.Test.YtpnifnpbolieoabDoorBtw
import Derived.Test.YtpnifnpbolieoabDoorConMath
import Derived.Deep.QuietTactic
import Derived.BigQuiet
import Derived.RegionTactic
import Derived.ChangeAlike
import Derived.WalkSmall
import Derived.Laws.Pointers
namespace Go.Proofs.YtpnifnpbolieoabDoor
open Go.RowKit Go.PlainAid
set_option maxHeartbeats 400000

theorem drawn_two (W : World) (a b : Nat) : (W.drewN a).drewN b = W.drewN (a + b) := by simp [World.drewN, Nat.add_assoc]
theorem quietK {P : Program} {f : FuncId} {args : Array Value} {W : World} {n : Nat} {v : Value} (h : Calls P f args (W.drewN n) fun e w' => e = .returned v ∧ W.drewN n = w') :
    Calls P f args (W.drewN n) fun e w'' => e = .returned v ∧ ∃ m, w'' = W.drewN m := h.mono fun _ _ ⟨he, hw⟩ => ⟨he, n, hw.symm⟩
/-- a congruence in block b behind other blocks -/
def KAt (B : Nat) (w : World) (b : Nat) (x y z : Value) (V : World) : Prop := V.cell? ⟨b, 0, none⟩ = some x ∧ V.cell? ⟨b, 1, none⟩ = some y ∧ V.cell? ⟨b, 2, none⟩ = some z ∧ B ≤ b ∧ b < V.heap.size ∧ Below B w V
theorem KAt.below {B b : Nat} {w V V1 : World} {x y z : Value} (h : KAt B w b x y z V) (hb : Below V.heap.size V V1) : KAt B w b x y z V1 := by
  obtain ⟨h0, h1, h2, hB, hlt, ha⟩ := h
  exact ⟨(hb.cell (p := ⟨b, 0, none⟩) hlt).trans h0, (hb.cell (p := ⟨b, 1, none⟩) hlt).trans h1, (hb.cell (p := ⟨b, 2, none⟩) hlt).trans h2, hB, Nat.lt_of_lt_of_le hlt hb.size, ha.trans (hb.mono (by omega))⟩
theorem KAt.drewN {B b : Nat} {w V : World} {x y z : Value} (h : KAt B w b x y z V) (m : Nat) : KAt B w b x y z (V.drewN m) :=
  ⟨h.1, h.2.1, h.2.2.1, h.2.2.2.1, h.2.2.2.2.1, below_drewN h.2.2.2.2.2 m⟩
theorem KAt.new (w : World) (x y z : Value) (t : TypeId) : KAt w.heap.size w w.heap.size x y z (w.alloc (.cells #[x, y, z] t)) :=
  ⟨by simp [go_sem], by simp [go_sem], by simp [go_sem], Nat.le_refl _, by simp, (Below.refl w.heap.size w).alloc (Nat.le_refl _) _⟩
theorem KAt.all {B b : Nat} {w V : World} {x y z : Value} (h : KAt B w b x y z V) : Below B w V := h.2.2.2.2.2

/-- a valid congruence -/
def ConP (m a c : Int) : Prop := (2 ≤ m ∧ m ≤ 100000) ∧ (0 ≤ a ∧ a ≤ m - 1) ∧ (0 ≤ c ∧ c ≤ m - 1)
instance (m a c : Int) : Decidable (ConP m a c) := by unfold ConP; infer_instance
theorem ConP.nat {m a c : Int} (h : ConP m a c) : ∃ M A C : Nat, m = M ∧ a = A ∧ c = C ∧ 2 ≤ M ∧ M ≤ 100000 ∧ A < M ∧ C < M := by
  obtain ⟨h1, h2, h3⟩ := h
  exact ⟨m.toNat, a.toNat, c.toNat, by omega, by omega, by omega, by omega, by omega, by omega, by omega⟩
theorem conP_nat {M A C : Nat} (h1 : 2 ≤ M) (h2 : M ≤ 100000) (h3 : A < M) (h4 : C < M) : ConP M A C := ⟨by omega, by omega, by omega⟩
/-- a valid congruence and a state of it -/
def ConS (m a c x : Int) : Prop := ConP m a c ∧ 0 ≤ x ∧ x ≤ m - 1
instance (m a c x : Int) : Decidable (ConS m a c x) := by unfold ConS; infer_instance
theorem ConS.nat {m a c x : Int} (h : ConS m a c x) : ∃ M A C X : Nat, m = M ∧ a = A ∧ c = C ∧ x = X ∧ 2 ≤ M ∧ M ≤ 100000 ∧ A < M ∧ C < M ∧ X < M := by
  obtain ⟨h1, h2⟩ := h
  obtain ⟨M, A, C, rfl, rfl, rfl, h3, h4, h5, h6⟩ := h1.nat
  exact ⟨M, A, C, x.toNat, rfl, rfl, rfl, by omega, h3, h4, h5, h6, by omega⟩
theorem conS_nat {M A C X : Nat} (h1 : 2 ≤ M) (h2 : M ≤ 100000) (h3 : A < M) (h4 : C < M) (h5 : X < M) : ConS M A C X := ⟨conP_nat h1 h2 h3 h4, by omega, by omega⟩

theorem l03Is_b (g : Nat) (m a c : Int) (b : Bool) (w : World) (h0 : w.cell? ⟨g, 0, none⟩ = some (.int .i64 m)) (h1 : w.cell? ⟨g, 1, none⟩ = some (.int .i64 a)) (h2 : w.cell? ⟨g, 2, none⟩ = some (.int .i64 c)) (h : decide (ConP m a c) = b) :
    Calls Tryd.prog 63 #[.pointer (some ⟨g, 0, none⟩)] w fun e w' => e = .returned (.bool b) ∧ ∃ m, w' = w.drewN m := by
  by_cases hm : 2 ≤ m ∧ m ≤ 100000
  · have HI : Hid (∀ w : World, Calls Tryd.prog 71 #[.int .i64 m, .int .i64 2, .int .i64 100000] w fun e w' => e = .returned (.bool true) ∧ w = w') := fun w => l00In_b _ _ _ _ (decide_eq_true hm) w
    by_cases ha : 0 ≤ a ∧ a ≤ m - 1
    · have HA : Hid (∀ w : World, Calls Tryd.prog 71 #[.int .i64 a, .int .i64 0, .int .i64 (m - 1)] w fun e w' => e = .returned (.bool true) ∧ w = w') := fun w => l00In_b _ _ _ _ (decide_eq_true ha) w
      have HC : Hid (∀ w : World, Calls Tryd.prog 71 #[.int .i64 c, .int .i64 0, .int .i64 (m - 1)] w fun e w' => e = .returned (.bool b) ∧ w = w') := fun w => l00In_b _ _ _ _ (by rw [← h]; congr 1; exact propext ⟨fun y => ⟨hm, ha, y⟩, fun y => y.2.2⟩) w
      clear h ha
      cases b
      all_goals
        go_enter Tryd.func63, Tryd.ntmps63
        go_wp2
        go_quiet ((go_at_call 71; first | with_reducible exact quietK (HI.out _) | with_reducible exact quietK (HA.out _) | with_reducible exact quietK (HC.out _)))
        go_wp2
        go_ret
        exact ⟨rfl, _, rfl⟩
    · have HA : Hid (∀ w : World, Calls Tryd.prog 71 #[.int .i64 a, .int .i64 0, .int .i64 (m - 1)] w fun e w' => e = .returned (.bool false) ∧ w = w') := fun w => l00In_b _ _ _ _ (decide_eq_false ha) w
      obtain rfl : b = false := by rw [← h]; exact decide_eq_false (fun y => ha y.2.1)
      clear h ha
      go_enter Tryd.func63, Tryd.ntmps63
      go_wp2
      go_quiet ((go_at_call 71; first | with_reducible exact quietK (HI.out _) | with_reducible exact quietK (HA.out _)))
      go_wp2
      go_ret
      exact ⟨rfl, _, rfl⟩
  · have HI : Hid (∀ w : World, Calls Tryd.prog 71 #[.int .i64 m, .int .i64 2, .int .i64 100000] w fun e w' => e = .returned (.bool false) ∧ w = w') := fun w => l00In_b _ _ _ _ (decide_eq_false hm) w
    obtain rfl : b = false := by rw [← h]; exact decide_eq_false (fun y => hm y.1)
    clear h hm
    go_enter Tryd.func63, Tryd.ntmps63
    go_wp2
    go_quiet ((go_at_call 71; with_reducible exact quietK (HI.out _)))
    go_wp2
    go_ret
    exact ⟨rfl, _, rfl⟩

theorem isModulus_b (m : Int) (b : Bool) (w : World) (h : decide (2 ≤ m ∧ m ≤ 100000) = b) :
    Calls Tryd.prog 73 #[.int .i64 m] w fun e w' => e = .returned (.bool b) ∧ w = w' := by
  have HI : Hid (∀ w : World, Calls Tryd.prog 81 #[.int .i64 m, .int .i64 2, .int .i64 100000] w fun e w' => e = .returned (.bool b) ∧ w = w') := fun w => btw64_b _ _ _ _ h w
  clear h
  go_enter Tryd.func73, Tryd.ntmps73
  go_wp2_with (go_at_call 81; with_reducible refine (HI.out _).mono ?_; rintro e w1 ⟨rfl, rfl⟩)
  go_ret
  exact ⟨rfl, rfl⟩

theorem validK_b (m a c : Int) (b : Bool) (w : World) (h : decide (ConP m a c) = b) :
    Calls Tryd.prog 65 #[.agg #[.int .i64 m, .int .i64 a, .int .i64 c]] w fun e w' => e = .returned (.bool b) ∧ Below w.heap.size w w' := by
  by_cases hm : 2 ≤ m ∧ m ≤ 100000
  · have HI : Hid (∀ w : World, Calls Tryd.prog 73 #[.int .i64 m] w fun e w' => e = .returned (.bool true) ∧ w = w') := fun w => isModulus_b _ _ w (decide_eq_true hm)
    by_cases ha : 0 ≤ a ∧ a ≤ m - 1
    · have HA : Hid (∀ w : World, Calls Tryd.prog 81 #[.int .i64 a, .int .i64 0, .int .i64 (m - 1)] w fun e w' => e = .returned (.bool true) ∧ w = w') := fun w => btw64_b _ _ _ _ (decide_eq_true ha) w
      have HC : Hid (∀ w : World, Calls Tryd.prog 81 #[.int .i64 c, .int .i64 0, .int .i64 (m - 1)] w fun e w' => e = .returned (.bool b) ∧ w = w') := fun w => btw64_b _ _ _ _ (by rw [← h]; congr 1; exact propext ⟨fun y => ⟨hm, ha, y⟩, fun y => y.2.2⟩) w
      clear h ha
      cases b
      all_goals
        go_enter Tryd.func65, Tryd.ntmps65
        go_wp2_with (first | (go_at_call 73; with_reducible refine (HI.out _).mono ?_; rintro e w1 ⟨rfl, rfl⟩) | (go_at_call 81; first | (with_reducible refine (HA.out _).mono ?_; rintro e w1 ⟨rfl, rfl⟩) | (with_reducible refine (HC.out _).mono ?_; rintro e w1 ⟨rfl, rfl⟩)))
        go_ret
        exact ⟨rfl, (Below.refl _ _).alloc (Nat.le_refl _) _⟩
    · have HA : Hid (∀ w : World, Calls Tryd.prog 81 #[.int .i64 a, .int .i64 0, .int .i64 (m - 1)] w fun e w' => e = .returned (.bool false) ∧ w = w') := fun w => btw64_b _ _ _ _ (decide_eq_false ha) w
      obtain rfl : b = false := by rw [← h]; exact decide_eq_false (fun y => ha y.2.1)
      clear h ha
      go_enter Tryd.func65, Tryd.ntmps65
      go_wp2_with (first | (go_at_call 73; with_reducible refine (HI.out _).mono ?_; rintro e w1 ⟨rfl, rfl⟩) | (go_at_call 81; with_reducible refine (HA.out _).mono ?_; rintro e w1 ⟨rfl, rfl⟩))
      go_ret
      exact ⟨rfl, (Below.refl _ _).alloc (Nat.le_refl _) _⟩
  · have HI : Hid (∀ w : World, Calls Tryd.prog 73 #[.int .i64 m] w fun e w' => e = .returned (.bool false) ∧ w = w') := fun w => isModulus_b _ _ w (decide_eq_false hm)
    obtain rfl : b = false := by rw [← h]; exact decide_eq_false (fun y => hm y.1)
    clear h hm
    go_enter Tryd.func65, Tryd.ntmps65
    go_wp2_with (go_at_call 73; with_reducible refine (HI.out _).mono ?_; rintro e w1 ⟨rfl, rfl⟩)
    go_ret
    exact ⟨rfl, (Below.refl _ _).alloc (Nat.le_refl _) _⟩

theorem hasStateK_b (m a c x : Int) (b : Bool) (w : World) (h : decide (ConS m a c x) = b) :
    Calls Tryd.prog 80 #[.agg #[.int .i64 m, .int .i64 a, .int .i64 c], .int .i64 x] w fun e w' => e = .returned (.bool b) ∧ Below w.heap.size w w' := by
  by_cases hc : ConP m a c
  · have HV : Hid (∀ w : World, Calls Tryd.prog 65 #[.agg #[.int .i64 m, .int .i64 a, .int .i64 c]] w fun e w' => e = .returned (.bool true) ∧ Below w.heap.size w w') := fun w => validK_b _ _ _ _ w (decide_eq_true hc)
    have HI : Hid (∀ w : World, Calls Tryd.prog 81 #[.int .i64 x, .int .i64 0, .int .i64 (m - 1)] w fun e w' => e = .returned (.bool b) ∧ w = w') := fun w => btw64_b _ _ _ _ (by rw [← h]; congr 1; exact propext ⟨fun y => ⟨hc, y⟩, fun y => y.2⟩) w
    have hm := hc.1
    clear h hc
    cases b
    all_goals
      go_enter Tryd.func80, Tryd.ntmps80
      go_wp2_with fail
      have K0 := KAt.new w (.int .i64 m) (.int .i64 a) (.int .i64 c) 48
      generalize w.alloc (.cells #[.int .i64 m, .int .i64 a, .int .i64 c] 48) = w0 at K0 ⊢
      refine (HV.out _).mono ?_
      rintro e w1 ⟨rfl, hb⟩
      have K1 := K0.below hb
      clear hb K0
      have H1 := Lib.hid K1.all
      obtain ⟨c0, c1, c2, _⟩ := K1
      go_wp2_with (go_at_call 81; with_reducible refine (HI.out _).mono ?_; rintro e w1 ⟨rfl, rfl⟩)
      go_ret
      exact ⟨rfl, H1.out⟩
  · have HV : Hid (∀ w : World, Calls Tryd.prog 65 #[.agg #[.int .i64 m, .int .i64 a, .int .i64 c]] w fun e w' => e = .returned (.bool false) ∧ Below w.heap.size w w') := fun w => validK_b _ _ _ _ w (decide_eq_false hc)
    obtain rfl : b = false := by rw [← h]; exact decide_eq_false (fun y => hc y.1)
    clear h hc
    go_enter Tryd.func80, Tryd.ntmps80
    go_wp2_with fail
    refine (HV.out _).mono ?_
    rintro e w1 ⟨rfl, hb⟩
    have b1 := ((Below.refl w.heap.size w).alloc (Nat.le_refl _) _).trans (hb.mono (by simp))
    clear hb
    go_wp2
    go_ret
    exact ⟨rfl, b1⟩

theorem l03Both_b (g : Nat) (m a c x : Int) (b : Bool) (w : World) (h0 : w.cell? ⟨g, 0, none⟩ = some (.int .i64 m)) (h1 : w.cell? ⟨g, 1, none⟩ = some (.int .i64 a)) (h2 : w.cell? ⟨g, 2, none⟩ = some (.int .i64 c)) (h : decide (ConS m a c x) = b) :
    Calls Tryd.prog 70 #[.pointer (some ⟨g, 0, none⟩), .int .i64 x] w fun e w' => e = .returned (.bool b) ∧ ∃ m, w' = w.drewN m := by
  by_cases hc : ConP m a c
  · have HS : Hid (∀ w : World, Calls Tryd.prog 71 #[.int .i64 x, .int .i64 0, .int .i64 (m - 1)] w fun e w' => e = .returned (.bool b) ∧ w = w') := fun w => l00In_b _ _ _ _ (by rw [← h]; congr 1; exact propext ⟨fun y => ⟨hc, y⟩, fun y => y.2⟩) w
    have HR := Lib.hid hc
    have hm := hc.1
    clear h hc
    cases b
    all_goals
      go_enter Tryd.func70, Tryd.ntmps70
      go_wp2_with (first | (go_at_call 63; refine (l03Is_b g _ _ _ true _ h0 h1 h2 (decide_eq_true HR.out)).mono ?_; rintro e w1 ⟨rfl, m, rfl⟩) | (go_at_call 71; with_reducible refine (HS.out _).mono ?_; rintro e w1 ⟨rfl, rfl⟩))
      go_ret
      exact ⟨rfl, _, rfl⟩
  · obtain rfl : b = false := by rw [← h]; exact decide_eq_false (fun y => hc y.1)
    have HR := Lib.hid hc
    clear h hc
    go_enter Tryd.func70, Tryd.ntmps70
    go_wp2_with (go_at_call 63; refine (l03Is_b g _ _ _ false _ h0 h1 h2 (decide_eq_false HR.out)).mono ?_; rintro e w1 ⟨rfl, m, rfl⟩)
    go_ret
    exact ⟨rfl, _, rfl⟩

theorem retI {a b : Int} (h : a = b) : Ending.returned (.int .i64 a) = .returned (.int .i64 b) := by rw [h]
theorem nextK_any (m a c x : Nat) (w : World) (hm : 2 ≤ m) (hm2 : m ≤ 100000) (ha : a ≤ 100000) (hc : c ≤ 100000) (hx : x ≤ 100000) :
    Calls Tryd.prog 82 #[.agg #[.int .i64 m, .int .i64 a, .int .i64 c], .int .i64 x] w fun e w' => e = .returned (.int .i64 (nx m a c x)) ∧ Below w.heap.size w w' := by
  have hy := small_mul ha hx
  obtain ⟨y, ey⟩ : ∃ y, a * x = y := ⟨_, rfl⟩
  have E : (a : Int) * (x : Int) = (y : Int) := by rw [← ey]; simp
  have HV : Hid (((y : Int) + c) % m = (nx m a c x : Nat)) := by unfold Hid nx; rw [ey]; simp
  rw [ey] at hy
  clear ey ha hx
  have hm0 : ¬ m = 0 := by omega
  go_enter Tryd.func82, Tryd.ntmps82
  go_wp2
  go_ret
  exact ⟨retI HV.out, (Below.refl _ _).alloc (Nat.le_refl _) _⟩
theorem l03Step_any (g m a c x : Nat) (w : World) (h0 : w.cell? ⟨g, 0, none⟩ = some (.int .i64 m)) (h1 : w.cell? ⟨g, 1, none⟩ = some (.int .i64 a)) (h2 : w.cell? ⟨g, 2, none⟩ = some (.int .i64 c)) (hm : 2 ≤ m) (hm2 : m ≤ 100000) (ha : a ≤ 100000) (hc : c ≤ 100000) (hx : x ≤ 100000) :
    Calls Tryd.prog 95 #[.pointer (some ⟨g, 0, none⟩), .int .i64 x] w fun e w' => e = .returned (.int .i64 (nx m a c x)) ∧ ∃ m, w' = w.drewN m := by
  have hy := small_mul ha hx
  obtain ⟨y, ey⟩ : ∃ y, a * x = y := ⟨_, rfl⟩
  have E : (a : Int) * (x : Int) = (y : Int) := by rw [← ey]; simp
  have HV : Hid (((y : Int) + c) % m = (nx m a c x : Nat)) := by unfold Hid nx; rw [ey]; simp
  rw [ey] at hy
  clear ey ha hx
  have hm0 : ¬ m = 0 := by omega
  go_enter Tryd.func95, Tryd.ntmps95
  go_wp2
  go_quiet (fail)
  go_wp2
  go_ret
  exact ⟨retI HV.out, _, rfl⟩
theorem toCon_any (m a c : Int) (w : World) :
    Calls Tryd.prog 31 #[.agg #[.int .i64 m, .int .i64 a, .int .i64 c]] w fun e w' => e = .returned (.agg #[.int .i64 m, .int .i64 a, .int .i64 c]) ∧ Below w.heap.size w w' := by
  go_enter Tryd.func31, Tryd.ntmps31
  go_wp2
  go_returns
  exact ⟨rfl, by go_grown⟩
end Go.Proofs.YtpnifnpbolieoabDoor
