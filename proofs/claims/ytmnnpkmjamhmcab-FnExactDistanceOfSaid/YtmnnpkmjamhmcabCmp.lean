/- Fractions compared: spec.l01Less, impl.CompareFractions. -/
import Derived.Test.YtmnnpkmjamhmcabWide2
import Derived.Deep.RegionHeld3
namespace Go.Proofs.Ytmnnpkmjamhmcab
open Go.RowKit Go.PlainAid
set_option maxHeartbeats 800000

def Nat126 (z : Int) : Prop := 0 ≤ z ∧ z < 85070591730234615865843651857942052864

theorem less_yes (X Y : Int) (w : World) (hX : Nat126 X) (hY : Nat126 Y) (h : X < Y) :
    Calls Try.prog 145 #[.agg #[.int .u64 (hiU X), .int .u64 (loU X)], .agg #[.int .u64 (hiU Y), .int .u64 (loU Y)]] w fun e w' => e = .returned (.bool true) ∧ Below w.heap.size w w' := by
  obtain ⟨h1, e1⟩ : ∃ x, hiU X = x := ⟨_, rfl⟩
  obtain ⟨l1, e2⟩ : ∃ x, loU X = x := ⟨_, rfl⟩
  obtain ⟨h2, e3⟩ : ∃ x, hiU Y = x := ⟨_, rfl⟩
  obtain ⟨l2, e4⟩ : ∃ x, loU Y = x := ⟨_, rfl⟩
  rw [e1, e2, e3, e4]
  obtain ⟨x1, x2⟩ := hX
  obtain ⟨y1, y2⟩ := hY
  unfold hiU at e1 e3
  unfold loU at e2 e4
  by_cases c : h1 < h2
  · have f1 : decide (h1 < h2) = true := by simp [c]
    clear c e1 e2 e3 e4 x1 x2 y1 y2 h
    go_enter Try.func145, Try.ntmps145
    go_wp2
    go_ret
    exact ⟨rfl, by go_grown⟩
  · have f1 : decide (h1 < h2) = false := by simp; omega
    have f2 : (h1 == h2) = true := by simp; omega
    have f3 : decide (l1 < l2) = true := by simp; omega
    clear c e1 e2 e3 e4 x1 x2 y1 y2 h
    go_enter Try.func145, Try.ntmps145
    go_wp2
    go_ret
    exact ⟨rfl, by go_grown⟩
theorem less_no (X Y : Int) (w : World) (hX : Nat126 X) (hY : Nat126 Y) (h : ¬ X < Y) :
    Calls Try.prog 145 #[.agg #[.int .u64 (hiU X), .int .u64 (loU X)], .agg #[.int .u64 (hiU Y), .int .u64 (loU Y)]] w fun e w' => e = .returned (.bool false) ∧ Below w.heap.size w w' := by
  obtain ⟨h1, e1⟩ : ∃ x, hiU X = x := ⟨_, rfl⟩
  obtain ⟨l1, e2⟩ : ∃ x, loU X = x := ⟨_, rfl⟩
  obtain ⟨h2, e3⟩ : ∃ x, hiU Y = x := ⟨_, rfl⟩
  obtain ⟨l2, e4⟩ : ∃ x, loU Y = x := ⟨_, rfl⟩
  rw [e1, e2, e3, e4]
  obtain ⟨x1, x2⟩ := hX
  obtain ⟨y1, y2⟩ := hY
  unfold hiU at e1 e3
  unfold loU at e2 e4
  have f1 : decide (h1 < h2) = false := by simp; omega
  by_cases c : h1 = h2
  · have f2 : (h1 == h2) = true := by simp [c]
    have f3 : decide (l1 < l2) = false := by simp; omega
    clear c e1 e2 e3 e4 x1 x2 y1 y2 h
    go_enter Try.func145, Try.ntmps145
    go_wp2
    go_ret
    exact ⟨rfl, by go_grown⟩
  · have f2 : (h1 == h2) = false := by simp [c]
    clear c e1 e2 e3 e4 x1 x2 y1 y2 h
    go_enter Try.func145, Try.ntmps145
    go_wp2
    go_ret
    exact ⟨rfl, by go_grown⟩

/-- two structs of two fields in the first two blocks from w on stand in W, and nothing below has changed -/
def Two (w W : World) (x y p q : Value) : Prop := Below w.heap.size w W ∧ w.heap.size + 1 < W.heap.size ∧ W.cell? ⟨w.heap.size, 0, none⟩ = some x ∧ W.cell? ⟨w.heap.size, 1, none⟩ = some y ∧ W.cell? ⟨w.heap.size + 1, 0, none⟩ = some p ∧ W.cell? ⟨w.heap.size + 1, 1, none⟩ = some q
theorem Two.call {w W w1 : World} {x y p q : Value} (h : Two w W x y p q) (hb : Below W.heap.size W w1) : Two w w1 x y p q := by
  obtain ⟨h0, h1, h2, h3, h4, h5⟩ := h
  refine ⟨h0.trans (hb.mono (by omega)), Nat.lt_of_lt_of_le h1 hb.size, ?_, ?_, ?_, ?_⟩ <;> (rw [hb.cell (by simp; omega)]; assumption)
theorem Two.drew {w W : World} {x y p q : Value} (h : Two w W x y p q) : Two w W.drew x y p q := by
  obtain ⟨h0, h1, h2, h3, h4, h5⟩ := h
  exact ⟨h0.drew, h1, h2, h3, h4, h5⟩

def sgn (z : Int) : Int := if z < 0 then -1 else if z = 0 then 0 else 1
theorem sign_any (z : Int) (w : World) (h1 : -170141183460469231731687303715884105728 ≤ z) (h2 : z < 170141183460469231731687303715884105728) :
    Calls Try.prog 149 #[.agg #[.int .u64 (hiU z), .int .u64 (loU z)]] w fun e w' => e = .returned (.int .i64 (sgn z)) ∧ Below w.heap.size w w' := by
  unfold sgn
  by_cases a : z < 0
  · rw [if_pos a]; exact sign_neg z _ _ w rfl a h1
  · rw [if_neg a]
    by_cases b : z = 0
    · rw [if_pos b]; exact sign_zero z _ _ w rfl rfl b
    · rw [if_neg b]; exact sign_pos z _ _ w rfl rfl (by omega) h2

theorem prod60 (a b : Int) (h1 : -1000000000000000000 ≤ a) (h2 : a ≤ 1000000000000000000) (h3 : 0 ≤ b) (h4 : b ≤ 1000000000000000000) : -1000000000000000000000000000000000000 ≤ a * b ∧ a * b ≤ 1000000000000000000000000000000000000 := by
  have x1 := Int.mul_le_mul_of_nonneg_right h2 h3
  have x2 := Int.mul_le_mul_of_nonneg_right h1 h3
  have x3 := Int.mul_le_mul_of_nonneg_left h4 (show (0 : Int) ≤ 1000000000000000000 by omega)
  omega

theorem sum60 (x y : Int) (h : -1000000000000000000000000000000000000 ≤ x ∧ x ≤ 1000000000000000000000000000000000000) (k : -1000000000000000000000000000000000000 ≤ y ∧ y ≤ 1000000000000000000000000000000000000) : -170141183460469231731687303715884105728 ≤ x + y ∧ x + y < 170141183460469231731687303715884105728 := by omega

theorem compare_yes (fn fd gn gd : Int) (w : World) (hf : VF fn fd) (hg : VF gn gd) :
    Calls Try.prog 93 #[.agg #[.int .i64 fn, .int .i64 fd], .agg #[.int .i64 gn, .int .i64 gd]] w fun e w' => e = .returned (.tuple #[.int .i64 (sgn (fn * gd + -gn * fd)), .bool true]) ∧ Below w.heap.size w w' := by
  obtain ⟨⟨f1, f2, f3, f4⟩, _⟩ := hf.out
  obtain ⟨⟨g1, g2, g3, g4⟩, _⟩ := hg.out
  have HF := Lib.hid hf
  have HG := Lib.hid hg
  have P := prod60 fn gd f3 f4 (by omega) g2
  have Q := prod60 (-gn) fd (by omega) (by omega) (by omega) f2
  have R := sum60 _ _ P Q
  clear P Q
  have M4 : Hid (∀ W : World, Calls Try.prog 149 #[.agg #[.int .u64 (hiU (fn * gd + -gn * fd)), .int .u64 (loU (fn * gd + -gn * fd))]] W fun e w' => e = .returned (.int .i64 (sgn (fn * gd + -gn * fd))) ∧ Below W.heap.size W w') := fun W => sign_any _ W R.1 R.2
  clear R
  have M1 : Hid (∀ W : World, Calls Try.prog 147 #[.int .i64 fn, .int .i64 gd] W fun e w' => e = .returned (.agg #[.int .u64 (hiU (fn * gd)), .int .u64 (loU (fn * gd))]) ∧ Below W.heap.size W w') := fun W => multiply_any _ _ W (by omega) (by omega) (by omega) (by omega)
  have M2 : Hid (∀ W : World, Calls Try.prog 147 #[.int .i64 (-gn), .int .i64 fd] W fun e w' => e = .returned (.agg #[.int .u64 (hiU (-gn * fd)), .int .u64 (loU (-gn * fd))]) ∧ Below W.heap.size W w') := fun W => multiply_any _ _ W (by omega) (by omega) (by omega) (by omega)
  have M3 : Hid (∀ W : World, Calls Try.prog 148 #[.agg #[.int .u64 (hiU (fn * gd)), .int .u64 (loU (fn * gd))], .agg #[.int .u64 (hiU (-gn * fd)), .int .u64 (loU (-gn * fd))]] W fun e w' => e = .returned (.agg #[.int .u64 (hiU (fn * gd + -gn * fd)), .int .u64 (loU (fn * gd + -gn * fd))]) ∧ Below W.heap.size W w') := fun W => plus_any _ _ _ _ _ _ W rfl rfl rfl rfl
  clear hf hg
  generalize hiU (fn * gd) = h1 at M1 M3
  generalize loU (fn * gd) = l1 at M1 M3
  generalize hiU (-gn * fd) = h2 at M2 M3
  generalize loU (-gn * fd) = l2 at M2 M3
  generalize hiU (fn * gd + -gn * fd) = h3 at M3 M4
  generalize loU (fn * gd + -gn * fd) = l3 at M3 M4
  generalize sgn (fn * gd + -gn * fd) = r at M4 ⊢
  go_enter Try.func93, Try.ntmps93
  have T0 : Hid (Two w ((w.alloc (.cells #[.int .i64 fn, .int .i64 fd] 27)).alloc (.cells #[.int .i64 gn, .int .i64 gd] 27)) (.int .i64 fn) (.int .i64 fd) (.int .i64 gn) (.int .i64 gd)) := by
    refine ⟨((Below.refl _ _).alloc (Nat.le_refl _) _).alloc (by simp) _, by simp, by simp [go_sem], by simp [go_sem], by simp [go_sem], by simp [go_sem]⟩
  go_wp2_with fail
  refine (valid_yes _ _ _ HF.out).mono ?_
  rintro e w1 ⟨rfl, hb⟩
  have T1 := Lib.hid (T0.out.call hb)
  clear T0 hb
  obtain ⟨B1, z1, c1, c2, c3, c4⟩ := T1.out
  go_wp2_with fail
  refine (valid_yes _ _ _ HG.out).mono ?_
  rintro e w2 ⟨rfl, hb⟩
  have T2 := Lib.hid (T1.out.call hb)
  clear T1 hb B1 z1 c1 c2 c3 c4
  obtain ⟨B1, z1, c1, c2, c3, c4⟩ := T2.out
  have hw : IntKind.i64.wrap (-gn) = -gn := IntWalk.i64_in _ (by omega)
  go_wp2_with fail
  go_region_held3 (fun w' => Below w.heap.size w w' ∧ w.heap.size + 1 < w'.heap.size ∧ w'.cell? ⟨w.heap.size, 0, none⟩ = some (.int .i64 fn) ∧ w'.cell? ⟨w.heap.size, 1, none⟩ = some (.int .i64 fd) ∧ w'.cell? ⟨w.heap.size + 1, 0, none⟩ = some (.int .i64 gn) ∧ w'.cell? ⟨w.heap.size + 1, 1, none⟩ = some (.int .i64 gd))
    (first
      | (exact Two.drew T2.out)
      | (go_split_ands; exact Two.call ⟨by assumption, by assumption, by assumption, by assumption, by assumption, by assumption⟩ hb))
    (first | (go_at_call 147; with_reducible refine (M1.out _).mono ?_; rintro e w1 ⟨rfl, hb⟩) | (go_at_call 147; with_reducible refine (M2.out _).mono ?_; rintro e w1 ⟨rfl, hb⟩) | (go_at_call 148; with_reducible refine (M3.out _).mono ?_; rintro e w1 ⟨rfl, hb⟩) | (go_at_call 149; with_reducible refine (M4.out _).mono ?_; rintro e w1 ⟨rfl, hb⟩))
  go_split_ands
  go_wp2
  go_ret2
  exact ⟨rfl, by assumption⟩

theorem compare_no (fn fd gn gd : Int) (w : World) (h : ¬ (VF fn fd ∧ VF gn gd)) :
    Calls Try.prog 93 #[.agg #[.int .i64 fn, .int .i64 fd], .agg #[.int .i64 gn, .int .i64 gd]] w fun e w' => e = .returned (.tuple #[.int .i64 0, .bool false]) ∧ Below w.heap.size w w' := by
  by_cases hf : VF fn fd
  · have HG := Lib.hid (show ¬ VF gn gd from fun x => h ⟨hf, x⟩)
    have HF := Lib.hid hf
    clear h hf
    go_enter Try.func93, Try.ntmps93
    have T0 : Hid (Two w ((w.alloc (.cells #[.int .i64 fn, .int .i64 fd] 27)).alloc (.cells #[.int .i64 gn, .int .i64 gd] 27)) (.int .i64 fn) (.int .i64 fd) (.int .i64 gn) (.int .i64 gd)) := by
      refine ⟨((Below.refl _ _).alloc (Nat.le_refl _) _).alloc (by simp) _, by simp, by simp [go_sem], by simp [go_sem], by simp [go_sem], by simp [go_sem]⟩
    go_wp2_with fail
    refine (valid_yes _ _ _ HF.out).mono ?_
    rintro e w1 ⟨rfl, hb⟩
    have T1 := Lib.hid (T0.out.call hb)
    clear T0 hb
    obtain ⟨B1, z1, c1, c2, c3, c4⟩ := T1.out
    go_wp2_with fail
    refine (valid_no _ _ _ HG.out).mono ?_
    rintro e w2 ⟨rfl, hb⟩
    have T2 := Lib.hid (T1.out.call hb)
    clear T1 hb B1 z1 c1 c2 c3 c4
    go_wp2
    go_ret2
    exact ⟨rfl, T2.out.1⟩
  · have HF := Lib.hid hf
    clear h hf
    go_enter Try.func93, Try.ntmps93
    have T0 : Hid (Two w ((w.alloc (.cells #[.int .i64 fn, .int .i64 fd] 27)).alloc (.cells #[.int .i64 gn, .int .i64 gd] 27)) (.int .i64 fn) (.int .i64 fd) (.int .i64 gn) (.int .i64 gd)) := by
      refine ⟨((Below.refl _ _).alloc (Nat.le_refl _) _).alloc (by simp) _, by simp, by simp [go_sem], by simp [go_sem], by simp [go_sem], by simp [go_sem]⟩
    go_wp2_with fail
    refine (valid_no _ _ _ HF.out).mono ?_
    rintro e w1 ⟨rfl, hb⟩
    have T1 := Lib.hid (T0.out.call hb)
    clear T0 hb
    go_wp2
    go_ret2
    exact ⟨rfl, T1.out.1⟩
end Go.Proofs.Ytmnnpkmjamhmcab
