/- Points of grids: impl.GridPoints, spec.GridPoints, the law. -/
import Derived.Test.YtmnnpkmjamhmcaaSSc
import Derived.Test.YtmnnpkmjamhmcaaSSl
namespace Go.Proofs.Ytmnnpkmjamhmcaa
open Go.RowKit Go.PlainAid
set_option maxHeartbeats 1600000
set_option maxRecDepth 20000

def GrP (n a : Int) : Prop := (1 ≤ n ∧ n ≤ 400) ∧ 0 ≤ a ∧ a ≤ n - 1
instance (n a : Int) : Decidable (GrP n a) := by unfold GrP; exact inferInstance
/-- the points of a grid -/
def gpt (n a : Nat) (i : Nat) : List Int := [(i : Int), ((a * i % n : Nat) : Int)]
theorem szl_gpt (n a : Nat) : ∀ m, szl (gpt n a) m = 2 * m := by
  intro m
  induction m with
  | zero => rfl
  | succ m ih => simp only [szl, ih, gpt, List.length_cons, List.length_nil]; omega
theorem isGrid_any (n a : Int) (r : Bool) (hr : decide (GrP n a) = r) (w : World) : Calls Try.prog 77 #[.int .i64 n, .int .i64 a] w fun e w' => e = .returned (.bool r) ∧ w = w' := by
  by_cases h1 : 1 ≤ n ∧ n ≤ 400
  · have H1 : Hid (∀ W, Calls Try.prog 80 #[.int .i64 n, .int .i64 1, .int .i64 400] W fun e w' => e = .returned (.bool true) ∧ W = w') := btw64_b n 1 400 true (decide_eq_true h1)
    have H2 : Hid (∀ W, Calls Try.prog 80 #[.int .i64 a, .int .i64 0, .int .i64 (n - 1)] W fun e w' => e = .returned (.bool r) ∧ W = w') := btw64_b a 0 (n - 1) r (by rw [← hr]; exact decide_eq_decide.2 ⟨fun h => ⟨h1, h⟩, fun h => h.2⟩)
    clear hr
    go_enter Try.func77, Try.ntmps77
    go_wp2_with (go_at_call 80; first | (with_reducible refine (H1.out _).mono ?_; rintro e w1 ⟨rfl, rfl⟩) | (with_reducible refine (H2.out _).mono ?_; rintro e w1 ⟨rfl, rfl⟩))
    go_ret
    exact ⟨rfl, rfl⟩
  · have H1 : Hid (∀ W, Calls Try.prog 80 #[.int .i64 n, .int .i64 1, .int .i64 400] W fun e w' => e = .returned (.bool false) ∧ W = w') := btw64_b n 1 400 false (decide_eq_false h1)
    obtain rfl : r = false := by rw [← hr]; exact decide_eq_false fun h => h1 h.1
    clear hr h1
    go_enter Try.func77, Try.ntmps77
    go_wp2_with (go_at_call 80; (with_reducible refine (H1.out _).mono ?_; rintro e w1 ⟨rfl, rfl⟩))
    go_ret
    exact ⟨rfl, rfl⟩
theorem l10Grid_any (n a : Int) (r : Bool) (hr : decide (GrP n a) = r) (w : World) : Calls Try.prog 76 #[.int .i64 n, .int .i64 a] w fun e w' => e = .returned (.bool r) ∧ w = w' := by
  by_cases h1 : 1 ≤ n ∧ n ≤ 400
  · have H1 : Hid (∀ W, Calls Try.prog 82 #[.int .i64 n, .int .i64 1, .int .i64 400] W fun e w' => e = .returned (.bool true) ∧ W = w') := l00In_b n 1 400 true (decide_eq_true h1)
    have H2 : Hid (∀ W, Calls Try.prog 82 #[.int .i64 a, .int .i64 0, .int .i64 (n - 1)] W fun e w' => e = .returned (.bool r) ∧ W = w') := l00In_b a 0 (n - 1) r (by rw [← hr]; exact decide_eq_decide.2 ⟨fun h => ⟨h1, h⟩, fun h => h.2⟩)
    clear hr
    go_enter Try.func76, Try.ntmps76
    go_wp2_with (go_at_call 82; first | (with_reducible refine (H1.out _).mono ?_; rintro e w1 ⟨rfl, rfl⟩) | (with_reducible refine (H2.out _).mono ?_; rintro e w1 ⟨rfl, rfl⟩))
    go_ret
    exact ⟨rfl, rfl⟩
  · have H1 : Hid (∀ W, Calls Try.prog 82 #[.int .i64 n, .int .i64 1, .int .i64 400] W fun e w' => e = .returned (.bool false) ∧ W = w') := l00In_b n 1 400 false (decide_eq_false h1)
    obtain rfl : r = false := by rw [← hr]; exact decide_eq_false fun h => h1 h.1
    clear hr h1
    go_enter Try.func76, Try.ntmps76
    go_wp2_with (go_at_call 82; (with_reducible refine (H1.out _).mono ?_; rintro e w1 ⟨rfl, rfl⟩))
    go_ret
    exact ⟨rfl, rfl⟩
theorem grid_yes (n a : Nat) (w : World) (h1 : 1 ≤ n) (h2 : n ≤ 400) (h3 : a < n) :
    Calls Try.prog 38 #[.int .i64 n, .int .i64 a] w fun e w' => ∃ v, e = .returned (.tuple #[v, .bool true]) ∧ LW w.heap.size w'.heap.size w' v n (gpt n a) ∧ Below w.heap.size w w' := by
  obtain ⟨i0, hi, hz0, hz1, hz2⟩ := info_parts Try.info35
  have HG : Hid (∀ W, Calls Try.prog 77 #[.int .i64 n, .int .i64 a] W fun e w' => e = .returned (.bool true) ∧ W = w') := isGrid_any n a true (decide_eq_true ⟨by omega, by omega, by omega⟩)
  go_enter Try.func38, Try.ntmps38
  go_wp2_with (first | (go_at_call 77; with_reducible refine (HG.out _).mono ?_; rintro e w1 ⟨rfl, rfl⟩) | (at_make; refine wpList_make_full _ rfl _ _ 22 rfl w.heap.size 35 i0 _ 1 Try.underlying22 hi hz0 hz1 _ _ _ _ n rfl rfl rfl rfl (by rw [hz2]; omega) (by unfold maxLen; omega) (Nat.le_refl _) ?_; intro w3 hown hgrow))
  have HP3 := Lib.hid (PW.made (f := gpt n a) hown (by simpa using hown.1) ((Below.refl w.heap.size w).grown hgrow (Nat.le_refl _) (by simp)) (own_lt hown))
  clear hown hgrow
  go_loopw [15] (fun iv wr => ∃ (j : Nat) (us : Nat → Value), j ≤ n ∧ iv = .int .i64 j ∧ Hid (PW w.heap.size n us (gpt n a) j w wr)) (fun iv _ => n - (intOf iv).toNat)
  case atStart => exact ⟨0, _, Nat.zero_le _, rfl, HP3⟩
  case round =>
    obtain ⟨j, us, hj, rfl, HP⟩ := hrel
    clear HP3
    by_cases hlt : j < n
    · have e1 : (a : Int) * (j : Int) = ((a * j : Nat) : Int) := rfl
      have hp : a * j ≤ 400 * 400 := Nat.mul_le_mul (by omega) (by omega)
      have HX : Hid (gpt n a j = [(j : Int), ((a * j % n : Nat) : Int)]) := rfl
      have e2 : ((a * j : Nat) : Int).tmod (n : Int) = ((a * j % n : Nat) : Int) := by rw [Int.tmod_eq_emod_of_nonneg (by omega)]; rfl
      have hr : a * j % n < n := Nat.mod_lt _ (by omega)
      generalize a * j = p at e1 e2 hp HX hr
      generalize p % n = r at e2 HX hr
      have HR := Lib.hid (row_lit2 wr j r)
      have HP1 := Lib.hid (HP.out.far ((Below.refl _ wr).alloc (Nat.le_refl _) (.cells #[.int .i64 j, .int .i64 r] 2)))
      have hf := HP1.out.2.2.2.1 j
      have hcj := HP1.out.2.2.1 j hlt
      have HPn : Hid (PW w.heap.size n (updV us j (.slice (some ⟨wr.heap.size, 0, none⟩) 2 2)) (gpt n a) (j + 1) w ((wr.alloc (.cells #[.int .i64 j, .int .i64 r] 2)).setCell ⟨w.heap.size, j, none⟩ (.slice (some ⟨wr.heap.size, 0, none⟩) 2 2))) :=
        HP1.out.put hlt (by rw [HX.out]; exact SL.of_own (xs := [(j : Int), (r : Int)]) HR.out) HP.out.1.2 (fun d h1 h2 => (HP.out.2.2.2.2.1 d h1 h2).below ((Below.refl _ wr).alloc (Nat.le_refl _) _))
      clear HP HP1 HR HX
      go_wp2
      go_roundw
      case rel => exact ⟨j + 1, _, by omega, by go_num, HPn⟩
      case measure => simp [intOf]; omega
    · obtain rfl : j = n := by omega
      go_wp2
      go_ret2
      exact ⟨_, rfl, HP.out.lw (Nat.le_refl _), HP.out.2.1⟩
theorem grid_no (n a : Int) (w : World) (h : ¬ GrP n a) :
    Calls Try.prog 38 #[.int .i64 n, .int .i64 a] w fun e w' => e = .returned (.tuple #[.slice none 0 0, .bool false]) ∧ w = w' := by
  have HG : Hid (∀ W, Calls Try.prog 77 #[.int .i64 n, .int .i64 a] W fun e w' => e = .returned (.bool false) ∧ W = w') := isGrid_any n a false (decide_eq_false h)
  clear h
  go_enter Try.func38, Try.ntmps38
  go_wp2_with (go_at_call 77; with_reducible refine (HG.out _).mono ?_; rintro e w1 ⟨rfl, rfl⟩)
  go_ret2
  exact ⟨rfl, rfl⟩
theorem specGrid_yes (n a : Nat) (w : World) (h1 : 1 ≤ n) (h2 : n ≤ 400) (h3 : a < n) :
    Calls Try.prog 37 #[.int .i64 n, .int .i64 a] w fun e w' => ∃ p q, e = .returned (.tuple #[.slice p n q, .bool true]) ∧ RR w'.heap.size w' p n (gpt n a) ∧ Below w.heap.size w w' := by
  obtain ⟨i1, hi1, hy0, hy1, hy2⟩ := info_parts Try.info35
  have HG : Hid (∀ W, Calls Try.prog 76 #[.int .i64 n, .int .i64 a] W fun e w' => e = .returned (.bool true) ∧ W = w') := l10Grid_any n a true (decide_eq_true ⟨by omega, by omega, by omega⟩)
  have HO := Lib.hid (OA.empty w (gpt n a))
  go_enter Try.func37, Try.ntmps37
  go_wp2_with (go_at_call 76; with_reducible refine (HG.out _).mono ?_; rintro e w1 ⟨rfl, rfl⟩)
  go_loopw [6, 7] (fun ov iv wr => ∃ (j g c : Nat) (vs : List Value), j ≤ n ∧ iv = .int .i64 j ∧ ov = .slice (some ⟨g, 0, none⟩) j c ∧ Hid (OA w.heap.size vs g j c (gpt n a) w wr)) (fun _ iv _ => n - (intOf iv).toNat)
  case atStart => exact ⟨0, _, _, _, Nat.zero_le _, rfl, rfl, HO⟩
  case round =>
    obtain ⟨j, g, c, vs, hj, rfl, rfl, HP⟩ := hrel
    clear HO
    by_cases hlt : j < n
    · have e1 : (a : Int) * (j : Int) = ((a * j : Nat) : Int) := rfl
      have hp : a * j ≤ 400 * 400 := Nat.mul_le_mul (by omega) (by omega)
      have HX : Hid (gpt n a j = [(j : Int), ((a * j % n : Nat) : Int)]) := rfl
      have e2 : ((a * j : Nat) : Int).tmod (n : Int) = ((a * j % n : Nat) : Int) := by rw [Int.tmod_eq_emod_of_nonneg (by omega)]; rfl
      have hr : a * j % n < n := Nat.mod_lt _ (by omega)
      generalize a * j = p at e1 e2 hp HX hr
      generalize p % n = r at e2 HX hr
      have HR : Hid ((wr.alloc (.cells #[.int .i64 j, .int .i64 r] 2)).ownsRow w.heap.size 2 1 (.slice (some ⟨wr.heap.size, 0, none⟩) 2 2) (gpt n a j).length ((gpt n a j).map (Value.int .i64))) := by
        unfold Hid
        rw [HX.out]
        exact own_base (row_lit2 wr j r) HP.out.2.2.1
      have HP1 := Lib.hid (HP.out.far ((Below.refl _ wr).alloc (Nat.le_refl _) (.cells #[.int .i64 j, .int .i64 r] 2)))
      have HLT := Lib.hid HP.out.lt
      have hzz := HP.out.2.2.1
      clear HP
      go_wp2_with (at_builtin; refine wpList_append_own_at _ rfl _ _ 22 rfl w.heap.size 35 i1 (.slice none 0 0) 1 24 Try.underlying22 hi1 hy0 hy1 hy2 rfl (by decide) _ _ _ rfl (World.ownsRow.alloc HP1.out.1 _) ⟨wr.heap.size + 1, 0, none⟩ 1 1 [_] rfl rfl (by have := cell_one_new (wr.alloc (.cells #[.int .i64 j, .int .i64 r] 2)) (.slice (some ⟨wr.heap.size, 0, none⟩) 2 2) 35; simpa using this) (by intro u hu; simp at hu; subst hu; rfl) (by unfold maxLen; omega) (by omega) (by first | (simp; done) | (simp; omega)) ?_; intro v1 w1 hown1 hgrow1 hnil1 hat1)
      obtain ⟨g', c', rfl, h9⟩ := HP1.out.step HR.out HLT.out (fun q e => by cases e; exact Nat.le_refl _) hown1 hgrow1
      have H9 := Lib.hid h9
      clear hown1 hgrow1 hnil1 hat1 h9 HP1 HR HX HLT
      go_wp2
      go_roundw
      case rel => exact ⟨j + 1, g', c', _, by omega, by go_num, by first | rfl | go_num, H9⟩
      case measure => simp [intOf]; omega
    · obtain rfl : j = n := by omega
      go_wp2
      go_ret2
      exact ⟨_, _, rfl, HP.out.rr, HP.out.2.1⟩
theorem specGrid_no (n a : Int) (w : World) (h : ¬ GrP n a) :
    Calls Try.prog 37 #[.int .i64 n, .int .i64 a] w fun e w' => e = .returned (.tuple #[.slice none 0 0, .bool false]) ∧ w = w' := by
  have HG : Hid (∀ W, Calls Try.prog 76 #[.int .i64 n, .int .i64 a] W fun e w' => e = .returned (.bool false) ∧ W = w') := l10Grid_any n a false (decide_eq_false h)
  clear h
  go_enter Try.func37, Try.ntmps37
  go_wp2_with (go_at_call 76; with_reducible refine (HG.out _).mono ?_; rintro e w1 ⟨rfl, rfl⟩)
  go_ret2
  exact ⟨rfl, rfl⟩
theorem lawGrid (n a : Int) (w : World) : Calls Try.prog 8 #[.int .i64 n, .int .i64 a] w fun e w' => e = .returned (.bool true) ∧ Below w.heap.size w w' := by
  by_cases h : GrP n a
  · obtain ⟨⟨h1, h2⟩, h3, h4⟩ := h
    obtain ⟨n', rfl⟩ := Int.eq_ofNat_of_zero_le (show 0 ≤ n by omega)
    obtain ⟨a', rfl⟩ := Int.eq_ofNat_of_zero_le h3
    exact lawGridPoints_core n' a' n' (gpt n' a') true w (by rw [szl_gpt]; omega) (fun W => specGrid_yes n' a' W (by omega) (by omega) (by omega)) (fun W => grid_yes n' a' W (by omega) (by omega) (by omega))
  · exact lawGridPoints_core n a 0 (fun _ => []) false w (by simp [szl])
      (fun W => (specGrid_no n a W h).mono fun e w' ⟨h1, h2⟩ => by subst h2; exact ⟨_, _, h1, RR.zero, Below.refl _ _⟩)
      (fun W => (grid_no n a W h).mono fun e w' ⟨h1, h2⟩ => by subst h2; exact ⟨_, h1, .inl ⟨rfl, rfl, Nat.le_refl _⟩, Below.refl _ _⟩)
end Go.Proofs.Ytmnnpkmjamhmcaa
