/- The laws FnExactValidCongruence and FnExactNextState. -/
import Derived.Test.YtmapbaomfaplmaaCon
namespace Go.Proofs.Ytmapbaomfaplmaa
open Go.RowKit Go.PlainAid
set_option maxHeartbeats 400000
theorem specValidK_b (m a c : Int) (b : Bool) (w : World) (h : decide (ConP m a c) = b) :
    Calls Try.prog 15 #[.agg #[.int .i64 m, .int .i64 a, .int .i64 c]] w fun e w' => e = .returned (.bool b) ∧ Below w.heap.size w w' := by
  have H := Lib.hid h
  clear h
  go_enter Try.func15, Try.ntmps15
  go_wp2_with (go_at_call 41; refine (l03Is_b w.heap.size m a c b _ (by simp [go_sem]) (by simp [go_sem]) (by simp [go_sem]) H.out).mono ?_; rintro e w1 ⟨rfl, m, rfl⟩)
  go_ret
  exact ⟨rfl, below_drewN ((Below.refl _ _).alloc (Nat.le_refl _) _) _⟩
theorem lawValidK_of (m a c : Int) (r : Bool) (w : World)
    (S : Hid (∀ w : World, Calls Try.prog 15 #[.agg #[.int .i64 m, .int .i64 a, .int .i64 c]] w fun e w' => e = .returned (.bool r) ∧ Below w.heap.size w w'))
    (I : Hid (∀ w : World, Calls Try.prog 17 #[.agg #[.int .i64 m, .int .i64 a, .int .i64 c]] w fun e w' => e = .returned (.bool r) ∧ Below w.heap.size w w')) :
    Calls Try.prog 3 #[.agg #[.int .i64 m, .int .i64 a, .int .i64 c]] w fun e w' => e = .returned (.bool true) ∧ Below w.heap.size w w' := by
  have e0 : (r != r) = false := by simp
  go_enter Try.func3, Try.ntmps3
  go_wp2_with fail
  have K := KAt.new w (.int .i64 m) (.int .i64 a) (.int .i64 c) 23
  generalize w.alloc (.cells #[.int .i64 m, .int .i64 a, .int .i64 c] 23) = w0 at K ⊢
  refine (toCon_any _ _ _ _).mono ?_
  rintro e w1 ⟨rfl, hb⟩
  have K1 := K.below hb
  clear hb K
  go_wp2_with fail
  refine (S.out _).mono ?_
  rintro e w2 ⟨rfl, hb⟩
  have K2 := Lib.hid (K1.below hb)
  clear hb K1
  obtain ⟨x0, x1, x2, _⟩ := K2.out
  go_wp2_with fail
  refine (toCon_any _ _ _ _).mono ?_
  rintro e w3 ⟨rfl, hb⟩
  have K3 := K2.out.below hb
  clear hb K2 x0 x1 x2
  go_wp2_with fail
  refine (I.out _).mono ?_
  rintro e w4 ⟨rfl, hb⟩
  have K4 := Lib.hid (K3.below hb)
  clear hb K3
  go_wp2
  go_ret
  exact ⟨rfl, K4.out.all⟩
theorem lawValidK (m a c : Int) (w : World) :
    Calls Try.prog 3 #[.agg #[.int .i64 m, .int .i64 a, .int .i64 c]] w fun e w' => e = .returned (.bool true) ∧ Below w.heap.size w w' :=
  lawValidK_of m a c (decide (ConP m a c)) w (fun W => specValidK_b m a c _ W rfl) (fun W => validK_b m a c _ W rfl)
theorem nextState_yes (m a c x : Nat) (w : World) (h1 : 2 ≤ m) (h2 : m ≤ 100000) (h3 : a < m) (h4 : c < m) (h5 : x < m) :
    Calls Try.prog 19 #[.agg #[.int .i64 m, .int .i64 a, .int .i64 c], .int .i64 x] w fun e w' => e = .returned (.tuple #[.int .i64 (nx m a c x), .bool true]) ∧ Below w.heap.size w w' := by
  have HS : Hid (∀ w : World, Calls Try.prog 46 #[.agg #[.int .i64 m, .int .i64 a, .int .i64 c], .int .i64 x] w fun e w' => e = .returned (.bool true) ∧ Below w.heap.size w w') := fun w => hasStateK_b _ _ _ _ _ w (decide_eq_true (conS_nat h1 h2 h3 h4 h5))
  have HN : Hid (∀ w : World, Calls Try.prog 47 #[.agg #[.int .i64 m, .int .i64 a, .int .i64 c], .int .i64 x] w fun e w' => e = .returned (.int .i64 (nx m a c x)) ∧ Below w.heap.size w w') := fun w => nextK_any m a c x w h1 h2 (by omega) (by omega) (by omega)
  clear h1 h2 h3 h4 h5
  go_enter Try.func19, Try.ntmps19
  go_wp2_with fail
  have K0 := KAt.new w (.int .i64 m) (.int .i64 a) (.int .i64 c) 25
  generalize w.alloc (.cells #[.int .i64 m, .int .i64 a, .int .i64 c] 25) = w0 at K0 ⊢
  refine (HS.out _).mono ?_
  rintro e w1 ⟨rfl, hb⟩
  have K1 := Lib.hid (K0.below hb)
  clear hb K0
  obtain ⟨c0, c1, c2, _⟩ := K1.out
  go_wp2_with fail
  refine (HN.out _).mono ?_
  rintro e w2 ⟨rfl, hb⟩
  have K2 := Lib.hid (K1.out.below hb)
  clear hb K1 c0 c1 c2
  go_wp2
  go_ret2
  exact ⟨rfl, K2.out.all⟩
theorem nextState_no (m a c x : Int) (w : World) (h : ¬ ConS m a c x) :
    Calls Try.prog 19 #[.agg #[.int .i64 m, .int .i64 a, .int .i64 c], .int .i64 x] w fun e w' => e = .returned (.tuple #[.int .i64 0, .bool false]) ∧ Below w.heap.size w w' := by
  have HS := Lib.hid h
  clear h
  go_enter Try.func19, Try.ntmps19
  go_wp2_with fail
  refine (hasStateK_b _ _ _ _ false _ (decide_eq_false HS.out)).mono ?_
  rintro e w1 ⟨rfl, hb⟩
  have b1 := ((Below.refl w.heap.size w).alloc (Nat.le_refl _) _).trans (hb.mono (by simp))
  clear hb
  go_wp2
  go_ret2
  exact ⟨rfl, b1⟩
theorem specNext_yes (m a c x : Nat) (w : World) (h1 : 2 ≤ m) (h2 : m ≤ 100000) (h3 : a < m) (h4 : c < m) (h5 : x < m) :
    Calls Try.prog 18 #[.agg #[.int .i64 m, .int .i64 a, .int .i64 c], .int .i64 x] w fun e w' => e = .returned (.tuple #[.int .i64 (nx m a c x), .bool true]) ∧ Below w.heap.size w w' := by
  have HS : Hid (ConS m a c x) := conS_nat h1 h2 h3 h4 h5
  have HN : Hid (∀ (g : Nat) (w : World), w.cell? ⟨g, 0, none⟩ = some (.int .i64 m) → w.cell? ⟨g, 1, none⟩ = some (.int .i64 a) → w.cell? ⟨g, 2, none⟩ = some (.int .i64 c) → Calls Try.prog 45 #[.pointer (some ⟨g, 0, none⟩), .int .i64 x] w fun e w' => e = .returned (.int .i64 (nx m a c x)) ∧ ∃ m, w' = w.drewN m) := fun g w e1 e2 e3 => l03Step_any g m a c x w e1 e2 e3 h1 h2 (by omega) (by omega) (by omega)
  clear h1 h2 h3 h4 h5
  go_enter Try.func18, Try.ntmps18
  go_wp2_with (first | (go_at_call 44; refine (l03Both_b w.heap.size m a c x true _ (by simp [go_sem]) (by simp [go_sem]) (by simp [go_sem]) (decide_eq_true HS.out)).mono ?_; rintro e w1 ⟨rfl, m, rfl⟩) | (go_at_call 45; refine (HN.out w.heap.size _ (by simp [go_sem]) (by simp [go_sem]) (by simp [go_sem])).mono ?_; rintro e w1 ⟨rfl, m, rfl⟩))
  go_ret2
  exact ⟨rfl, below_drewN ((Below.refl _ _).alloc (Nat.le_refl _) _) _⟩
theorem specNext_no (m a c x : Int) (w : World) (h : ¬ ConS m a c x) :
    Calls Try.prog 18 #[.agg #[.int .i64 m, .int .i64 a, .int .i64 c], .int .i64 x] w fun e w' => e = .returned (.tuple #[.int .i64 0, .bool false]) ∧ Below w.heap.size w w' := by
  have HS := Lib.hid h
  clear h
  go_enter Try.func18, Try.ntmps18
  go_wp2_with (go_at_call 44; refine (l03Both_b w.heap.size m a c x false _ (by simp [go_sem]) (by simp [go_sem]) (by simp [go_sem]) (decide_eq_false HS.out)).mono ?_; rintro e w1 ⟨rfl, m, rfl⟩)
  go_ret2
  exact ⟨rfl, below_drewN ((Below.refl _ _).alloc (Nat.le_refl _) _) _⟩
theorem lawNextK_of (m a c x : Int) (v : Int) (r : Bool) (w : World)
    (S : Hid (∀ w : World, Calls Try.prog 18 #[.agg #[.int .i64 m, .int .i64 a, .int .i64 c], .int .i64 x] w fun e w' => e = .returned (.tuple #[.int .i64 v, .bool r]) ∧ Below w.heap.size w w'))
    (I : Hid (∀ w : World, Calls Try.prog 19 #[.agg #[.int .i64 m, .int .i64 a, .int .i64 c], .int .i64 x] w fun e w' => e = .returned (.tuple #[.int .i64 v, .bool r]) ∧ Below w.heap.size w w')) :
    Calls Try.prog 4 #[.agg #[.int .i64 m, .int .i64 a, .int .i64 c], .int .i64 x] w fun e w' => e = .returned (.bool true) ∧ Below w.heap.size w w' := by
  have e0 : (v != v) = false := by simp
  have e1 : (r != r) = false := by simp
  go_enter Try.func4, Try.ntmps4
  go_wp2_with fail
  have K := KAt.new w (.int .i64 m) (.int .i64 a) (.int .i64 c) 23
  generalize w.alloc (.cells #[.int .i64 m, .int .i64 a, .int .i64 c] 23) = w0 at K ⊢
  refine (toCon_any _ _ _ _).mono ?_
  rintro e w1 ⟨rfl, hb⟩
  have K1 := K.below hb
  clear hb K
  go_wp2_with fail
  refine (S.out _).mono ?_
  rintro e w2 ⟨rfl, hb⟩
  have K2 := Lib.hid (K1.below hb)
  clear hb K1
  obtain ⟨x0, x1, x2, _⟩ := K2.out
  go_wp2_with fail
  refine (toCon_any _ _ _ _).mono ?_
  rintro e w3 ⟨rfl, hb⟩
  have K3 := K2.out.below hb
  clear hb K2 x0 x1 x2
  go_wp2_with fail
  refine (I.out _).mono ?_
  rintro e w4 ⟨rfl, hb⟩
  have K4 := Lib.hid (K3.below hb)
  clear hb K3
  go_wp2
  go_ret
  exact ⟨rfl, K4.out.all⟩
theorem lawNextK (m a c x : Int) (w : World) :
    Calls Try.prog 4 #[.agg #[.int .i64 m, .int .i64 a, .int .i64 c], .int .i64 x] w fun e w' => e = .returned (.bool true) ∧ Below w.heap.size w w' := by
  by_cases h : ConS m a c x
  · obtain ⟨M, A, C, X, rfl, rfl, rfl, rfl, h1, h2, h3, h4, h5⟩ := h.nat
    exact lawNextK_of _ _ _ _ _ _ w (fun W => specNext_yes M A C X W h1 h2 h3 h4 h5) (fun W => nextState_yes M A C X W h1 h2 h3 h4 h5)
  · exact lawNextK_of _ _ _ _ 0 false w (fun W => specNext_no m a c x W h) (fun W => nextState_no m a c x W h)
end Go.Proofs.Ytmapbaomfaplmaa
