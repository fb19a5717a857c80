/- Jumps and powers of congruences: impl and spec; the laws FnExactJumpState and FnExactPowerCongruence. -/
import Derived.Test.YtmapbaomfaplmaaConPow
import Derived.Test.YtmapbaomfaplmaaConLaws
namespace Go.Proofs.Ytmapbaomfaplmaa
open Go.RowKit Go.PlainAid
set_option maxHeartbeats 400000
theorem jumpK_yes (m a c x n : Nat) (w : World) (h1 : 2 ≤ m) (h2 : m ≤ 100000) (h3 : a < m) (h4 : c < m) (h5 : x < m) (hn : n ≤ 1000000000000000000) :
    Calls Try.prog 26 #[.agg #[.int .i64 m, .int .i64 a, .int .i64 c], .int .i64 x, .int .i64 n] w fun e w' => e = .returned (.tuple #[.int .i64 (itc m a c x n), .bool true]) ∧ Below w.heap.size w w' := by
  rw [itc_eq a c h5 n]
  have HS : Hid (ConS m a c x) := conS_nat h1 h2 h3 h4 h5
  have HI : Hid (∀ w : World, Calls Try.prog 43 #[.int .i64 n, .int .i64 0, .int .i64 1000000000000000000] w fun e w' => e = .returned (.bool true) ∧ w = w') := fun w => btw64_b _ _ _ _ (decide_eq_true (by omega)) w
  have HP : Hid (∀ w : World, Calls Try.prog 51 #[.agg #[.int .i64 m, .int .i64 a, .int .i64 c], .int .i64 n] w fun e w' => e = .returned (.agg #[.int .i64 m, .int .i64 (pA m a n), .int .i64 (pC m a c n)]) ∧ Below w.heap.size w w') := fun w => powerK_any m a c n w h1 h2 h3 h4 hn
  have HN : Hid (∀ w : World, Calls Try.prog 47 #[.agg #[.int .i64 m, .int .i64 (pA m a n), .int .i64 (pC m a c n)], .int .i64 x] w fun e w' => e = .returned (.int .i64 (nx m (pA m a n) (pC m a c n) x)) ∧ Below w.heap.size w w') := fun w => nextK_any m _ _ x w h1 h2 (Nat.le_trans (Nat.le_of_lt (pA_lt (by omega) _ _)) h2) (Nat.le_trans (Nat.le_of_lt (pC_lt (by omega) _ _ _)) h2) (by omega)
  clear h1 h2 h3 h4 h5
  go_enter Try.func26, Try.ntmps26
  go_wp2_with fail
  have K0 := KAt.new w (.int .i64 m) (.int .i64 a) (.int .i64 c) 25
  generalize w.alloc (.cells #[.int .i64 m, .int .i64 a, .int .i64 c] 25) = w0 at K0 ⊢
  refine (hasStateK_b _ _ _ _ true _ (decide_eq_true HS.out)).mono ?_
  rintro e w1 ⟨rfl, hb⟩
  have K1 := Lib.hid (K0.below hb)
  clear hb K0
  obtain ⟨c0, c1, c2, _⟩ := K1.out
  go_wp2_with (go_at_call 43; with_reducible refine (HI.out _).mono ?_; rintro e w2 ⟨rfl, rfl⟩)
  refine (HP.out _).mono ?_
  rintro e w2 ⟨rfl, hb⟩
  have K2 := Lib.hid (K1.out.below hb)
  clear hb K1 c0 c1 c2
  go_wp2_with fail
  refine (HN.out _).mono ?_
  rintro e w3 ⟨rfl, hb⟩
  have K3 := Lib.hid (K2.out.below hb)
  clear hb K2
  go_wp2
  go_ret2
  exact ⟨rfl, K3.out.all⟩
theorem jumpK_no (m a c x n : Int) (w : World) (h : ¬ (ConS m a c x ∧ 0 ≤ n ∧ n ≤ 1000000000000000000)) :
    Calls Try.prog 26 #[.agg #[.int .i64 m, .int .i64 a, .int .i64 c], .int .i64 x, .int .i64 n] w fun e w' => e = .returned (.tuple #[.int .i64 0, .bool false]) ∧ Below w.heap.size w w' := by
  by_cases hp : ConS m a c x
  · have HS := Lib.hid hp
    have HI : Hid (∀ w : World, Calls Try.prog 43 #[.int .i64 n, .int .i64 0, .int .i64 1000000000000000000] w fun e w' => e = .returned (.bool false) ∧ w = w') := fun w => btw64_b _ _ _ _ (decide_eq_false fun y => h ⟨hp, y⟩) w
    clear hp h
    go_enter Try.func26, Try.ntmps26
    go_wp2_with fail
    refine (hasStateK_b _ _ _ _ true _ (decide_eq_true HS.out)).mono ?_
    rintro e w1 ⟨rfl, hb⟩
    have b1 := ((Below.refl w.heap.size w).alloc (Nat.le_refl _) _).trans (hb.mono (by simp))
    clear hb
    go_wp2_with (go_at_call 43; with_reducible refine (HI.out _).mono ?_; rintro e w2 ⟨rfl, rfl⟩)
    go_ret2
    exact ⟨rfl, b1⟩
  · have HS := Lib.hid hp
    clear hp h
    go_enter Try.func26, Try.ntmps26
    go_wp2_with fail
    refine (hasStateK_b _ _ _ _ false _ (decide_eq_false HS.out)).mono ?_
    rintro e w1 ⟨rfl, hb⟩
    have b1 := ((Below.refl w.heap.size w).alloc (Nat.le_refl _) _).trans (hb.mono (by simp))
    clear hb
    go_wp2
    go_ret2
    exact ⟨rfl, b1⟩
theorem specJumpK_yes (m a c x n : Nat) (w : World) (h1 : 2 ≤ m) (h2 : m ≤ 100000) (h3 : a < m) (h4 : c < m) (h5 : x < m) (hn : n ≤ 1000000000000000000) :
    Calls Try.prog 25 #[.agg #[.int .i64 m, .int .i64 a, .int .i64 c], .int .i64 x, .int .i64 n] w fun e w' => e = .returned (.tuple #[.int .i64 (itc m a c x n), .bool true]) ∧ Below w.heap.size w w' := by
  rw [itc_eq a c h5 n]
  have HS : Hid (ConS m a c x) := conS_nat h1 h2 h3 h4 h5
  have HI : Hid (∀ w : World, Calls Try.prog 48 #[.int .i64 n, .int .i64 0, .int .i64 1000000000000000000] w fun e w' => e = .returned (.bool true) ∧ w = w') := fun w => l00In_b _ _ _ _ (decide_eq_true (by omega)) w
  have HP : Hid (∀ (g : Nat) (w : World), (w.cell? ⟨g, 0, none⟩ = some (.int .i64 m) ∧ w.cell? ⟨g, 1, none⟩ = some (.int .i64 a) ∧ w.cell? ⟨g, 2, none⟩ = some (.int .i64 c)) → Calls Try.prog 50 #[.pointer (some ⟨g, 0, none⟩), .int .i64 n] w fun e w' => e = .returned (.agg #[.int .i64 m, .int .i64 (pA m a n), .int .i64 (pC m a c n)]) ∧ Below w.heap.size w w') := fun g w hg => l03Power_any g m a c n w hg h1 h2 h3 h4 hn
  have HN : Hid (∀ (g : Nat) (w : World), w.cell? ⟨g, 0, none⟩ = some (.int .i64 m) → w.cell? ⟨g, 1, none⟩ = some (.int .i64 (pA m a n)) → w.cell? ⟨g, 2, none⟩ = some (.int .i64 (pC m a c n)) → Calls Try.prog 45 #[.pointer (some ⟨g, 0, none⟩), .int .i64 x] w fun e w' => e = .returned (.int .i64 (nx m (pA m a n) (pC m a c n) x)) ∧ ∃ m, w' = w.drewN m) := fun g w e1 e2 e3 => l03Step_any g m _ _ x w e1 e2 e3 h1 h2 (Nat.le_trans (Nat.le_of_lt (pA_lt (by omega) _ _)) h2) (Nat.le_trans (Nat.le_of_lt (pC_lt (by omega) _ _ _)) h2) (by omega)
  clear h1 h2 h3 h4 h5
  go_enter Try.func25, Try.ntmps25
  go_wp2_with fail
  have K0 := KAt.new w (.int .i64 m) (.int .i64 a) (.int .i64 c) 25
  generalize w.alloc (.cells #[.int .i64 m, .int .i64 a, .int .i64 c] 25) = w0 at K0 ⊢
  obtain ⟨c0, c1, c2, hK⟩ := K0
  refine (l03Both_b w.heap.size m a c x true _ c0 c1 c2 (decide_eq_true HS.out)).mono ?_
  rintro e w1 ⟨rfl, m1, rfl⟩
  have K1 : Hid (KAt w.heap.size w w.heap.size (.int .i64 m) (.int .i64 a) (.int .i64 c) (w0.drewN m1)) := KAt.drewN ⟨c0, c1, c2, hK⟩ m1
  clear c0 c1 c2 hK
  generalize w0.drewN m1 = w1 at K1 ⊢
  go_wp2_with (go_at_call 48; with_reducible refine (HI.out _).mono ?_; rintro e w2 ⟨rfl, rfl⟩)
  refine (HP.out _ _ ⟨K1.out.1, K1.out.2.1, K1.out.2.2.1⟩).mono ?_
  rintro e w2 ⟨rfl, hb⟩
  have K2 := Lib.hid (K1.out.below hb)
  clear hb K1
  go_wp2_with fail
  have L0 := KAt.new w2 (.int .i64 m) (.int .i64 (pA m a n)) (.int .i64 (pC m a c n)) 25
  generalize w2.alloc (.cells #[.int .i64 m, .int .i64 (pA m a n), .int .i64 (pC m a c n)] 25) = w3 at L0 ⊢
  have K3 := Lib.hid (K2.out.below L0.all)
  obtain ⟨c0, c1, c2, hK⟩ := L0
  refine (HN.out _ _ c0 c1 c2).mono ?_
  rintro e w4 ⟨rfl, m2, rfl⟩
  clear c0 c1 c2 hK
  go_wp2
  go_ret2
  exact ⟨rfl, below_drewN K3.out.all _⟩
theorem specJumpK_no (m a c x n : Int) (w : World) (h : ¬ (ConS m a c x ∧ 0 ≤ n ∧ n ≤ 1000000000000000000)) :
    Calls Try.prog 25 #[.agg #[.int .i64 m, .int .i64 a, .int .i64 c], .int .i64 x, .int .i64 n] w fun e w' => e = .returned (.tuple #[.int .i64 0, .bool false]) ∧ Below w.heap.size w w' := by
  by_cases hp : ConS m a c x
  · have HS := Lib.hid hp
    have HI : Hid (∀ w : World, Calls Try.prog 48 #[.int .i64 n, .int .i64 0, .int .i64 1000000000000000000] w fun e w' => e = .returned (.bool false) ∧ w = w') := fun w => l00In_b _ _ _ _ (decide_eq_false fun y => h ⟨hp, y⟩) w
    clear hp h
    go_enter Try.func25, Try.ntmps25
    go_wp2_with (first | (go_at_call 44; refine (l03Both_b w.heap.size m a c x true _ (by simp [go_sem]) (by simp [go_sem]) (by simp [go_sem]) (decide_eq_true HS.out)).mono ?_; rintro e w1 ⟨rfl, m, rfl⟩) | (go_at_call 48; with_reducible refine (HI.out _).mono ?_; rintro e w2 ⟨rfl, rfl⟩))
    go_ret2
    exact ⟨rfl, below_drewN ((Below.refl _ _).alloc (Nat.le_refl _) _) _⟩
  · have HS := Lib.hid hp
    clear hp h
    go_enter Try.func25, Try.ntmps25
    go_wp2_with (go_at_call 44; refine (l03Both_b w.heap.size m a c x false _ (by simp [go_sem]) (by simp [go_sem]) (by simp [go_sem]) (decide_eq_false HS.out)).mono ?_; rintro e w1 ⟨rfl, m, rfl⟩)
    go_ret2
    exact ⟨rfl, below_drewN ((Below.refl _ _).alloc (Nat.le_refl _) _) _⟩
theorem lawJumpK_of (m a c x n : Int) (v : Int) (r : Bool) (w : World)
    (S : Hid (∀ w : World, Calls Try.prog 25 #[.agg #[.int .i64 m, .int .i64 a, .int .i64 c], .int .i64 x, .int .i64 n] w fun e w' => e = .returned (.tuple #[.int .i64 v, .bool r]) ∧ Below w.heap.size w w'))
    (I : Hid (∀ w : World, Calls Try.prog 26 #[.agg #[.int .i64 m, .int .i64 a, .int .i64 c], .int .i64 x, .int .i64 n] w fun e w' => e = .returned (.tuple #[.int .i64 v, .bool r]) ∧ Below w.heap.size w w')) :
    Calls Try.prog 6 #[.agg #[.int .i64 m, .int .i64 a, .int .i64 c], .int .i64 x, .int .i64 n] w fun e w' => e = .returned (.bool true) ∧ Below w.heap.size w w' := by
  have e0 : (v != v) = false := by simp
  have e1 : (r != r) = false := by simp
  go_enter Try.func6, Try.ntmps6
  go_wp2_with fail
  have K := KAt.new w (.int .i64 m) (.int .i64 a) (.int .i64 c) 23
  generalize w.alloc (.cells #[.int .i64 m, .int .i64 a, .int .i64 c] 23) = w0 at K ⊢
  refine (toCon_any _ _ _ _).mono ?_
  rintro e w1 ⟨rfl, hb⟩
  have K1 := K.below hb
  clear hb K
  go_wp2_with fail
  refine (S.out _).mono ?_
  rintro e w2 ⟨rfl, hb⟩
  have K2 := Lib.hid (K1.below hb)
  clear hb K1
  obtain ⟨x0, x1, x2, _⟩ := K2.out
  go_wp2_with fail
  refine (toCon_any _ _ _ _).mono ?_
  rintro e w3 ⟨rfl, hb⟩
  have K3 := K2.out.below hb
  clear hb K2 x0 x1 x2
  go_wp2_with fail
  refine (I.out _).mono ?_
  rintro e w4 ⟨rfl, hb⟩
  have K4 := Lib.hid (K3.below hb)
  clear hb K3
  go_wp2
  go_ret
  exact ⟨rfl, K4.out.all⟩
theorem lawJumpK (m a c x n : Int) (w : World) :
    Calls Try.prog 6 #[.agg #[.int .i64 m, .int .i64 a, .int .i64 c], .int .i64 x, .int .i64 n] w fun e w' => e = .returned (.bool true) ∧ Below w.heap.size w w' := by
  by_cases h : ConS m a c x ∧ 0 ≤ n ∧ n ≤ 1000000000000000000
  · obtain ⟨h', n0, n1⟩ := h
    obtain ⟨M, A, C, X, rfl, rfl, rfl, rfl, h1, h2, h3, h4, h5⟩ := h'.nat
    obtain ⟨N, rfl⟩ := Int.eq_ofNat_of_zero_le n0
    exact lawJumpK_of _ _ _ _ _ _ _ w (fun W => specJumpK_yes M A C X N W h1 h2 h3 h4 h5 (by omega)) (fun W => jumpK_yes M A C X N W h1 h2 h3 h4 h5 (by omega))
  · exact lawJumpK_of _ _ _ _ _ 0 false w (fun W => specJumpK_no m a c x n W h) (fun W => jumpK_no m a c x n W h)
theorem powerOfK_yes (m a c n : Nat) (w : World) (h1 : 2 ≤ m) (h2 : m ≤ 100000) (h3 : a < m) (h4 : c < m) (hn : n ≤ 1000000000000000000) :
    Calls Try.prog 28 #[.agg #[.int .i64 m, .int .i64 a, .int .i64 c], .int .i64 n] w fun e w' => e = .returned (.tuple #[.agg #[.int .i64 m, .int .i64 (pA m a n), .int .i64 (pC m a c n)], .bool true]) ∧ Below w.heap.size w w' := by
  have HS : Hid (ConP m a c) := conP_nat h1 h2 h3 h4
  have HI : Hid (∀ w : World, Calls Try.prog 43 #[.int .i64 n, .int .i64 0, .int .i64 1000000000000000000] w fun e w' => e = .returned (.bool true) ∧ w = w') := fun w => btw64_b _ _ _ _ (decide_eq_true (by omega)) w
  have HP : Hid (∀ w : World, Calls Try.prog 51 #[.agg #[.int .i64 m, .int .i64 a, .int .i64 c], .int .i64 n] w fun e w' => e = .returned (.agg #[.int .i64 m, .int .i64 (pA m a n), .int .i64 (pC m a c n)]) ∧ Below w.heap.size w w') := fun w => powerK_any m a c n w h1 h2 h3 h4 hn
  clear h1 h2 h3 h4
  go_enter Try.func28, Try.ntmps28
  go_wp2_with fail
  have K0 := KAt.new w (.int .i64 m) (.int .i64 a) (.int .i64 c) 25
  have Z0 := C3.new (w.alloc (.cells #[.int .i64 m, .int .i64 a, .int .i64 c] 25)) (.int .i64 0) (.int .i64 0) (.int .i64 0) 25
  have K1 := K0.below ((Below.refl _ (w.alloc (.cells #[.int .i64 m, .int .i64 a, .int .i64 c] 25))).alloc (Nat.le_refl _) (.cells #[.int .i64 0, .int .i64 0, .int .i64 0] 25))
  simp only [World.size_alloc] at Z0
  generalize (w.alloc (.cells #[.int .i64 m, .int .i64 a, .int .i64 c] 25)).alloc (.cells #[.int .i64 0, .int .i64 0, .int .i64 0] 25) = w0 at K1 Z0 ⊢
  clear K0
  refine (validK_b _ _ _ true _ (decide_eq_true HS.out)).mono ?_
  rintro e w1 ⟨rfl, hb⟩
  have K2 := Lib.hid (K1.below hb)
  have Z1 := Lib.hid (Z0.below hb Z0.lt)
  clear hb K1 Z0
  obtain ⟨c0, c1, c2, _⟩ := K2.out
  go_wp2_with (go_at_call 43; with_reducible refine (HI.out _).mono ?_; rintro e w2 ⟨rfl, rfl⟩)
  refine (HP.out _).mono ?_
  rintro e w2 ⟨rfl, hb⟩
  have Z2 := Lib.hid (And.intro (Z1.out.below hb Z1.out.lt) (K2.out.below hb).all)
  clear hb K2 Z1 c0 c1 c2
  obtain ⟨⟨⟨z0, z1, z2⟩, zf0, zf1, zf2⟩, _⟩ := Z2.out
  go_wp2
  have P := (Z2.out.1.put (.int .i64 m) (.int .i64 (pA m a n)) (.int .i64 (pC m a c n))).1
  unfold put3 at P
  obtain ⟨p0, p1, p2⟩ := P
  exact bodyPost_ret (v := .tuple #[.agg #[.int .i64 m, .int .i64 (pA m a n), .int .i64 (pC m a c n)], .bool true]) (by simp [results, Try.results28, go_sem, p0, p1, p2]) rfl ⟨rfl, below_put3 Z2.out.2 (by omega) _ _ _⟩
theorem specPowerOfK_yes (m a c n : Nat) (w : World) (h1 : 2 ≤ m) (h2 : m ≤ 100000) (h3 : a < m) (h4 : c < m) (hn : n ≤ 1000000000000000000) :
    Calls Try.prog 27 #[.agg #[.int .i64 m, .int .i64 a, .int .i64 c], .int .i64 n] w fun e w' => e = .returned (.tuple #[.agg #[.int .i64 m, .int .i64 (pA m a n), .int .i64 (pC m a c n)], .bool true]) ∧ Below w.heap.size w w' := by
  have HS : Hid (ConP m a c) := conP_nat h1 h2 h3 h4
  have HI : Hid (∀ w : World, Calls Try.prog 48 #[.int .i64 n, .int .i64 0, .int .i64 1000000000000000000] w fun e w' => e = .returned (.bool true) ∧ w = w') := fun w => l00In_b _ _ _ _ (decide_eq_true (by omega)) w
  have HP : Hid (∀ (g : Nat) (w : World), (w.cell? ⟨g, 0, none⟩ = some (.int .i64 m) ∧ w.cell? ⟨g, 1, none⟩ = some (.int .i64 a) ∧ w.cell? ⟨g, 2, none⟩ = some (.int .i64 c)) → Calls Try.prog 50 #[.pointer (some ⟨g, 0, none⟩), .int .i64 n] w fun e w' => e = .returned (.agg #[.int .i64 m, .int .i64 (pA m a n), .int .i64 (pC m a c n)]) ∧ Below w.heap.size w w') := fun g w hg => l03Power_any g m a c n w hg h1 h2 h3 h4 hn
  clear h1 h2 h3 h4
  go_enter Try.func27, Try.ntmps27
  go_wp2_with fail
  have K0 := KAt.new w (.int .i64 m) (.int .i64 a) (.int .i64 c) 25
  have Z0 := C3.new (w.alloc (.cells #[.int .i64 m, .int .i64 a, .int .i64 c] 25)) (.int .i64 0) (.int .i64 0) (.int .i64 0) 25
  have K1 := K0.below ((Below.refl _ (w.alloc (.cells #[.int .i64 m, .int .i64 a, .int .i64 c] 25))).alloc (Nat.le_refl _) (.cells #[.int .i64 0, .int .i64 0, .int .i64 0] 25))
  simp only [World.size_alloc] at Z0
  generalize (w.alloc (.cells #[.int .i64 m, .int .i64 a, .int .i64 c] 25)).alloc (.cells #[.int .i64 0, .int .i64 0, .int .i64 0] 25) = w0 at K1 Z0 ⊢
  clear K0
  refine (l03Is_b w.heap.size m a c true _ K1.1 K1.2.1 K1.2.2.1 (decide_eq_true HS.out)).mono ?_
  rintro e w1 ⟨rfl, m1, rfl⟩
  have K2 := Lib.hid (K1.drewN m1)
  have Z1 := Lib.hid (Z0.drewN m1)
  clear K1 Z0
  generalize w0.drewN m1 = w1 at K2 Z1 ⊢
  go_wp2_with (go_at_call 48; with_reducible refine (HI.out _).mono ?_; rintro e w2 ⟨rfl, rfl⟩)
  refine (HP.out _ _ ⟨K2.out.1, K2.out.2.1, K2.out.2.2.1⟩).mono ?_
  rintro e w2 ⟨rfl, hb⟩
  have Z2 := Lib.hid (And.intro (Z1.out.below hb Z1.out.lt) (K2.out.below hb).all)
  clear hb K2 Z1
  obtain ⟨⟨⟨z0, z1, z2⟩, zf0, zf1, zf2⟩, _⟩ := Z2.out
  go_wp2
  have P := (Z2.out.1.put (.int .i64 m) (.int .i64 (pA m a n)) (.int .i64 (pC m a c n))).1
  unfold put3 at P
  obtain ⟨p0, p1, p2⟩ := P
  exact bodyPost_ret (v := .tuple #[.agg #[.int .i64 m, .int .i64 (pA m a n), .int .i64 (pC m a c n)], .bool true]) (by simp [results, Try.results27, go_sem, p0, p1, p2]) rfl ⟨rfl, below_put3 Z2.out.2 (by omega) _ _ _⟩
theorem powerOfK_no (m a c n : Int) (w : World) (h : ¬ (ConP m a c ∧ 0 ≤ n ∧ n ≤ 1000000000000000000)) :
    Calls Try.prog 28 #[.agg #[.int .i64 m, .int .i64 a, .int .i64 c], .int .i64 n] w fun e w' => e = .returned (.tuple #[.agg #[.int .i64 0, .int .i64 0, .int .i64 0], .bool false]) ∧ Below w.heap.size w w' := by
  by_cases hp : ConP m a c
  · have HS := Lib.hid hp
    have HI : Hid (∀ w : World, Calls Try.prog 43 #[.int .i64 n, .int .i64 0, .int .i64 1000000000000000000] w fun e w' => e = .returned (.bool false) ∧ w = w') := fun w => btw64_b _ _ _ _ (decide_eq_false fun y => h ⟨hp, y⟩) w
    clear hp h
    go_enter Try.func28, Try.ntmps28
    go_wp2_with fail
    have Z0 := C3.new (w.alloc (.cells #[.int .i64 m, .int .i64 a, .int .i64 c] 25)) (.int .i64 0) (.int .i64 0) (.int .i64 0) 25
    have B0 := ((Below.refl w.heap.size w).alloc (Nat.le_refl _) (.cells #[.int .i64 m, .int .i64 a, .int .i64 c] 25)).alloc (by simp) (.cells #[.int .i64 0, .int .i64 0, .int .i64 0] 25)
    simp only [World.size_alloc] at Z0
    generalize (w.alloc (.cells #[.int .i64 m, .int .i64 a, .int .i64 c] 25)).alloc (.cells #[.int .i64 0, .int .i64 0, .int .i64 0] 25) = w0 at B0 Z0 ⊢
    refine (validK_b _ _ _ true _ (decide_eq_true HS.out)).mono ?_
    rintro e w1 ⟨rfl, hb⟩
    have Z2 := Lib.hid (And.intro (Z0.below hb Z0.lt) (B0.trans (hb.mono B0.size)))
    clear hb B0 Z0
    obtain ⟨⟨⟨z0, z1, z2⟩, zf0, zf1, zf2⟩, _⟩ := Z2.out
    go_wp2_with (go_at_call 43; with_reducible refine (HI.out _).mono ?_; rintro e w2 ⟨rfl, rfl⟩)
    have P := (Z2.out.1.put (.int .i64 0) (.int .i64 0) (.int .i64 0)).1
    unfold put3 at P
    obtain ⟨p0, p1, p2⟩ := P
    exact bodyPost_ret (v := .tuple #[.agg #[.int .i64 0, .int .i64 0, .int .i64 0], .bool false]) (by simp [results, Try.results28, go_sem, p0, p1, p2]) rfl ⟨rfl, below_put3 Z2.out.2 (by omega) _ _ _⟩
  · have HS := Lib.hid hp
    clear hp h
    go_enter Try.func28, Try.ntmps28
    go_wp2_with fail
    have Z0 := C3.new (w.alloc (.cells #[.int .i64 m, .int .i64 a, .int .i64 c] 25)) (.int .i64 0) (.int .i64 0) (.int .i64 0) 25
    have B0 := ((Below.refl w.heap.size w).alloc (Nat.le_refl _) (.cells #[.int .i64 m, .int .i64 a, .int .i64 c] 25)).alloc (by simp) (.cells #[.int .i64 0, .int .i64 0, .int .i64 0] 25)
    simp only [World.size_alloc] at Z0
    generalize (w.alloc (.cells #[.int .i64 m, .int .i64 a, .int .i64 c] 25)).alloc (.cells #[.int .i64 0, .int .i64 0, .int .i64 0] 25) = w0 at B0 Z0 ⊢
    refine (validK_b _ _ _ false _ (decide_eq_false HS.out)).mono ?_
    rintro e w1 ⟨rfl, hb⟩
    have Z2 := Lib.hid (And.intro (Z0.below hb Z0.lt) (B0.trans (hb.mono B0.size)))
    clear hb B0 Z0
    obtain ⟨⟨⟨z0, z1, z2⟩, zf0, zf1, zf2⟩, _⟩ := Z2.out
    go_wp2
    have P := (Z2.out.1.put (.int .i64 0) (.int .i64 0) (.int .i64 0)).1
    unfold put3 at P
    obtain ⟨p0, p1, p2⟩ := P
    exact bodyPost_ret (v := .tuple #[.agg #[.int .i64 0, .int .i64 0, .int .i64 0], .bool false]) (by simp [results, Try.results28, go_sem, p0, p1, p2]) rfl ⟨rfl, below_put3 Z2.out.2 (by omega) _ _ _⟩
theorem specPowerOfK_no (m a c n : Int) (w : World) (h : ¬ (ConP m a c ∧ 0 ≤ n ∧ n ≤ 1000000000000000000)) :
    Calls Try.prog 27 #[.agg #[.int .i64 m, .int .i64 a, .int .i64 c], .int .i64 n] w fun e w' => e = .returned (.tuple #[.agg #[.int .i64 0, .int .i64 0, .int .i64 0], .bool false]) ∧ Below w.heap.size w w' := by
  by_cases hp : ConP m a c
  · have HS := Lib.hid hp
    have HI : Hid (∀ w : World, Calls Try.prog 48 #[.int .i64 n, .int .i64 0, .int .i64 1000000000000000000] w fun e w' => e = .returned (.bool false) ∧ w = w') := fun w => l00In_b _ _ _ _ (decide_eq_false fun y => h ⟨hp, y⟩) w
    clear hp h
    go_enter Try.func27, Try.ntmps27
    go_wp2_with fail
    have K0 := KAt.new w (.int .i64 m) (.int .i64 a) (.int .i64 c) 25
    have Z0 := C3.new (w.alloc (.cells #[.int .i64 m, .int .i64 a, .int .i64 c] 25)) (.int .i64 0) (.int .i64 0) (.int .i64 0) 25
    have K1 := K0.below ((Below.refl _ (w.alloc (.cells #[.int .i64 m, .int .i64 a, .int .i64 c] 25))).alloc (Nat.le_refl _) (.cells #[.int .i64 0, .int .i64 0, .int .i64 0] 25))
    simp only [World.size_alloc] at Z0
    generalize (w.alloc (.cells #[.int .i64 m, .int .i64 a, .int .i64 c] 25)).alloc (.cells #[.int .i64 0, .int .i64 0, .int .i64 0] 25) = w0 at K1 Z0 ⊢
    clear K0
    refine (l03Is_b w.heap.size m a c true _ K1.1 K1.2.1 K1.2.2.1 (decide_eq_true HS.out)).mono ?_
    rintro e w1 ⟨rfl, m1, rfl⟩
    have Z2 := Lib.hid (And.intro (Z0.drewN m1) (K1.drewN m1).all)
    clear K1 Z0
    generalize w0.drewN m1 = w1 at Z2 ⊢
    obtain ⟨⟨⟨z0, z1, z2⟩, zf0, zf1, zf2⟩, _⟩ := Z2.out
    go_wp2_with (go_at_call 48; with_reducible refine (HI.out _).mono ?_; rintro e w2 ⟨rfl, rfl⟩)
    have P := (Z2.out.1.put (.int .i64 0) (.int .i64 0) (.int .i64 0)).1
    unfold put3 at P
    obtain ⟨p0, p1, p2⟩ := P
    exact bodyPost_ret (v := .tuple #[.agg #[.int .i64 0, .int .i64 0, .int .i64 0], .bool false]) (by simp [results, Try.results27, go_sem, p0, p1, p2]) rfl ⟨rfl, below_put3 Z2.out.2 (by omega) _ _ _⟩
  · have HS := Lib.hid hp
    clear hp h
    go_enter Try.func27, Try.ntmps27
    go_wp2_with fail
    have K0 := KAt.new w (.int .i64 m) (.int .i64 a) (.int .i64 c) 25
    have Z0 := C3.new (w.alloc (.cells #[.int .i64 m, .int .i64 a, .int .i64 c] 25)) (.int .i64 0) (.int .i64 0) (.int .i64 0) 25
    have K1 := K0.below ((Below.refl _ (w.alloc (.cells #[.int .i64 m, .int .i64 a, .int .i64 c] 25))).alloc (Nat.le_refl _) (.cells #[.int .i64 0, .int .i64 0, .int .i64 0] 25))
    simp only [World.size_alloc] at Z0
    generalize (w.alloc (.cells #[.int .i64 m, .int .i64 a, .int .i64 c] 25)).alloc (.cells #[.int .i64 0, .int .i64 0, .int .i64 0] 25) = w0 at K1 Z0 ⊢
    clear K0
    refine (l03Is_b w.heap.size m a c false _ K1.1 K1.2.1 K1.2.2.1 (decide_eq_false HS.out)).mono ?_
    rintro e w1 ⟨rfl, m1, rfl⟩
    have Z2 := Lib.hid (And.intro (Z0.drewN m1) (K1.drewN m1).all)
    clear K1 Z0
    generalize w0.drewN m1 = w1 at Z2 ⊢
    obtain ⟨⟨⟨z0, z1, z2⟩, zf0, zf1, zf2⟩, _⟩ := Z2.out
    go_wp2
    have P := (Z2.out.1.put (.int .i64 0) (.int .i64 0) (.int .i64 0)).1
    unfold put3 at P
    obtain ⟨p0, p1, p2⟩ := P
    exact bodyPost_ret (v := .tuple #[.agg #[.int .i64 0, .int .i64 0, .int .i64 0], .bool false]) (by simp [results, Try.results27, go_sem, p0, p1, p2]) rfl ⟨rfl, below_put3 Z2.out.2 (by omega) _ _ _⟩
theorem eqCon_yes (m a c : Int) (w : World) :
    Calls Try.prog 29 #[.agg #[.int .i64 m, .int .i64 a, .int .i64 c], .agg #[.int .i64 m, .int .i64 a, .int .i64 c]] w fun e w' => e = .returned (.bool true) ∧ Below w.heap.size w w' := by
  have e1 : (m != m) = false := by simp
  have e2 : (a != a) = false := by simp
  have e3 : (c != c) = false := by simp
  go_enter Try.func29, Try.ntmps29
  go_wp2
  go_ret
  exact ⟨rfl, ((Below.refl _ w).alloc (Nat.le_refl _) _).alloc (by simp) _⟩
theorem lawPowerK_of (m a c n : Int) (v1 v2 v3 : Int) (r : Bool) (w : World)
    (S : Hid (∀ w : World, Calls Try.prog 27 #[.agg #[.int .i64 m, .int .i64 a, .int .i64 c], .int .i64 n] w fun e w' => e = .returned (.tuple #[.agg #[.int .i64 v1, .int .i64 v2, .int .i64 v3], .bool r]) ∧ Below w.heap.size w w'))
    (I : Hid (∀ w : World, Calls Try.prog 28 #[.agg #[.int .i64 m, .int .i64 a, .int .i64 c], .int .i64 n] w fun e w' => e = .returned (.tuple #[.agg #[.int .i64 v1, .int .i64 v2, .int .i64 v3], .bool r]) ∧ Below w.heap.size w w')) :
    Calls Try.prog 7 #[.agg #[.int .i64 m, .int .i64 a, .int .i64 c], .int .i64 n] w fun e w' => e = .returned (.bool true) ∧ Below w.heap.size w w' := by
  have e4 : (r != r) = false := by simp
  go_enter Try.func7, Try.ntmps7
  go_wp2_with fail
  have K := KAt.new w (.int .i64 m) (.int .i64 a) (.int .i64 c) 23
  generalize w.alloc (.cells #[.int .i64 m, .int .i64 a, .int .i64 c] 23) = w0 at K ⊢
  refine (toCon_any _ _ _ _).mono ?_
  rintro e w1 ⟨rfl, hb⟩
  have K1 := K.below hb
  clear hb K
  go_wp2_with fail
  refine (S.out _).mono ?_
  rintro e w2 ⟨rfl, hb⟩
  have K2 := Lib.hid (K1.below hb)
  clear hb K1
  obtain ⟨x0, x1, x2, _⟩ := K2.out
  go_wp2_with fail
  have L0 := KAt.new w2 (.int .i64 v1) (.int .i64 v2) (.int .i64 v3) 25
  have K3 := K2.out.below L0.all
  generalize w2.alloc (.cells #[.int .i64 v1, .int .i64 v2, .int .i64 v3] 25) = w3 at K3 L0 ⊢
  clear K2 x0 x1 x2
  refine (toCon_any _ _ _ _).mono ?_
  rintro e w4 ⟨rfl, hb⟩
  have K4 := K3.below hb
  have L4 := L0.below hb
  clear hb K3 L0
  go_wp2_with fail
  refine (I.out _).mono ?_
  rintro e w5 ⟨rfl, hb⟩
  have K5 := Lib.hid (K4.below hb)
  have L5 := Lib.hid (L4.below hb)
  clear hb K4 L4
  obtain ⟨x0, x1, x2, _⟩ := L5.out
  go_wp2_with fail
  have M0 := KAt.new w5 (.int .i64 v1) (.int .i64 v2) (.int .i64 v3) 25
  have K6 := Lib.hid (K5.out.below M0.all)
  have L6 := Lib.hid (L5.out.below M0.all)
  clear K5 L5 x0 x1 x2 M0
  refine (eqCon_yes _ _ _ _).mono ?_
  rintro e w7 ⟨rfl, hb⟩
  have K7 := Lib.hid (K6.out.below hb)
  clear hb K6 L6
  go_wp2
  go_ret
  exact ⟨rfl, K7.out.all⟩
theorem lawPowerK (m a c n : Int) (w : World) :
    Calls Try.prog 7 #[.agg #[.int .i64 m, .int .i64 a, .int .i64 c], .int .i64 n] w fun e w' => e = .returned (.bool true) ∧ Below w.heap.size w w' := by
  by_cases h : ConP m a c ∧ 0 ≤ n ∧ n ≤ 1000000000000000000
  · obtain ⟨h', n0, n1⟩ := h
    obtain ⟨M, A, C, rfl, rfl, rfl, h1, h2, h3, h4⟩ := h'.nat
    obtain ⟨N, rfl⟩ := Int.eq_ofNat_of_zero_le n0
    exact lawPowerK_of _ _ _ _ _ _ _ _ w (fun W => specPowerOfK_yes M A C N W h1 h2 h3 h4 (by omega)) (fun W => powerOfK_yes M A C N W h1 h2 h3 h4 (by omega))
  · exact lawPowerK_of _ _ _ _ 0 0 0 false w (fun W => specPowerOfK_no m a c n W h) (fun W => powerOfK_no m a c n W h)
end Go.Proofs.Ytmapbaomfaplmaa
