/- Counts of orders by cycles and by rising sequences. -/
import Derived.Test.YtjbojamhnapkpabS7R
import Derived.Test.YtjbojamhnapkpabGT
namespace Go.Proofs.Ytjbojamhnapkpab
open Go.RowKit Go.PlainAid
set_option maxHeartbeats 800000

/-- thirteen numbers in a block -/
def AI (b : Nat) (l : List Int) (W : World) : Prop := ∀ j, j < 13 → W.cell? ⟨b, j, none⟩ = some (.int .i64 (l.getD j 0)) ∧ W.frozen? ⟨b, j, none⟩ = false
theorem AI.lt {b : Nat} {l : List Int} {W : World} (h : AI b l W) : b < W.heap.size := World.block_lt_of_cell? W _ (h 0 (by omega)).1
theorem AI.far {b : Nat} {l : List Int} {W W' : World} (h : AI b l W) (hb : Below W.heap.size W W') : AI b l W' := fun j hj =>
  ⟨(hb.cell (p := ⟨b, j, none⟩) h.lt).trans (h j hj).1, (hb.frozen (p := ⟨b, j, none⟩) h.lt).trans (h j hj).2⟩
theorem AI.set {b : Nat} {l : List Int} {W : World} (h : AI b l W) (hl : l.length = 13) (i : Nat) (v : Int) : AI b (l.set i v) (W.setCell ⟨b, i, none⟩ (.int .i64 v)) := fun j hj => by
  rw [getD_set7 (by omega), World.frozen?_setCell]
  refine ⟨?_, (h j hj).2⟩
  by_cases e : i = j
  · subst e
    rw [if_pos rfl]
    exact World.cell?_setCell_same W _ _ (h i hj).1
  · rw [if_neg e, cell_ne e]
    exact (h j hj).1
theorem AI.drewN {b : Nat} {l : List Int} {W : World} (h : AI b l W) (m : Nat) : AI b l (W.drewN m) := h
theorem lt13 {j : Nat} (h : j < 13) : j = 0 ∨ j = 1 ∨ j = 2 ∨ j = 3 ∨ j = 4 ∨ j = 5 ∨ j = 6 ∨ j = 7 ∨ j = 8 ∨ j = 9 ∨ j = 10 ∨ j = 11 ∨ j = 12 := by omega
theorem AI.new (w : World) (t : TypeId) : AI w.heap.size (1 :: List.replicate 12 0) (w.alloc (.cells #[.int .i64 1, .int .i64 0, .int .i64 0, .int .i64 0, .int .i64 0, .int .i64 0, .int .i64 0, .int .i64 0, .int .i64 0, .int .i64 0, .int .i64 0, .int .i64 0, .int .i64 0] t)) := fun j hj => by
  rcases lt13 hj with rfl | rfl | rfl | rfl | rfl | rfl | rfl | rfl | rfl | rfl | rfl | rfl | rfl <;> exact ⟨by simp [go_sem], by simp [go_sem]⟩
theorem AI.zero (w : World) (t : TypeId) : AI w.heap.size (List.replicate 13 0) (w.alloc (.cells #[.int .i64 0, .int .i64 0, .int .i64 0, .int .i64 0, .int .i64 0, .int .i64 0, .int .i64 0, .int .i64 0, .int .i64 0, .int .i64 0, .int .i64 0, .int .i64 0, .int .i64 0] t)) := fun j hj => by
  rcases lt13 hj with rfl | rfl | rfl | rfl | rfl | rfl | rfl | rfl | rfl | rfl | rfl | rfl | rfl <;> exact ⟨by simp [go_sem], by simp [go_sem]⟩
theorem AI.away {b c : Nat} {l : List Int} {W : World} (h : AI b l W) (hne : c ≠ b) (j : Nat) (u : Value) : AI b l (W.setCell ⟨c, j, none⟩ u) := fun i hi => by
  rw [World.frozen?_setCell]
  exact ⟨(World.cell?_setCell_other W _ _ _ (fun e => by have := congrArg Addr.block e; simp at this; exact hne this)).trans (h i hi).1, (h i hi).2⟩
theorem mul_in {a b : Int} (h0 : 0 ≤ a) (h1 : a ≤ 12) (h2 : 0 ≤ b) (h3 : b ≤ 479001600) : 0 ≤ a * b ∧ a * b ≤ 5748019200 := by
  refine ⟨Int.mul_nonneg h0 h2, ?_⟩
  have := Int.mul_le_mul h1 h3 h2 (by omega)
  omega
/-- a row of thirteen numbers as a value -/
def aggOf (l : List Int) : Value := .agg #[.int .i64 (l.getD 0 0), .int .i64 (l.getD 1 0), .int .i64 (l.getD 2 0), .int .i64 (l.getD 3 0), .int .i64 (l.getD 4 0), .int .i64 (l.getD 5 0), .int .i64 (l.getD 6 0), .int .i64 (l.getD 7 0), .int .i64 (l.getD 8 0), .int .i64 (l.getD 9 0), .int .i64 (l.getD 10 0), .int .i64 (l.getD 11 0), .int .i64 (l.getD 12 0)]
/-- what the counting asks of the function that tells how many ways keep a number -/
structure KpOk (kp : Nat → Nat → Int) : Prop where
  k1 : ∀ t j : Nat, t < 12 → j ≤ t + 1 → 0 ≤ kp (t + 1) j ∧ kp (t + 1) j ≤ 12
  k2 : ∀ t j : Nat, t < 12 → j ≤ t → 0 ≤ (t : Int) + 1 - kp (t + 1) j ∧ (t : Int) + 1 - kp (t + 1) j ≤ 12
  row : ∀ t : Nat, t < 13 → ∀ j : Nat, j < 13 → 0 ≤ (cnRow kp t).getD j 0 ∧ (cnRow kp t).getD j 0 ≤ 479001600 ∧ (t < j → (cnRow kp t).getD j 0 = 0)
theorem kpC_ok : KpOk kpC := ⟨fun t j h _ => by unfold kpC; omega, fun t j h _ => by unfold kpC; omega, cnC_in⟩
theorem kpR_ok : KpOk kpR := ⟨fun t j h _ => by unfold kpR; omega, fun t j h _ => by unfold kpR; omega, cnR_in⟩
set_option maxRecDepth 10000 in
theorem counts_countsByCycles (kp : Nat → Nat → Int) (hkp : KpOk kp) (n : Nat) (w : World) (h12 : n ≤ 12) (hf : ∀ (t j : Nat) (W : World), t ≤ 12 → 1 ≤ t → j ≤ 12 → Calls Try.prog 92 #[.int .i64 t, .int .i64 j] W fun e w' => e = .returned (.int .i64 (kp t j)) ∧ W = w') :
    Calls Try.prog 91 #[.int .i64 n, .func (.func 92) #[] #[]] w fun e w' => e = .returned (aggOf (cnRow kp n)) ∧ Below w.heap.size w w' := by
  have HF := Lib.hid hf
  have HP := Lib.hid hkp
  clear hf hkp
  go_enter Try.func91, Try.ntmps91
  go_wp2_with fail
  have HA0 : Hid (AI (w.heap.size + 1) (cnRow kp 0) ((w.alloc (.cells #[.int .i64 0, .int .i64 0, .int .i64 0, .int .i64 0, .int .i64 0, .int .i64 0, .int .i64 0, .int .i64 0, .int .i64 0, .int .i64 0, .int .i64 0, .int .i64 0, .int .i64 0] 73)).alloc (.cells #[.int .i64 1, .int .i64 0, .int .i64 0, .int .i64 0, .int .i64 0, .int .i64 0, .int .i64 0, .int .i64 0, .int .i64 0, .int .i64 0, .int .i64 0, .int .i64 0, .int .i64 0] 73)) ∧ AI w.heap.size (List.replicate 13 0) ((w.alloc (.cells #[.int .i64 0, .int .i64 0, .int .i64 0, .int .i64 0, .int .i64 0, .int .i64 0, .int .i64 0, .int .i64 0, .int .i64 0, .int .i64 0, .int .i64 0, .int .i64 0, .int .i64 0] 73)).alloc (.cells #[.int .i64 1, .int .i64 0, .int .i64 0, .int .i64 0, .int .i64 0, .int .i64 0, .int .i64 0, .int .i64 0, .int .i64 0, .int .i64 0, .int .i64 0, .int .i64 0, .int .i64 0] 73)) ∧ Below w.heap.size w ((w.alloc (.cells #[.int .i64 0, .int .i64 0, .int .i64 0, .int .i64 0, .int .i64 0, .int .i64 0, .int .i64 0, .int .i64 0, .int .i64 0, .int .i64 0, .int .i64 0, .int .i64 0, .int .i64 0] 73)).alloc (.cells #[.int .i64 1, .int .i64 0, .int .i64 0, .int .i64 0, .int .i64 0, .int .i64 0, .int .i64 0, .int .i64 0, .int .i64 0, .int .i64 0, .int .i64 0, .int .i64 0, .int .i64 0] 73))) := by
    have h1 := AI.new (w.alloc (.cells #[.int .i64 0, .int .i64 0, .int .i64 0, .int .i64 0, .int .i64 0, .int .i64 0, .int .i64 0, .int .i64 0, .int .i64 0, .int .i64 0, .int .i64 0, .int .i64 0, .int .i64 0] 73)) 73
    rw [World.size_alloc] at h1
    exact ⟨h1, (AI.zero w 73).far ((Below.refl _ _).alloc (Nat.le_refl _) _), ((Below.refl _ _).alloc (Nat.le_refl _) _).alloc (by rw [World.size_alloc]; omega) _⟩
  go_loopw [6, 7, 8] (fun tv _ _ wr => ∃ t : Nat, t ≤ n ∧ tv = .int .i64 ((t : Int) + 1) ∧ Hid (AI (w.heap.size + 1) (cnRow kp t) wr ∧ AI w.heap.size (List.replicate 13 0) wr ∧ Below w.heap.size w wr)) (fun tv _ _ _ => n + 1 - (intOf tv).toNat)
  case atStart => exact ⟨0, Nat.zero_le _, rfl, HA0⟩
  case round =>
    obtain ⟨t, ht, rfl, HA⟩ := hrel
    clear HA0
    by_cases hlt : t < n
    · obtain ⟨W0, hW0⟩ : ∃ W0, W0 = wr := ⟨_, rfl⟩
      rw [← hW0] at HA ⊢
      clear hW0
      have HM0 : Hid (AI (w.heap.size + 1) (cnMid kp t (t + 1)) W0 ∧ AI w.heap.size (List.replicate 13 0) W0 ∧ Below w.heap.size w W0) := by unfold Hid; rw [cnMid_start]; exact HA.out
      have hle : (t : Int) + 1 ≤ (n : Int) := by omega
      clear HA
      go_wp2_with fail
      go_loopw [7, 8] (fun mv _ wr => ∃ m : Nat, m ≤ t + 1 ∧ mv = .int .i64 m ∧ Hid (AI (w.heap.size + 1) (cnMid kp t m) wr ∧ AI w.heap.size (List.replicate 13 0) wr ∧ Below w.heap.size w wr)) (fun mv _ _ => (intOf mv).toNat)
      case atStart => exact ⟨t + 1, Nat.le_refl _, rfl, HM0⟩
      case round =>
        obtain ⟨m1, hm1, rfl, HM⟩ := hrel
        clear HM0
        by_cases hpos : 0 < m1
        · obtain ⟨m, hm⟩ : ∃ m, m + 1 = m1 := ⟨m1 - 1, by omega⟩
          obtain ⟨p1, p2⟩ := HP.out.k1 t m1 (by omega) hm1
          obtain ⟨q1, q2⟩ := HP.out.k2 t m (by omega) (by omega)
          obtain ⟨r1, r2, _⟩ := HP.out.row t (by omega) m1 (by omega)
          obtain ⟨s1, s2, _⟩ := HP.out.row t (by omega) m (by omega)
          have g1 := cnMid_get (kp := kp) (t := t) (m := m1) (j := m1) (by omega)
          have g2 := cnMid_get (kp := kp) (t := t) (m := m1) (j := m) (by omega)
          rw [if_pos (by omega)] at g1 g2
          obtain ⟨c1, f1⟩ := HM.out.1 m1 (by omega)
          obtain ⟨c2, f2⟩ := HM.out.1 m (by omega)
          rw [g1] at c1
          rw [g2] at c2
          have HE : Hid ((cnMid kp t m1).set m1 (kp (t + 1) m1 * (cnRow kp t).getD m1 0 + ((t : Int) + 1 - kp (t + 1) m) * (cnRow kp t).getD m 0) = cnMid kp t m) := by
            have := cnMid_step (kp := kp) (t := t) (m := m) (by omega)
            rwa [hm] at this
          have HF1 : Hid (∀ W : World, Calls Try.prog 92 #[.int .i64 ((t : Int) + 1), .int .i64 m1] W fun e w' => e = .returned (.int .i64 (kp (t + 1) m1)) ∧ W = w') := fun W => HF.out (t + 1) m1 W (by omega) (by omega) (by omega)
          have HF2 : Hid (∀ W : World, Calls Try.prog 92 #[.int .i64 ((t : Int) + 1), .int .i64 m] W fun e w' => e = .returned (.int .i64 (kp (t + 1) m)) ∧ W = w') := fun W => HF.out (t + 1) m W (by omega) (by omega) (by omega)
          have hm2 : (m1 : Int) - 1 = (m : Int) := by omega
          generalize kp (t + 1) m1 = K1 at p1 p2 HE HF1
          obtain ⟨K2, hK2⟩ : ∃ K2, kp (t + 1) m = K2 := ⟨_, rfl⟩
          rw [hK2] at q1 q2 HE HF2
          generalize (cnRow kp t).getD m1 0 = R1 at r1 r2 HE c1
          generalize (cnRow kp t).getD m 0 = R2 at s1 s2 HE c2
          obtain ⟨S, hS⟩ : ∃ S, (t : Int) + 1 - K2 = S := ⟨_, rfl⟩
          rw [hS] at q1 q2 HE
          obtain ⟨x1, x2⟩ := mul_in p1 p2 r1 r2
          obtain ⟨y1, y2⟩ := mul_in q1 q2 s1 s2
          obtain ⟨X, hX⟩ : ∃ X, K1 * R1 = X := ⟨_, rfl⟩
          obtain ⟨Y, hY⟩ : ∃ Y, S * R2 = Y := ⟨_, rfl⟩
          rw [hX] at x1 x2 HE
          rw [hY] at y1 y2 HE
          have HXY : Hid (K1 * R1 = X ∧ S * R2 = Y) := ⟨hX, hY⟩
          obtain ⟨W1, hW1⟩ : ∃ W1, W1 = wr := ⟨_, rfl⟩
          rw [← hW1] at HM c1 c2 f1 f2 ⊢
          have b1 : (m1 : Int) < 13 := by omega
          have b2 : (m : Int) < 13 := by omega
          have u1 : IntKind.i64.wrap (K1 * R1) = X := by rw [hX]; exact IntWalk.i64_in _ (by omega)
          have u2 : IntKind.i64.wrap (S * R2) = Y := by rw [hY]; exact IntWalk.i64_in _ (by omega)
          have u3 : IntKind.i64.wrap (X + Y) = X + Y := IntWalk.i64_in _ (by omega)
          have u4 : IntKind.i64.wrap (m : Int) = m := IntWalk.i64_in _ (by omega)
          clear hK2 g1 g2 hX hY hW1 hm
          go_wp2_with fail
          refine (HF2.out _).mono ?_
          rintro e w2 ⟨rfl, rfl⟩
          go_wp2
          have hmx : Try.prog.follows .mixedOrders = true := by kernel_rfl
          have k1 : ∀ q : GT W1, q.w.cell? ⟨w.heap.size + 1, m1, none⟩ = some (.int .i64 R1) := gt_cell c1
          have k2 : ∀ q : GT W1, q.w.cell? ⟨w.heap.size + 1, m, none⟩ = some (.int .i64 R2) := gt_cell c2
          refine wp_region_quiet_tail (C := fun w' => ∃ q : GT W1, w' = q.w) 17 hmx (by kernel_rfl) ⟨⟨W1.drew, (Below.refl _ _).drew⟩, rfl⟩ ?_
          simp only [List.take_succ_cons, List.take_zero, List.drop_succ_cons, List.drop_zero]
          repeat (quiet_step (with_reducible exact gt_still (HF1.out _)))
          refine wpQuiet_nil ?_
          rintro W2 ⟨⟨_, hW2⟩, rfl⟩
          clear k1 k2
          obtain ⟨A1, A2, A3⟩ := HM.out
          have HN : Hid (AI (w.heap.size + 1) (cnMid kp t m) (W2.setCell ⟨w.heap.size + 1, m1, none⟩ (.int .i64 (X + Y))) ∧ AI w.heap.size (List.replicate 13 0) (W2.setCell ⟨w.heap.size + 1, m1, none⟩ (.int .i64 (X + Y))) ∧ Below w.heap.size w (W2.setCell ⟨w.heap.size + 1, m1, none⟩ (.int .i64 (X + Y)))) := by
            refine ⟨?_, ?_, ?_⟩
            · rw [← HE.out]
              exact (A1.far hW2).set (cnMid_length ..) m1 (X + Y)
            · exact (A2.far hW2).away (by omega) _ _
            · exact (A3.trans (hW2.mono A3.size)).setCell (p := ⟨w.heap.size + 1, m1, none⟩) (by show w.heap.size ≤ w.heap.size + 1; omega) _
          obtain ⟨e1, e2⟩ := (A1.far hW2) m1 (by omega)
          have hmm : m ≤ t + 1 := by omega
          have hmlt : m < m1 := by omega
          clear A1 A2 A3 HM hW2 c1 c2 f1 f2 u1 u2 u3 u4 HXY
          go_wp2
          go_roundw
          case rel => exact ⟨m, hmm, rfl, HN⟩
          case measure => simp [intOf]; omega
        · obtain rfl : m1 = 0 := by omega
          obtain ⟨A1, A2, A3⟩ := HM.out
          obtain ⟨e1, e2⟩ := A1 0 (by omega)
          have HN : Hid (AI (w.heap.size + 1) (cnRow kp (t + 1)) (wr.setCell ⟨w.heap.size + 1, 0, none⟩ (.int .i64 0)) ∧ AI w.heap.size (List.replicate 13 0) (wr.setCell ⟨w.heap.size + 1, 0, none⟩ (.int .i64 0)) ∧ Below w.heap.size w (wr.setCell ⟨w.heap.size + 1, 0, none⟩ (.int .i64 0))) := by
            refine ⟨?_, ?_, ?_⟩
            · rw [← cnMid_end (kp := kp) (t := t) (fun j hj hj2 => ⟨(HP.out.row t (by omega) j hj).2.2 (by omega), (HP.out.row (t + 1) (by omega) j hj).2.2 hj2⟩)]
              exact A1.set (cnMid_length ..) 0 0
            · exact A2.away (by omega) _ _
            · exact A3.setCell (p := ⟨w.heap.size + 1, 0, none⟩) (by show w.heap.size ≤ w.heap.size + 1; omega) _
          clear A1 A2 A3 HM
          go_wp2
          go_roundw
          case rel => exact ⟨t + 1, by omega, by go_num, HN⟩
          case measure => simp [intOf]; omega
    · obtain rfl : t = n := by omega
      obtain ⟨A1, A2, A3⟩ := HA.out
      obtain ⟨v0, h0⟩ : ∃ v, (cnRow kp t).getD 0 0 = v := ⟨_, rfl⟩
      have a0 := (A1 0 (by omega)).1
      rw [h0] at a0
      have z0 : wr.cell? ⟨w.heap.size, 0, none⟩ = some (.int .i64 0) := (A2 0 (by omega)).1
      have y0 := (A2 0 (by omega)).2
      obtain ⟨v1, h1⟩ : ∃ v, (cnRow kp t).getD 1 0 = v := ⟨_, rfl⟩
      have a1 := (A1 1 (by omega)).1
      rw [h1] at a1
      have z1 : wr.cell? ⟨w.heap.size, 1, none⟩ = some (.int .i64 0) := (A2 1 (by omega)).1
      have y1 := (A2 1 (by omega)).2
      obtain ⟨v2, h2⟩ : ∃ v, (cnRow kp t).getD 2 0 = v := ⟨_, rfl⟩
      have a2 := (A1 2 (by omega)).1
      rw [h2] at a2
      have z2 : wr.cell? ⟨w.heap.size, 2, none⟩ = some (.int .i64 0) := (A2 2 (by omega)).1
      have y2 := (A2 2 (by omega)).2
      obtain ⟨v3, h3⟩ : ∃ v, (cnRow kp t).getD 3 0 = v := ⟨_, rfl⟩
      have a3 := (A1 3 (by omega)).1
      rw [h3] at a3
      have z3 : wr.cell? ⟨w.heap.size, 3, none⟩ = some (.int .i64 0) := (A2 3 (by omega)).1
      have y3 := (A2 3 (by omega)).2
      obtain ⟨v4, h4⟩ : ∃ v, (cnRow kp t).getD 4 0 = v := ⟨_, rfl⟩
      have a4 := (A1 4 (by omega)).1
      rw [h4] at a4
      have z4 : wr.cell? ⟨w.heap.size, 4, none⟩ = some (.int .i64 0) := (A2 4 (by omega)).1
      have y4 := (A2 4 (by omega)).2
      obtain ⟨v5, h5⟩ : ∃ v, (cnRow kp t).getD 5 0 = v := ⟨_, rfl⟩
      have a5 := (A1 5 (by omega)).1
      rw [h5] at a5
      have z5 : wr.cell? ⟨w.heap.size, 5, none⟩ = some (.int .i64 0) := (A2 5 (by omega)).1
      have y5 := (A2 5 (by omega)).2
      obtain ⟨v6, h6⟩ : ∃ v, (cnRow kp t).getD 6 0 = v := ⟨_, rfl⟩
      have a6 := (A1 6 (by omega)).1
      rw [h6] at a6
      have z6 : wr.cell? ⟨w.heap.size, 6, none⟩ = some (.int .i64 0) := (A2 6 (by omega)).1
      have y6 := (A2 6 (by omega)).2
      obtain ⟨v7, h7⟩ : ∃ v, (cnRow kp t).getD 7 0 = v := ⟨_, rfl⟩
      have a7 := (A1 7 (by omega)).1
      rw [h7] at a7
      have z7 : wr.cell? ⟨w.heap.size, 7, none⟩ = some (.int .i64 0) := (A2 7 (by omega)).1
      have y7 := (A2 7 (by omega)).2
      obtain ⟨v8, h8⟩ : ∃ v, (cnRow kp t).getD 8 0 = v := ⟨_, rfl⟩
      have a8 := (A1 8 (by omega)).1
      rw [h8] at a8
      have z8 : wr.cell? ⟨w.heap.size, 8, none⟩ = some (.int .i64 0) := (A2 8 (by omega)).1
      have y8 := (A2 8 (by omega)).2
      obtain ⟨v9, h9⟩ : ∃ v, (cnRow kp t).getD 9 0 = v := ⟨_, rfl⟩
      have a9 := (A1 9 (by omega)).1
      rw [h9] at a9
      have z9 : wr.cell? ⟨w.heap.size, 9, none⟩ = some (.int .i64 0) := (A2 9 (by omega)).1
      have y9 := (A2 9 (by omega)).2
      obtain ⟨v10, h10⟩ : ∃ v, (cnRow kp t).getD 10 0 = v := ⟨_, rfl⟩
      have a10 := (A1 10 (by omega)).1
      rw [h10] at a10
      have z10 : wr.cell? ⟨w.heap.size, 10, none⟩ = some (.int .i64 0) := (A2 10 (by omega)).1
      have y10 := (A2 10 (by omega)).2
      obtain ⟨v11, h11⟩ : ∃ v, (cnRow kp t).getD 11 0 = v := ⟨_, rfl⟩
      have a11 := (A1 11 (by omega)).1
      rw [h11] at a11
      have z11 : wr.cell? ⟨w.heap.size, 11, none⟩ = some (.int .i64 0) := (A2 11 (by omega)).1
      have y11 := (A2 11 (by omega)).2
      obtain ⟨v12, h12⟩ : ∃ v, (cnRow kp t).getD 12 0 = v := ⟨_, rfl⟩
      have a12 := (A1 12 (by omega)).1
      rw [h12] at a12
      have z12 : wr.cell? ⟨w.heap.size, 12, none⟩ = some (.int .i64 0) := (A2 12 (by omega)).1
      have y12 := (A2 12 (by omega)).2
      have HV : Hid (aggOf (cnRow kp t) = .agg #[.int .i64 v0, .int .i64 v1, .int .i64 v2, .int .i64 v3, .int .i64 v4, .int .i64 v5, .int .i64 v6, .int .i64 v7, .int .i64 v8, .int .i64 v9, .int .i64 v10, .int .i64 v11, .int .i64 v12]) := by
        unfold Hid aggOf
        rw [h0, h1, h2, h3, h4, h5, h6, h7, h8, h9, h10, h11, h12]
      have s0 : (wr.setCell ⟨w.heap.size, 0, none⟩ (.int .i64 v0)).cell? ⟨w.heap.size, 0, none⟩ = some (.int .i64 v0) := World.cell?_setCell_same _ _ _ (show _ = some (Value.int .i64 0) by simp [go_sem, z0])
      have s1 : ((wr.setCell ⟨w.heap.size, 0, none⟩ (.int .i64 v0)).setCell ⟨w.heap.size, 1, none⟩ (.int .i64 v1)).cell? ⟨w.heap.size, 1, none⟩ = some (.int .i64 v1) := World.cell?_setCell_same _ _ _ (show _ = some (Value.int .i64 0) by simp [go_sem, z1])
      have s2 : (((wr.setCell ⟨w.heap.size, 0, none⟩ (.int .i64 v0)).setCell ⟨w.heap.size, 1, none⟩ (.int .i64 v1)).setCell ⟨w.heap.size, 2, none⟩ (.int .i64 v2)).cell? ⟨w.heap.size, 2, none⟩ = some (.int .i64 v2) := World.cell?_setCell_same _ _ _ (show _ = some (Value.int .i64 0) by simp [go_sem, z2])
      have s3 : ((((wr.setCell ⟨w.heap.size, 0, none⟩ (.int .i64 v0)).setCell ⟨w.heap.size, 1, none⟩ (.int .i64 v1)).setCell ⟨w.heap.size, 2, none⟩ (.int .i64 v2)).setCell ⟨w.heap.size, 3, none⟩ (.int .i64 v3)).cell? ⟨w.heap.size, 3, none⟩ = some (.int .i64 v3) := World.cell?_setCell_same _ _ _ (show _ = some (Value.int .i64 0) by simp [go_sem, z3])
      have s4 : (((((wr.setCell ⟨w.heap.size, 0, none⟩ (.int .i64 v0)).setCell ⟨w.heap.size, 1, none⟩ (.int .i64 v1)).setCell ⟨w.heap.size, 2, none⟩ (.int .i64 v2)).setCell ⟨w.heap.size, 3, none⟩ (.int .i64 v3)).setCell ⟨w.heap.size, 4, none⟩ (.int .i64 v4)).cell? ⟨w.heap.size, 4, none⟩ = some (.int .i64 v4) := World.cell?_setCell_same _ _ _ (show _ = some (Value.int .i64 0) by simp [go_sem, z4])
      have s5 : ((((((wr.setCell ⟨w.heap.size, 0, none⟩ (.int .i64 v0)).setCell ⟨w.heap.size, 1, none⟩ (.int .i64 v1)).setCell ⟨w.heap.size, 2, none⟩ (.int .i64 v2)).setCell ⟨w.heap.size, 3, none⟩ (.int .i64 v3)).setCell ⟨w.heap.size, 4, none⟩ (.int .i64 v4)).setCell ⟨w.heap.size, 5, none⟩ (.int .i64 v5)).cell? ⟨w.heap.size, 5, none⟩ = some (.int .i64 v5) := World.cell?_setCell_same _ _ _ (show _ = some (Value.int .i64 0) by simp [go_sem, z5])
      have s6 : (((((((wr.setCell ⟨w.heap.size, 0, none⟩ (.int .i64 v0)).setCell ⟨w.heap.size, 1, none⟩ (.int .i64 v1)).setCell ⟨w.heap.size, 2, none⟩ (.int .i64 v2)).setCell ⟨w.heap.size, 3, none⟩ (.int .i64 v3)).setCell ⟨w.heap.size, 4, none⟩ (.int .i64 v4)).setCell ⟨w.heap.size, 5, none⟩ (.int .i64 v5)).setCell ⟨w.heap.size, 6, none⟩ (.int .i64 v6)).cell? ⟨w.heap.size, 6, none⟩ = some (.int .i64 v6) := World.cell?_setCell_same _ _ _ (show _ = some (Value.int .i64 0) by simp [go_sem, z6])
      have s7 : ((((((((wr.setCell ⟨w.heap.size, 0, none⟩ (.int .i64 v0)).setCell ⟨w.heap.size, 1, none⟩ (.int .i64 v1)).setCell ⟨w.heap.size, 2, none⟩ (.int .i64 v2)).setCell ⟨w.heap.size, 3, none⟩ (.int .i64 v3)).setCell ⟨w.heap.size, 4, none⟩ (.int .i64 v4)).setCell ⟨w.heap.size, 5, none⟩ (.int .i64 v5)).setCell ⟨w.heap.size, 6, none⟩ (.int .i64 v6)).setCell ⟨w.heap.size, 7, none⟩ (.int .i64 v7)).cell? ⟨w.heap.size, 7, none⟩ = some (.int .i64 v7) := World.cell?_setCell_same _ _ _ (show _ = some (Value.int .i64 0) by simp [go_sem, z7])
      have s8 : (((((((((wr.setCell ⟨w.heap.size, 0, none⟩ (.int .i64 v0)).setCell ⟨w.heap.size, 1, none⟩ (.int .i64 v1)).setCell ⟨w.heap.size, 2, none⟩ (.int .i64 v2)).setCell ⟨w.heap.size, 3, none⟩ (.int .i64 v3)).setCell ⟨w.heap.size, 4, none⟩ (.int .i64 v4)).setCell ⟨w.heap.size, 5, none⟩ (.int .i64 v5)).setCell ⟨w.heap.size, 6, none⟩ (.int .i64 v6)).setCell ⟨w.heap.size, 7, none⟩ (.int .i64 v7)).setCell ⟨w.heap.size, 8, none⟩ (.int .i64 v8)).cell? ⟨w.heap.size, 8, none⟩ = some (.int .i64 v8) := World.cell?_setCell_same _ _ _ (show _ = some (Value.int .i64 0) by simp [go_sem, z8])
      have s9 : ((((((((((wr.setCell ⟨w.heap.size, 0, none⟩ (.int .i64 v0)).setCell ⟨w.heap.size, 1, none⟩ (.int .i64 v1)).setCell ⟨w.heap.size, 2, none⟩ (.int .i64 v2)).setCell ⟨w.heap.size, 3, none⟩ (.int .i64 v3)).setCell ⟨w.heap.size, 4, none⟩ (.int .i64 v4)).setCell ⟨w.heap.size, 5, none⟩ (.int .i64 v5)).setCell ⟨w.heap.size, 6, none⟩ (.int .i64 v6)).setCell ⟨w.heap.size, 7, none⟩ (.int .i64 v7)).setCell ⟨w.heap.size, 8, none⟩ (.int .i64 v8)).setCell ⟨w.heap.size, 9, none⟩ (.int .i64 v9)).cell? ⟨w.heap.size, 9, none⟩ = some (.int .i64 v9) := World.cell?_setCell_same _ _ _ (show _ = some (Value.int .i64 0) by simp [go_sem, z9])
      have s10 : (((((((((((wr.setCell ⟨w.heap.size, 0, none⟩ (.int .i64 v0)).setCell ⟨w.heap.size, 1, none⟩ (.int .i64 v1)).setCell ⟨w.heap.size, 2, none⟩ (.int .i64 v2)).setCell ⟨w.heap.size, 3, none⟩ (.int .i64 v3)).setCell ⟨w.heap.size, 4, none⟩ (.int .i64 v4)).setCell ⟨w.heap.size, 5, none⟩ (.int .i64 v5)).setCell ⟨w.heap.size, 6, none⟩ (.int .i64 v6)).setCell ⟨w.heap.size, 7, none⟩ (.int .i64 v7)).setCell ⟨w.heap.size, 8, none⟩ (.int .i64 v8)).setCell ⟨w.heap.size, 9, none⟩ (.int .i64 v9)).setCell ⟨w.heap.size, 10, none⟩ (.int .i64 v10)).cell? ⟨w.heap.size, 10, none⟩ = some (.int .i64 v10) := World.cell?_setCell_same _ _ _ (show _ = some (Value.int .i64 0) by simp [go_sem, z10])
      have s11 : ((((((((((((wr.setCell ⟨w.heap.size, 0, none⟩ (.int .i64 v0)).setCell ⟨w.heap.size, 1, none⟩ (.int .i64 v1)).setCell ⟨w.heap.size, 2, none⟩ (.int .i64 v2)).setCell ⟨w.heap.size, 3, none⟩ (.int .i64 v3)).setCell ⟨w.heap.size, 4, none⟩ (.int .i64 v4)).setCell ⟨w.heap.size, 5, none⟩ (.int .i64 v5)).setCell ⟨w.heap.size, 6, none⟩ (.int .i64 v6)).setCell ⟨w.heap.size, 7, none⟩ (.int .i64 v7)).setCell ⟨w.heap.size, 8, none⟩ (.int .i64 v8)).setCell ⟨w.heap.size, 9, none⟩ (.int .i64 v9)).setCell ⟨w.heap.size, 10, none⟩ (.int .i64 v10)).setCell ⟨w.heap.size, 11, none⟩ (.int .i64 v11)).cell? ⟨w.heap.size, 11, none⟩ = some (.int .i64 v11) := World.cell?_setCell_same _ _ _ (show _ = some (Value.int .i64 0) by simp [go_sem, z11])
      have s12 : (((((((((((((wr.setCell ⟨w.heap.size, 0, none⟩ (.int .i64 v0)).setCell ⟨w.heap.size, 1, none⟩ (.int .i64 v1)).setCell ⟨w.heap.size, 2, none⟩ (.int .i64 v2)).setCell ⟨w.heap.size, 3, none⟩ (.int .i64 v3)).setCell ⟨w.heap.size, 4, none⟩ (.int .i64 v4)).setCell ⟨w.heap.size, 5, none⟩ (.int .i64 v5)).setCell ⟨w.heap.size, 6, none⟩ (.int .i64 v6)).setCell ⟨w.heap.size, 7, none⟩ (.int .i64 v7)).setCell ⟨w.heap.size, 8, none⟩ (.int .i64 v8)).setCell ⟨w.heap.size, 9, none⟩ (.int .i64 v9)).setCell ⟨w.heap.size, 10, none⟩ (.int .i64 v10)).setCell ⟨w.heap.size, 11, none⟩ (.int .i64 v11)).setCell ⟨w.heap.size, 12, none⟩ (.int .i64 v12)).cell? ⟨w.heap.size, 12, none⟩ = some (.int .i64 v12) := World.cell?_setCell_same _ _ _ (show _ = some (Value.int .i64 0) by simp [go_sem, z12])
      have HBf : Hid (Below w.heap.size w (((((((((((((wr.setCell ⟨w.heap.size, 0, none⟩ (.int .i64 v0)).setCell ⟨w.heap.size, 1, none⟩ (.int .i64 v1)).setCell ⟨w.heap.size, 2, none⟩ (.int .i64 v2)).setCell ⟨w.heap.size, 3, none⟩ (.int .i64 v3)).setCell ⟨w.heap.size, 4, none⟩ (.int .i64 v4)).setCell ⟨w.heap.size, 5, none⟩ (.int .i64 v5)).setCell ⟨w.heap.size, 6, none⟩ (.int .i64 v6)).setCell ⟨w.heap.size, 7, none⟩ (.int .i64 v7)).setCell ⟨w.heap.size, 8, none⟩ (.int .i64 v8)).setCell ⟨w.heap.size, 9, none⟩ (.int .i64 v9)).setCell ⟨w.heap.size, 10, none⟩ (.int .i64 v10)).setCell ⟨w.heap.size, 11, none⟩ (.int .i64 v11)).setCell ⟨w.heap.size, 12, none⟩ (.int .i64 v12))) := (((((((((((((A3.setCell (p := ⟨w.heap.size, 0, none⟩) (Nat.le_refl _) (.int .i64 v0)).setCell (p := ⟨w.heap.size, 1, none⟩) (Nat.le_refl _) (.int .i64 v1)).setCell (p := ⟨w.heap.size, 2, none⟩) (Nat.le_refl _) (.int .i64 v2)).setCell (p := ⟨w.heap.size, 3, none⟩) (Nat.le_refl _) (.int .i64 v3)).setCell (p := ⟨w.heap.size, 4, none⟩) (Nat.le_refl _) (.int .i64 v4)).setCell (p := ⟨w.heap.size, 5, none⟩) (Nat.le_refl _) (.int .i64 v5)).setCell (p := ⟨w.heap.size, 6, none⟩) (Nat.le_refl _) (.int .i64 v6)).setCell (p := ⟨w.heap.size, 7, none⟩) (Nat.le_refl _) (.int .i64 v7)).setCell (p := ⟨w.heap.size, 8, none⟩) (Nat.le_refl _) (.int .i64 v8)).setCell (p := ⟨w.heap.size, 9, none⟩) (Nat.le_refl _) (.int .i64 v9)).setCell (p := ⟨w.heap.size, 10, none⟩) (Nat.le_refl _) (.int .i64 v10)).setCell (p := ⟨w.heap.size, 11, none⟩) (Nat.le_refl _) (.int .i64 v11)).setCell (p := ⟨w.heap.size, 12, none⟩) (Nat.le_refl _) (.int .i64 v12))
      clear h0 h1 h2 h3 h4 h5 h6 h7 h8 h9 h10 h11 h12 A1 A2 A3 HA
      have hlt2 : ¬ ((t : Int) + 1 ≤ (t : Int)) := by omega
      go_wp2
      rw [HV.out]
      exact bodyPost_ret (v := .agg #[.int .i64 v0, .int .i64 v1, .int .i64 v2, .int .i64 v3, .int .i64 v4, .int .i64 v5, .int .i64 v6, .int .i64 v7, .int .i64 v8, .int .i64 v9, .int .i64 v10, .int .i64 v11, .int .i64 v12]) (by simp [results, Try.results91, go_sem, s0, s1, s2, s3, s4, s5, s6, s7, s8, s9, s10, s11, s12]) rfl ⟨rfl, HBf.out⟩
set_option maxRecDepth 10000 in
theorem counts_countsByRising (kp : Nat → Nat → Int) (hkp : KpOk kp) (n : Nat) (w : World) (h12 : n ≤ 12) (hf : ∀ (t j : Nat) (W : World), t ≤ 12 → 1 ≤ t → j ≤ 12 → Calls Try.prog 94 #[.int .i64 t, .int .i64 j] W fun e w' => e = .returned (.int .i64 (kp t j)) ∧ W = w') :
    Calls Try.prog 91 #[.int .i64 n, .func (.func 94) #[] #[]] w fun e w' => e = .returned (aggOf (cnRow kp n)) ∧ Below w.heap.size w w' := by
  have HF := Lib.hid hf
  have HP := Lib.hid hkp
  clear hf hkp
  go_enter Try.func91, Try.ntmps91
  go_wp2_with fail
  have HA0 : Hid (AI (w.heap.size + 1) (cnRow kp 0) ((w.alloc (.cells #[.int .i64 0, .int .i64 0, .int .i64 0, .int .i64 0, .int .i64 0, .int .i64 0, .int .i64 0, .int .i64 0, .int .i64 0, .int .i64 0, .int .i64 0, .int .i64 0, .int .i64 0] 73)).alloc (.cells #[.int .i64 1, .int .i64 0, .int .i64 0, .int .i64 0, .int .i64 0, .int .i64 0, .int .i64 0, .int .i64 0, .int .i64 0, .int .i64 0, .int .i64 0, .int .i64 0, .int .i64 0] 73)) ∧ AI w.heap.size (List.replicate 13 0) ((w.alloc (.cells #[.int .i64 0, .int .i64 0, .int .i64 0, .int .i64 0, .int .i64 0, .int .i64 0, .int .i64 0, .int .i64 0, .int .i64 0, .int .i64 0, .int .i64 0, .int .i64 0, .int .i64 0] 73)).alloc (.cells #[.int .i64 1, .int .i64 0, .int .i64 0, .int .i64 0, .int .i64 0, .int .i64 0, .int .i64 0, .int .i64 0, .int .i64 0, .int .i64 0, .int .i64 0, .int .i64 0, .int .i64 0] 73)) ∧ Below w.heap.size w ((w.alloc (.cells #[.int .i64 0, .int .i64 0, .int .i64 0, .int .i64 0, .int .i64 0, .int .i64 0, .int .i64 0, .int .i64 0, .int .i64 0, .int .i64 0, .int .i64 0, .int .i64 0, .int .i64 0] 73)).alloc (.cells #[.int .i64 1, .int .i64 0, .int .i64 0, .int .i64 0, .int .i64 0, .int .i64 0, .int .i64 0, .int .i64 0, .int .i64 0, .int .i64 0, .int .i64 0, .int .i64 0, .int .i64 0] 73))) := by
    have h1 := AI.new (w.alloc (.cells #[.int .i64 0, .int .i64 0, .int .i64 0, .int .i64 0, .int .i64 0, .int .i64 0, .int .i64 0, .int .i64 0, .int .i64 0, .int .i64 0, .int .i64 0, .int .i64 0, .int .i64 0] 73)) 73
    rw [World.size_alloc] at h1
    exact ⟨h1, (AI.zero w 73).far ((Below.refl _ _).alloc (Nat.le_refl _) _), ((Below.refl _ _).alloc (Nat.le_refl _) _).alloc (by rw [World.size_alloc]; omega) _⟩
  go_loopw [6, 7, 8] (fun tv _ _ wr => ∃ t : Nat, t ≤ n ∧ tv = .int .i64 ((t : Int) + 1) ∧ Hid (AI (w.heap.size + 1) (cnRow kp t) wr ∧ AI w.heap.size (List.replicate 13 0) wr ∧ Below w.heap.size w wr)) (fun tv _ _ _ => n + 1 - (intOf tv).toNat)
  case atStart => exact ⟨0, Nat.zero_le _, rfl, HA0⟩
  case round =>
    obtain ⟨t, ht, rfl, HA⟩ := hrel
    clear HA0
    by_cases hlt : t < n
    · obtain ⟨W0, hW0⟩ : ∃ W0, W0 = wr := ⟨_, rfl⟩
      rw [← hW0] at HA ⊢
      clear hW0
      have HM0 : Hid (AI (w.heap.size + 1) (cnMid kp t (t + 1)) W0 ∧ AI w.heap.size (List.replicate 13 0) W0 ∧ Below w.heap.size w W0) := by unfold Hid; rw [cnMid_start]; exact HA.out
      have hle : (t : Int) + 1 ≤ (n : Int) := by omega
      clear HA
      go_wp2_with fail
      go_loopw [7, 8] (fun mv _ wr => ∃ m : Nat, m ≤ t + 1 ∧ mv = .int .i64 m ∧ Hid (AI (w.heap.size + 1) (cnMid kp t m) wr ∧ AI w.heap.size (List.replicate 13 0) wr ∧ Below w.heap.size w wr)) (fun mv _ _ => (intOf mv).toNat)
      case atStart => exact ⟨t + 1, Nat.le_refl _, rfl, HM0⟩
      case round =>
        obtain ⟨m1, hm1, rfl, HM⟩ := hrel
        clear HM0
        by_cases hpos : 0 < m1
        · obtain ⟨m, hm⟩ : ∃ m, m + 1 = m1 := ⟨m1 - 1, by omega⟩
          obtain ⟨p1, p2⟩ := HP.out.k1 t m1 (by omega) hm1
          obtain ⟨q1, q2⟩ := HP.out.k2 t m (by omega) (by omega)
          obtain ⟨r1, r2, _⟩ := HP.out.row t (by omega) m1 (by omega)
          obtain ⟨s1, s2, _⟩ := HP.out.row t (by omega) m (by omega)
          have g1 := cnMid_get (kp := kp) (t := t) (m := m1) (j := m1) (by omega)
          have g2 := cnMid_get (kp := kp) (t := t) (m := m1) (j := m) (by omega)
          rw [if_pos (by omega)] at g1 g2
          obtain ⟨c1, f1⟩ := HM.out.1 m1 (by omega)
          obtain ⟨c2, f2⟩ := HM.out.1 m (by omega)
          rw [g1] at c1
          rw [g2] at c2
          have HE : Hid ((cnMid kp t m1).set m1 (kp (t + 1) m1 * (cnRow kp t).getD m1 0 + ((t : Int) + 1 - kp (t + 1) m) * (cnRow kp t).getD m 0) = cnMid kp t m) := by
            have := cnMid_step (kp := kp) (t := t) (m := m) (by omega)
            rwa [hm] at this
          have HF1 : Hid (∀ W : World, Calls Try.prog 94 #[.int .i64 ((t : Int) + 1), .int .i64 m1] W fun e w' => e = .returned (.int .i64 (kp (t + 1) m1)) ∧ W = w') := fun W => HF.out (t + 1) m1 W (by omega) (by omega) (by omega)
          have HF2 : Hid (∀ W : World, Calls Try.prog 94 #[.int .i64 ((t : Int) + 1), .int .i64 m] W fun e w' => e = .returned (.int .i64 (kp (t + 1) m)) ∧ W = w') := fun W => HF.out (t + 1) m W (by omega) (by omega) (by omega)
          have hm2 : (m1 : Int) - 1 = (m : Int) := by omega
          generalize kp (t + 1) m1 = K1 at p1 p2 HE HF1
          obtain ⟨K2, hK2⟩ : ∃ K2, kp (t + 1) m = K2 := ⟨_, rfl⟩
          rw [hK2] at q1 q2 HE HF2
          generalize (cnRow kp t).getD m1 0 = R1 at r1 r2 HE c1
          generalize (cnRow kp t).getD m 0 = R2 at s1 s2 HE c2
          obtain ⟨S, hS⟩ : ∃ S, (t : Int) + 1 - K2 = S := ⟨_, rfl⟩
          rw [hS] at q1 q2 HE
          obtain ⟨x1, x2⟩ := mul_in p1 p2 r1 r2
          obtain ⟨y1, y2⟩ := mul_in q1 q2 s1 s2
          obtain ⟨X, hX⟩ : ∃ X, K1 * R1 = X := ⟨_, rfl⟩
          obtain ⟨Y, hY⟩ : ∃ Y, S * R2 = Y := ⟨_, rfl⟩
          rw [hX] at x1 x2 HE
          rw [hY] at y1 y2 HE
          have HXY : Hid (K1 * R1 = X ∧ S * R2 = Y) := ⟨hX, hY⟩
          obtain ⟨W1, hW1⟩ : ∃ W1, W1 = wr := ⟨_, rfl⟩
          rw [← hW1] at HM c1 c2 f1 f2 ⊢
          have b1 : (m1 : Int) < 13 := by omega
          have b2 : (m : Int) < 13 := by omega
          have u1 : IntKind.i64.wrap (K1 * R1) = X := by rw [hX]; exact IntWalk.i64_in _ (by omega)
          have u2 : IntKind.i64.wrap (S * R2) = Y := by rw [hY]; exact IntWalk.i64_in _ (by omega)
          have u3 : IntKind.i64.wrap (X + Y) = X + Y := IntWalk.i64_in _ (by omega)
          have u4 : IntKind.i64.wrap (m : Int) = m := IntWalk.i64_in _ (by omega)
          clear hK2 g1 g2 hX hY hW1 hm
          go_wp2_with fail
          refine (HF2.out _).mono ?_
          rintro e w2 ⟨rfl, rfl⟩
          go_wp2
          have hmx : Try.prog.follows .mixedOrders = true := by kernel_rfl
          have k1 : ∀ q : GT W1, q.w.cell? ⟨w.heap.size + 1, m1, none⟩ = some (.int .i64 R1) := gt_cell c1
          have k2 : ∀ q : GT W1, q.w.cell? ⟨w.heap.size + 1, m, none⟩ = some (.int .i64 R2) := gt_cell c2
          refine wp_region_quiet_tail (C := fun w' => ∃ q : GT W1, w' = q.w) 17 hmx (by kernel_rfl) ⟨⟨W1.drew, (Below.refl _ _).drew⟩, rfl⟩ ?_
          simp only [List.take_succ_cons, List.take_zero, List.drop_succ_cons, List.drop_zero]
          repeat (quiet_step (with_reducible exact gt_still (HF1.out _)))
          refine wpQuiet_nil ?_
          rintro W2 ⟨⟨_, hW2⟩, rfl⟩
          clear k1 k2
          obtain ⟨A1, A2, A3⟩ := HM.out
          have HN : Hid (AI (w.heap.size + 1) (cnMid kp t m) (W2.setCell ⟨w.heap.size + 1, m1, none⟩ (.int .i64 (X + Y))) ∧ AI w.heap.size (List.replicate 13 0) (W2.setCell ⟨w.heap.size + 1, m1, none⟩ (.int .i64 (X + Y))) ∧ Below w.heap.size w (W2.setCell ⟨w.heap.size + 1, m1, none⟩ (.int .i64 (X + Y)))) := by
            refine ⟨?_, ?_, ?_⟩
            · rw [← HE.out]
              exact (A1.far hW2).set (cnMid_length ..) m1 (X + Y)
            · exact (A2.far hW2).away (by omega) _ _
            · exact (A3.trans (hW2.mono A3.size)).setCell (p := ⟨w.heap.size + 1, m1, none⟩) (by show w.heap.size ≤ w.heap.size + 1; omega) _
          obtain ⟨e1, e2⟩ := (A1.far hW2) m1 (by omega)
          have hmm : m ≤ t + 1 := by omega
          have hmlt : m < m1 := by omega
          clear A1 A2 A3 HM hW2 c1 c2 f1 f2 u1 u2 u3 u4 HXY
          go_wp2
          go_roundw
          case rel => exact ⟨m, hmm, rfl, HN⟩
          case measure => simp [intOf]; omega
        · obtain rfl : m1 = 0 := by omega
          obtain ⟨A1, A2, A3⟩ := HM.out
          obtain ⟨e1, e2⟩ := A1 0 (by omega)
          have HN : Hid (AI (w.heap.size + 1) (cnRow kp (t + 1)) (wr.setCell ⟨w.heap.size + 1, 0, none⟩ (.int .i64 0)) ∧ AI w.heap.size (List.replicate 13 0) (wr.setCell ⟨w.heap.size + 1, 0, none⟩ (.int .i64 0)) ∧ Below w.heap.size w (wr.setCell ⟨w.heap.size + 1, 0, none⟩ (.int .i64 0))) := by
            refine ⟨?_, ?_, ?_⟩
            · rw [← cnMid_end (kp := kp) (t := t) (fun j hj hj2 => ⟨(HP.out.row t (by omega) j hj).2.2 (by omega), (HP.out.row (t + 1) (by omega) j hj).2.2 hj2⟩)]
              exact A1.set (cnMid_length ..) 0 0
            · exact A2.away (by omega) _ _
            · exact A3.setCell (p := ⟨w.heap.size + 1, 0, none⟩) (by show w.heap.size ≤ w.heap.size + 1; omega) _
          clear A1 A2 A3 HM
          go_wp2
          go_roundw
          case rel => exact ⟨t + 1, by omega, by go_num, HN⟩
          case measure => simp [intOf]; omega
    · obtain rfl : t = n := by omega
      obtain ⟨A1, A2, A3⟩ := HA.out
      obtain ⟨v0, h0⟩ : ∃ v, (cnRow kp t).getD 0 0 = v := ⟨_, rfl⟩
      have a0 := (A1 0 (by omega)).1
      rw [h0] at a0
      have z0 : wr.cell? ⟨w.heap.size, 0, none⟩ = some (.int .i64 0) := (A2 0 (by omega)).1
      have y0 := (A2 0 (by omega)).2
      obtain ⟨v1, h1⟩ : ∃ v, (cnRow kp t).getD 1 0 = v := ⟨_, rfl⟩
      have a1 := (A1 1 (by omega)).1
      rw [h1] at a1
      have z1 : wr.cell? ⟨w.heap.size, 1, none⟩ = some (.int .i64 0) := (A2 1 (by omega)).1
      have y1 := (A2 1 (by omega)).2
      obtain ⟨v2, h2⟩ : ∃ v, (cnRow kp t).getD 2 0 = v := ⟨_, rfl⟩
      have a2 := (A1 2 (by omega)).1
      rw [h2] at a2
      have z2 : wr.cell? ⟨w.heap.size, 2, none⟩ = some (.int .i64 0) := (A2 2 (by omega)).1
      have y2 := (A2 2 (by omega)).2
      obtain ⟨v3, h3⟩ : ∃ v, (cnRow kp t).getD 3 0 = v := ⟨_, rfl⟩
      have a3 := (A1 3 (by omega)).1
      rw [h3] at a3
      have z3 : wr.cell? ⟨w.heap.size, 3, none⟩ = some (.int .i64 0) := (A2 3 (by omega)).1
      have y3 := (A2 3 (by omega)).2
      obtain ⟨v4, h4⟩ : ∃ v, (cnRow kp t).getD 4 0 = v := ⟨_, rfl⟩
      have a4 := (A1 4 (by omega)).1
      rw [h4] at a4
      have z4 : wr.cell? ⟨w.heap.size, 4, none⟩ = some (.int .i64 0) := (A2 4 (by omega)).1
      have y4 := (A2 4 (by omega)).2
      obtain ⟨v5, h5⟩ : ∃ v, (cnRow kp t).getD 5 0 = v := ⟨_, rfl⟩
      have a5 := (A1 5 (by omega)).1
      rw [h5] at a5
      have z5 : wr.cell? ⟨w.heap.size, 5, none⟩ = some (.int .i64 0) := (A2 5 (by omega)).1
      have y5 := (A2 5 (by omega)).2
      obtain ⟨v6, h6⟩ : ∃ v, (cnRow kp t).getD 6 0 = v := ⟨_, rfl⟩
      have a6 := (A1 6 (by omega)).1
      rw [h6] at a6
      have z6 : wr.cell? ⟨w.heap.size, 6, none⟩ = some (.int .i64 0) := (A2 6 (by omega)).1
      have y6 := (A2 6 (by omega)).2
      obtain ⟨v7, h7⟩ : ∃ v, (cnRow kp t).getD 7 0 = v := ⟨_, rfl⟩
      have a7 := (A1 7 (by omega)).1
      rw [h7] at a7
      have z7 : wr.cell? ⟨w.heap.size, 7, none⟩ = some (.int .i64 0) := (A2 7 (by omega)).1
      have y7 := (A2 7 (by omega)).2
      obtain ⟨v8, h8⟩ : ∃ v, (cnRow kp t).getD 8 0 = v := ⟨_, rfl⟩
      have a8 := (A1 8 (by omega)).1
      rw [h8] at a8
      have z8 : wr.cell? ⟨w.heap.size, 8, none⟩ = some (.int .i64 0) := (A2 8 (by omega)).1
      have y8 := (A2 8 (by omega)).2
      obtain ⟨v9, h9⟩ : ∃ v, (cnRow kp t).getD 9 0 = v := ⟨_, rfl⟩
      have a9 := (A1 9 (by omega)).1
      rw [h9] at a9
      have z9 : wr.cell? ⟨w.heap.size, 9, none⟩ = some (.int .i64 0) := (A2 9 (by omega)).1
      have y9 := (A2 9 (by omega)).2
      obtain ⟨v10, h10⟩ : ∃ v, (cnRow kp t).getD 10 0 = v := ⟨_, rfl⟩
      have a10 := (A1 10 (by omega)).1
      rw [h10] at a10
      have z10 : wr.cell? ⟨w.heap.size, 10, none⟩ = some (.int .i64 0) := (A2 10 (by omega)).1
      have y10 := (A2 10 (by omega)).2
      obtain ⟨v11, h11⟩ : ∃ v, (cnRow kp t).getD 11 0 = v := ⟨_, rfl⟩
      have a11 := (A1 11 (by omega)).1
      rw [h11] at a11
      have z11 : wr.cell? ⟨w.heap.size, 11, none⟩ = some (.int .i64 0) := (A2 11 (by omega)).1
      have y11 := (A2 11 (by omega)).2
      obtain ⟨v12, h12⟩ : ∃ v, (cnRow kp t).getD 12 0 = v := ⟨_, rfl⟩
      have a12 := (A1 12 (by omega)).1
      rw [h12] at a12
      have z12 : wr.cell? ⟨w.heap.size, 12, none⟩ = some (.int .i64 0) := (A2 12 (by omega)).1
      have y12 := (A2 12 (by omega)).2
      have HV : Hid (aggOf (cnRow kp t) = .agg #[.int .i64 v0, .int .i64 v1, .int .i64 v2, .int .i64 v3, .int .i64 v4, .int .i64 v5, .int .i64 v6, .int .i64 v7, .int .i64 v8, .int .i64 v9, .int .i64 v10, .int .i64 v11, .int .i64 v12]) := by
        unfold Hid aggOf
        rw [h0, h1, h2, h3, h4, h5, h6, h7, h8, h9, h10, h11, h12]
      have s0 : (wr.setCell ⟨w.heap.size, 0, none⟩ (.int .i64 v0)).cell? ⟨w.heap.size, 0, none⟩ = some (.int .i64 v0) := World.cell?_setCell_same _ _ _ (show _ = some (Value.int .i64 0) by simp [go_sem, z0])
      have s1 : ((wr.setCell ⟨w.heap.size, 0, none⟩ (.int .i64 v0)).setCell ⟨w.heap.size, 1, none⟩ (.int .i64 v1)).cell? ⟨w.heap.size, 1, none⟩ = some (.int .i64 v1) := World.cell?_setCell_same _ _ _ (show _ = some (Value.int .i64 0) by simp [go_sem, z1])
      have s2 : (((wr.setCell ⟨w.heap.size, 0, none⟩ (.int .i64 v0)).setCell ⟨w.heap.size, 1, none⟩ (.int .i64 v1)).setCell ⟨w.heap.size, 2, none⟩ (.int .i64 v2)).cell? ⟨w.heap.size, 2, none⟩ = some (.int .i64 v2) := World.cell?_setCell_same _ _ _ (show _ = some (Value.int .i64 0) by simp [go_sem, z2])
      have s3 : ((((wr.setCell ⟨w.heap.size, 0, none⟩ (.int .i64 v0)).setCell ⟨w.heap.size, 1, none⟩ (.int .i64 v1)).setCell ⟨w.heap.size, 2, none⟩ (.int .i64 v2)).setCell ⟨w.heap.size, 3, none⟩ (.int .i64 v3)).cell? ⟨w.heap.size, 3, none⟩ = some (.int .i64 v3) := World.cell?_setCell_same _ _ _ (show _ = some (Value.int .i64 0) by simp [go_sem, z3])
      have s4 : (((((wr.setCell ⟨w.heap.size, 0, none⟩ (.int .i64 v0)).setCell ⟨w.heap.size, 1, none⟩ (.int .i64 v1)).setCell ⟨w.heap.size, 2, none⟩ (.int .i64 v2)).setCell ⟨w.heap.size, 3, none⟩ (.int .i64 v3)).setCell ⟨w.heap.size, 4, none⟩ (.int .i64 v4)).cell? ⟨w.heap.size, 4, none⟩ = some (.int .i64 v4) := World.cell?_setCell_same _ _ _ (show _ = some (Value.int .i64 0) by simp [go_sem, z4])
      have s5 : ((((((wr.setCell ⟨w.heap.size, 0, none⟩ (.int .i64 v0)).setCell ⟨w.heap.size, 1, none⟩ (.int .i64 v1)).setCell ⟨w.heap.size, 2, none⟩ (.int .i64 v2)).setCell ⟨w.heap.size, 3, none⟩ (.int .i64 v3)).setCell ⟨w.heap.size, 4, none⟩ (.int .i64 v4)).setCell ⟨w.heap.size, 5, none⟩ (.int .i64 v5)).cell? ⟨w.heap.size, 5, none⟩ = some (.int .i64 v5) := World.cell?_setCell_same _ _ _ (show _ = some (Value.int .i64 0) by simp [go_sem, z5])
      have s6 : (((((((wr.setCell ⟨w.heap.size, 0, none⟩ (.int .i64 v0)).setCell ⟨w.heap.size, 1, none⟩ (.int .i64 v1)).setCell ⟨w.heap.size, 2, none⟩ (.int .i64 v2)).setCell ⟨w.heap.size, 3, none⟩ (.int .i64 v3)).setCell ⟨w.heap.size, 4, none⟩ (.int .i64 v4)).setCell ⟨w.heap.size, 5, none⟩ (.int .i64 v5)).setCell ⟨w.heap.size, 6, none⟩ (.int .i64 v6)).cell? ⟨w.heap.size, 6, none⟩ = some (.int .i64 v6) := World.cell?_setCell_same _ _ _ (show _ = some (Value.int .i64 0) by simp [go_sem, z6])
      have s7 : ((((((((wr.setCell ⟨w.heap.size, 0, none⟩ (.int .i64 v0)).setCell ⟨w.heap.size, 1, none⟩ (.int .i64 v1)).setCell ⟨w.heap.size, 2, none⟩ (.int .i64 v2)).setCell ⟨w.heap.size, 3, none⟩ (.int .i64 v3)).setCell ⟨w.heap.size, 4, none⟩ (.int .i64 v4)).setCell ⟨w.heap.size, 5, none⟩ (.int .i64 v5)).setCell ⟨w.heap.size, 6, none⟩ (.int .i64 v6)).setCell ⟨w.heap.size, 7, none⟩ (.int .i64 v7)).cell? ⟨w.heap.size, 7, none⟩ = some (.int .i64 v7) := World.cell?_setCell_same _ _ _ (show _ = some (Value.int .i64 0) by simp [go_sem, z7])
      have s8 : (((((((((wr.setCell ⟨w.heap.size, 0, none⟩ (.int .i64 v0)).setCell ⟨w.heap.size, 1, none⟩ (.int .i64 v1)).setCell ⟨w.heap.size, 2, none⟩ (.int .i64 v2)).setCell ⟨w.heap.size, 3, none⟩ (.int .i64 v3)).setCell ⟨w.heap.size, 4, none⟩ (.int .i64 v4)).setCell ⟨w.heap.size, 5, none⟩ (.int .i64 v5)).setCell ⟨w.heap.size, 6, none⟩ (.int .i64 v6)).setCell ⟨w.heap.size, 7, none⟩ (.int .i64 v7)).setCell ⟨w.heap.size, 8, none⟩ (.int .i64 v8)).cell? ⟨w.heap.size, 8, none⟩ = some (.int .i64 v8) := World.cell?_setCell_same _ _ _ (show _ = some (Value.int .i64 0) by simp [go_sem, z8])
      have s9 : ((((((((((wr.setCell ⟨w.heap.size, 0, none⟩ (.int .i64 v0)).setCell ⟨w.heap.size, 1, none⟩ (.int .i64 v1)).setCell ⟨w.heap.size, 2, none⟩ (.int .i64 v2)).setCell ⟨w.heap.size, 3, none⟩ (.int .i64 v3)).setCell ⟨w.heap.size, 4, none⟩ (.int .i64 v4)).setCell ⟨w.heap.size, 5, none⟩ (.int .i64 v5)).setCell ⟨w.heap.size, 6, none⟩ (.int .i64 v6)).setCell ⟨w.heap.size, 7, none⟩ (.int .i64 v7)).setCell ⟨w.heap.size, 8, none⟩ (.int .i64 v8)).setCell ⟨w.heap.size, 9, none⟩ (.int .i64 v9)).cell? ⟨w.heap.size, 9, none⟩ = some (.int .i64 v9) := World.cell?_setCell_same _ _ _ (show _ = some (Value.int .i64 0) by simp [go_sem, z9])
      have s10 : (((((((((((wr.setCell ⟨w.heap.size, 0, none⟩ (.int .i64 v0)).setCell ⟨w.heap.size, 1, none⟩ (.int .i64 v1)).setCell ⟨w.heap.size, 2, none⟩ (.int .i64 v2)).setCell ⟨w.heap.size, 3, none⟩ (.int .i64 v3)).setCell ⟨w.heap.size, 4, none⟩ (.int .i64 v4)).setCell ⟨w.heap.size, 5, none⟩ (.int .i64 v5)).setCell ⟨w.heap.size, 6, none⟩ (.int .i64 v6)).setCell ⟨w.heap.size, 7, none⟩ (.int .i64 v7)).setCell ⟨w.heap.size, 8, none⟩ (.int .i64 v8)).setCell ⟨w.heap.size, 9, none⟩ (.int .i64 v9)).setCell ⟨w.heap.size, 10, none⟩ (.int .i64 v10)).cell? ⟨w.heap.size, 10, none⟩ = some (.int .i64 v10) := World.cell?_setCell_same _ _ _ (show _ = some (Value.int .i64 0) by simp [go_sem, z10])
      have s11 : ((((((((((((wr.setCell ⟨w.heap.size, 0, none⟩ (.int .i64 v0)).setCell ⟨w.heap.size, 1, none⟩ (.int .i64 v1)).setCell ⟨w.heap.size, 2, none⟩ (.int .i64 v2)).setCell ⟨w.heap.size, 3, none⟩ (.int .i64 v3)).setCell ⟨w.heap.size, 4, none⟩ (.int .i64 v4)).setCell ⟨w.heap.size, 5, none⟩ (.int .i64 v5)).setCell ⟨w.heap.size, 6, none⟩ (.int .i64 v6)).setCell ⟨w.heap.size, 7, none⟩ (.int .i64 v7)).setCell ⟨w.heap.size, 8, none⟩ (.int .i64 v8)).setCell ⟨w.heap.size, 9, none⟩ (.int .i64 v9)).setCell ⟨w.heap.size, 10, none⟩ (.int .i64 v10)).setCell ⟨w.heap.size, 11, none⟩ (.int .i64 v11)).cell? ⟨w.heap.size, 11, none⟩ = some (.int .i64 v11) := World.cell?_setCell_same _ _ _ (show _ = some (Value.int .i64 0) by simp [go_sem, z11])
      have s12 : (((((((((((((wr.setCell ⟨w.heap.size, 0, none⟩ (.int .i64 v0)).setCell ⟨w.heap.size, 1, none⟩ (.int .i64 v1)).setCell ⟨w.heap.size, 2, none⟩ (.int .i64 v2)).setCell ⟨w.heap.size, 3, none⟩ (.int .i64 v3)).setCell ⟨w.heap.size, 4, none⟩ (.int .i64 v4)).setCell ⟨w.heap.size, 5, none⟩ (.int .i64 v5)).setCell ⟨w.heap.size, 6, none⟩ (.int .i64 v6)).setCell ⟨w.heap.size, 7, none⟩ (.int .i64 v7)).setCell ⟨w.heap.size, 8, none⟩ (.int .i64 v8)).setCell ⟨w.heap.size, 9, none⟩ (.int .i64 v9)).setCell ⟨w.heap.size, 10, none⟩ (.int .i64 v10)).setCell ⟨w.heap.size, 11, none⟩ (.int .i64 v11)).setCell ⟨w.heap.size, 12, none⟩ (.int .i64 v12)).cell? ⟨w.heap.size, 12, none⟩ = some (.int .i64 v12) := World.cell?_setCell_same _ _ _ (show _ = some (Value.int .i64 0) by simp [go_sem, z12])
      have HBf : Hid (Below w.heap.size w (((((((((((((wr.setCell ⟨w.heap.size, 0, none⟩ (.int .i64 v0)).setCell ⟨w.heap.size, 1, none⟩ (.int .i64 v1)).setCell ⟨w.heap.size, 2, none⟩ (.int .i64 v2)).setCell ⟨w.heap.size, 3, none⟩ (.int .i64 v3)).setCell ⟨w.heap.size, 4, none⟩ (.int .i64 v4)).setCell ⟨w.heap.size, 5, none⟩ (.int .i64 v5)).setCell ⟨w.heap.size, 6, none⟩ (.int .i64 v6)).setCell ⟨w.heap.size, 7, none⟩ (.int .i64 v7)).setCell ⟨w.heap.size, 8, none⟩ (.int .i64 v8)).setCell ⟨w.heap.size, 9, none⟩ (.int .i64 v9)).setCell ⟨w.heap.size, 10, none⟩ (.int .i64 v10)).setCell ⟨w.heap.size, 11, none⟩ (.int .i64 v11)).setCell ⟨w.heap.size, 12, none⟩ (.int .i64 v12))) := (((((((((((((A3.setCell (p := ⟨w.heap.size, 0, none⟩) (Nat.le_refl _) (.int .i64 v0)).setCell (p := ⟨w.heap.size, 1, none⟩) (Nat.le_refl _) (.int .i64 v1)).setCell (p := ⟨w.heap.size, 2, none⟩) (Nat.le_refl _) (.int .i64 v2)).setCell (p := ⟨w.heap.size, 3, none⟩) (Nat.le_refl _) (.int .i64 v3)).setCell (p := ⟨w.heap.size, 4, none⟩) (Nat.le_refl _) (.int .i64 v4)).setCell (p := ⟨w.heap.size, 5, none⟩) (Nat.le_refl _) (.int .i64 v5)).setCell (p := ⟨w.heap.size, 6, none⟩) (Nat.le_refl _) (.int .i64 v6)).setCell (p := ⟨w.heap.size, 7, none⟩) (Nat.le_refl _) (.int .i64 v7)).setCell (p := ⟨w.heap.size, 8, none⟩) (Nat.le_refl _) (.int .i64 v8)).setCell (p := ⟨w.heap.size, 9, none⟩) (Nat.le_refl _) (.int .i64 v9)).setCell (p := ⟨w.heap.size, 10, none⟩) (Nat.le_refl _) (.int .i64 v10)).setCell (p := ⟨w.heap.size, 11, none⟩) (Nat.le_refl _) (.int .i64 v11)).setCell (p := ⟨w.heap.size, 12, none⟩) (Nat.le_refl _) (.int .i64 v12))
      clear h0 h1 h2 h3 h4 h5 h6 h7 h8 h9 h10 h11 h12 A1 A2 A3 HA
      have hlt2 : ¬ ((t : Int) + 1 ≤ (t : Int)) := by omega
      go_wp2
      rw [HV.out]
      exact bodyPost_ret (v := .agg #[.int .i64 v0, .int .i64 v1, .int .i64 v2, .int .i64 v3, .int .i64 v4, .int .i64 v5, .int .i64 v6, .int .i64 v7, .int .i64 v8, .int .i64 v9, .int .i64 v10, .int .i64 v11, .int .i64 v12]) (by simp [results, Try.results91, go_sem, s0, s1, s2, s3, s4, s5, s6, s7, s8, s9, s10, s11, s12]) rfl ⟨rfl, HBf.out⟩
theorem kpCycles_fn (t j : Nat) (W : World) (h : t ≤ 12) (h1 : 1 ≤ t) (_ : j ≤ 12) :
    Calls Try.prog 92 #[.int .i64 t, .int .i64 j] W fun e w' => e = .returned (.int .i64 (kpC t j)) ∧ W = w' := by
  go_enter Try.func92, Try.ntmps92
  go_wp2
  go_ret
  exact ⟨rfl, rfl⟩
theorem byCycles_any (n : Nat) (w : World) (h12 : n ≤ 12) :
    Calls Try.prog 71 #[.int .i64 n] w fun e w' => e = .returned (aggOf (cnRow kpC n)) ∧ Below w.heap.size w w' := by
  have HC : Hid (∀ W : World, Calls Try.prog 91 #[.int .i64 n, .func (.func 92) #[] #[]] W fun e w' => e = .returned (aggOf (cnRow kpC n)) ∧ Below W.heap.size W w') := fun W => counts_countsByCycles kpC kpC_ok n W h12 kpCycles_fn
  obtain ⟨v0, v1, v2, v3, v4, v5, v6, v7, v8, v9, v10, v11, v12, hv⟩ : ∃ v0 v1 v2 v3 v4 v5 v6 v7 v8 v9 v10 v11 v12, aggOf (cnRow kpC n) = .agg #[.int .i64 v0, .int .i64 v1, .int .i64 v2, .int .i64 v3, .int .i64 v4, .int .i64 v5, .int .i64 v6, .int .i64 v7, .int .i64 v8, .int .i64 v9, .int .i64 v10, .int .i64 v11, .int .i64 v12] := ⟨_, _, _, _, _, _, _, _, _, _, _, _, _, rfl⟩
  rw [hv] at HC ⊢
  clear hv
  go_enter Try.func71, Try.ntmps71
  go_wp2_with fail
  refine (HC.out _).mono ?_
  rintro e w1 ⟨rfl, hb⟩
  have hb0 : Below w.heap.size w w1 := ((Below.refl _ _).alloc (Nat.le_refl _) _).trans (hb.mono (by rw [World.size_alloc]; omega))
  have A2 := (AI.zero w 73).far hb
  have z0 : w1.cell? ⟨w.heap.size, 0, none⟩ = some (.int .i64 0) := (A2 0 (by omega)).1
  have y0 := (A2 0 (by omega)).2
  have s0 : (w1.setCell ⟨w.heap.size, 0, none⟩ (.int .i64 v0)).cell? ⟨w.heap.size, 0, none⟩ = some (.int .i64 v0) := World.cell?_setCell_same _ _ _ (show _ = some (Value.int .i64 0) by simp [go_sem, z0])
  have z1 : w1.cell? ⟨w.heap.size, 1, none⟩ = some (.int .i64 0) := (A2 1 (by omega)).1
  have y1 := (A2 1 (by omega)).2
  have s1 : ((w1.setCell ⟨w.heap.size, 0, none⟩ (.int .i64 v0)).setCell ⟨w.heap.size, 1, none⟩ (.int .i64 v1)).cell? ⟨w.heap.size, 1, none⟩ = some (.int .i64 v1) := World.cell?_setCell_same _ _ _ (show _ = some (Value.int .i64 0) by simp [go_sem, z1])
  have z2 : w1.cell? ⟨w.heap.size, 2, none⟩ = some (.int .i64 0) := (A2 2 (by omega)).1
  have y2 := (A2 2 (by omega)).2
  have s2 : (((w1.setCell ⟨w.heap.size, 0, none⟩ (.int .i64 v0)).setCell ⟨w.heap.size, 1, none⟩ (.int .i64 v1)).setCell ⟨w.heap.size, 2, none⟩ (.int .i64 v2)).cell? ⟨w.heap.size, 2, none⟩ = some (.int .i64 v2) := World.cell?_setCell_same _ _ _ (show _ = some (Value.int .i64 0) by simp [go_sem, z2])
  have z3 : w1.cell? ⟨w.heap.size, 3, none⟩ = some (.int .i64 0) := (A2 3 (by omega)).1
  have y3 := (A2 3 (by omega)).2
  have s3 : ((((w1.setCell ⟨w.heap.size, 0, none⟩ (.int .i64 v0)).setCell ⟨w.heap.size, 1, none⟩ (.int .i64 v1)).setCell ⟨w.heap.size, 2, none⟩ (.int .i64 v2)).setCell ⟨w.heap.size, 3, none⟩ (.int .i64 v3)).cell? ⟨w.heap.size, 3, none⟩ = some (.int .i64 v3) := World.cell?_setCell_same _ _ _ (show _ = some (Value.int .i64 0) by simp [go_sem, z3])
  have z4 : w1.cell? ⟨w.heap.size, 4, none⟩ = some (.int .i64 0) := (A2 4 (by omega)).1
  have y4 := (A2 4 (by omega)).2
  have s4 : (((((w1.setCell ⟨w.heap.size, 0, none⟩ (.int .i64 v0)).setCell ⟨w.heap.size, 1, none⟩ (.int .i64 v1)).setCell ⟨w.heap.size, 2, none⟩ (.int .i64 v2)).setCell ⟨w.heap.size, 3, none⟩ (.int .i64 v3)).setCell ⟨w.heap.size, 4, none⟩ (.int .i64 v4)).cell? ⟨w.heap.size, 4, none⟩ = some (.int .i64 v4) := World.cell?_setCell_same _ _ _ (show _ = some (Value.int .i64 0) by simp [go_sem, z4])
  have z5 : w1.cell? ⟨w.heap.size, 5, none⟩ = some (.int .i64 0) := (A2 5 (by omega)).1
  have y5 := (A2 5 (by omega)).2
  have s5 : ((((((w1.setCell ⟨w.heap.size, 0, none⟩ (.int .i64 v0)).setCell ⟨w.heap.size, 1, none⟩ (.int .i64 v1)).setCell ⟨w.heap.size, 2, none⟩ (.int .i64 v2)).setCell ⟨w.heap.size, 3, none⟩ (.int .i64 v3)).setCell ⟨w.heap.size, 4, none⟩ (.int .i64 v4)).setCell ⟨w.heap.size, 5, none⟩ (.int .i64 v5)).cell? ⟨w.heap.size, 5, none⟩ = some (.int .i64 v5) := World.cell?_setCell_same _ _ _ (show _ = some (Value.int .i64 0) by simp [go_sem, z5])
  have z6 : w1.cell? ⟨w.heap.size, 6, none⟩ = some (.int .i64 0) := (A2 6 (by omega)).1
  have y6 := (A2 6 (by omega)).2
  have s6 : (((((((w1.setCell ⟨w.heap.size, 0, none⟩ (.int .i64 v0)).setCell ⟨w.heap.size, 1, none⟩ (.int .i64 v1)).setCell ⟨w.heap.size, 2, none⟩ (.int .i64 v2)).setCell ⟨w.heap.size, 3, none⟩ (.int .i64 v3)).setCell ⟨w.heap.size, 4, none⟩ (.int .i64 v4)).setCell ⟨w.heap.size, 5, none⟩ (.int .i64 v5)).setCell ⟨w.heap.size, 6, none⟩ (.int .i64 v6)).cell? ⟨w.heap.size, 6, none⟩ = some (.int .i64 v6) := World.cell?_setCell_same _ _ _ (show _ = some (Value.int .i64 0) by simp [go_sem, z6])
  have z7 : w1.cell? ⟨w.heap.size, 7, none⟩ = some (.int .i64 0) := (A2 7 (by omega)).1
  have y7 := (A2 7 (by omega)).2
  have s7 : ((((((((w1.setCell ⟨w.heap.size, 0, none⟩ (.int .i64 v0)).setCell ⟨w.heap.size, 1, none⟩ (.int .i64 v1)).setCell ⟨w.heap.size, 2, none⟩ (.int .i64 v2)).setCell ⟨w.heap.size, 3, none⟩ (.int .i64 v3)).setCell ⟨w.heap.size, 4, none⟩ (.int .i64 v4)).setCell ⟨w.heap.size, 5, none⟩ (.int .i64 v5)).setCell ⟨w.heap.size, 6, none⟩ (.int .i64 v6)).setCell ⟨w.heap.size, 7, none⟩ (.int .i64 v7)).cell? ⟨w.heap.size, 7, none⟩ = some (.int .i64 v7) := World.cell?_setCell_same _ _ _ (show _ = some (Value.int .i64 0) by simp [go_sem, z7])
  have z8 : w1.cell? ⟨w.heap.size, 8, none⟩ = some (.int .i64 0) := (A2 8 (by omega)).1
  have y8 := (A2 8 (by omega)).2
  have s8 : (((((((((w1.setCell ⟨w.heap.size, 0, none⟩ (.int .i64 v0)).setCell ⟨w.heap.size, 1, none⟩ (.int .i64 v1)).setCell ⟨w.heap.size, 2, none⟩ (.int .i64 v2)).setCell ⟨w.heap.size, 3, none⟩ (.int .i64 v3)).setCell ⟨w.heap.size, 4, none⟩ (.int .i64 v4)).setCell ⟨w.heap.size, 5, none⟩ (.int .i64 v5)).setCell ⟨w.heap.size, 6, none⟩ (.int .i64 v6)).setCell ⟨w.heap.size, 7, none⟩ (.int .i64 v7)).setCell ⟨w.heap.size, 8, none⟩ (.int .i64 v8)).cell? ⟨w.heap.size, 8, none⟩ = some (.int .i64 v8) := World.cell?_setCell_same _ _ _ (show _ = some (Value.int .i64 0) by simp [go_sem, z8])
  have z9 : w1.cell? ⟨w.heap.size, 9, none⟩ = some (.int .i64 0) := (A2 9 (by omega)).1
  have y9 := (A2 9 (by omega)).2
  have s9 : ((((((((((w1.setCell ⟨w.heap.size, 0, none⟩ (.int .i64 v0)).setCell ⟨w.heap.size, 1, none⟩ (.int .i64 v1)).setCell ⟨w.heap.size, 2, none⟩ (.int .i64 v2)).setCell ⟨w.heap.size, 3, none⟩ (.int .i64 v3)).setCell ⟨w.heap.size, 4, none⟩ (.int .i64 v4)).setCell ⟨w.heap.size, 5, none⟩ (.int .i64 v5)).setCell ⟨w.heap.size, 6, none⟩ (.int .i64 v6)).setCell ⟨w.heap.size, 7, none⟩ (.int .i64 v7)).setCell ⟨w.heap.size, 8, none⟩ (.int .i64 v8)).setCell ⟨w.heap.size, 9, none⟩ (.int .i64 v9)).cell? ⟨w.heap.size, 9, none⟩ = some (.int .i64 v9) := World.cell?_setCell_same _ _ _ (show _ = some (Value.int .i64 0) by simp [go_sem, z9])
  have z10 : w1.cell? ⟨w.heap.size, 10, none⟩ = some (.int .i64 0) := (A2 10 (by omega)).1
  have y10 := (A2 10 (by omega)).2
  have s10 : (((((((((((w1.setCell ⟨w.heap.size, 0, none⟩ (.int .i64 v0)).setCell ⟨w.heap.size, 1, none⟩ (.int .i64 v1)).setCell ⟨w.heap.size, 2, none⟩ (.int .i64 v2)).setCell ⟨w.heap.size, 3, none⟩ (.int .i64 v3)).setCell ⟨w.heap.size, 4, none⟩ (.int .i64 v4)).setCell ⟨w.heap.size, 5, none⟩ (.int .i64 v5)).setCell ⟨w.heap.size, 6, none⟩ (.int .i64 v6)).setCell ⟨w.heap.size, 7, none⟩ (.int .i64 v7)).setCell ⟨w.heap.size, 8, none⟩ (.int .i64 v8)).setCell ⟨w.heap.size, 9, none⟩ (.int .i64 v9)).setCell ⟨w.heap.size, 10, none⟩ (.int .i64 v10)).cell? ⟨w.heap.size, 10, none⟩ = some (.int .i64 v10) := World.cell?_setCell_same _ _ _ (show _ = some (Value.int .i64 0) by simp [go_sem, z10])
  have z11 : w1.cell? ⟨w.heap.size, 11, none⟩ = some (.int .i64 0) := (A2 11 (by omega)).1
  have y11 := (A2 11 (by omega)).2
  have s11 : ((((((((((((w1.setCell ⟨w.heap.size, 0, none⟩ (.int .i64 v0)).setCell ⟨w.heap.size, 1, none⟩ (.int .i64 v1)).setCell ⟨w.heap.size, 2, none⟩ (.int .i64 v2)).setCell ⟨w.heap.size, 3, none⟩ (.int .i64 v3)).setCell ⟨w.heap.size, 4, none⟩ (.int .i64 v4)).setCell ⟨w.heap.size, 5, none⟩ (.int .i64 v5)).setCell ⟨w.heap.size, 6, none⟩ (.int .i64 v6)).setCell ⟨w.heap.size, 7, none⟩ (.int .i64 v7)).setCell ⟨w.heap.size, 8, none⟩ (.int .i64 v8)).setCell ⟨w.heap.size, 9, none⟩ (.int .i64 v9)).setCell ⟨w.heap.size, 10, none⟩ (.int .i64 v10)).setCell ⟨w.heap.size, 11, none⟩ (.int .i64 v11)).cell? ⟨w.heap.size, 11, none⟩ = some (.int .i64 v11) := World.cell?_setCell_same _ _ _ (show _ = some (Value.int .i64 0) by simp [go_sem, z11])
  have z12 : w1.cell? ⟨w.heap.size, 12, none⟩ = some (.int .i64 0) := (A2 12 (by omega)).1
  have y12 := (A2 12 (by omega)).2
  have s12 : (((((((((((((w1.setCell ⟨w.heap.size, 0, none⟩ (.int .i64 v0)).setCell ⟨w.heap.size, 1, none⟩ (.int .i64 v1)).setCell ⟨w.heap.size, 2, none⟩ (.int .i64 v2)).setCell ⟨w.heap.size, 3, none⟩ (.int .i64 v3)).setCell ⟨w.heap.size, 4, none⟩ (.int .i64 v4)).setCell ⟨w.heap.size, 5, none⟩ (.int .i64 v5)).setCell ⟨w.heap.size, 6, none⟩ (.int .i64 v6)).setCell ⟨w.heap.size, 7, none⟩ (.int .i64 v7)).setCell ⟨w.heap.size, 8, none⟩ (.int .i64 v8)).setCell ⟨w.heap.size, 9, none⟩ (.int .i64 v9)).setCell ⟨w.heap.size, 10, none⟩ (.int .i64 v10)).setCell ⟨w.heap.size, 11, none⟩ (.int .i64 v11)).setCell ⟨w.heap.size, 12, none⟩ (.int .i64 v12)).cell? ⟨w.heap.size, 12, none⟩ = some (.int .i64 v12) := World.cell?_setCell_same _ _ _ (show _ = some (Value.int .i64 0) by simp [go_sem, z12])
  have HBf : Hid (Below w.heap.size w (((((((((((((w1.setCell ⟨w.heap.size, 0, none⟩ (.int .i64 v0)).setCell ⟨w.heap.size, 1, none⟩ (.int .i64 v1)).setCell ⟨w.heap.size, 2, none⟩ (.int .i64 v2)).setCell ⟨w.heap.size, 3, none⟩ (.int .i64 v3)).setCell ⟨w.heap.size, 4, none⟩ (.int .i64 v4)).setCell ⟨w.heap.size, 5, none⟩ (.int .i64 v5)).setCell ⟨w.heap.size, 6, none⟩ (.int .i64 v6)).setCell ⟨w.heap.size, 7, none⟩ (.int .i64 v7)).setCell ⟨w.heap.size, 8, none⟩ (.int .i64 v8)).setCell ⟨w.heap.size, 9, none⟩ (.int .i64 v9)).setCell ⟨w.heap.size, 10, none⟩ (.int .i64 v10)).setCell ⟨w.heap.size, 11, none⟩ (.int .i64 v11)).setCell ⟨w.heap.size, 12, none⟩ (.int .i64 v12))) := (((((((((((((hb0.setCell (p := ⟨w.heap.size, 0, none⟩) (Nat.le_refl _) (.int .i64 v0)).setCell (p := ⟨w.heap.size, 1, none⟩) (Nat.le_refl _) (.int .i64 v1)).setCell (p := ⟨w.heap.size, 2, none⟩) (Nat.le_refl _) (.int .i64 v2)).setCell (p := ⟨w.heap.size, 3, none⟩) (Nat.le_refl _) (.int .i64 v3)).setCell (p := ⟨w.heap.size, 4, none⟩) (Nat.le_refl _) (.int .i64 v4)).setCell (p := ⟨w.heap.size, 5, none⟩) (Nat.le_refl _) (.int .i64 v5)).setCell (p := ⟨w.heap.size, 6, none⟩) (Nat.le_refl _) (.int .i64 v6)).setCell (p := ⟨w.heap.size, 7, none⟩) (Nat.le_refl _) (.int .i64 v7)).setCell (p := ⟨w.heap.size, 8, none⟩) (Nat.le_refl _) (.int .i64 v8)).setCell (p := ⟨w.heap.size, 9, none⟩) (Nat.le_refl _) (.int .i64 v9)).setCell (p := ⟨w.heap.size, 10, none⟩) (Nat.le_refl _) (.int .i64 v10)).setCell (p := ⟨w.heap.size, 11, none⟩) (Nat.le_refl _) (.int .i64 v11)).setCell (p := ⟨w.heap.size, 12, none⟩) (Nat.le_refl _) (.int .i64 v12))
  clear A2 hb hb0 HC
  go_wp2
  exact bodyPost_ret (v := .agg #[.int .i64 v0, .int .i64 v1, .int .i64 v2, .int .i64 v3, .int .i64 v4, .int .i64 v5, .int .i64 v6, .int .i64 v7, .int .i64 v8, .int .i64 v9, .int .i64 v10, .int .i64 v11, .int .i64 v12]) (by simp [results, Try.results71, go_sem, s0, s1, s2, s3, s4, s5, s6, s7, s8, s9, s10, s11, s12]) rfl ⟨rfl, HBf.out⟩
theorem kpRising_fn (t j : Nat) (W : World) (_ : t ≤ 12) (_ : 1 ≤ t) (_ : j ≤ 12) :
    Calls Try.prog 94 #[.int .i64 t, .int .i64 j] W fun e w' => e = .returned (.int .i64 (kpR t j)) ∧ W = w' := by
  go_enter Try.func94, Try.ntmps94
  go_wp2
  go_ret
  exact ⟨rfl, rfl⟩
theorem byRising_any (n : Nat) (w : World) (h12 : n ≤ 12) :
    Calls Try.prog 75 #[.int .i64 n] w fun e w' => e = .returned (aggOf (cnRow kpR n)) ∧ Below w.heap.size w w' := by
  have HC : Hid (∀ W : World, Calls Try.prog 91 #[.int .i64 n, .func (.func 94) #[] #[]] W fun e w' => e = .returned (aggOf (cnRow kpR n)) ∧ Below W.heap.size W w') := fun W => counts_countsByRising kpR kpR_ok n W h12 kpRising_fn
  obtain ⟨v0, v1, v2, v3, v4, v5, v6, v7, v8, v9, v10, v11, v12, hv⟩ : ∃ v0 v1 v2 v3 v4 v5 v6 v7 v8 v9 v10 v11 v12, aggOf (cnRow kpR n) = .agg #[.int .i64 v0, .int .i64 v1, .int .i64 v2, .int .i64 v3, .int .i64 v4, .int .i64 v5, .int .i64 v6, .int .i64 v7, .int .i64 v8, .int .i64 v9, .int .i64 v10, .int .i64 v11, .int .i64 v12] := ⟨_, _, _, _, _, _, _, _, _, _, _, _, _, rfl⟩
  rw [hv] at HC ⊢
  clear hv
  go_enter Try.func75, Try.ntmps75
  go_wp2_with fail
  refine (HC.out _).mono ?_
  rintro e w1 ⟨rfl, hb⟩
  have hb0 : Below w.heap.size w w1 := ((Below.refl _ _).alloc (Nat.le_refl _) _).trans (hb.mono (by rw [World.size_alloc]; omega))
  have A2 := (AI.zero w 73).far hb
  have z0 : w1.cell? ⟨w.heap.size, 0, none⟩ = some (.int .i64 0) := (A2 0 (by omega)).1
  have y0 := (A2 0 (by omega)).2
  have s0 : (w1.setCell ⟨w.heap.size, 0, none⟩ (.int .i64 v0)).cell? ⟨w.heap.size, 0, none⟩ = some (.int .i64 v0) := World.cell?_setCell_same _ _ _ (show _ = some (Value.int .i64 0) by simp [go_sem, z0])
  have z1 : w1.cell? ⟨w.heap.size, 1, none⟩ = some (.int .i64 0) := (A2 1 (by omega)).1
  have y1 := (A2 1 (by omega)).2
  have s1 : ((w1.setCell ⟨w.heap.size, 0, none⟩ (.int .i64 v0)).setCell ⟨w.heap.size, 1, none⟩ (.int .i64 v1)).cell? ⟨w.heap.size, 1, none⟩ = some (.int .i64 v1) := World.cell?_setCell_same _ _ _ (show _ = some (Value.int .i64 0) by simp [go_sem, z1])
  have z2 : w1.cell? ⟨w.heap.size, 2, none⟩ = some (.int .i64 0) := (A2 2 (by omega)).1
  have y2 := (A2 2 (by omega)).2
  have s2 : (((w1.setCell ⟨w.heap.size, 0, none⟩ (.int .i64 v0)).setCell ⟨w.heap.size, 1, none⟩ (.int .i64 v1)).setCell ⟨w.heap.size, 2, none⟩ (.int .i64 v2)).cell? ⟨w.heap.size, 2, none⟩ = some (.int .i64 v2) := World.cell?_setCell_same _ _ _ (show _ = some (Value.int .i64 0) by simp [go_sem, z2])
  have z3 : w1.cell? ⟨w.heap.size, 3, none⟩ = some (.int .i64 0) := (A2 3 (by omega)).1
  have y3 := (A2 3 (by omega)).2
  have s3 : ((((w1.setCell ⟨w.heap.size, 0, none⟩ (.int .i64 v0)).setCell ⟨w.heap.size, 1, none⟩ (.int .i64 v1)).setCell ⟨w.heap.size, 2, none⟩ (.int .i64 v2)).setCell ⟨w.heap.size, 3, none⟩ (.int .i64 v3)).cell? ⟨w.heap.size, 3, none⟩ = some (.int .i64 v3) := World.cell?_setCell_same _ _ _ (show _ = some (Value.int .i64 0) by simp [go_sem, z3])
  have z4 : w1.cell? ⟨w.heap.size, 4, none⟩ = some (.int .i64 0) := (A2 4 (by omega)).1
  have y4 := (A2 4 (by omega)).2
  have s4 : (((((w1.setCell ⟨w.heap.size, 0, none⟩ (.int .i64 v0)).setCell ⟨w.heap.size, 1, none⟩ (.int .i64 v1)).setCell ⟨w.heap.size, 2, none⟩ (.int .i64 v2)).setCell ⟨w.heap.size, 3, none⟩ (.int .i64 v3)).setCell ⟨w.heap.size, 4, none⟩ (.int .i64 v4)).cell? ⟨w.heap.size, 4, none⟩ = some (.int .i64 v4) := World.cell?_setCell_same _ _ _ (show _ = some (Value.int .i64 0) by simp [go_sem, z4])
  have z5 : w1.cell? ⟨w.heap.size, 5, none⟩ = some (.int .i64 0) := (A2 5 (by omega)).1
  have y5 := (A2 5 (by omega)).2
  have s5 : ((((((w1.setCell ⟨w.heap.size, 0, none⟩ (.int .i64 v0)).setCell ⟨w.heap.size, 1, none⟩ (.int .i64 v1)).setCell ⟨w.heap.size, 2, none⟩ (.int .i64 v2)).setCell ⟨w.heap.size, 3, none⟩ (.int .i64 v3)).setCell ⟨w.heap.size, 4, none⟩ (.int .i64 v4)).setCell ⟨w.heap.size, 5, none⟩ (.int .i64 v5)).cell? ⟨w.heap.size, 5, none⟩ = some (.int .i64 v5) := World.cell?_setCell_same _ _ _ (show _ = some (Value.int .i64 0) by simp [go_sem, z5])
  have z6 : w1.cell? ⟨w.heap.size, 6, none⟩ = some (.int .i64 0) := (A2 6 (by omega)).1
  have y6 := (A2 6 (by omega)).2
  have s6 : (((((((w1.setCell ⟨w.heap.size, 0, none⟩ (.int .i64 v0)).setCell ⟨w.heap.size, 1, none⟩ (.int .i64 v1)).setCell ⟨w.heap.size, 2, none⟩ (.int .i64 v2)).setCell ⟨w.heap.size, 3, none⟩ (.int .i64 v3)).setCell ⟨w.heap.size, 4, none⟩ (.int .i64 v4)).setCell ⟨w.heap.size, 5, none⟩ (.int .i64 v5)).setCell ⟨w.heap.size, 6, none⟩ (.int .i64 v6)).cell? ⟨w.heap.size, 6, none⟩ = some (.int .i64 v6) := World.cell?_setCell_same _ _ _ (show _ = some (Value.int .i64 0) by simp [go_sem, z6])
  have z7 : w1.cell? ⟨w.heap.size, 7, none⟩ = some (.int .i64 0) := (A2 7 (by omega)).1
  have y7 := (A2 7 (by omega)).2
  have s7 : ((((((((w1.setCell ⟨w.heap.size, 0, none⟩ (.int .i64 v0)).setCell ⟨w.heap.size, 1, none⟩ (.int .i64 v1)).setCell ⟨w.heap.size, 2, none⟩ (.int .i64 v2)).setCell ⟨w.heap.size, 3, none⟩ (.int .i64 v3)).setCell ⟨w.heap.size, 4, none⟩ (.int .i64 v4)).setCell ⟨w.heap.size, 5, none⟩ (.int .i64 v5)).setCell ⟨w.heap.size, 6, none⟩ (.int .i64 v6)).setCell ⟨w.heap.size, 7, none⟩ (.int .i64 v7)).cell? ⟨w.heap.size, 7, none⟩ = some (.int .i64 v7) := World.cell?_setCell_same _ _ _ (show _ = some (Value.int .i64 0) by simp [go_sem, z7])
  have z8 : w1.cell? ⟨w.heap.size, 8, none⟩ = some (.int .i64 0) := (A2 8 (by omega)).1
  have y8 := (A2 8 (by omega)).2
  have s8 : (((((((((w1.setCell ⟨w.heap.size, 0, none⟩ (.int .i64 v0)).setCell ⟨w.heap.size, 1, none⟩ (.int .i64 v1)).setCell ⟨w.heap.size, 2, none⟩ (.int .i64 v2)).setCell ⟨w.heap.size, 3, none⟩ (.int .i64 v3)).setCell ⟨w.heap.size, 4, none⟩ (.int .i64 v4)).setCell ⟨w.heap.size, 5, none⟩ (.int .i64 v5)).setCell ⟨w.heap.size, 6, none⟩ (.int .i64 v6)).setCell ⟨w.heap.size, 7, none⟩ (.int .i64 v7)).setCell ⟨w.heap.size, 8, none⟩ (.int .i64 v8)).cell? ⟨w.heap.size, 8, none⟩ = some (.int .i64 v8) := World.cell?_setCell_same _ _ _ (show _ = some (Value.int .i64 0) by simp [go_sem, z8])
  have z9 : w1.cell? ⟨w.heap.size, 9, none⟩ = some (.int .i64 0) := (A2 9 (by omega)).1
  have y9 := (A2 9 (by omega)).2
  have s9 : ((((((((((w1.setCell ⟨w.heap.size, 0, none⟩ (.int .i64 v0)).setCell ⟨w.heap.size, 1, none⟩ (.int .i64 v1)).setCell ⟨w.heap.size, 2, none⟩ (.int .i64 v2)).setCell ⟨w.heap.size, 3, none⟩ (.int .i64 v3)).setCell ⟨w.heap.size, 4, none⟩ (.int .i64 v4)).setCell ⟨w.heap.size, 5, none⟩ (.int .i64 v5)).setCell ⟨w.heap.size, 6, none⟩ (.int .i64 v6)).setCell ⟨w.heap.size, 7, none⟩ (.int .i64 v7)).setCell ⟨w.heap.size, 8, none⟩ (.int .i64 v8)).setCell ⟨w.heap.size, 9, none⟩ (.int .i64 v9)).cell? ⟨w.heap.size, 9, none⟩ = some (.int .i64 v9) := World.cell?_setCell_same _ _ _ (show _ = some (Value.int .i64 0) by simp [go_sem, z9])
  have z10 : w1.cell? ⟨w.heap.size, 10, none⟩ = some (.int .i64 0) := (A2 10 (by omega)).1
  have y10 := (A2 10 (by omega)).2
  have s10 : (((((((((((w1.setCell ⟨w.heap.size, 0, none⟩ (.int .i64 v0)).setCell ⟨w.heap.size, 1, none⟩ (.int .i64 v1)).setCell ⟨w.heap.size, 2, none⟩ (.int .i64 v2)).setCell ⟨w.heap.size, 3, none⟩ (.int .i64 v3)).setCell ⟨w.heap.size, 4, none⟩ (.int .i64 v4)).setCell ⟨w.heap.size, 5, none⟩ (.int .i64 v5)).setCell ⟨w.heap.size, 6, none⟩ (.int .i64 v6)).setCell ⟨w.heap.size, 7, none⟩ (.int .i64 v7)).setCell ⟨w.heap.size, 8, none⟩ (.int .i64 v8)).setCell ⟨w.heap.size, 9, none⟩ (.int .i64 v9)).setCell ⟨w.heap.size, 10, none⟩ (.int .i64 v10)).cell? ⟨w.heap.size, 10, none⟩ = some (.int .i64 v10) := World.cell?_setCell_same _ _ _ (show _ = some (Value.int .i64 0) by simp [go_sem, z10])
  have z11 : w1.cell? ⟨w.heap.size, 11, none⟩ = some (.int .i64 0) := (A2 11 (by omega)).1
  have y11 := (A2 11 (by omega)).2
  have s11 : ((((((((((((w1.setCell ⟨w.heap.size, 0, none⟩ (.int .i64 v0)).setCell ⟨w.heap.size, 1, none⟩ (.int .i64 v1)).setCell ⟨w.heap.size, 2, none⟩ (.int .i64 v2)).setCell ⟨w.heap.size, 3, none⟩ (.int .i64 v3)).setCell ⟨w.heap.size, 4, none⟩ (.int .i64 v4)).setCell ⟨w.heap.size, 5, none⟩ (.int .i64 v5)).setCell ⟨w.heap.size, 6, none⟩ (.int .i64 v6)).setCell ⟨w.heap.size, 7, none⟩ (.int .i64 v7)).setCell ⟨w.heap.size, 8, none⟩ (.int .i64 v8)).setCell ⟨w.heap.size, 9, none⟩ (.int .i64 v9)).setCell ⟨w.heap.size, 10, none⟩ (.int .i64 v10)).setCell ⟨w.heap.size, 11, none⟩ (.int .i64 v11)).cell? ⟨w.heap.size, 11, none⟩ = some (.int .i64 v11) := World.cell?_setCell_same _ _ _ (show _ = some (Value.int .i64 0) by simp [go_sem, z11])
  have z12 : w1.cell? ⟨w.heap.size, 12, none⟩ = some (.int .i64 0) := (A2 12 (by omega)).1
  have y12 := (A2 12 (by omega)).2
  have s12 : (((((((((((((w1.setCell ⟨w.heap.size, 0, none⟩ (.int .i64 v0)).setCell ⟨w.heap.size, 1, none⟩ (.int .i64 v1)).setCell ⟨w.heap.size, 2, none⟩ (.int .i64 v2)).setCell ⟨w.heap.size, 3, none⟩ (.int .i64 v3)).setCell ⟨w.heap.size, 4, none⟩ (.int .i64 v4)).setCell ⟨w.heap.size, 5, none⟩ (.int .i64 v5)).setCell ⟨w.heap.size, 6, none⟩ (.int .i64 v6)).setCell ⟨w.heap.size, 7, none⟩ (.int .i64 v7)).setCell ⟨w.heap.size, 8, none⟩ (.int .i64 v8)).setCell ⟨w.heap.size, 9, none⟩ (.int .i64 v9)).setCell ⟨w.heap.size, 10, none⟩ (.int .i64 v10)).setCell ⟨w.heap.size, 11, none⟩ (.int .i64 v11)).setCell ⟨w.heap.size, 12, none⟩ (.int .i64 v12)).cell? ⟨w.heap.size, 12, none⟩ = some (.int .i64 v12) := World.cell?_setCell_same _ _ _ (show _ = some (Value.int .i64 0) by simp [go_sem, z12])
  have HBf : Hid (Below w.heap.size w (((((((((((((w1.setCell ⟨w.heap.size, 0, none⟩ (.int .i64 v0)).setCell ⟨w.heap.size, 1, none⟩ (.int .i64 v1)).setCell ⟨w.heap.size, 2, none⟩ (.int .i64 v2)).setCell ⟨w.heap.size, 3, none⟩ (.int .i64 v3)).setCell ⟨w.heap.size, 4, none⟩ (.int .i64 v4)).setCell ⟨w.heap.size, 5, none⟩ (.int .i64 v5)).setCell ⟨w.heap.size, 6, none⟩ (.int .i64 v6)).setCell ⟨w.heap.size, 7, none⟩ (.int .i64 v7)).setCell ⟨w.heap.size, 8, none⟩ (.int .i64 v8)).setCell ⟨w.heap.size, 9, none⟩ (.int .i64 v9)).setCell ⟨w.heap.size, 10, none⟩ (.int .i64 v10)).setCell ⟨w.heap.size, 11, none⟩ (.int .i64 v11)).setCell ⟨w.heap.size, 12, none⟩ (.int .i64 v12))) := (((((((((((((hb0.setCell (p := ⟨w.heap.size, 0, none⟩) (Nat.le_refl _) (.int .i64 v0)).setCell (p := ⟨w.heap.size, 1, none⟩) (Nat.le_refl _) (.int .i64 v1)).setCell (p := ⟨w.heap.size, 2, none⟩) (Nat.le_refl _) (.int .i64 v2)).setCell (p := ⟨w.heap.size, 3, none⟩) (Nat.le_refl _) (.int .i64 v3)).setCell (p := ⟨w.heap.size, 4, none⟩) (Nat.le_refl _) (.int .i64 v4)).setCell (p := ⟨w.heap.size, 5, none⟩) (Nat.le_refl _) (.int .i64 v5)).setCell (p := ⟨w.heap.size, 6, none⟩) (Nat.le_refl _) (.int .i64 v6)).setCell (p := ⟨w.heap.size, 7, none⟩) (Nat.le_refl _) (.int .i64 v7)).setCell (p := ⟨w.heap.size, 8, none⟩) (Nat.le_refl _) (.int .i64 v8)).setCell (p := ⟨w.heap.size, 9, none⟩) (Nat.le_refl _) (.int .i64 v9)).setCell (p := ⟨w.heap.size, 10, none⟩) (Nat.le_refl _) (.int .i64 v10)).setCell (p := ⟨w.heap.size, 11, none⟩) (Nat.le_refl _) (.int .i64 v11)).setCell (p := ⟨w.heap.size, 12, none⟩) (Nat.le_refl _) (.int .i64 v12))
  clear A2 hb hb0 HC
  go_wp2
  exact bodyPost_ret (v := .agg #[.int .i64 v0, .int .i64 v1, .int .i64 v2, .int .i64 v3, .int .i64 v4, .int .i64 v5, .int .i64 v6, .int .i64 v7, .int .i64 v8, .int .i64 v9, .int .i64 v10, .int .i64 v11, .int .i64 v12]) (by simp [results, Try.results75, go_sem, s0, s1, s2, s3, s4, s5, s6, s7, s8, s9, s10, s11, s12]) rfl ⟨rfl, HBf.out⟩
end Go.Proofs.Ytjbojamhnapkpab
