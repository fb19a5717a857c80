/- The cost of pairs: impl.PairCost, spec.PairCost, and the law. -/
import Derived.Test.YtamedggnkbhgeabFrDiv
import Derived.Test.YtamedggnkbhgeabFrSub
import Derived.Test.YtamedggnkbhgeabCoin
namespace Go.Proofs.Ytamedggnkbhgeab
open Go.RowKit Go.PlainAid
set_option maxHeartbeats 1000000

theorem VF_one : VF 1 1 := ⟨by decide, by decide, by decide, by decide, by decide⟩
theorem gcdI_one (n : Int) : gcdI 1 n = 1 := by simp [gcdI]
theorem gcdI_one' (n : Int) : gcdI n 1 = 1 := by simp [gcdI]
theorem sub_one (num den : Int) : addN 1 1 (-num) den = den - num ∧ addD 1 1 (-num) den = den := by
  have h1 : gcdZ 1 den = 1 := by simp [gcdZ]
  have h2 : addS 1 1 (-num) den = den - num := by unfold addS; rw [h1, Int.ediv_one]; omega
  have h3 : addC 1 1 (-num) den = 1 := by unfold addC; rw [h1]; simp [gcdZ]
  exact ⟨by unfold addN; rw [h3, h2, Int.tdiv_one], by unfold addD; rw [h3, h1, Int.ediv_one, Int.ediv_one]; omega⟩
theorem VF_rest {num den : Int} (h : VF num den) : 0 < num → num < den → VF (den - num) den := fun h0 h1 => by
  obtain ⟨⟨g1, g2, g3, g4⟩, _⟩ := h.out
  obtain ⟨G, a, b, c, e, S, N, D, _, _, _, _, _, _, _, _, _, _, _, _, _, _, _, _, _, _, hN, hD, _, hg, _⟩ := add_all 1 1 (-num) den VF_one h.neg
  obtain ⟨e1, e2⟩ := sub_one num den
  rw [e1] at hN
  rw [e2] at hD
  subst hN
  subst hD
  exact ⟨by omega, by omega, by omega, by omega, hg⟩
theorem mul_one {num den : Int} (h : VF num den) : 0 < num → num ≤ den → mulOk 1 1 den num ∧ mulN 1 1 den num = den ∧ mulD 1 1 den num = num := fun h0 h1 => by
  obtain ⟨⟨g1, g2, g3, g4⟩, _⟩ := h.out
  have e1 : mulN 1 1 den num = den := by unfold mulN; rw [gcdI_one, gcdI_one', Int.tdiv_one, Int.tdiv_one]; omega
  have e2 : mulD 1 1 den num = num := by unfold mulD; rw [gcdI_one, gcdI_one', Int.tdiv_one, Int.tdiv_one]; omega
  exact ⟨⟨by rw [e1]; exact ⟨by omega, by omega⟩, by rw [e2]; exact ⟨by omega, by omega⟩⟩, e1, e2⟩
theorem pcost_yes (num den n d : Int) (ok : Bool) (w : World) (h0 : 0 < num) (h1 : num < den)
    (HS : Hid (GivesFrac 59 #[.agg #[.int .i64 1, .int .i64 1], .agg #[.int .i64 num, .int .i64 den]] (den - num) den true))
    (HD : Hid (GivesFrac 60 #[.agg #[.int .i64 1, .int .i64 1], .agg #[.int .i64 num, .int .i64 den]] den num true))
    (HD2 : Hid (GivesFrac 60 #[.agg #[.int .i64 den, .int .i64 num], .agg #[.int .i64 (den - num), .int .i64 den]] n d ok)) :
    Calls Try.prog 28 #[.agg #[.int .i64 num, .int .i64 den]] w fun e w' => e = .returned (.tuple #[.agg #[.int .i64 n, .int .i64 d], .bool ok]) ∧ Below w.heap.size w w' := by
  have HS2 : Hid (∀ W : World, Calls Try.prog 59 #[.agg #[.int .i64 1, .int .i64 1], .agg #[.int .i64 num, .int .i64 den]] W fun e w' => e = .returned (.tuple #[.agg #[.int .i64 (den - num), .int .i64 den], .bool true]) ∧ Below W.heap.size W w') := HS
  have HD3 : Hid (∀ W : World, Calls Try.prog 60 #[.agg #[.int .i64 1, .int .i64 1], .agg #[.int .i64 num, .int .i64 den]] W fun e w' => e = .returned (.tuple #[.agg #[.int .i64 den, .int .i64 num], .bool true]) ∧ Below W.heap.size W w') := HD
  have HD4 : Hid (∀ W : World, Calls Try.prog 60 #[.agg #[.int .i64 den, .int .i64 num], .agg #[.int .i64 (den - num), .int .i64 den]] W fun e w' => e = .returned (.tuple #[.agg #[.int .i64 n, .int .i64 d], .bool ok]) ∧ Below W.heap.size W w') := HD2
  obtain ⟨q, hq⟩ : ∃ q, q = den - num := ⟨_, rfl⟩
  rw [← hq] at HS2 HD4
  have hq0 : 0 < q := by omega
  clear h1 hq HS HD HD2
  go_enter Try.func28, Try.ntmps28
  have A0 := ((D2.new w (.int .i64 num) (.int .i64 den) 23).alloc (.cells #[.int .i64 0, .int .i64 0] 23)).alloc (.cells #[.int .i64 1, .int .i64 1] 23)
  have A1 := (D2.new (w.alloc (.cells #[.int .i64 num, .int .i64 den] 23)) (.int .i64 0) (.int .i64 0) 23).alloc (.cells #[.int .i64 1, .int .i64 1] 23)
  have A2 := D2.new ((w.alloc (.cells #[.int .i64 num, .int .i64 den] 23)).alloc (.cells #[.int .i64 0, .int .i64 0] 23)) (.int .i64 1) (.int .i64 1) 23
  have B : Below w.heap.size w (((w.alloc (.cells #[.int .i64 num, .int .i64 den] 23)).alloc (.cells #[.int .i64 0, .int .i64 0] 23)).alloc (.cells #[.int .i64 1, .int .i64 1] 23)) :=
    (((Below.refl _ w).alloc (Nat.le_refl _) _).alloc (by simp) _).alloc (by simp; omega) _
  simp only [World.size_alloc] at A1 A2
  go_wp2_with fail
  refine (HS2.out _).mono ?_
  rintro e w4 ⟨rfl, hb⟩
  replace A0 := A0.far hb
  replace A1 := A1.far hb
  replace A2 := A2.far hb
  replace B := B.trans (hb.mono B.size)
  clear hb
  have A3 := D2.new w4 (.int .i64 q) (.int .i64 den) 23
  replace A0 := A0.alloc (.cells #[.int .i64 q, .int .i64 den] 23)
  replace A1 := A1.alloc (.cells #[.int .i64 q, .int .i64 den] 23)
  replace A2 := A2.alloc (.cells #[.int .i64 q, .int .i64 den] 23)
  have z4 := B.size
  replace B := B.alloc B.size (.cells #[.int .i64 q, .int .i64 den] 23)
  obtain ⟨⟨x0, x1⟩, _, _⟩ := id A0
  obtain ⟨⟨y0, y1⟩, _, _⟩ := id A2
  go_wp2_with fail
  refine (HD3.out _).mono ?_
  rintro e w5 ⟨rfl, hb⟩
  clear x0 x1 y0 y1 A0 A2
  replace A1 := A1.far hb
  replace A3 := A3.far hb
  replace B := B.trans (hb.mono B.size)
  clear hb
  replace A1 := A1.alloc (.cells #[.int .i64 den, .int .i64 num] 23)
  replace A3 := A3.alloc (.cells #[.int .i64 den, .int .i64 num] 23)
  replace B := B.alloc B.size (.cells #[.int .i64 den, .int .i64 num] 23)
  obtain ⟨⟨x0, x1⟩, _, _⟩ := id A3
  go_wp2_with fail
  refine (HD4.out _).mono ?_
  rintro e w6 ⟨rfl, hb⟩
  clear x0 x1 A3
  replace A1 := A1.far hb
  replace B := B.trans (hb.mono B.size)
  clear hb
  obtain ⟨p0, p1⟩ := (A1.put (.int .i64 n) (.int .i64 d)).1
  obtain ⟨⟨x0, x1⟩, x2, x3⟩ := id A1
  go_wp2
  unfold putD at p0 p1
  exact bodyPost_ret (v := .tuple #[.agg #[.int .i64 n, .int .i64 d], .bool ok]) (by simp [results, Try.results28, go_sem, p0, p1]) rfl ⟨rfl, below_putD B (by omega) _ _⟩
theorem pcost_no (num den n d : Int) (ok : Bool) (w : World) (h : ok = true → num ≤ 0 ∨ n ≤ 0)
    (HS : Hid (GivesFrac 59 #[.agg #[.int .i64 1, .int .i64 1], .agg #[.int .i64 num, .int .i64 den]] n d ok)) :
    Calls Try.prog 28 #[.agg #[.int .i64 num, .int .i64 den]] w fun e w' => e = .returned (.tuple #[.agg #[.int .i64 0, .int .i64 0], .bool false]) ∧ Below w.heap.size w w' := by
  have HS2 : Hid (∀ W : World, Calls Try.prog 59 #[.agg #[.int .i64 1, .int .i64 1], .agg #[.int .i64 num, .int .i64 den]] W fun e w' => e = .returned (.tuple #[.agg #[.int .i64 n, .int .i64 d], .bool ok]) ∧ Below W.heap.size W w') := HS
  have HOK := Lib.hid h
  clear h HS
  go_enter Try.func28, Try.ntmps28
  have A0 := ((D2.new w (.int .i64 num) (.int .i64 den) 23).alloc (.cells #[.int .i64 0, .int .i64 0] 23)).alloc (.cells #[.int .i64 1, .int .i64 1] 23)
  have A1 := (D2.new (w.alloc (.cells #[.int .i64 num, .int .i64 den] 23)) (.int .i64 0) (.int .i64 0) 23).alloc (.cells #[.int .i64 1, .int .i64 1] 23)
  have B : Below w.heap.size w (((w.alloc (.cells #[.int .i64 num, .int .i64 den] 23)).alloc (.cells #[.int .i64 0, .int .i64 0] 23)).alloc (.cells #[.int .i64 1, .int .i64 1] 23)) :=
    (((Below.refl _ w).alloc (Nat.le_refl _) _).alloc (by simp) _).alloc (by simp; omega) _
  simp only [World.size_alloc] at A1
  go_wp2_with fail
  refine (HS2.out _).mono ?_
  rintro e w4 ⟨rfl, hb⟩
  replace A0 := A0.far hb
  replace A1 := A1.far hb
  replace B := B.trans (hb.mono B.size)
  clear hb
  have A3 := D2.new w4 (.int .i64 n) (.int .i64 d) 23
  replace A0 := A0.alloc (.cells #[.int .i64 n, .int .i64 d] 23)
  replace A1 := A1.alloc (.cells #[.int .i64 n, .int .i64 d] 23)
  have z4 := B.size
  replace B := B.alloc B.size (.cells #[.int .i64 n, .int .i64 d] 23)
  obtain ⟨⟨x0, x1⟩, _, _⟩ := id A0
  obtain ⟨⟨y0, y1⟩, _, _⟩ := id A3
  obtain ⟨p0, p1⟩ := (A1.put (.int .i64 0) (.int .i64 0)).1
  obtain ⟨⟨u0, u1⟩, u2, u3⟩ := id A1
  cases ok
  · go_wp2
    unfold putD at p0 p1
    exact bodyPost_ret (v := .tuple #[.agg #[.int .i64 0, .int .i64 0], .bool false]) (by simp [results, Try.results28, go_sem, p0, p1]) rfl ⟨rfl, below_putD B (by omega) _ _⟩
  · by_cases hn : num ≤ 0
    · go_wp2
      unfold putD at p0 p1
      exact bodyPost_ret (v := .tuple #[.agg #[.int .i64 0, .int .i64 0], .bool false]) (by simp [results, Try.results28, go_sem, p0, p1]) rfl ⟨rfl, below_putD B (by omega) _ _⟩
    · have hn2 : n ≤ 0 := by rcases HOK.out rfl with x | x <;> omega
      go_wp2
      unfold putD at p0 p1
      exact bodyPost_ret (v := .tuple #[.agg #[.int .i64 0, .int .i64 0], .bool false]) (by simp [results, Try.results28, go_sem, p0, p1]) rfl ⟨rfl, below_putD B (by omega) _ _⟩

theorem specPCost_yes (num den n d : Int) (ok : Bool) (w : World) (h : VF num den) (h0 : 0 < num) (h1 : num < den)
    (HC : Hid (GivesFrac 58 #[.agg #[.int .i64 den, .int .i64 num], .agg #[.int .i64 den, .int .i64 (den - num)]] n d ok)) :
    Calls Try.prog 27 #[.agg #[.int .i64 num, .int .i64 den]] w fun e w' => e = .returned (.tuple #[.agg #[.int .i64 n, .int .i64 d], .bool ok]) ∧ Below w.heap.size w w' := by
  have HC2 : Hid (∀ W : World, Calls Try.prog 58 #[.agg #[.int .i64 den, .int .i64 num], .agg #[.int .i64 den, .int .i64 (den - num)]] W fun e w' => e = .returned (.tuple #[.agg #[.int .i64 n, .int .i64 d], .bool ok]) ∧ Below W.heap.size W w') := HC
  obtain ⟨⟨g1, g2, g3, g4⟩, _⟩ := h.out
  have HM : Hid (∀ W : World, Calls Try.prog 31 #[.int .i64 den, .int .i64 num] W fun e w' => e = .returned (.agg #[.int .i64 den, .int .i64 num]) ∧ Below W.heap.size W w') := fun W => by
    have := fmake_any den num W (by omega) (by omega) (by omega) (by omega) (by omega)
    rw [(rec_mk h).1, (rec_mk h).2] at this
    unfold recN recD at this
    rwa [if_neg (by omega), if_neg (by omega)] at this
  have HM2 : Hid (∀ W : World, Calls Try.prog 31 #[.int .i64 den, .int .i64 (den - num)] W fun e w' => e = .returned (.agg #[.int .i64 den, .int .i64 (den - num)]) ∧ Below W.heap.size W w') := fun W => by
    have := fmake_any den (den - num) W (by omega) (by omega) (by omega) (by omega) (by omega)
    rw [(rec_mk (VF_rest h h0 h1)).1, (rec_mk (VF_rest h h0 h1)).2] at this
    unfold recN recD at this
    rwa [if_neg (by omega), if_neg (by omega)] at this
  have HN : Hid (∀ W : World, Calls Try.prog 45 #[.agg #[.int .i64 num, .int .i64 den]] W fun e w' => e = .returned (.bool true) ∧ Below W.heap.size W w') := fun W => chance_yes num den W h (by omega) (by omega)
  have hz : (num == 0) = false := by simp; omega
  have hz2 : (num == den) = false := by simp; omega
  clear h h0 h1 HC
  go_enter Try.func27, Try.ntmps27
  have A0 := (D2.new w (.int .i64 num) (.int .i64 den) 23).alloc (.cells #[.int .i64 0, .int .i64 0] 23)
  have A1 := D2.new (w.alloc (.cells #[.int .i64 num, .int .i64 den] 23)) (.int .i64 0) (.int .i64 0) 23
  have B : Below w.heap.size w ((w.alloc (.cells #[.int .i64 num, .int .i64 den] 23)).alloc (.cells #[.int .i64 0, .int .i64 0] 23)) :=
    ((Below.refl _ w).alloc (Nat.le_refl _) _).alloc (by simp) _
  simp only [World.size_alloc] at A1
  go_wp2_with fail
  refine (HN.out _).mono ?_
  rintro e w4 ⟨rfl, hb⟩
  replace A0 := A0.far hb
  replace A1 := A1.far hb
  replace B := B.trans (hb.mono B.size)
  clear hb
  obtain ⟨⟨x0, x1⟩, _, _⟩ := id A0
  go_wp2_with fail
  refine (HM.out _).mono ?_
  rintro e w5 ⟨rfl, hb⟩
  replace A0 := A0.far hb
  replace A1 := A1.far hb
  replace B := B.trans (hb.mono B.size)
  clear hb x0 x1
  have A2 := D2.new w5 (.int .i64 den) (.int .i64 num) 23
  replace A0 := A0.alloc (.cells #[.int .i64 den, .int .i64 num] 23)
  replace A1 := A1.alloc (.cells #[.int .i64 den, .int .i64 num] 23)
  have z5 := B.size
  replace B := B.alloc B.size (.cells #[.int .i64 den, .int .i64 num] 23)
  obtain ⟨⟨x0, x1⟩, _, _⟩ := id A0
  go_wp2_with fail
  refine (HM2.out _).mono ?_
  rintro e w6 ⟨rfl, hb⟩
  replace A1 := A1.far hb
  replace A2 := A2.far hb
  replace B := B.trans (hb.mono B.size)
  clear hb x0 x1 A0
  have A3 := D2.new w6 (.int .i64 den) (.int .i64 (den - num)) 23
  replace A1 := A1.alloc (.cells #[.int .i64 den, .int .i64 (den - num)] 23)
  replace A2 := A2.alloc (.cells #[.int .i64 den, .int .i64 (den - num)] 23)
  have z6 := B.size
  replace B := B.alloc B.size (.cells #[.int .i64 den, .int .i64 (den - num)] 23)
  obtain ⟨⟨x0, x1⟩, _, _⟩ := id A2
  obtain ⟨⟨y0, y1⟩, _, _⟩ := id A3
  go_wp2_with fail
  refine (HC2.out _).mono ?_
  rintro e w7 ⟨rfl, hb⟩
  clear x0 x1 y0 y1 A2 A3
  replace A1 := A1.far hb
  replace B := B.trans (hb.mono B.size)
  clear hb
  obtain ⟨p0, p1⟩ := (A1.put (.int .i64 n) (.int .i64 d)).1
  obtain ⟨⟨x0, x1⟩, x2, x3⟩ := id A1
  go_wp2
  unfold putD at p0 p1
  exact bodyPost_ret (v := .tuple #[.agg #[.int .i64 n, .int .i64 d], .bool ok]) (by simp [results, Try.results27, go_sem, p0, p1]) rfl ⟨rfl, below_putD B (by omega) _ _⟩
theorem specPCost_no (num den : Int) (w : World) (h : ¬ ((VF num den ∧ 0 ≤ num ∧ num ≤ den) ∧ num ≠ 0 ∧ num ≠ den)) :
    Calls Try.prog 27 #[.agg #[.int .i64 num, .int .i64 den]] w fun e w' => e = .returned (.tuple #[.agg #[.int .i64 0, .int .i64 0], .bool false]) ∧ Below w.heap.size w w' := by
  obtain ⟨p, hp, HN⟩ : ∃ p : Bool, (p = true → num = 0 ∨ num = den) ∧ Hid (∀ W : World, Calls Try.prog 45 #[.agg #[.int .i64 num, .int .i64 den]] W fun e w' => e = .returned (.bool p) ∧ Below W.heap.size W w') := by
    by_cases hv : VF num den ∧ 0 ≤ num ∧ num ≤ den
    · exact ⟨true, fun _ => by
        by_cases h0 : num = 0
        · exact .inl h0
        · by_cases h1 : num = den
          · exact .inr h1
          · exact absurd ⟨hv, h0, h1⟩ h, fun W => chance_yes num den W hv.1 hv.2.1 hv.2.2⟩
    · exact ⟨false, (fun e => by (cases e)), fun W => chance_no num den W hv⟩
  have HP := Lib.hid hp
  clear h hp
  go_enter Try.func27, Try.ntmps27
  have A0 := (D2.new w (.int .i64 num) (.int .i64 den) 23).alloc (.cells #[.int .i64 0, .int .i64 0] 23)
  have A1 := D2.new (w.alloc (.cells #[.int .i64 num, .int .i64 den] 23)) (.int .i64 0) (.int .i64 0) 23
  have B : Below w.heap.size w ((w.alloc (.cells #[.int .i64 num, .int .i64 den] 23)).alloc (.cells #[.int .i64 0, .int .i64 0] 23)) :=
    ((Below.refl _ w).alloc (Nat.le_refl _) _).alloc (by simp) _
  simp only [World.size_alloc] at A1
  go_wp2_with fail
  refine (HN.out _).mono ?_
  rintro e w4 ⟨rfl, hb⟩
  replace A0 := A0.far hb
  replace A1 := A1.far hb
  replace B := B.trans (hb.mono B.size)
  clear hb
  obtain ⟨⟨x0, x1⟩, _, _⟩ := id A0
  obtain ⟨p0, p1⟩ := (A1.put (.int .i64 0) (.int .i64 0)).1
  obtain ⟨⟨u0, u1⟩, u2, u3⟩ := id A1
  cases p
  · go_wp2
    unfold putD at p0 p1
    exact bodyPost_ret (v := .tuple #[.agg #[.int .i64 0, .int .i64 0], .bool false]) (by simp [results, Try.results27, go_sem, p0, p1]) rfl ⟨rfl, below_putD B (by omega) _ _⟩
  · by_cases h0 : num = 0
    · have hz : (num == 0) = true := by simp [h0]
      clear h0
      go_wp2
      unfold putD at p0 p1
      exact bodyPost_ret (v := .tuple #[.agg #[.int .i64 0, .int .i64 0], .bool false]) (by simp [results, Try.results27, go_sem, p0, p1]) rfl ⟨rfl, below_putD B (by omega) _ _⟩
    · have h1 : num = den := by rcases HP.out rfl with x | x <;> omega
      have hz : (num == 0) = false := by simp [h0]
      have hz2 : (num == den) = true := by simp [h1]
      clear h0 h1
      go_wp2
      unfold putD at p0 p1
      exact bodyPost_ret (v := .tuple #[.agg #[.int .i64 0, .int .i64 0], .bool false]) (by simp [results, Try.results27, go_sem, p0, p1]) rfl ⟨rfl, below_putD B (by omega) _ _⟩
theorem lawPCost_core (num den n d : Int) (ok : Bool) (w : World)
    (HS : Hid (∀ W : World, Calls Try.prog 27 #[.agg #[.int .i64 num, .int .i64 den]] W fun e w' => e = .returned (.tuple #[.agg #[.int .i64 n, .int .i64 d], .bool ok]) ∧ Below W.heap.size W w'))
    (HI : Hid (∀ W : World, Calls Try.prog 28 #[.agg #[.int .i64 num, .int .i64 den]] W fun e w' => e = .returned (.tuple #[.agg #[.int .i64 n, .int .i64 d], .bool ok]) ∧ Below W.heap.size W w')) :
    Calls Try.prog 10 #[.agg #[.int .i64 num, .int .i64 den]] w fun e w' => e = .returned (.bool true) ∧ Below w.heap.size w w' := by
  have hok : (ok != ok) = false := by simp
  go_enter Try.func10, Try.ntmps10
  have A0 := D2.new w (.int .i64 num) (.int .i64 den) 31
  have B := (Below.refl w.heap.size w).alloc (Nat.le_refl _) (.cells #[.int .i64 num, .int .i64 den] 31)
  go_wp2_with fail
  refine (toFrac_any num den _).mono ?_
  rintro e w1 ⟨rfl, hb⟩
  replace A0 := A0.far hb
  replace B := B.trans (hb.mono B.size)
  clear hb
  go_wp2_with fail
  refine (HS.out _).mono ?_
  rintro e w2 ⟨rfl, hb⟩
  replace A0 := (A0.far hb).alloc (.cells #[.int .i64 n, .int .i64 d] 23)
  replace B := B.trans (hb.mono B.size)
  have A1 := D2.new w2 (.int .i64 n) (.int .i64 d) 23
  replace B := B.alloc B.size (.cells #[.int .i64 n, .int .i64 d] 23)
  clear hb
  obtain ⟨⟨c0, c1⟩, _, _⟩ := id A0
  go_wp2_with fail
  refine (toFrac_any num den _).mono ?_
  rintro e w3 ⟨rfl, hb⟩
  replace A1 := A1.far hb
  replace B := B.trans (hb.mono B.size)
  clear hb c0 c1 A0
  go_wp2_with fail
  refine (HI.out _).mono ?_
  rintro e w4 ⟨rfl, hb⟩
  replace A1 := (A1.far hb).alloc (.cells #[.int .i64 n, .int .i64 d] 23)
  replace B := B.trans (hb.mono B.size)
  have A2 := D2.new w4 (.int .i64 n) (.int .i64 d) 23
  replace B := B.alloc B.size (.cells #[.int .i64 n, .int .i64 d] 23)
  clear hb
  obtain ⟨⟨c0, c1⟩, _, _⟩ := id A1
  obtain ⟨⟨d0, d1⟩, _, _⟩ := id A2
  go_wp2_with fail
  refine (eqFrac_yes _ _ _).mono ?_
  rintro e w5 ⟨rfl, hb⟩
  replace B := B.trans (hb.mono B.size)
  clear hb c0 c1 d0 d1 A1 A2
  go_wp2
  go_ret
  exact ⟨rfl, B⟩
theorem lawPCost (num den : Int) (w : World) :
    Calls Try.prog 10 #[.agg #[.int .i64 num, .int .i64 den]] w fun e w' => e = .returned (.bool true) ∧ Below w.heap.size w w' := by
  by_cases h : VF num den
  · obtain ⟨a, b, ok, hv, ha, _⟩ := add_gives 1 1 (-num) den VF_one h.neg
    have HS : GivesFrac 59 #[.agg #[.int .i64 1, .int .i64 1], .agg #[.int .i64 num, .int .i64 den]] a b ok := fun W => sub_yes 1 1 num den a b ok W h ha
    obtain ⟨e1, e2⟩ := sub_one num den
    obtain ⟨⟨g1, g2, g3, g4⟩, _⟩ := h.out
    by_cases hp : 0 < num ∧ num < den
    · obtain ⟨h0, h1⟩ := hp
      obtain ⟨rfl, rfl, rfl⟩ : a = den - num ∧ b = den ∧ ok = true := by
        rcases hv with ⟨_, r1, r2, r3⟩ | ⟨hno, _⟩
        · exact ⟨r1.trans e1, r2.trans e2, r3⟩
        · exact absurd ⟨by rw [e1]; exact ⟨by omega, by omega⟩, by rw [e2]; exact ⟨by omega, by omega⟩⟩ hno
      have hr := VF_rest h h0 h1
      have v1 := rec_VF h (by omega)
      have v2 := rec_VF hr (by omega)
      have r1 : recN num b = b ∧ recD num = num := by unfold recN recD; rw [if_neg (by omega), if_neg (by omega)]; exact ⟨rfl, rfl⟩
      have r2 : recN (b - num) b = b ∧ recD (b - num) = b - num := by unfold recN recD; rw [if_neg (by omega), if_neg (by omega)]; exact ⟨rfl, rfl⟩
      rw [r1.1, r1.2] at v1
      rw [r2.1, r2.2] at v2
      obtain ⟨c, d, ok1, hv1, hi1, _⟩ := mul_gives 1 1 b num VF_one v1
      obtain ⟨m1, m2, m3⟩ := mul_one h h0 (by omega)
      obtain ⟨rfl, rfl, rfl⟩ : c = b ∧ d = num ∧ ok1 = true := by
        rcases hv1 with ⟨_, q1, q2, q3⟩ | ⟨hno, _⟩
        · exact ⟨q1.trans m2, q2.trans m3, q3⟩
        · exact absurd m1 hno
      obtain ⟨n, e, ok2, _, hi2, hs2⟩ := mul_gives c d c (c - d) v1 v2
      exact lawPCost_core d c n e ok2 w (fun W => specPCost_yes d c n e ok2 W h h0 h1 hs2)
        (fun W => pcost_yes d c n e ok2 W h0 h1 HS (fun W => div_yes 1 1 d c c d true W h (by omega) (by unfold Hid; rw [r1.1, r1.2]; exact hi1)) (fun W => div_yes c d (c - d) c n e ok2 W hr (by omega) (by unfold Hid; rw [r2.1, r2.2]; exact hi2)))
    · refine lawPCost_core num den 0 0 false w (fun W => specPCost_no num den W fun x => hp ?_) (fun W => pcost_no num den a b ok W ?_ HS)
      · obtain ⟨⟨_, x1, x2⟩, x3, x4⟩ := x
        omega
      · intro hok
        rcases hv with ⟨_, r1, r2, r3⟩ | ⟨_, _, _, r3⟩
        · have := r1.trans e1
          omega
        · rw [hok] at r3; cases r3
  · exact lawPCost_core num den 0 0 false w (fun W => specPCost_no num den W fun x => h x.1.1) (fun W => pcost_no num den 0 0 false W (fun e => by cases e) (fun W => sub_no 1 1 num den W h))
end Go.Proofs.Ytamedggnkbhgeab
