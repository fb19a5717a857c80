/- The cost of pairs: impl.PairCost, spec.PairCost, and the law. -/
import Derived.Test.YtamedggnkbhgeaaFrDiv
import Derived.Test.YtamedggnkbhgeaaFrSub
import Derived.Test.YtamedggnkbhgeaaCoin
namespace Go.Proofs.Ytamedggnkbhgeaa
open Go.RowKit Go.PlainAid
set_option maxHeartbeats 1000000

theorem VF_one : VF 1 1 := ⟨by decide, by decide, by decide, by decide, by decide⟩
theorem gcdI_one (n : Int) : gcdI 1 n = 1 := by simp [gcdI]
theorem gcdI_one' (n : Int) : gcdI n 1 = 1 := by simp [gcdI]
theorem sub_one (num den : Int) : addN 1 1 (-num) den = den - num ∧ addD 1 1 (-num) den = den := by
  have h1 : gcdZ 1 den = 1 := by simp [gcdZ]
  have h2 : addS 1 1 (-num) den = den - num := by unfold addS; rw [h1, Int.ediv_one]; omega
  have h3 : addC 1 1 (-num) den = 1 := by unfold addC; rw [h1]; simp [gcdZ]
  exact ⟨by unfold addN; rw [h3, h2, Int.tdiv_one], by unfold addD; rw [h3, h1, Int.ediv_one, Int.ediv_one]; omega⟩
theorem VF_rest {num den : Int} (h : VF num den) : 0 < num → num < den → VF (den - num) den := fun h0 h1 => by
  obtain ⟨⟨g1, g2, g3, g4⟩, _⟩ := h.out
  obtain ⟨G, a, b, c, e, S, N, D, _, _, _, _, _, _, _, _, _, _, _, _, _, _, _, _, _, _, hN, hD, _, hg, _⟩ := add_all 1 1 (-num) den VF_one h.neg
  obtain ⟨e1, e2⟩ := sub_one num den
  rw [e1] at hN
  rw [e2] at hD
  subst hN
  subst hD
  exact ⟨by omega, by omega, by omega, by omega, hg⟩
theorem mul_one {num den : Int} (h : VF num den) : 0 < num → num ≤ den → mulOk 1 1 den num ∧ mulN 1 1 den num = den ∧ mulD 1 1 den num = num := fun h0 h1 => by
  obtain ⟨⟨g1, g2, g3, g4⟩, _⟩ := h.out
  have e1 : mulN 1 1 den num = den := by unfold mulN; rw [gcdI_one, gcdI_one', Int.tdiv_one, Int.tdiv_one]; omega
  have e2 : mulD 1 1 den num = num := by unfold mulD; rw [gcdI_one, gcdI_one', Int.tdiv_one, Int.tdiv_one]; omega
  exact ⟨⟨by rw [e1]; exact ⟨by omega, by omega⟩, by rw [e2]; exact ⟨by omega, by omega⟩⟩, e1, e2⟩
theorem pcost_yes (num den n d : Int) (ok : Bool) (w : World) (h0 : 0 < num) (h1 : num < den)
    (HS : Hid (GivesFrac 59 #[.agg #[.int .i64 1, .int .i64 1], .agg #[.int .i64 num, .int .i64 den]] (den - num) den true))
    (HD : Hid (GivesFrac 60 #[.agg #[.int .i64 1, .int .i64 1], .agg #[.int .i64 num, .int .i64 den]] den num true))
    (HD2 : Hid (GivesFrac 60 #[.agg #[.int .i64 den, .int .i64 num], .agg #[.int .i64 (den - num), .int .i64 den]] n d ok)) :
    Calls Try.prog 24 #[.agg #[.int .i64 num, .int .i64 den]] w fun e w' => e = .returned (.tuple #[.agg #[.int .i64 n, .int .i64 d], .bool ok]) ∧ Below w.heap.size w w' := by
  have HS2 : Hid (∀ W : World, Calls Try.prog 59 #[.agg #[.int .i64 1, .int .i64 1], .agg #[.int .i64 num, .int .i64 den]] W fun e w' => e = .returned (.tuple #[.agg #[.int .i64 (den - num), .int .i64 den], .bool true]) ∧ Below W.heap.size W w') := HS
  have HD3 : Hid (∀ W : World, Calls Try.prog 60 #[.agg #[.int .i64 1, .int .i64 1], .agg #[.int .i64 num, .int .i64 den]] W fun e w' => e = .returned (.tuple #[.agg #[.int .i64 den, .int .i64 num], .bool true]) ∧ Below W.heap.size W w') := HD
  have HD4 : Hid (∀ W : World, Calls Try.prog 60 #[.agg #[.int .i64 den, .int .i64 num], .agg #[.int .i64 (den - num), .int .i64 den]] W fun e w' => e = .returned (.tuple #[.agg #[.int .i64 n, .int .i64 d], .bool ok]) ∧ Below W.heap.size W w') := HD2
  obtain ⟨q, hq⟩ : ∃ q, q = den - num := ⟨_, rfl⟩
  rw [← hq] at HS2 HD4
  have hq0 : 0 < q := by omega
  clear h1 hq HS HD HD2
  go_enter Try.func24, Try.ntmps24
  have A0 := ((D2.new w (.int .i64 num) (.int .i64 den) 37).alloc (.cells #[.int .i64 0, .int .i64 0] 37)).alloc (.cells #[.int .i64 1, .int .i64 1] 37)
  have A1 := (D2.new (w.alloc (.cells #[.int .i64 num, .int .i64 den] 37)) (.int .i64 0) (.int .i64 0) 37).alloc (.cells #[.int .i64 1, .int .i64 1] 37)
  have A2 := D2.new ((w.alloc (.cells #[.int .i64 num, .int .i64 den] 37)).alloc (.cells #[.int .i64 0, .int .i64 0] 37)) (.int .i64 1) (.int .i64 1) 37
  have B : Below w.heap.size w (((w.alloc (.cells #[.int .i64 num, .int .i64 den] 37)).alloc (.cells #[.int .i64 0, .int .i64 0] 37)).alloc (.cells #[.int .i64 1, .int .i64 1] 37)) :=
    (((Below.refl _ w).alloc (Nat.le_refl _) _).alloc (by simp) _).alloc (by simp; omega) _
  simp only [World.size_alloc] at A1 A2
  go_wp2_with fail
  refine (HS2.out _).mono ?_
  rintro e w4 ⟨rfl, hb⟩
  replace A0 := A0.far hb
  replace A1 := A1.far hb
  replace A2 := A2.far hb
  replace B := B.trans (hb.mono B.size)
  clear hb
  have A3 := D2.new w4 (.int .i64 q) (.int .i64 den) 37
  replace A0 := A0.alloc (.cells #[.int .i64 q, .int .i64 den] 37)
  replace A1 := A1.alloc (.cells #[.int .i64 q, .int .i64 den] 37)
  replace A2 := A2.alloc (.cells #[.int .i64 q, .int .i64 den] 37)
  have z4 := B.size
  replace B := B.alloc B.size (.cells #[.int .i64 q, .int .i64 den] 37)
  obtain ⟨⟨x0, x1⟩, _, _⟩ := id A0
  obtain ⟨⟨y0, y1⟩, _, _⟩ := id A2
  go_wp2_with fail
  refine (HD3.out _).mono ?_
  rintro e w5 ⟨rfl, hb⟩
  clear x0 x1 y0 y1 A0 A2
  replace A1 := A1.far hb
  replace A3 := A3.far hb
  replace B := B.trans (hb.mono B.size)
  clear hb
  replace A1 := A1.alloc (.cells #[.int .i64 den, .int .i64 num] 37)
  replace A3 := A3.alloc (.cells #[.int .i64 den, .int .i64 num] 37)
  replace B := B.alloc B.size (.cells #[.int .i64 den, .int .i64 num] 37)
  obtain ⟨⟨x0, x1⟩, _, _⟩ := id A3
  go_wp2_with fail
  refine (HD4.out _).mono ?_
  rintro e w6 ⟨rfl, hb⟩
  clear x0 x1 A3
  replace A1 := A1.far hb
  replace B := B.trans (hb.mono B.size)
  clear hb
  obtain ⟨p0, p1⟩ := (A1.put (.int .i64 n) (.int .i64 d)).1
  obtain ⟨⟨x0, x1⟩, x2, x3⟩ := id A1
  go_wp2
  unfold putD at p0 p1
  exact bodyPost_ret (v := .tuple #[.agg #[.int .i64 n, .int .i64 d], .bool ok]) (by simp [results, Try.results24, go_sem, p0, p1]) rfl ⟨rfl, below_putD B (by omega) _ _⟩
theorem pcost_no (num den n d : Int) (ok : Bool) (w : World) (h : ok = true → num ≤ 0 ∨ n ≤ 0)
    (HS : Hid (GivesFrac 59 #[.agg #[.int .i64 1, .int .i64 1], .agg #[.int .i64 num, .int .i64 den]] n d ok)) :
    Calls Try.prog 24 #[.agg #[.int .i64 num, .int .i64 den]] w fun e w' => e = .returned (.tuple #[.agg #[.int .i64 0, .int .i64 0], .bool false]) ∧ Below w.heap.size w w' := by
  have HS2 : Hid (∀ W : World, Calls Try.prog 59 #[.agg #[.int .i64 1, .int .i64 1], .agg #[.int .i64 num, .int .i64 den]] W fun e w' => e = .returned (.tuple #[.agg #[.int .i64 n, .int .i64 d], .bool ok]) ∧ Below W.heap.size W w') := HS
  have HOK := Lib.hid h
  clear h HS
  go_enter Try.func24, Try.ntmps24
  have A0 := ((D2.new w (.int .i64 num) (.int .i64 den) 37).alloc (.cells #[.int .i64 0, .int .i64 0] 37)).alloc (.cells #[.int .i64 1, .int .i64 1] 37)
  have A1 := (D2.new (w.alloc (.cells #[.int .i64 num, .int .i64 den] 37)) (.int .i64 0) (.int .i64 0) 37).alloc (.cells #[.int .i64 1, .int .i64 1] 37)
  have B : Below w.heap.size w (((w.alloc (.cells #[.int .i64 num, .int .i64 den] 37)).alloc (.cells #[.int .i64 0, .int .i64 0] 37)).alloc (.cells #[.int .i64 1, .int .i64 1] 37)) :=
    (((Below.refl _ w).alloc (Nat.le_refl _) _).alloc (by simp) _).alloc (by simp; omega) _
  simp only [World.size_alloc] at A1
  go_wp2_with fail
  refine (HS2.out _).mono ?_
  rintro e w4 ⟨rfl, hb⟩
  replace A0 := A0.far hb
  replace A1 := A1.far hb
  replace B := B.trans (hb.mono B.size)
  clear hb
  have A3 := D2.new w4 (.int .i64 n) (.int .i64 d) 37
  replace A0 := A0.alloc (.cells #[.int .i64 n, .int .i64 d] 37)
  replace A1 := A1.alloc (.cells #[.int .i64 n, .int .i64 d] 37)
  have z4 := B.size
  replace B := B.alloc B.size (.cells #[.int .i64 n, .int .i64 d] 37)
  obtain ⟨⟨x0, x1⟩, _, _⟩ := id A0
  obtain ⟨⟨y0, y1⟩, _, _⟩ := id A3
  obtain ⟨p0, p1⟩ := (A1.put (.int .i64 0) (.int .i64 0)).1
  obtain ⟨⟨u0, u1⟩, u2, u3⟩ := id A1
  cases ok
  · go_wp2
    unfold putD at p0 p1
    exact bodyPost_ret (v := .tuple #[.agg #[.int .i64 0, .int .i64 0], .bool false]) (by simp [results, Try.results24, go_sem, p0, p1]) rfl ⟨rfl, below_putD B (by omega) _ _⟩
  · by_cases hn : num ≤ 0
    · go_wp2
      unfold putD at p0 p1
      exact bodyPost_ret (v := .tuple #[.agg #[.int .i64 0, .int .i64 0], .bool false]) (by simp [results, Try.results24, go_sem, p0, p1]) rfl ⟨rfl, below_putD B (by omega) _ _⟩
    · have hn2 : n ≤ 0 := by rcases HOK.out rfl with x | x <;> omega
      go_wp2
      unfold putD at p0 p1
      exact bodyPost_ret (v := .tuple #[.agg #[.int .i64 0, .int .i64 0], .bool false]) (by simp [results, Try.results24, go_sem, p0, p1]) rfl ⟨rfl, below_putD B (by omega) _ _⟩

end Go.Proofs.Ytamedggnkbhgeaa
