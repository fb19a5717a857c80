/- The laws of two fractions. -/
import Derived.Test.YtpeelgdcjmnhdaaFrSpec
namespace Go.Proofs.Ytpeelgdcjmnhdaa
open Go.RowKit Go.PlainAid
set_option maxHeartbeats 800000
theorem lawAdd_core (fn fd gn gd n d : Int) (ok : Bool) (w : World) (HS : Hid (GivesFrac 9 #[.agg #[.int .i64 fn, .int .i64 fd], .agg #[.int .i64 gn, .int .i64 gd]] n d ok)) (HI : Hid (GivesFrac 11 #[.agg #[.int .i64 fn, .int .i64 fd], .agg #[.int .i64 gn, .int .i64 gd]] n d ok)) :
    Calls Try.prog 3 #[.agg #[.int .i64 fn, .int .i64 fd], .agg #[.int .i64 gn, .int .i64 gd]] w fun e w' => e = .returned (.bool true) ∧ Below w.heap.size w w' := by
  have hok : (ok != ok) = false := by simp
  have HS2 : Hid (∀ W : World, Calls Try.prog 9 #[.agg #[.int .i64 fn, .int .i64 fd], .agg #[.int .i64 gn, .int .i64 gd]] W fun e w' => e = .returned (.tuple #[.agg #[.int .i64 n, .int .i64 d], .bool ok]) ∧ Below W.heap.size W w') := HS
  have HI2 : Hid (∀ W : World, Calls Try.prog 11 #[.agg #[.int .i64 fn, .int .i64 fd], .agg #[.int .i64 gn, .int .i64 gd]] W fun e w' => e = .returned (.tuple #[.agg #[.int .i64 n, .int .i64 d], .bool ok]) ∧ Below W.heap.size W w') := HI
  clear HS HI
  have HT : Hid (∀ (n d : Int) (W : World), Calls Try.prog 10 #[.agg #[.int .i64 n, .int .i64 d]] W fun e w' => e = .returned (.agg #[.int .i64 n, .int .i64 d]) ∧ Below W.heap.size W w') := fun n d W => toFrac_any n d W
  have HE : Hid (∀ W : World, Calls Try.prog 12 #[.agg #[.int .i64 n, .int .i64 d], .agg #[.int .i64 n, .int .i64 d]] W fun e w' => e = .returned (.bool true) ∧ Below W.heap.size W w') := fun W => eqFrac_yes n d W
  go_enter Try.func3, Try.ntmps3
  have A0 := (D2.new w (.int .i64 fn) (.int .i64 fd) 23).alloc (.cells #[.int .i64 gn, .int .i64 gd] 23)
  have A1 := D2.new (w.alloc (.cells #[.int .i64 fn, .int .i64 fd] 23)) (.int .i64 gn) (.int .i64 gd) 23
  have B : Below w.heap.size w ((w.alloc (.cells #[.int .i64 fn, .int .i64 fd] 23)).alloc (.cells #[.int .i64 gn, .int .i64 gd] 23)) := ((Below.refl _ w).alloc (Nat.le_refl _) _).alloc (by simp) _
  simp only [World.size_alloc] at A1
  go_wp2_with fail
  generalize ((w.alloc (.cells #[.int .i64 fn, .int .i64 fd] 23)).alloc (.cells #[.int .i64 gn, .int .i64 gd] 23)) = w1 at A0 A1 B ⊢
  obtain ⟨q0, q1⟩ := (A0.drew).gr (rw := none) (by simp)
  obtain ⟨q2, q3⟩ := (A1.drew).gr (rw := none) (by simp)
  refine wp_region_mix (none) [0, 1, 2, 3, 4, 5, 6, 7] [8, 9, 10] (by kernel_rfl) (by kernel_rfl) ?_
  simp only [pickOps, List.filterMap_cons, List.filterMap_nil, List.getElem?_toArray, List.getElem?_cons_succ, List.getElem?_cons_zero]
  repeat (refine wpQuietG_step (fun K hK => ?_); go_simp; first | (refine hK _ ?_; clear hK K) | (apply Exists.intro; refine ⟨fun _ => ?_, hK _ ?_⟩; (first | (with_reducible exact HT.out _ _ _) | (with_reducible exact HS2.out _)); clear hK K))
  refine wpQuietG_nil ?_
  clear q0 q1 q2 q3
  intro W2 hW1 hW2
  go_wp2
  refine ⟨gr_alloc hW1 _, ?_⟩
  intro W3 hW3 hW4
  have A3 := (D2.new W2 (.int .i64 0) (.int .i64 0) 24).far hW4
  obtain ⟨⟨x0, x1⟩, x2, x3⟩ := id A3
  have s3 : w1.heap.size ≤ W2.heap.size := hW1.size
  go_wp2
  refine ⟨gr_put hW3 (.inr s3) _ _, ?_⟩
  intro W4 hW5 hW6
  replace A3 := (A3.put (.int .i64 n) (.int .i64 d)).far hW6
  clear hW1 hW2 hW3 hW4 hW6 x0 x1 x2 x3
  go_wp2
  try refine ⟨hW5, ?_⟩
  intro W5 hW7 hW8
  replace hW7 := gr_undrew hW7
  replace A3 := A3.far hW8
  replace A0 := A0.grow hW7 (by simp)
  replace A1 := A1.grow hW7 (by simp)
  replace B := B.grown hW7 B.size (by simp)
  clear hW5 hW7 hW8
  generalize W2.heap.size = g3 at A3 s3 ⊢
  go_wp2_with fail
  obtain ⟨q0, q1⟩ := (A0.drew).gr (rw := none) (by simp)
  obtain ⟨q2, q3⟩ := (A1.drew).gr (rw := none) (by simp)
  refine wp_region_mix (none) [0, 1, 2, 3, 4, 5, 6, 7] [8, 9, 10] (by kernel_rfl) (by kernel_rfl) ?_
  simp only [pickOps, List.filterMap_cons, List.filterMap_nil, List.getElem?_toArray, List.getElem?_cons_succ, List.getElem?_cons_zero]
  repeat (refine wpQuietG_step (fun K hK => ?_); go_simp; first | (refine hK _ ?_; clear hK K) | (apply Exists.intro; refine ⟨fun _ => ?_, hK _ ?_⟩; (first | (with_reducible exact HT.out _ _ _) | (with_reducible exact HI2.out _)); clear hK K))
  refine wpQuietG_nil ?_
  clear q0 q1 q2 q3
  intro W6 hW1 hW2
  go_wp2
  refine ⟨gr_alloc hW1 _, ?_⟩
  intro W7 hW3 hW4
  have A4 := (D2.new W6 (.int .i64 0) (.int .i64 0) 24).far hW4
  obtain ⟨⟨x0, x1⟩, x2, x3⟩ := id A4
  have s4 : W5.heap.size ≤ W6.heap.size := hW1.size
  go_wp2
  refine ⟨gr_put hW3 (.inr s4) _ _, ?_⟩
  intro W8 hW5 hW6
  replace A4 := (A4.put (.int .i64 n) (.int .i64 d)).far hW6
  clear hW1 hW2 hW3 hW4 hW6 x0 x1 x2 x3
  go_wp2
  try refine ⟨hW5, ?_⟩
  intro W9 hW7 hW8
  replace hW7 := gr_undrew hW7
  replace A4 := A4.far hW8
  replace A3 := A3.grow hW7 (by simp)
  replace B := B.grown hW7 B.size (by simp)
  clear hW5 hW7 hW8 A0 A1
  generalize W6.heap.size = g4 at A4 s4 ⊢
  obtain ⟨⟨x0, x1⟩, _, _⟩ := id A3
  obtain ⟨⟨x2, x3⟩, _, _⟩ := id A4
  go_wp2_with fail
  refine (HE.out _).mono ?_
  rintro e w6 ⟨rfl, hb⟩
  replace B := B.trans (hb.mono B.size)
  clear hb
  go_wp2
  go_ret
  exact ⟨rfl, B⟩
theorem lawSub_core (fn fd gn gd n d : Int) (ok : Bool) (w : World) (HS : Hid (GivesFrac 13 #[.agg #[.int .i64 fn, .int .i64 fd], .agg #[.int .i64 gn, .int .i64 gd]] n d ok)) (HI : Hid (GivesFrac 14 #[.agg #[.int .i64 fn, .int .i64 fd], .agg #[.int .i64 gn, .int .i64 gd]] n d ok)) :
    Calls Try.prog 4 #[.agg #[.int .i64 fn, .int .i64 fd], .agg #[.int .i64 gn, .int .i64 gd]] w fun e w' => e = .returned (.bool true) ∧ Below w.heap.size w w' := by
  have hok : (ok != ok) = false := by simp
  have HS2 : Hid (∀ W : World, Calls Try.prog 13 #[.agg #[.int .i64 fn, .int .i64 fd], .agg #[.int .i64 gn, .int .i64 gd]] W fun e w' => e = .returned (.tuple #[.agg #[.int .i64 n, .int .i64 d], .bool ok]) ∧ Below W.heap.size W w') := HS
  have HI2 : Hid (∀ W : World, Calls Try.prog 14 #[.agg #[.int .i64 fn, .int .i64 fd], .agg #[.int .i64 gn, .int .i64 gd]] W fun e w' => e = .returned (.tuple #[.agg #[.int .i64 n, .int .i64 d], .bool ok]) ∧ Below W.heap.size W w') := HI
  clear HS HI
  have HT : Hid (∀ (n d : Int) (W : World), Calls Try.prog 10 #[.agg #[.int .i64 n, .int .i64 d]] W fun e w' => e = .returned (.agg #[.int .i64 n, .int .i64 d]) ∧ Below W.heap.size W w') := fun n d W => toFrac_any n d W
  have HE : Hid (∀ W : World, Calls Try.prog 12 #[.agg #[.int .i64 n, .int .i64 d], .agg #[.int .i64 n, .int .i64 d]] W fun e w' => e = .returned (.bool true) ∧ Below W.heap.size W w') := fun W => eqFrac_yes n d W
  go_enter Try.func4, Try.ntmps4
  have A0 := (D2.new w (.int .i64 fn) (.int .i64 fd) 23).alloc (.cells #[.int .i64 gn, .int .i64 gd] 23)
  have A1 := D2.new (w.alloc (.cells #[.int .i64 fn, .int .i64 fd] 23)) (.int .i64 gn) (.int .i64 gd) 23
  have B : Below w.heap.size w ((w.alloc (.cells #[.int .i64 fn, .int .i64 fd] 23)).alloc (.cells #[.int .i64 gn, .int .i64 gd] 23)) := ((Below.refl _ w).alloc (Nat.le_refl _) _).alloc (by simp) _
  simp only [World.size_alloc] at A1
  go_wp2_with fail
  generalize ((w.alloc (.cells #[.int .i64 fn, .int .i64 fd] 23)).alloc (.cells #[.int .i64 gn, .int .i64 gd] 23)) = w1 at A0 A1 B ⊢
  obtain ⟨q0, q1⟩ := (A0.drew).gr (rw := none) (by simp)
  obtain ⟨q2, q3⟩ := (A1.drew).gr (rw := none) (by simp)
  refine wp_region_mix (none) [0, 1, 2, 3, 4, 5, 6, 7] [8, 9, 10] (by kernel_rfl) (by kernel_rfl) ?_
  simp only [pickOps, List.filterMap_cons, List.filterMap_nil, List.getElem?_toArray, List.getElem?_cons_succ, List.getElem?_cons_zero]
  repeat (refine wpQuietG_step (fun K hK => ?_); go_simp; first | (refine hK _ ?_; clear hK K) | (apply Exists.intro; refine ⟨fun _ => ?_, hK _ ?_⟩; (first | (with_reducible exact HT.out _ _ _) | (with_reducible exact HS2.out _)); clear hK K))
  refine wpQuietG_nil ?_
  clear q0 q1 q2 q3
  intro W2 hW1 hW2
  go_wp2
  refine ⟨gr_alloc hW1 _, ?_⟩
  intro W3 hW3 hW4
  have A3 := (D2.new W2 (.int .i64 0) (.int .i64 0) 24).far hW4
  obtain ⟨⟨x0, x1⟩, x2, x3⟩ := id A3
  have s3 : w1.heap.size ≤ W2.heap.size := hW1.size
  go_wp2
  refine ⟨gr_put hW3 (.inr s3) _ _, ?_⟩
  intro W4 hW5 hW6
  replace A3 := (A3.put (.int .i64 n) (.int .i64 d)).far hW6
  clear hW1 hW2 hW3 hW4 hW6 x0 x1 x2 x3
  go_wp2
  try refine ⟨hW5, ?_⟩
  intro W5 hW7 hW8
  replace hW7 := gr_undrew hW7
  replace A3 := A3.far hW8
  replace A0 := A0.grow hW7 (by simp)
  replace A1 := A1.grow hW7 (by simp)
  replace B := B.grown hW7 B.size (by simp)
  clear hW5 hW7 hW8
  generalize W2.heap.size = g3 at A3 s3 ⊢
  go_wp2_with fail
  obtain ⟨q0, q1⟩ := (A0.drew).gr (rw := none) (by simp)
  obtain ⟨q2, q3⟩ := (A1.drew).gr (rw := none) (by simp)
  refine wp_region_mix (none) [0, 1, 2, 3, 4, 5, 6, 7] [8, 9, 10] (by kernel_rfl) (by kernel_rfl) ?_
  simp only [pickOps, List.filterMap_cons, List.filterMap_nil, List.getElem?_toArray, List.getElem?_cons_succ, List.getElem?_cons_zero]
  repeat (refine wpQuietG_step (fun K hK => ?_); go_simp; first | (refine hK _ ?_; clear hK K) | (apply Exists.intro; refine ⟨fun _ => ?_, hK _ ?_⟩; (first | (with_reducible exact HT.out _ _ _) | (with_reducible exact HI2.out _)); clear hK K))
  refine wpQuietG_nil ?_
  clear q0 q1 q2 q3
  intro W6 hW1 hW2
  go_wp2
  refine ⟨gr_alloc hW1 _, ?_⟩
  intro W7 hW3 hW4
  have A4 := (D2.new W6 (.int .i64 0) (.int .i64 0) 24).far hW4
  obtain ⟨⟨x0, x1⟩, x2, x3⟩ := id A4
  have s4 : W5.heap.size ≤ W6.heap.size := hW1.size
  go_wp2
  refine ⟨gr_put hW3 (.inr s4) _ _, ?_⟩
  intro W8 hW5 hW6
  replace A4 := (A4.put (.int .i64 n) (.int .i64 d)).far hW6
  clear hW1 hW2 hW3 hW4 hW6 x0 x1 x2 x3
  go_wp2
  try refine ⟨hW5, ?_⟩
  intro W9 hW7 hW8
  replace hW7 := gr_undrew hW7
  replace A4 := A4.far hW8
  replace A3 := A3.grow hW7 (by simp)
  replace B := B.grown hW7 B.size (by simp)
  clear hW5 hW7 hW8 A0 A1
  generalize W6.heap.size = g4 at A4 s4 ⊢
  obtain ⟨⟨x0, x1⟩, _, _⟩ := id A3
  obtain ⟨⟨x2, x3⟩, _, _⟩ := id A4
  go_wp2_with fail
  refine (HE.out _).mono ?_
  rintro e w6 ⟨rfl, hb⟩
  replace B := B.trans (hb.mono B.size)
  clear hb
  go_wp2
  go_ret
  exact ⟨rfl, B⟩
theorem lawMul_core (fn fd gn gd n d : Int) (ok : Bool) (w : World) (HS : Hid (GivesFrac 15 #[.agg #[.int .i64 fn, .int .i64 fd], .agg #[.int .i64 gn, .int .i64 gd]] n d ok)) (HI : Hid (GivesFrac 16 #[.agg #[.int .i64 fn, .int .i64 fd], .agg #[.int .i64 gn, .int .i64 gd]] n d ok)) :
    Calls Try.prog 5 #[.agg #[.int .i64 fn, .int .i64 fd], .agg #[.int .i64 gn, .int .i64 gd]] w fun e w' => e = .returned (.bool true) ∧ Below w.heap.size w w' := by
  have hok : (ok != ok) = false := by simp
  have HS2 : Hid (∀ W : World, Calls Try.prog 15 #[.agg #[.int .i64 fn, .int .i64 fd], .agg #[.int .i64 gn, .int .i64 gd]] W fun e w' => e = .returned (.tuple #[.agg #[.int .i64 n, .int .i64 d], .bool ok]) ∧ Below W.heap.size W w') := HS
  have HI2 : Hid (∀ W : World, Calls Try.prog 16 #[.agg #[.int .i64 fn, .int .i64 fd], .agg #[.int .i64 gn, .int .i64 gd]] W fun e w' => e = .returned (.tuple #[.agg #[.int .i64 n, .int .i64 d], .bool ok]) ∧ Below W.heap.size W w') := HI
  clear HS HI
  have HT : Hid (∀ (n d : Int) (W : World), Calls Try.prog 10 #[.agg #[.int .i64 n, .int .i64 d]] W fun e w' => e = .returned (.agg #[.int .i64 n, .int .i64 d]) ∧ Below W.heap.size W w') := fun n d W => toFrac_any n d W
  have HE : Hid (∀ W : World, Calls Try.prog 12 #[.agg #[.int .i64 n, .int .i64 d], .agg #[.int .i64 n, .int .i64 d]] W fun e w' => e = .returned (.bool true) ∧ Below W.heap.size W w') := fun W => eqFrac_yes n d W
  go_enter Try.func5, Try.ntmps5
  have A0 := (D2.new w (.int .i64 fn) (.int .i64 fd) 23).alloc (.cells #[.int .i64 gn, .int .i64 gd] 23)
  have A1 := D2.new (w.alloc (.cells #[.int .i64 fn, .int .i64 fd] 23)) (.int .i64 gn) (.int .i64 gd) 23
  have B : Below w.heap.size w ((w.alloc (.cells #[.int .i64 fn, .int .i64 fd] 23)).alloc (.cells #[.int .i64 gn, .int .i64 gd] 23)) := ((Below.refl _ w).alloc (Nat.le_refl _) _).alloc (by simp) _
  simp only [World.size_alloc] at A1
  go_wp2_with fail
  generalize ((w.alloc (.cells #[.int .i64 fn, .int .i64 fd] 23)).alloc (.cells #[.int .i64 gn, .int .i64 gd] 23)) = w1 at A0 A1 B ⊢
  obtain ⟨q0, q1⟩ := (A0.drew).gr (rw := none) (by simp)
  obtain ⟨q2, q3⟩ := (A1.drew).gr (rw := none) (by simp)
  refine wp_region_mix (none) [0, 1, 2, 3, 4, 5, 6, 7] [8, 9, 10] (by kernel_rfl) (by kernel_rfl) ?_
  simp only [pickOps, List.filterMap_cons, List.filterMap_nil, List.getElem?_toArray, List.getElem?_cons_succ, List.getElem?_cons_zero]
  repeat (refine wpQuietG_step (fun K hK => ?_); go_simp; first | (refine hK _ ?_; clear hK K) | (apply Exists.intro; refine ⟨fun _ => ?_, hK _ ?_⟩; (first | (with_reducible exact HT.out _ _ _) | (with_reducible exact HS2.out _)); clear hK K))
  refine wpQuietG_nil ?_
  clear q0 q1 q2 q3
  intro W2 hW1 hW2
  go_wp2
  refine ⟨gr_alloc hW1 _, ?_⟩
  intro W3 hW3 hW4
  have A3 := (D2.new W2 (.int .i64 0) (.int .i64 0) 24).far hW4
  obtain ⟨⟨x0, x1⟩, x2, x3⟩ := id A3
  have s3 : w1.heap.size ≤ W2.heap.size := hW1.size
  go_wp2
  refine ⟨gr_put hW3 (.inr s3) _ _, ?_⟩
  intro W4 hW5 hW6
  replace A3 := (A3.put (.int .i64 n) (.int .i64 d)).far hW6
  clear hW1 hW2 hW3 hW4 hW6 x0 x1 x2 x3
  go_wp2
  try refine ⟨hW5, ?_⟩
  intro W5 hW7 hW8
  replace hW7 := gr_undrew hW7
  replace A3 := A3.far hW8
  replace A0 := A0.grow hW7 (by simp)
  replace A1 := A1.grow hW7 (by simp)
  replace B := B.grown hW7 B.size (by simp)
  clear hW5 hW7 hW8
  generalize W2.heap.size = g3 at A3 s3 ⊢
  go_wp2_with fail
  obtain ⟨q0, q1⟩ := (A0.drew).gr (rw := none) (by simp)
  obtain ⟨q2, q3⟩ := (A1.drew).gr (rw := none) (by simp)
  refine wp_region_mix (none) [0, 1, 2, 3, 4, 5, 6, 7] [8, 9, 10] (by kernel_rfl) (by kernel_rfl) ?_
  simp only [pickOps, List.filterMap_cons, List.filterMap_nil, List.getElem?_toArray, List.getElem?_cons_succ, List.getElem?_cons_zero]
  repeat (refine wpQuietG_step (fun K hK => ?_); go_simp; first | (refine hK _ ?_; clear hK K) | (apply Exists.intro; refine ⟨fun _ => ?_, hK _ ?_⟩; (first | (with_reducible exact HT.out _ _ _) | (with_reducible exact HI2.out _)); clear hK K))
  refine wpQuietG_nil ?_
  clear q0 q1 q2 q3
  intro W6 hW1 hW2
  go_wp2
  refine ⟨gr_alloc hW1 _, ?_⟩
  intro W7 hW3 hW4
  have A4 := (D2.new W6 (.int .i64 0) (.int .i64 0) 24).far hW4
  obtain ⟨⟨x0, x1⟩, x2, x3⟩ := id A4
  have s4 : W5.heap.size ≤ W6.heap.size := hW1.size
  go_wp2
  refine ⟨gr_put hW3 (.inr s4) _ _, ?_⟩
  intro W8 hW5 hW6
  replace A4 := (A4.put (.int .i64 n) (.int .i64 d)).far hW6
  clear hW1 hW2 hW3 hW4 hW6 x0 x1 x2 x3
  go_wp2
  try refine ⟨hW5, ?_⟩
  intro W9 hW7 hW8
  replace hW7 := gr_undrew hW7
  replace A4 := A4.far hW8
  replace A3 := A3.grow hW7 (by simp)
  replace B := B.grown hW7 B.size (by simp)
  clear hW5 hW7 hW8 A0 A1
  generalize W6.heap.size = g4 at A4 s4 ⊢
  obtain ⟨⟨x0, x1⟩, _, _⟩ := id A3
  obtain ⟨⟨x2, x3⟩, _, _⟩ := id A4
  go_wp2_with fail
  refine (HE.out _).mono ?_
  rintro e w6 ⟨rfl, hb⟩
  replace B := B.trans (hb.mono B.size)
  clear hb
  go_wp2
  go_ret
  exact ⟨rfl, B⟩
theorem lawDiv_core (fn fd gn gd n d : Int) (ok : Bool) (w : World) (HS : Hid (GivesFrac 17 #[.agg #[.int .i64 fn, .int .i64 fd], .agg #[.int .i64 gn, .int .i64 gd]] n d ok)) (HI : Hid (GivesFrac 18 #[.agg #[.int .i64 fn, .int .i64 fd], .agg #[.int .i64 gn, .int .i64 gd]] n d ok)) :
    Calls Try.prog 6 #[.agg #[.int .i64 fn, .int .i64 fd], .agg #[.int .i64 gn, .int .i64 gd]] w fun e w' => e = .returned (.bool true) ∧ Below w.heap.size w w' := by
  have hok : (ok != ok) = false := by simp
  have HS2 : Hid (∀ W : World, Calls Try.prog 17 #[.agg #[.int .i64 fn, .int .i64 fd], .agg #[.int .i64 gn, .int .i64 gd]] W fun e w' => e = .returned (.tuple #[.agg #[.int .i64 n, .int .i64 d], .bool ok]) ∧ Below W.heap.size W w') := HS
  have HI2 : Hid (∀ W : World, Calls Try.prog 18 #[.agg #[.int .i64 fn, .int .i64 fd], .agg #[.int .i64 gn, .int .i64 gd]] W fun e w' => e = .returned (.tuple #[.agg #[.int .i64 n, .int .i64 d], .bool ok]) ∧ Below W.heap.size W w') := HI
  clear HS HI
  have HT : Hid (∀ (n d : Int) (W : World), Calls Try.prog 10 #[.agg #[.int .i64 n, .int .i64 d]] W fun e w' => e = .returned (.agg #[.int .i64 n, .int .i64 d]) ∧ Below W.heap.size W w') := fun n d W => toFrac_any n d W
  have HE : Hid (∀ W : World, Calls Try.prog 12 #[.agg #[.int .i64 n, .int .i64 d], .agg #[.int .i64 n, .int .i64 d]] W fun e w' => e = .returned (.bool true) ∧ Below W.heap.size W w') := fun W => eqFrac_yes n d W
  go_enter Try.func6, Try.ntmps6
  have A0 := (D2.new w (.int .i64 fn) (.int .i64 fd) 23).alloc (.cells #[.int .i64 gn, .int .i64 gd] 23)
  have A1 := D2.new (w.alloc (.cells #[.int .i64 fn, .int .i64 fd] 23)) (.int .i64 gn) (.int .i64 gd) 23
  have B : Below w.heap.size w ((w.alloc (.cells #[.int .i64 fn, .int .i64 fd] 23)).alloc (.cells #[.int .i64 gn, .int .i64 gd] 23)) := ((Below.refl _ w).alloc (Nat.le_refl _) _).alloc (by simp) _
  simp only [World.size_alloc] at A1
  go_wp2_with fail
  generalize ((w.alloc (.cells #[.int .i64 fn, .int .i64 fd] 23)).alloc (.cells #[.int .i64 gn, .int .i64 gd] 23)) = w1 at A0 A1 B ⊢
  obtain ⟨q0, q1⟩ := (A0.drew).gr (rw := none) (by simp)
  obtain ⟨q2, q3⟩ := (A1.drew).gr (rw := none) (by simp)
  refine wp_region_mix (none) [0, 1, 2, 3, 4, 5, 6, 7] [8, 9, 10] (by kernel_rfl) (by kernel_rfl) ?_
  simp only [pickOps, List.filterMap_cons, List.filterMap_nil, List.getElem?_toArray, List.getElem?_cons_succ, List.getElem?_cons_zero]
  repeat (refine wpQuietG_step (fun K hK => ?_); go_simp; first | (refine hK _ ?_; clear hK K) | (apply Exists.intro; refine ⟨fun _ => ?_, hK _ ?_⟩; (first | (with_reducible exact HT.out _ _ _) | (with_reducible exact HS2.out _)); clear hK K))
  refine wpQuietG_nil ?_
  clear q0 q1 q2 q3
  intro W2 hW1 hW2
  go_wp2
  refine ⟨gr_alloc hW1 _, ?_⟩
  intro W3 hW3 hW4
  have A3 := (D2.new W2 (.int .i64 0) (.int .i64 0) 24).far hW4
  obtain ⟨⟨x0, x1⟩, x2, x3⟩ := id A3
  have s3 : w1.heap.size ≤ W2.heap.size := hW1.size
  go_wp2
  refine ⟨gr_put hW3 (.inr s3) _ _, ?_⟩
  intro W4 hW5 hW6
  replace A3 := (A3.put (.int .i64 n) (.int .i64 d)).far hW6
  clear hW1 hW2 hW3 hW4 hW6 x0 x1 x2 x3
  go_wp2
  try refine ⟨hW5, ?_⟩
  intro W5 hW7 hW8
  replace hW7 := gr_undrew hW7
  replace A3 := A3.far hW8
  replace A0 := A0.grow hW7 (by simp)
  replace A1 := A1.grow hW7 (by simp)
  replace B := B.grown hW7 B.size (by simp)
  clear hW5 hW7 hW8
  generalize W2.heap.size = g3 at A3 s3 ⊢
  go_wp2_with fail
  obtain ⟨q0, q1⟩ := (A0.drew).gr (rw := none) (by simp)
  obtain ⟨q2, q3⟩ := (A1.drew).gr (rw := none) (by simp)
  refine wp_region_mix (none) [0, 1, 2, 3, 4, 5, 6, 7] [8, 9, 10] (by kernel_rfl) (by kernel_rfl) ?_
  simp only [pickOps, List.filterMap_cons, List.filterMap_nil, List.getElem?_toArray, List.getElem?_cons_succ, List.getElem?_cons_zero]
  repeat (refine wpQuietG_step (fun K hK => ?_); go_simp; first | (refine hK _ ?_; clear hK K) | (apply Exists.intro; refine ⟨fun _ => ?_, hK _ ?_⟩; (first | (with_reducible exact HT.out _ _ _) | (with_reducible exact HI2.out _)); clear hK K))
  refine wpQuietG_nil ?_
  clear q0 q1 q2 q3
  intro W6 hW1 hW2
  go_wp2
  refine ⟨gr_alloc hW1 _, ?_⟩
  intro W7 hW3 hW4
  have A4 := (D2.new W6 (.int .i64 0) (.int .i64 0) 24).far hW4
  obtain ⟨⟨x0, x1⟩, x2, x3⟩ := id A4
  have s4 : W5.heap.size ≤ W6.heap.size := hW1.size
  go_wp2
  refine ⟨gr_put hW3 (.inr s4) _ _, ?_⟩
  intro W8 hW5 hW6
  replace A4 := (A4.put (.int .i64 n) (.int .i64 d)).far hW6
  clear hW1 hW2 hW3 hW4 hW6 x0 x1 x2 x3
  go_wp2
  try refine ⟨hW5, ?_⟩
  intro W9 hW7 hW8
  replace hW7 := gr_undrew hW7
  replace A4 := A4.far hW8
  replace A3 := A3.grow hW7 (by simp)
  replace B := B.grown hW7 B.size (by simp)
  clear hW5 hW7 hW8 A0 A1
  generalize W6.heap.size = g4 at A4 s4 ⊢
  obtain ⟨⟨x0, x1⟩, _, _⟩ := id A3
  obtain ⟨⟨x2, x3⟩, _, _⟩ := id A4
  go_wp2_with fail
  refine (HE.out _).mono ?_
  rintro e w6 ⟨rfl, hb⟩
  replace B := B.trans (hb.mono B.size)
  clear hb
  go_wp2
  go_ret
  exact ⟨rfl, B⟩
theorem lawAddFr (fn fd gn gd : Int) (w : World) :
    Calls Try.prog 3 #[.agg #[.int .i64 fn, .int .i64 fd], .agg #[.int .i64 gn, .int .i64 gd]] w fun e w' => e = .returned (.bool true) ∧ Below w.heap.size w w' := by
  by_cases h : VF fn fd ∧ VF gn gd
  · obtain ⟨n, d, ok, _, h1, h2⟩ := add_gives fn fd gn gd h.1 h.2
    exact lawAdd_core fn fd gn gd n d ok w (fun W => specAdd_yes fn fd gn gd n d ok W h.1 h.2 h2) h1
  · exact lawAdd_core fn fd gn gd 0 0 false w (fun W => specAdd_no fn fd gn gd W h) (fun W => add_no fn fd gn gd W h)
end Go.Proofs.Ytpeelgdcjmnhdaa
