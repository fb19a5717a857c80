/- The law of CompareFractions. -/
import Derived.Test.YtpeelgdcjmnhdaaFrCmp
namespace Go.Proofs.Ytpeelgdcjmnhdaa
open Go.RowKit Go.PlainAid
set_option maxHeartbeats 800000

theorem specCmp_yes (fn fd gn gd : Int) (w : World) (hf : VF fn fd) (hg : VF gn gd) :
    Calls Try.prog 19 #[.agg #[.int .i64 fn, .int .i64 fd], .agg #[.int .i64 gn, .int .i64 gd]] w fun e w' => e = .returned (.tuple #[.int .i64 (sgn (fn * gd + -gn * fd)), .bool true]) ∧ Below w.heap.size w w' := by
  have HF := Lib.hid hf
  have HG := Lib.hid hg
  have HC : Hid (∀ W : World, Calls Try.prog 38 #[.agg #[.int .i64 fn, .int .i64 fd], .agg #[.int .i64 gn, .int .i64 gd]] W fun e w' => e = .returned (.int .i64 (sgn (fn * gd + -gn * fd))) ∧ Below W.heap.size W w') := fun W => fcmp_any fn fd gn gd W hf hg
  generalize sgn (fn * gd + -gn * fd) = r at HC ⊢
  clear hf hg
  go_enter Try.func19, Try.ntmps19
  have A0 := (D2.new w (.int .i64 fn) (.int .i64 fd) 24).alloc (.cells #[.int .i64 gn, .int .i64 gd] 24)
  have A1 := D2.new (w.alloc (.cells #[.int .i64 fn, .int .i64 fd] 24)) (.int .i64 gn) (.int .i64 gd) 24
  have B : Below w.heap.size w ((w.alloc (.cells #[.int .i64 fn, .int .i64 fd] 24)).alloc (.cells #[.int .i64 gn, .int .i64 gd] 24)) := ((Below.refl _ w).alloc (Nat.le_refl _) _).alloc (by simp) _
  simp only [World.size_alloc] at A1
  go_wp2_with fail
  refine (fis_yes _ _ _ HF.out).mono ?_
  rintro e w3 ⟨rfl, hb⟩
  replace A0 := A0.far hb
  replace A1 := A1.far hb
  replace B := B.trans (hb.mono B.size)
  clear hb
  obtain ⟨⟨x0, x1⟩, _, _⟩ := id A1
  go_wp2_with fail
  refine (fis_yes _ _ _ HG.out).mono ?_
  rintro e w4 ⟨rfl, hb⟩
  replace A0 := A0.far hb
  replace A1 := A1.far hb
  replace B := B.trans (hb.mono B.size)
  clear hb x0 x1
  obtain ⟨⟨x0, x1⟩, _, _⟩ := id A0
  obtain ⟨⟨x2, x3⟩, _, _⟩ := id A1
  go_wp2_with fail
  refine (HC.out _).mono ?_
  rintro e w5 ⟨rfl, hb⟩
  replace B := B.trans (hb.mono B.size)
  clear hb
  go_wp2
  go_ret2
  exact ⟨rfl, B⟩

theorem specCmp_no (fn fd gn gd : Int) (w : World) (h : ¬ (VF fn fd ∧ VF gn gd)) :
    Calls Try.prog 19 #[.agg #[.int .i64 fn, .int .i64 fd], .agg #[.int .i64 gn, .int .i64 gd]] w fun e w' => e = .returned (.tuple #[.int .i64 0, .bool false]) ∧ Below w.heap.size w w' := by
  have H : ∃ p q : Bool, (p && q) = false ∧ Hid (∀ W : World, Calls Try.prog 26 #[.agg #[.int .i64 fn, .int .i64 fd]] W fun e w' => e = .returned (.bool p) ∧ Below W.heap.size W w') ∧
      Hid (∀ W : World, Calls Try.prog 26 #[.agg #[.int .i64 gn, .int .i64 gd]] W fun e w' => e = .returned (.bool q) ∧ Below W.heap.size W w') := by
    by_cases hf : VF fn fd
    · exact ⟨true, false, rfl, fun W => fis_yes _ _ W hf, fun W => fis_no _ _ W fun x => h ⟨hf, x⟩⟩
    · by_cases hg : VF gn gd
      · exact ⟨false, true, rfl, fun W => fis_no _ _ W hf, fun W => fis_yes _ _ W hg⟩
      · exact ⟨false, false, rfl, fun W => fis_no _ _ W hf, fun W => fis_no _ _ W hg⟩
  obtain ⟨p, q, hpq, HP, HQ⟩ := H
  clear h
  go_enter Try.func19, Try.ntmps19
  have A0 := (D2.new w (.int .i64 fn) (.int .i64 fd) 24).alloc (.cells #[.int .i64 gn, .int .i64 gd] 24)
  have A1 := D2.new (w.alloc (.cells #[.int .i64 fn, .int .i64 fd] 24)) (.int .i64 gn) (.int .i64 gd) 24
  have B : Below w.heap.size w ((w.alloc (.cells #[.int .i64 fn, .int .i64 fd] 24)).alloc (.cells #[.int .i64 gn, .int .i64 gd] 24)) := ((Below.refl _ w).alloc (Nat.le_refl _) _).alloc (by simp) _
  simp only [World.size_alloc] at A1
  cases p
  · go_wp2_with fail
    refine (HP.out _).mono ?_
    rintro e w3 ⟨rfl, hb⟩
    replace B := B.trans (hb.mono B.size)
    clear hb
    go_wp2
    go_ret2
    exact ⟨rfl, B⟩
  · obtain rfl : q = false := by simpa using hpq
    go_wp2_with fail
    refine (HP.out _).mono ?_
    rintro e w3 ⟨rfl, hb⟩
    replace A1 := A1.far hb
    replace B := B.trans (hb.mono B.size)
    clear hb
    obtain ⟨⟨x0, x1⟩, _, _⟩ := id A1
    go_wp2_with fail
    refine (HQ.out _).mono ?_
    rintro e w4 ⟨rfl, hb⟩
    replace B := B.trans (hb.mono B.size)
    clear hb
    go_wp2
    go_ret2
    exact ⟨rfl, B⟩

theorem lawCmp_core (fn fd gn gd r : Int) (ok : Bool) (w : World)
    (HS : Hid (∀ W : World, Calls Try.prog 19 #[.agg #[.int .i64 fn, .int .i64 fd], .agg #[.int .i64 gn, .int .i64 gd]] W fun e w' => e = .returned (.tuple #[.int .i64 r, .bool ok]) ∧ Below W.heap.size W w'))
    (HI : Hid (∀ W : World, Calls Try.prog 20 #[.agg #[.int .i64 fn, .int .i64 fd], .agg #[.int .i64 gn, .int .i64 gd]] W fun e w' => e = .returned (.tuple #[.int .i64 r, .bool ok]) ∧ Below W.heap.size W w')) :
    Calls Try.prog 7 #[.agg #[.int .i64 fn, .int .i64 fd], .agg #[.int .i64 gn, .int .i64 gd]] w fun e w' => e = .returned (.bool true) ∧ Below w.heap.size w w' := by
  have hok : (ok != ok) = false := by simp
  have hr : (r != r) = false := by simp
  have HT : Hid (∀ (n d : Int) (W : World), Calls Try.prog 10 #[.agg #[.int .i64 n, .int .i64 d]] W fun e w' => e = .returned (.agg #[.int .i64 n, .int .i64 d]) ∧ Below W.heap.size W w') := fun n d W => toFrac_any n d W
  go_enter Try.func7, Try.ntmps7
  have A0 := (D2.new w (.int .i64 fn) (.int .i64 fd) 23).alloc (.cells #[.int .i64 gn, .int .i64 gd] 23)
  have A1 := D2.new (w.alloc (.cells #[.int .i64 fn, .int .i64 fd] 23)) (.int .i64 gn) (.int .i64 gd) 23
  have B : Below w.heap.size w ((w.alloc (.cells #[.int .i64 fn, .int .i64 fd] 23)).alloc (.cells #[.int .i64 gn, .int .i64 gd] 23)) := ((Below.refl _ w).alloc (Nat.le_refl _) _).alloc (by simp) _
  simp only [World.size_alloc] at A1
  go_wp2_with fail
  generalize ((w.alloc (.cells #[.int .i64 fn, .int .i64 fd] 23)).alloc (.cells #[.int .i64 gn, .int .i64 gd] 23)) = w1 at A0 A1 B ⊢
  obtain ⟨q0, q1⟩ := (A0.drew).gr (rw := none) (by simp)
  obtain ⟨q2, q3⟩ := (A1.drew).gr (rw := none) (by simp)
  refine wp_region_mix (none) [0, 1, 2, 3, 4, 5, 6, 7, 8, 9] [] (by kernel_rfl) (by kernel_rfl) ?_
  simp only [pickOps, List.filterMap_cons, List.filterMap_nil, List.getElem?_toArray, List.getElem?_cons_succ, List.getElem?_cons_zero]
  repeat (refine wpQuietG_step (fun K hK => ?_); go_simp; first | (refine hK _ ?_; clear hK K) | (apply Exists.intro; refine ⟨fun _ => ?_, hK _ ?_⟩; (first | (with_reducible exact HT.out _ _ _) | (with_reducible exact HS.out _)); clear hK K))
  refine wpQuietG_nil ?_
  clear q0 q1 q2 q3
  intro W2 hW1 hW2
  replace hW1 := gr_undrew hW1
  replace A0 := A0.grow hW1 (by simp)
  replace A1 := A1.grow hW1 (by simp)
  replace B := B.grown hW1 B.size (by simp)
  clear hW1 hW2
  go_wp2_with fail
  obtain ⟨q0, q1⟩ := (A0.drew).gr (rw := none) (by simp)
  obtain ⟨q2, q3⟩ := (A1.drew).gr (rw := none) (by simp)
  refine wp_region_mix (none) [0, 1, 2, 3, 4, 5, 6, 7, 8, 9] [] (by kernel_rfl) (by kernel_rfl) ?_
  simp only [pickOps, List.filterMap_cons, List.filterMap_nil, List.getElem?_toArray, List.getElem?_cons_succ, List.getElem?_cons_zero]
  repeat (refine wpQuietG_step (fun K hK => ?_); go_simp; first | (refine hK _ ?_; clear hK K) | (apply Exists.intro; refine ⟨fun _ => ?_, hK _ ?_⟩; (first | (with_reducible exact HT.out _ _ _) | (with_reducible exact HI.out _)); clear hK K))
  refine wpQuietG_nil ?_
  clear q0 q1 q2 q3
  intro W3 hW1 hW2
  replace hW1 := gr_undrew hW1
  replace B := B.grown hW1 B.size (by simp)
  clear hW1 hW2
  go_wp2
  go_ret
  exact ⟨rfl, B⟩
theorem lawCmpFr (fn fd gn gd : Int) (w : World) :
    Calls Try.prog 7 #[.agg #[.int .i64 fn, .int .i64 fd], .agg #[.int .i64 gn, .int .i64 gd]] w fun e w' => e = .returned (.bool true) ∧ Below w.heap.size w w' := by
  by_cases h : VF fn fd ∧ VF gn gd
  · exact lawCmp_core fn fd gn gd _ true w (fun W => specCmp_yes fn fd gn gd W h.1 h.2) (fun W => compare_yes fn fd gn gd W h.1 h.2)
  · exact lawCmp_core fn fd gn gd 0 false w (fun W => specCmp_no fn fd gn gd W h) (fun W => compare_no fn fd gn gd W h)
end Go.Proofs.Ytpeelgdcjmnhdaa
