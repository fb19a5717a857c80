/- Differences of fractions: impl.SubFractions, spec.l01FNeg, SubFractions, MulFractions, DivFractions, and their laws. -/
import Derived.Test.YtpeelgdcjmnhdaaFrLaw
namespace Go.Proofs.Ytpeelgdcjmnhdaa
open Go.RowKit Go.PlainAid
set_option maxHeartbeats 800000

theorem fneg_any (n d : Int) (w : World) (h1 : -1000000000000000000 ≤ n) (h2 : n ≤ 1000000000000000000) :
    Calls Try.prog 35 #[.agg #[.int .i64 n, .int .i64 d]] w fun e w' => e = .returned (.agg #[.int .i64 (-n), .int .i64 d]) ∧ Below w.heap.size w w' := by
  have w1 : IntKind.i64.wrap (-n) = -n := IntWalk.i64_in _ (by omega)
  clear h1 h2
  go_enter Try.func35, Try.ntmps35
  go_wp2
  go_returns
  exact ⟨rfl, by go_grown⟩

theorem specSub_yes (fn fd gn gd n d : Int) (ok : Bool) (w : World) (hf : VF fn fd) (hg : VF gn gd) (HC : Hid (GivesFrac 27 #[.agg #[.int .i64 fn, .int .i64 fd], .agg #[.int .i64 (-gn), .int .i64 gd]] n d ok)) :
    Calls Try.prog 13 #[.agg #[.int .i64 fn, .int .i64 fd], .agg #[.int .i64 gn, .int .i64 gd]] w fun e w' => e = .returned (.tuple #[.agg #[.int .i64 n, .int .i64 d], .bool ok]) ∧ Below w.heap.size w w' := by
  have HF := Lib.hid hf
  have HG := Lib.hid hg
  have HN : Hid (∀ W : World, Calls Try.prog 35 #[.agg #[.int .i64 gn, .int .i64 gd]] W fun e w' => e = .returned (.agg #[.int .i64 (-gn), .int .i64 gd]) ∧ Below W.heap.size W w') := fun W => fneg_any gn gd W hg.2.2.1 hg.2.2.2.1
  have HC2 : Hid (∀ W : World, Calls Try.prog 27 #[.agg #[.int .i64 fn, .int .i64 fd], .agg #[.int .i64 (-gn), .int .i64 gd]] W fun e w' => e = .returned (.tuple #[.agg #[.int .i64 n, .int .i64 d], .bool ok]) ∧ Below W.heap.size W w') := HC
  clear hf hg HC
  go_enter Try.func13, Try.ntmps13
  have A0 := ((D2.new w (.int .i64 fn) (.int .i64 fd) 24).alloc (.cells #[.int .i64 gn, .int .i64 gd] 24)).alloc (.cells #[.int .i64 0, .int .i64 0] 24)
  have A1 := (D2.new (w.alloc (.cells #[.int .i64 fn, .int .i64 fd] 24)) (.int .i64 gn) (.int .i64 gd) 24).alloc (.cells #[.int .i64 0, .int .i64 0] 24)
  have A2 := (D2.new ((w.alloc (.cells #[.int .i64 fn, .int .i64 fd] 24)).alloc (.cells #[.int .i64 gn, .int .i64 gd] 24)) (.int .i64 0) (.int .i64 0) 24)
  have B : Below w.heap.size w (((w.alloc (.cells #[.int .i64 fn, .int .i64 fd] 24)).alloc (.cells #[.int .i64 gn, .int .i64 gd] 24)).alloc (.cells #[.int .i64 0, .int .i64 0] 24)) :=
    (((Below.refl _ w).alloc (Nat.le_refl _) _).alloc (by simp) _).alloc (by simp; omega) _
  simp only [World.size_alloc] at A1 A2
  go_wp2_with fail
  refine (fis_yes _ _ _ HF.out).mono ?_
  rintro e w3 ⟨rfl, hb⟩
  replace A0 := A0.far hb
  replace A1 := A1.far hb
  replace A2 := A2.far hb
  replace B := B.trans (hb.mono B.size)
  clear hb
  obtain ⟨⟨x0, x1⟩, _, _⟩ := id A1
  go_wp2_with fail
  refine (fis_yes _ _ _ HG.out).mono ?_
  rintro e w4 ⟨rfl, hb⟩
  replace A0 := A0.far hb
  replace A1 := A1.far hb
  replace A2 := A2.far hb
  replace B := B.trans (hb.mono B.size)
  clear hb x0 x1
  go_wp2_with fail
  obtain ⟨q0, q1⟩ := (A0.drew).gr (rw := some (w.heap.size + 1 + 1)) (fun e => by have := Option.some.inj e; omega)
  obtain ⟨q2, q3⟩ := (A1.drew).gr (rw := some (w.heap.size + 1 + 1)) (fun e => by have := Option.some.inj e; omega)
  refine wp_region_mix (some (w.heap.size + 1 + 1)) [0, 1, 2, 3, 4, 5] [6, 7] (by kernel_rfl) (by kernel_rfl) ?_
  simp only [pickOps, List.filterMap_cons, List.filterMap_nil, List.getElem?_toArray, List.getElem?_cons_succ, List.getElem?_cons_zero]
  repeat (refine wpQuietG_step (fun K hK => ?_); go_simp; first | (refine hK _ ?_; clear hK K) | (apply Exists.intro; refine ⟨fun _ => ?_, hK _ ?_⟩; (first | (with_reducible exact HN.out _) | (with_reducible exact HC2.out _)); clear hK K))
  refine wpQuietG_nil ?_
  clear q0 q1 q2 q3 A0 A1
  intro W5 hW1 hW2
  replace A2 := A2.far (of_drew hW2)
  obtain ⟨⟨x0, x1⟩, x2, x3⟩ := id A2
  go_wp2
  refine ⟨gr_put hW1 (.inl rfl) _ _, ?_⟩
  intro W6 hW3 hW4
  replace A2 := (A2.put (.int .i64 n) (.int .i64 d)).far hW4
  go_wp2
  try refine ⟨hW3, ?_⟩
  intro W7 hW5 hW6
  replace hW5 := gr_undrew hW5
  obtain ⟨p0, p1⟩ := (A2.far hW6).1
  go_wp2
  exact bodyPost_ret (v := .tuple #[.agg #[.int .i64 n, .int .i64 d], .bool ok]) (by simp [results, Try.results13, go_sem, p0, p1]) rfl ⟨rfl, B.grown hW5 B.size (by simp; omega)⟩

theorem specSub_no (fn fd gn gd : Int) (w : World) (h : ¬ (VF fn fd ∧ VF gn gd)) :
    Calls Try.prog 13 #[.agg #[.int .i64 fn, .int .i64 fd], .agg #[.int .i64 gn, .int .i64 gd]] w fun e w' => e = .returned (.tuple #[.agg #[.int .i64 0, .int .i64 0], .bool false]) ∧ Below w.heap.size w w' := by
  have H : ∃ p q : Bool, (p && q) = false ∧ Hid (∀ W : World, Calls Try.prog 26 #[.agg #[.int .i64 fn, .int .i64 fd]] W fun e w' => e = .returned (.bool p) ∧ Below W.heap.size W w') ∧
      Hid (∀ W : World, Calls Try.prog 26 #[.agg #[.int .i64 gn, .int .i64 gd]] W fun e w' => e = .returned (.bool q) ∧ Below W.heap.size W w') := by
    by_cases hf : VF fn fd
    · exact ⟨true, false, rfl, fun W => fis_yes _ _ W hf, fun W => fis_no _ _ W fun x => h ⟨hf, x⟩⟩
    · by_cases hg : VF gn gd
      · exact ⟨false, true, rfl, fun W => fis_no _ _ W hf, fun W => fis_yes _ _ W hg⟩
      · exact ⟨false, false, rfl, fun W => fis_no _ _ W hf, fun W => fis_no _ _ W hg⟩
  obtain ⟨p, q, hpq, HP, HQ⟩ := H
  clear h
  go_enter Try.func13, Try.ntmps13
  have A1 := (D2.new (w.alloc (.cells #[.int .i64 fn, .int .i64 fd] 24)) (.int .i64 gn) (.int .i64 gd) 24).alloc (.cells #[.int .i64 0, .int .i64 0] 24)
  have A2 := (D2.new ((w.alloc (.cells #[.int .i64 fn, .int .i64 fd] 24)).alloc (.cells #[.int .i64 gn, .int .i64 gd] 24)) (.int .i64 0) (.int .i64 0) 24)
  have B : Below w.heap.size w (((w.alloc (.cells #[.int .i64 fn, .int .i64 fd] 24)).alloc (.cells #[.int .i64 gn, .int .i64 gd] 24)).alloc (.cells #[.int .i64 0, .int .i64 0] 24)) :=
    (((Below.refl _ w).alloc (Nat.le_refl _) _).alloc (by simp) _).alloc (by simp; omega) _
  simp only [World.size_alloc] at A1 A2
  cases p
  · go_wp2_with fail
    refine (HP.out _).mono ?_
    rintro e w3 ⟨rfl, hb⟩
    replace A2 := A2.far hb
    replace B := B.trans (hb.mono B.size)
    clear hb A1
    obtain ⟨p0, p1⟩ := (A2.put (.int .i64 0) (.int .i64 0)).1
    obtain ⟨⟨x0, x1⟩, x2, x3⟩ := id A2
    go_wp2
    unfold putD at p0 p1
    exact bodyPost_ret (v := .tuple #[.agg #[.int .i64 0, .int .i64 0], .bool false]) (by simp [results, Try.results13, go_sem, p0, p1]) rfl ⟨rfl, below_putD B (by omega) _ _⟩
  · obtain rfl : q = false := by simpa using hpq
    go_wp2_with fail
    refine (HP.out _).mono ?_
    rintro e w3 ⟨rfl, hb⟩
    replace A1 := A1.far hb
    replace A2 := A2.far hb
    replace B := B.trans (hb.mono B.size)
    clear hb
    obtain ⟨⟨x0, x1⟩, _, _⟩ := id A1
    go_wp2_with fail
    refine (HQ.out _).mono ?_
    rintro e w4 ⟨rfl, hb⟩
    replace A2 := A2.far hb
    replace B := B.trans (hb.mono B.size)
    clear hb A1 x0 x1
    obtain ⟨p0, p1⟩ := (A2.put (.int .i64 0) (.int .i64 0)).1
    obtain ⟨⟨x0, x1⟩, x2, x3⟩ := id A2
    go_wp2
    unfold putD at p0 p1
    exact bodyPost_ret (v := .tuple #[.agg #[.int .i64 0, .int .i64 0], .bool false]) (by simp [results, Try.results13, go_sem, p0, p1]) rfl ⟨rfl, below_putD B (by omega) _ _⟩
theorem sub_yes (fn fd gn gd n d : Int) (ok : Bool) (w : World) (hg : VF gn gd) (HC : Hid (GivesFrac 11 #[.agg #[.int .i64 fn, .int .i64 fd], .agg #[.int .i64 (-gn), .int .i64 gd]] n d ok)) :
    Calls Try.prog 14 #[.agg #[.int .i64 fn, .int .i64 fd], .agg #[.int .i64 gn, .int .i64 gd]] w fun e w' => e = .returned (.tuple #[.agg #[.int .i64 n, .int .i64 d], .bool ok]) ∧ Below w.heap.size w w' := by
  have HG := Lib.hid hg
  have w1 : IntKind.i64.wrap (-gn) = -gn := IntWalk.i64_in _ (by have := hg.2.2.1; have := hg.2.2.2.1; omega)
  clear hg
  go_enter Try.func14, Try.ntmps14
  have A0 := ((D2.new w (.int .i64 fn) (.int .i64 fd) 24).alloc (.cells #[.int .i64 gn, .int .i64 gd] 24)).alloc (.cells #[.int .i64 0, .int .i64 0] 24)
  have A1 := (D2.new (w.alloc (.cells #[.int .i64 fn, .int .i64 fd] 24)) (.int .i64 gn) (.int .i64 gd) 24).alloc (.cells #[.int .i64 0, .int .i64 0] 24)
  have A2 := (D2.new ((w.alloc (.cells #[.int .i64 fn, .int .i64 fd] 24)).alloc (.cells #[.int .i64 gn, .int .i64 gd] 24)) (.int .i64 0) (.int .i64 0) 24)
  have B : Below w.heap.size w (((w.alloc (.cells #[.int .i64 fn, .int .i64 fd] 24)).alloc (.cells #[.int .i64 gn, .int .i64 gd] 24)).alloc (.cells #[.int .i64 0, .int .i64 0] 24)) :=
    (((Below.refl _ w).alloc (Nat.le_refl _) _).alloc (by simp) _).alloc (by simp; omega) _
  simp only [World.size_alloc] at A1 A2
  go_wp2_with fail
  refine (valid_yes _ _ _ HG.out).mono ?_
  rintro e w4 ⟨rfl, hb⟩
  replace A0 := A0.far hb
  replace A1 := A1.far hb
  replace A2 := A2.far hb
  replace B := B.trans (hb.mono B.size)
  clear hb
  obtain ⟨⟨x0, x1⟩, _, _⟩ := id A0
  obtain ⟨⟨x2, x3⟩, _, _⟩ := id A1
  go_wp2_with fail
  refine (HC.out _).mono ?_
  rintro e w5 ⟨rfl, hb⟩
  replace A2 := A2.far hb
  replace B := B.trans (hb.mono B.size)
  clear hb x0 x1 x2 x3 A0 A1
  obtain ⟨p0, p1⟩ := (A2.put (.int .i64 n) (.int .i64 d)).1
  obtain ⟨⟨x0, x1⟩, x2, x3⟩ := id A2
  go_wp2
  unfold putD at p0 p1
  exact bodyPost_ret (v := .tuple #[.agg #[.int .i64 n, .int .i64 d], .bool ok]) (by simp [results, Try.results14, go_sem, p0, p1]) rfl ⟨rfl, below_putD B (by omega) _ _⟩

theorem sub_no (fn fd gn gd : Int) (w : World) (hg : ¬ VF gn gd) :
    Calls Try.prog 14 #[.agg #[.int .i64 fn, .int .i64 fd], .agg #[.int .i64 gn, .int .i64 gd]] w fun e w' => e = .returned (.tuple #[.agg #[.int .i64 0, .int .i64 0], .bool false]) ∧ Below w.heap.size w w' := by
  have HG := Lib.hid hg
  clear hg
  go_enter Try.func14, Try.ntmps14
  have A0 := ((D2.new w (.int .i64 fn) (.int .i64 fd) 24).alloc (.cells #[.int .i64 gn, .int .i64 gd] 24)).alloc (.cells #[.int .i64 0, .int .i64 0] 24)
  have A1 := (D2.new (w.alloc (.cells #[.int .i64 fn, .int .i64 fd] 24)) (.int .i64 gn) (.int .i64 gd) 24).alloc (.cells #[.int .i64 0, .int .i64 0] 24)
  have A2 := (D2.new ((w.alloc (.cells #[.int .i64 fn, .int .i64 fd] 24)).alloc (.cells #[.int .i64 gn, .int .i64 gd] 24)) (.int .i64 0) (.int .i64 0) 24)
  have B : Below w.heap.size w (((w.alloc (.cells #[.int .i64 fn, .int .i64 fd] 24)).alloc (.cells #[.int .i64 gn, .int .i64 gd] 24)).alloc (.cells #[.int .i64 0, .int .i64 0] 24)) :=
    (((Below.refl _ w).alloc (Nat.le_refl _) _).alloc (by simp) _).alloc (by simp; omega) _
  simp only [World.size_alloc] at A1 A2
  go_wp2_with fail
  refine (valid_no _ _ _ HG.out).mono ?_
  rintro e w4 ⟨rfl, hb⟩
  replace A2 := A2.far hb
  replace B := B.trans (hb.mono B.size)
  clear hb A0 A1
  obtain ⟨p0, p1⟩ := (A2.put (.int .i64 0) (.int .i64 0)).1
  obtain ⟨⟨x0, x1⟩, x2, x3⟩ := id A2
  go_wp2
  unfold putD at p0 p1
  exact bodyPost_ret (v := .tuple #[.agg #[.int .i64 0, .int .i64 0], .bool false]) (by simp [results, Try.results14, go_sem, p0, p1]) rfl ⟨rfl, below_putD B (by omega) _ _⟩

theorem lawSubFr (fn fd gn gd : Int) (w : World) :
    Calls Try.prog 4 #[.agg #[.int .i64 fn, .int .i64 fd], .agg #[.int .i64 gn, .int .i64 gd]] w fun e w' => e = .returned (.bool true) ∧ Below w.heap.size w w' := by
  by_cases hg : VF gn gd
  · by_cases hf : VF fn fd
    · obtain ⟨n, d, ok, _, h1, h2⟩ := add_gives fn fd (-gn) gd hf hg.neg
      exact lawSub_core fn fd gn gd n d ok w (fun W => specSub_yes fn fd gn gd n d ok W hf hg h2) (fun W => sub_yes fn fd gn gd n d ok W hg h1)
    · exact lawSub_core fn fd gn gd 0 0 false w (fun W => specSub_no fn fd gn gd W fun x => hf x.1) (fun W => sub_yes fn fd gn gd 0 0 false W hg fun W => add_no fn fd (-gn) gd W fun x => hf x.1)
  · exact lawSub_core fn fd gn gd 0 0 false w (fun W => specSub_no fn fd gn gd W fun x => hg x.2) (fun W => sub_no fn fd gn gd W hg)
end Go.Proofs.Ytpeelgdcjmnhdaa
