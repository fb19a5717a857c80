/- Quotients of fractions: impl.DivFractions, spec.DivFractions, and the law. -/
import Derived.Test.YtpeelgdcjmnhdaaFrMul
namespace Go.Proofs.Ytpeelgdcjmnhdaa
open Go.RowKit Go.PlainAid
set_option maxHeartbeats 800000

/-- one divided by a fraction -/
def recN (gn gd : Int) : Int := if gn < 0 then -gd else gd
def recD (gn : Int) : Int := if gn < 0 then -gn else gn
theorem rec_VF {gn gd : Int} (hg : VF gn gd) (h0 : gn ≠ 0) : VF (recN gn gd) (recD gn) := by
  obtain ⟨⟨g1, g2, g3, g4⟩, g5⟩ := hg.out
  unfold recN recD
  by_cases h : gn < 0
  · rw [if_pos h, if_pos h]
    refine ⟨by omega, by omega, by omega, by omega, ?_⟩
    rw [gcdI_neg, gcdI_comm, gcdI_neg]
    exact g5
  · rw [if_neg h, if_neg h]
    refine ⟨by omega, by omega, by omega, by omega, ?_⟩
    rw [gcdI_comm]
    exact g5
theorem rec_mk {gn gd : Int} (hg : VF gn gd) : mkN gd gn = recN gn gd ∧ mkD gd gn = recD gn := by
  obtain ⟨_, g5⟩ := hg.out
  unfold mkN mkD recN recD
  rw [gcdI_comm gd gn, g5, Int.tdiv_one, Int.tdiv_one]
  exact ⟨rfl, rfl⟩

theorem div_yes (fn fd gn gd n d : Int) (ok : Bool) (w : World) (hg : VF gn gd) (h0 : gn ≠ 0) (HC : Hid (GivesFrac 16 #[.agg #[.int .i64 fn, .int .i64 fd], .agg #[.int .i64 (recN gn gd), .int .i64 (recD gn)]] n d ok)) :
    Calls Try.prog 18 #[.agg #[.int .i64 fn, .int .i64 fd], .agg #[.int .i64 gn, .int .i64 gd]] w fun e w' => e = .returned (.tuple #[.agg #[.int .i64 n, .int .i64 d], .bool ok]) ∧ Below w.heap.size w w' := by
  have HG := Lib.hid hg
  have b0 : (gn == 0) = false := by simp [h0]
  have w1 : IntKind.i64.wrap (-gn) = -gn := IntWalk.i64_in _ (by have := hg.2.2.1; have := hg.2.2.2.1; omega)
  have w2 : IntKind.i64.wrap (-gd) = -gd := IntWalk.i64_in _ (by have := hg.1; have := hg.2.1; omega)
  clear h0
  by_cases hs : gn < 0
  · have HR : Hid (recN gn gd = -gd ∧ recD gn = -gn) := by unfold Hid recN recD; rw [if_pos hs, if_pos hs]; exact ⟨rfl, rfl⟩
    rw [HR.out.1, HR.out.2] at HC
    clear hg
    go_enter Try.func18, Try.ntmps18
    have A0 := ((D2.new w (.int .i64 fn) (.int .i64 fd) 24).alloc (.cells #[.int .i64 gn, .int .i64 gd] 24)).alloc (.cells #[.int .i64 0, .int .i64 0] 24)
    have A1 := (D2.new (w.alloc (.cells #[.int .i64 fn, .int .i64 fd] 24)) (.int .i64 gn) (.int .i64 gd) 24).alloc (.cells #[.int .i64 0, .int .i64 0] 24)
    have A2 := (D2.new ((w.alloc (.cells #[.int .i64 fn, .int .i64 fd] 24)).alloc (.cells #[.int .i64 gn, .int .i64 gd] 24)) (.int .i64 0) (.int .i64 0) 24)
    have B : Below w.heap.size w (((w.alloc (.cells #[.int .i64 fn, .int .i64 fd] 24)).alloc (.cells #[.int .i64 gn, .int .i64 gd] 24)).alloc (.cells #[.int .i64 0, .int .i64 0] 24)) :=
      (((Below.refl _ w).alloc (Nat.le_refl _) _).alloc (by simp) _).alloc (by simp; omega) _
    simp only [World.size_alloc] at A1 A2
    go_wp2_with fail
    refine (valid_yes _ _ _ HG.out).mono ?_
    rintro e w4 ⟨rfl, hb⟩
    replace A0 := A0.far hb
    replace A1 := A1.far hb
    replace A2 := A2.far hb
    replace B := B.trans (hb.mono B.size)
    clear hb
    obtain ⟨⟨x0, x1⟩, _, _⟩ := id A0
    obtain ⟨⟨x2, x3⟩, _, _⟩ := id A1
    go_wp2_with fail
    refine (HC.out _).mono ?_
    rintro e w5 ⟨rfl, hb⟩
    replace A2 := A2.far hb
    replace B := B.trans (hb.mono B.size)
    clear hb x0 x1 x2 x3 A0 A1
    obtain ⟨p0, p1⟩ := (A2.put (.int .i64 n) (.int .i64 d)).1
    obtain ⟨⟨x0, x1⟩, x2, x3⟩ := id A2
    go_wp2
    unfold putD at p0 p1
    exact bodyPost_ret (v := .tuple #[.agg #[.int .i64 n, .int .i64 d], .bool ok]) (by simp [results, Try.results18, go_sem, p0, p1]) rfl ⟨rfl, below_putD B (by omega) _ _⟩
  · have HR : Hid (recN gn gd = gd ∧ recD gn = gn) := by unfold Hid recN recD; rw [if_neg hs, if_neg hs]; exact ⟨rfl, rfl⟩
    rw [HR.out.1, HR.out.2] at HC
    clear hg
    go_enter Try.func18, Try.ntmps18
    have A0 := ((D2.new w (.int .i64 fn) (.int .i64 fd) 24).alloc (.cells #[.int .i64 gn, .int .i64 gd] 24)).alloc (.cells #[.int .i64 0, .int .i64 0] 24)
    have A1 := (D2.new (w.alloc (.cells #[.int .i64 fn, .int .i64 fd] 24)) (.int .i64 gn) (.int .i64 gd) 24).alloc (.cells #[.int .i64 0, .int .i64 0] 24)
    have A2 := (D2.new ((w.alloc (.cells #[.int .i64 fn, .int .i64 fd] 24)).alloc (.cells #[.int .i64 gn, .int .i64 gd] 24)) (.int .i64 0) (.int .i64 0) 24)
    have B : Below w.heap.size w (((w.alloc (.cells #[.int .i64 fn, .int .i64 fd] 24)).alloc (.cells #[.int .i64 gn, .int .i64 gd] 24)).alloc (.cells #[.int .i64 0, .int .i64 0] 24)) :=
      (((Below.refl _ w).alloc (Nat.le_refl _) _).alloc (by simp) _).alloc (by simp; omega) _
    simp only [World.size_alloc] at A1 A2
    go_wp2_with fail
    refine (valid_yes _ _ _ HG.out).mono ?_
    rintro e w4 ⟨rfl, hb⟩
    replace A0 := A0.far hb
    replace A1 := A1.far hb
    replace A2 := A2.far hb
    replace B := B.trans (hb.mono B.size)
    clear hb
    obtain ⟨⟨x0, x1⟩, _, _⟩ := id A0
    obtain ⟨⟨x2, x3⟩, _, _⟩ := id A1
    go_wp2_with fail
    refine (HC.out _).mono ?_
    rintro e w5 ⟨rfl, hb⟩
    replace A2 := A2.far hb
    replace B := B.trans (hb.mono B.size)
    clear hb x0 x1 x2 x3 A0 A1
    obtain ⟨p0, p1⟩ := (A2.put (.int .i64 n) (.int .i64 d)).1
    obtain ⟨⟨x0, x1⟩, x2, x3⟩ := id A2
    go_wp2
    unfold putD at p0 p1
    exact bodyPost_ret (v := .tuple #[.agg #[.int .i64 n, .int .i64 d], .bool ok]) (by simp [results, Try.results18, go_sem, p0, p1]) rfl ⟨rfl, below_putD B (by omega) _ _⟩

theorem div_no (fn fd gn gd : Int) (w : World) (hg : ¬ (VF gn gd ∧ gn ≠ 0)) :
    Calls Try.prog 18 #[.agg #[.int .i64 fn, .int .i64 fd], .agg #[.int .i64 gn, .int .i64 gd]] w fun e w' => e = .returned (.tuple #[.agg #[.int .i64 0, .int .i64 0], .bool false]) ∧ Below w.heap.size w w' := by
  by_cases hv : VF gn gd
  · have HG := Lib.hid hv
    have h0 : gn = 0 := by
      by_cases h : gn = 0
      · exact h
      · exact absurd ⟨hv, h⟩ hg
    have b0 : (gn == 0) = true := by simp [h0]
    clear hg hv h0
    go_enter Try.func18, Try.ntmps18
    have A0 := ((D2.new w (.int .i64 fn) (.int .i64 fd) 24).alloc (.cells #[.int .i64 gn, .int .i64 gd] 24)).alloc (.cells #[.int .i64 0, .int .i64 0] 24)
    have A1 := (D2.new (w.alloc (.cells #[.int .i64 fn, .int .i64 fd] 24)) (.int .i64 gn) (.int .i64 gd) 24).alloc (.cells #[.int .i64 0, .int .i64 0] 24)
    have A2 := (D2.new ((w.alloc (.cells #[.int .i64 fn, .int .i64 fd] 24)).alloc (.cells #[.int .i64 gn, .int .i64 gd] 24)) (.int .i64 0) (.int .i64 0) 24)
    have B : Below w.heap.size w (((w.alloc (.cells #[.int .i64 fn, .int .i64 fd] 24)).alloc (.cells #[.int .i64 gn, .int .i64 gd] 24)).alloc (.cells #[.int .i64 0, .int .i64 0] 24)) :=
      (((Below.refl _ w).alloc (Nat.le_refl _) _).alloc (by simp) _).alloc (by simp; omega) _
    simp only [World.size_alloc] at A1 A2
    go_wp2_with fail
    refine (valid_yes _ _ _ HG.out).mono ?_
    rintro e w4 ⟨rfl, hb⟩
    replace A1 := A1.far hb
    replace A2 := A2.far hb
    replace B := B.trans (hb.mono B.size)
    clear hb A0
    obtain ⟨⟨y0, y1⟩, _, _⟩ := id A1
    obtain ⟨p0, p1⟩ := (A2.put (.int .i64 0) (.int .i64 0)).1
    obtain ⟨⟨x0, x1⟩, x2, x3⟩ := id A2
    go_wp2
    unfold putD at p0 p1
    exact bodyPost_ret (v := .tuple #[.agg #[.int .i64 0, .int .i64 0], .bool false]) (by simp [results, Try.results18, go_sem, p0, p1]) rfl ⟨rfl, below_putD B (by omega) _ _⟩
  · have HG := Lib.hid hv
    clear hg hv
    go_enter Try.func18, Try.ntmps18
    have A0 := ((D2.new w (.int .i64 fn) (.int .i64 fd) 24).alloc (.cells #[.int .i64 gn, .int .i64 gd] 24)).alloc (.cells #[.int .i64 0, .int .i64 0] 24)
    have A1 := (D2.new (w.alloc (.cells #[.int .i64 fn, .int .i64 fd] 24)) (.int .i64 gn) (.int .i64 gd) 24).alloc (.cells #[.int .i64 0, .int .i64 0] 24)
    have A2 := (D2.new ((w.alloc (.cells #[.int .i64 fn, .int .i64 fd] 24)).alloc (.cells #[.int .i64 gn, .int .i64 gd] 24)) (.int .i64 0) (.int .i64 0) 24)
    have B : Below w.heap.size w (((w.alloc (.cells #[.int .i64 fn, .int .i64 fd] 24)).alloc (.cells #[.int .i64 gn, .int .i64 gd] 24)).alloc (.cells #[.int .i64 0, .int .i64 0] 24)) :=
      (((Below.refl _ w).alloc (Nat.le_refl _) _).alloc (by simp) _).alloc (by simp; omega) _
    simp only [World.size_alloc] at A1 A2
    go_wp2_with fail
    refine (valid_no _ _ _ HG.out).mono ?_
    rintro e w4 ⟨rfl, hb⟩
    replace A2 := A2.far hb
    replace B := B.trans (hb.mono B.size)
    clear hb A0 A1
    obtain ⟨p0, p1⟩ := (A2.put (.int .i64 0) (.int .i64 0)).1
    obtain ⟨⟨x0, x1⟩, x2, x3⟩ := id A2
    go_wp2
    unfold putD at p0 p1
    exact bodyPost_ret (v := .tuple #[.agg #[.int .i64 0, .int .i64 0], .bool false]) (by simp [results, Try.results18, go_sem, p0, p1]) rfl ⟨rfl, below_putD B (by omega) _ _⟩

theorem specDiv_yes (fn fd gn gd n d : Int) (ok : Bool) (w : World) (hf : VF fn fd) (hg : VF gn gd) (h0 : gn ≠ 0) (HC : Hid (GivesFrac 36 #[.agg #[.int .i64 fn, .int .i64 fd], .agg #[.int .i64 (recN gn gd), .int .i64 (recD gn)]] n d ok)) :
    Calls Try.prog 17 #[.agg #[.int .i64 fn, .int .i64 fd], .agg #[.int .i64 gn, .int .i64 gd]] w fun e w' => e = .returned (.tuple #[.agg #[.int .i64 n, .int .i64 d], .bool ok]) ∧ Below w.heap.size w w' := by
  have HF := Lib.hid hf
  have HG := Lib.hid hg
  have b0 : (gn == 0) = false := by simp [h0]
  have HM : Hid (∀ W : World, Calls Try.prog 37 #[.int .i64 gd, .int .i64 gn] W fun e w' => e = .returned (.agg #[.int .i64 (recN gn gd), .int .i64 (recD gn)]) ∧ Below W.heap.size W w') := fun W => by
    obtain ⟨⟨g1, g2, g3, g4⟩, _⟩ := hg.out
    have := fmake_any gd gn W h0 (by omega) (by omega) g3 g4
    rwa [(rec_mk hg).1, (rec_mk hg).2] at this
  have HC2 : Hid (∀ W : World, Calls Try.prog 36 #[.agg #[.int .i64 fn, .int .i64 fd], .agg #[.int .i64 (recN gn gd), .int .i64 (recD gn)]] W fun e w' => e = .returned (.tuple #[.agg #[.int .i64 n, .int .i64 d], .bool ok]) ∧ Below W.heap.size W w') := HC
  generalize recN gn gd = rn at HM HC2
  generalize recD gn = rd at HM HC2
  clear hf hg HC h0
  go_enter Try.func17, Try.ntmps17
  have A0 := ((D2.new w (.int .i64 fn) (.int .i64 fd) 24).alloc (.cells #[.int .i64 gn, .int .i64 gd] 24)).alloc (.cells #[.int .i64 0, .int .i64 0] 24)
  have A1 := (D2.new (w.alloc (.cells #[.int .i64 fn, .int .i64 fd] 24)) (.int .i64 gn) (.int .i64 gd) 24).alloc (.cells #[.int .i64 0, .int .i64 0] 24)
  have A2 := (D2.new ((w.alloc (.cells #[.int .i64 fn, .int .i64 fd] 24)).alloc (.cells #[.int .i64 gn, .int .i64 gd] 24)) (.int .i64 0) (.int .i64 0) 24)
  have B : Below w.heap.size w (((w.alloc (.cells #[.int .i64 fn, .int .i64 fd] 24)).alloc (.cells #[.int .i64 gn, .int .i64 gd] 24)).alloc (.cells #[.int .i64 0, .int .i64 0] 24)) :=
    (((Below.refl _ w).alloc (Nat.le_refl _) _).alloc (by simp) _).alloc (by simp; omega) _
  simp only [World.size_alloc] at A1 A2
  go_wp2_with fail
  refine (fis_yes _ _ _ HF.out).mono ?_
  rintro e w3 ⟨rfl, hb⟩
  replace A0 := A0.far hb
  replace A1 := A1.far hb
  replace A2 := A2.far hb
  replace B := B.trans (hb.mono B.size)
  clear hb
  obtain ⟨⟨x0, x1⟩, _, _⟩ := id A1
  go_wp2_with fail
  refine (fis_yes _ _ _ HG.out).mono ?_
  rintro e w4 ⟨rfl, hb⟩
  replace A0 := A0.far hb
  replace A1 := A1.far hb
  replace A2 := A2.far hb
  replace B := B.trans (hb.mono B.size)
  clear hb x0 x1
  obtain ⟨⟨x0, x1⟩, _, _⟩ := id A0
  obtain ⟨⟨x2, x3⟩, _, _⟩ := id A1
  go_wp2_with fail
  clear x0 x1 x2 x3
  obtain ⟨q0, q1⟩ := (A0.drew).gr (rw := some (w.heap.size + 1 + 1)) (fun e => by have := Option.some.inj e; omega)
  obtain ⟨q2, q3⟩ := (A1.drew).gr (rw := some (w.heap.size + 1 + 1)) (fun e => by have := Option.some.inj e; omega)
  refine wp_region_mix (some (w.heap.size + 1 + 1)) [0, 1, 2, 3, 4, 5, 6, 7, 8] [9, 10] (by kernel_rfl) (by kernel_rfl) ?_
  simp only [pickOps, List.filterMap_cons, List.filterMap_nil, List.getElem?_toArray, List.getElem?_cons_succ, List.getElem?_cons_zero]
  repeat (refine wpQuietG_step (fun K hK => ?_); go_simp; first | (refine hK _ ?_; clear hK K) | (apply Exists.intro; refine ⟨fun _ => ?_, hK _ ?_⟩; (first | (with_reducible exact HM.out _) | (with_reducible exact HC2.out _)); clear hK K))
  refine wpQuietG_nil ?_
  clear q0 q1 q2 q3 A0 A1
  intro W5 hW1 hW2
  replace A2 := A2.far (of_drew hW2)
  obtain ⟨⟨x0, x1⟩, x2, x3⟩ := id A2
  go_wp2
  refine ⟨gr_put hW1 (.inl rfl) _ _, ?_⟩
  intro W6 hW3 hW4
  replace A2 := (A2.put (.int .i64 n) (.int .i64 d)).far hW4
  go_wp2
  try refine ⟨hW3, ?_⟩
  intro W7 hW5 hW6
  replace hW5 := gr_undrew hW5
  obtain ⟨p0, p1⟩ := (A2.far hW6).1
  go_wp2
  exact bodyPost_ret (v := .tuple #[.agg #[.int .i64 n, .int .i64 d], .bool ok]) (by simp [results, Try.results17, go_sem, p0, p1]) rfl ⟨rfl, B.grown hW5 B.size (by simp; omega)⟩

theorem specDiv_zero (fn fd gd : Int) (w : World) (hf : VF fn fd) (hg : VF 0 gd) :
    Calls Try.prog 17 #[.agg #[.int .i64 fn, .int .i64 fd], .agg #[.int .i64 0, .int .i64 gd]] w fun e w' => e = .returned (.tuple #[.agg #[.int .i64 0, .int .i64 0], .bool false]) ∧ Below w.heap.size w w' := by
  have HF := Lib.hid hf
  have HG := Lib.hid hg
  clear hf hg
  go_enter Try.func17, Try.ntmps17
  have A0 := ((D2.new w (.int .i64 fn) (.int .i64 fd) 24).alloc (.cells #[.int .i64 0, .int .i64 gd] 24)).alloc (.cells #[.int .i64 0, .int .i64 0] 24)
  have A1 := (D2.new (w.alloc (.cells #[.int .i64 fn, .int .i64 fd] 24)) (.int .i64 0) (.int .i64 gd) 24).alloc (.cells #[.int .i64 0, .int .i64 0] 24)
  have A2 := (D2.new ((w.alloc (.cells #[.int .i64 fn, .int .i64 fd] 24)).alloc (.cells #[.int .i64 0, .int .i64 gd] 24)) (.int .i64 0) (.int .i64 0) 24)
  have B : Below w.heap.size w (((w.alloc (.cells #[.int .i64 fn, .int .i64 fd] 24)).alloc (.cells #[.int .i64 0, .int .i64 gd] 24)).alloc (.cells #[.int .i64 0, .int .i64 0] 24)) :=
    (((Below.refl _ w).alloc (Nat.le_refl _) _).alloc (by simp) _).alloc (by simp; omega) _
  simp only [World.size_alloc] at A1 A2
  go_wp2_with fail
  refine (fis_yes _ _ _ HF.out).mono ?_
  rintro e w3 ⟨rfl, hb⟩
  replace A0 := A0.far hb
  replace A1 := A1.far hb
  replace A2 := A2.far hb
  replace B := B.trans (hb.mono B.size)
  clear hb
  obtain ⟨⟨x0, x1⟩, _, _⟩ := id A1
  go_wp2_with fail
  refine (fis_yes _ _ _ HG.out).mono ?_
  rintro e w4 ⟨rfl, hb⟩
  replace A0 := A0.far hb
  replace A1 := A1.far hb
  replace A2 := A2.far hb
  replace B := B.trans (hb.mono B.size)
  clear hb x0 x1
  obtain ⟨⟨y0, y1⟩, _, _⟩ := id A1
  clear A0
  obtain ⟨p0, p1⟩ := (A2.put (.int .i64 0) (.int .i64 0)).1
  obtain ⟨⟨x0, x1⟩, x2, x3⟩ := id A2
  go_wp2
  unfold putD at p0 p1
  exact bodyPost_ret (v := .tuple #[.agg #[.int .i64 0, .int .i64 0], .bool false]) (by simp [results, Try.results17, go_sem, p0, p1]) rfl ⟨rfl, below_putD B (by omega) _ _⟩

theorem specDiv_no (fn fd gn gd : Int) (w : World) (h : ¬ (VF fn fd ∧ VF gn gd)) :
    Calls Try.prog 17 #[.agg #[.int .i64 fn, .int .i64 fd], .agg #[.int .i64 gn, .int .i64 gd]] w fun e w' => e = .returned (.tuple #[.agg #[.int .i64 0, .int .i64 0], .bool false]) ∧ Below w.heap.size w w' := by
  have H : ∃ p q : Bool, (p && q) = false ∧ Hid (∀ W : World, Calls Try.prog 26 #[.agg #[.int .i64 fn, .int .i64 fd]] W fun e w' => e = .returned (.bool p) ∧ Below W.heap.size W w') ∧
      Hid (∀ W : World, Calls Try.prog 26 #[.agg #[.int .i64 gn, .int .i64 gd]] W fun e w' => e = .returned (.bool q) ∧ Below W.heap.size W w') := by
    by_cases hf : VF fn fd
    · exact ⟨true, false, rfl, fun W => fis_yes _ _ W hf, fun W => fis_no _ _ W fun x => h ⟨hf, x⟩⟩
    · by_cases hg : VF gn gd
      · exact ⟨false, true, rfl, fun W => fis_no _ _ W hf, fun W => fis_yes _ _ W hg⟩
      · exact ⟨false, false, rfl, fun W => fis_no _ _ W hf, fun W => fis_no _ _ W hg⟩
  obtain ⟨p, q, hpq, HP, HQ⟩ := H
  clear h
  go_enter Try.func17, Try.ntmps17
  have A1 := (D2.new (w.alloc (.cells #[.int .i64 fn, .int .i64 fd] 24)) (.int .i64 gn) (.int .i64 gd) 24).alloc (.cells #[.int .i64 0, .int .i64 0] 24)
  have A2 := (D2.new ((w.alloc (.cells #[.int .i64 fn, .int .i64 fd] 24)).alloc (.cells #[.int .i64 gn, .int .i64 gd] 24)) (.int .i64 0) (.int .i64 0) 24)
  have B : Below w.heap.size w (((w.alloc (.cells #[.int .i64 fn, .int .i64 fd] 24)).alloc (.cells #[.int .i64 gn, .int .i64 gd] 24)).alloc (.cells #[.int .i64 0, .int .i64 0] 24)) :=
    (((Below.refl _ w).alloc (Nat.le_refl _) _).alloc (by simp) _).alloc (by simp; omega) _
  simp only [World.size_alloc] at A1 A2
  cases p
  · go_wp2_with fail
    refine (HP.out _).mono ?_
    rintro e w3 ⟨rfl, hb⟩
    replace A2 := A2.far hb
    replace B := B.trans (hb.mono B.size)
    clear hb A1
    obtain ⟨p0, p1⟩ := (A2.put (.int .i64 0) (.int .i64 0)).1
    obtain ⟨⟨x0, x1⟩, x2, x3⟩ := id A2
    go_wp2
    unfold putD at p0 p1
    exact bodyPost_ret (v := .tuple #[.agg #[.int .i64 0, .int .i64 0], .bool false]) (by simp [results, Try.results17, go_sem, p0, p1]) rfl ⟨rfl, below_putD B (by omega) _ _⟩
  · obtain rfl : q = false := by simpa using hpq
    go_wp2_with fail
    refine (HP.out _).mono ?_
    rintro e w3 ⟨rfl, hb⟩
    replace A1 := A1.far hb
    replace A2 := A2.far hb
    replace B := B.trans (hb.mono B.size)
    clear hb
    obtain ⟨⟨x0, x1⟩, _, _⟩ := id A1
    go_wp2_with fail
    refine (HQ.out _).mono ?_
    rintro e w4 ⟨rfl, hb⟩
    replace A2 := A2.far hb
    replace B := B.trans (hb.mono B.size)
    clear hb A1 x0 x1
    obtain ⟨p0, p1⟩ := (A2.put (.int .i64 0) (.int .i64 0)).1
    obtain ⟨⟨x0, x1⟩, x2, x3⟩ := id A2
    go_wp2
    unfold putD at p0 p1
    exact bodyPost_ret (v := .tuple #[.agg #[.int .i64 0, .int .i64 0], .bool false]) (by simp [results, Try.results17, go_sem, p0, p1]) rfl ⟨rfl, below_putD B (by omega) _ _⟩

theorem lawDivFr (fn fd gn gd : Int) (w : World) :
    Calls Try.prog 6 #[.agg #[.int .i64 fn, .int .i64 fd], .agg #[.int .i64 gn, .int .i64 gd]] w fun e w' => e = .returned (.bool true) ∧ Below w.heap.size w w' := by
  by_cases hg : VF gn gd
  · by_cases h0 : gn = 0
    · subst h0
      refine lawDiv_core fn fd 0 gd 0 0 false w (fun W => ?_) (fun W => div_no fn fd 0 gd W fun x => x.2 rfl)
      by_cases hf : VF fn fd
      · exact specDiv_zero fn fd gd W hf hg
      · exact specDiv_no fn fd 0 gd W fun x => hf x.1
    · by_cases hf : VF fn fd
      · obtain ⟨n, d, ok, _, h1, h2⟩ := mul_gives fn fd (recN gn gd) (recD gn) hf (rec_VF hg h0)
        exact lawDiv_core fn fd gn gd n d ok w (fun W => specDiv_yes fn fd gn gd n d ok W hf hg h0 h2) (fun W => div_yes fn fd gn gd n d ok W hg h0 h1)
      · exact lawDiv_core fn fd gn gd 0 0 false w (fun W => specDiv_no fn fd gn gd W fun x => hf x.1) (fun W => div_yes fn fd gn gd 0 0 false W hg h0 fun W => mul_no fn fd _ _ W fun x => hf x.1)
  · exact lawDiv_core fn fd gn gd 0 0 false w (fun W => specDiv_no fn fd gn gd W fun x => hg x.2) (fun W => div_no fn fd gn gd W fun x => hg x.1)
end Go.Proofs.Ytpeelgdcjmnhdaa
