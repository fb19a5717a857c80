/- Functions of two fractions in the specification: spec.AddFractions, SubFractions, MulFractions. -/
import Derived.Test.YtpeelgdcjmnhdaaFAdd
namespace Go.Proofs.Ytpeelgdcjmnhdaa
open Go.RowKit Go.PlainAid
set_option maxHeartbeats 800000

/-- a function of two fractions: one fraction, and whether there is one -/
def GivesFrac (f : FuncId) (args : Array Value) (n d : Int) (ok : Bool) : Prop := ∀ W : World, Calls Try.prog f args W fun e w' => e = .returned (.tuple #[.agg #[.int .i64 n, .int .i64 d], .bool ok]) ∧ Below W.heap.size W w'

theorem add_gives (fn fd gn gd : Int) (hf : VF fn fd) (hg : VF gn gd) : ∃ n d ok, addV fn fd gn gd n d ok ∧
    GivesFrac 11 #[.agg #[.int .i64 fn, .int .i64 fd], .agg #[.int .i64 gn, .int .i64 gd]] n d ok ∧ GivesFrac 27 #[.agg #[.int .i64 fn, .int .i64 fd], .agg #[.int .i64 gn, .int .i64 gd]] n d ok := by
  have key : ∃ n d ok, addV fn fd gn gd n d ok ∧ ∀ n' d' ok', addV fn fd gn gd n' d' ok' → n' = n ∧ d' = d ∧ ok' = ok := by
    by_cases h : addOk fn fd gn gd
    · refine ⟨_, _, true, .inl ⟨h, rfl, rfl, rfl⟩, fun n' d' ok' hv => ?_⟩
      rcases hv with ⟨_, h1, h2, h3⟩ | ⟨h0, _⟩
      · exact ⟨h1, h2, h3⟩
      · exact absurd h h0
    · refine ⟨0, 0, false, .inr ⟨h, rfl, rfl, rfl⟩, fun n' d' ok' hv => ?_⟩
      rcases hv with ⟨h0, _⟩ | ⟨_, h1, h2, h3⟩
      · exact absurd h0 h
      · exact ⟨h1, h2, h3⟩
  obtain ⟨n, d, ok, hv, hu⟩ := key
  refine ⟨n, d, ok, hv, fun W => (add_any fn fd gn gd hf hg W).mono ?_, fun W => (fadd_any fn fd gn gd hf hg W).mono ?_⟩
  · rintro e w' ⟨n', d', ok', he, hv', hb⟩
    obtain ⟨rfl, rfl, rfl⟩ := hu _ _ _ hv'.out
    exact ⟨he, hb⟩
  · rintro e w' ⟨n', d', ok', he, hv', hb⟩
    obtain ⟨rfl, rfl, rfl⟩ := hu _ _ _ hv'.out
    exact ⟨he, hb⟩

theorem VF.neg {n d : Int} (h : VF n d) : VF (-n) d := ⟨h.1, h.2.1, by have := h.2.2.2.1; omega, by have := h.2.2.1; omega, by rw [gcdI_neg]; exact h.2.2.2.2⟩

theorem specAdd_yes (fn fd gn gd n d : Int) (ok : Bool) (w : World) (hf : VF fn fd) (hg : VF gn gd) (HC : Hid (GivesFrac 27 #[.agg #[.int .i64 fn, .int .i64 fd], .agg #[.int .i64 gn, .int .i64 gd]] n d ok)) :
    Calls Try.prog 9 #[.agg #[.int .i64 fn, .int .i64 fd], .agg #[.int .i64 gn, .int .i64 gd]] w fun e w' => e = .returned (.tuple #[.agg #[.int .i64 n, .int .i64 d], .bool ok]) ∧ Below w.heap.size w w' := by
  have HF := Lib.hid hf
  have HG := Lib.hid hg
  clear hf hg
  go_enter Try.func9, Try.ntmps9
  have A0 := ((D2.new w (.int .i64 fn) (.int .i64 fd) 24).alloc (.cells #[.int .i64 gn, .int .i64 gd] 24)).alloc (.cells #[.int .i64 0, .int .i64 0] 24)
  have A1 := (D2.new (w.alloc (.cells #[.int .i64 fn, .int .i64 fd] 24)) (.int .i64 gn) (.int .i64 gd) 24).alloc (.cells #[.int .i64 0, .int .i64 0] 24)
  have A2 := (D2.new ((w.alloc (.cells #[.int .i64 fn, .int .i64 fd] 24)).alloc (.cells #[.int .i64 gn, .int .i64 gd] 24)) (.int .i64 0) (.int .i64 0) 24)
  have B : Below w.heap.size w (((w.alloc (.cells #[.int .i64 fn, .int .i64 fd] 24)).alloc (.cells #[.int .i64 gn, .int .i64 gd] 24)).alloc (.cells #[.int .i64 0, .int .i64 0] 24)) :=
    (((Below.refl _ w).alloc (Nat.le_refl _) _).alloc (by simp) _).alloc (by simp; omega) _
  simp only [World.size_alloc] at A1 A2
  go_wp2_with fail
  refine (fis_yes _ _ _ HF.out).mono ?_
  rintro e w3 ⟨rfl, hb⟩
  replace A0 := A0.far hb
  replace A1 := A1.far hb
  replace A2 := A2.far hb
  replace B := B.trans (hb.mono B.size)
  clear hb
  obtain ⟨⟨x0, x1⟩, _, _⟩ := id A1
  go_wp2_with fail
  refine (fis_yes _ _ _ HG.out).mono ?_
  rintro e w4 ⟨rfl, hb⟩
  replace A0 := A0.far hb
  replace A1 := A1.far hb
  replace A2 := A2.far hb
  replace B := B.trans (hb.mono B.size)
  clear hb x0 x1
  obtain ⟨⟨x0, x1⟩, _, _⟩ := id A0
  obtain ⟨⟨x2, x3⟩, _, _⟩ := id A1
  go_wp2_with fail
  refine (HC.out _).mono ?_
  rintro e w5 ⟨rfl, hb⟩
  replace A2 := A2.far hb
  replace B := B.trans (hb.mono B.size)
  clear hb x0 x1 x2 x3 A0 A1
  obtain ⟨p0, p1⟩ := (A2.put (.int .i64 n) (.int .i64 d)).1
  obtain ⟨⟨x0, x1⟩, x2, x3⟩ := id A2
  go_wp2
  unfold putD at p0 p1
  exact bodyPost_ret (v := .tuple #[.agg #[.int .i64 n, .int .i64 d], .bool ok]) (by simp [results, Try.results9, go_sem, p0, p1]) rfl ⟨rfl, below_putD B (by omega) _ _⟩
theorem specAdd_no (fn fd gn gd : Int) (w : World) (h : ¬ (VF fn fd ∧ VF gn gd)) :
    Calls Try.prog 9 #[.agg #[.int .i64 fn, .int .i64 fd], .agg #[.int .i64 gn, .int .i64 gd]] w fun e w' => e = .returned (.tuple #[.agg #[.int .i64 0, .int .i64 0], .bool false]) ∧ Below w.heap.size w w' := by
  have H : ∃ p q : Bool, (p && q) = false ∧ Hid (∀ W : World, Calls Try.prog 26 #[.agg #[.int .i64 fn, .int .i64 fd]] W fun e w' => e = .returned (.bool p) ∧ Below W.heap.size W w') ∧
      Hid (∀ W : World, Calls Try.prog 26 #[.agg #[.int .i64 gn, .int .i64 gd]] W fun e w' => e = .returned (.bool q) ∧ Below W.heap.size W w') := by
    by_cases hf : VF fn fd
    · exact ⟨true, false, rfl, fun W => fis_yes _ _ W hf, fun W => fis_no _ _ W fun x => h ⟨hf, x⟩⟩
    · by_cases hg : VF gn gd
      · exact ⟨false, true, rfl, fun W => fis_no _ _ W hf, fun W => fis_yes _ _ W hg⟩
      · exact ⟨false, false, rfl, fun W => fis_no _ _ W hf, fun W => fis_no _ _ W hg⟩
  obtain ⟨p, q, hpq, HP, HQ⟩ := H
  clear h
  go_enter Try.func9, Try.ntmps9
  have A1 := (D2.new (w.alloc (.cells #[.int .i64 fn, .int .i64 fd] 24)) (.int .i64 gn) (.int .i64 gd) 24).alloc (.cells #[.int .i64 0, .int .i64 0] 24)
  have A2 := (D2.new ((w.alloc (.cells #[.int .i64 fn, .int .i64 fd] 24)).alloc (.cells #[.int .i64 gn, .int .i64 gd] 24)) (.int .i64 0) (.int .i64 0) 24)
  have B : Below w.heap.size w (((w.alloc (.cells #[.int .i64 fn, .int .i64 fd] 24)).alloc (.cells #[.int .i64 gn, .int .i64 gd] 24)).alloc (.cells #[.int .i64 0, .int .i64 0] 24)) :=
    (((Below.refl _ w).alloc (Nat.le_refl _) _).alloc (by simp) _).alloc (by simp; omega) _
  simp only [World.size_alloc] at A1 A2
  cases p
  · go_wp2_with fail
    refine (HP.out _).mono ?_
    rintro e w3 ⟨rfl, hb⟩
    replace A2 := A2.far hb
    replace B := B.trans (hb.mono B.size)
    clear hb A1
    obtain ⟨p0, p1⟩ := (A2.put (.int .i64 0) (.int .i64 0)).1
    obtain ⟨⟨x0, x1⟩, x2, x3⟩ := id A2
    go_wp2
    unfold putD at p0 p1
    exact bodyPost_ret (v := .tuple #[.agg #[.int .i64 0, .int .i64 0], .bool false]) (by simp [results, Try.results9, go_sem, p0, p1]) rfl ⟨rfl, below_putD B (by omega) _ _⟩
  · obtain rfl : q = false := by simpa using hpq
    go_wp2_with fail
    refine (HP.out _).mono ?_
    rintro e w3 ⟨rfl, hb⟩
    replace A1 := A1.far hb
    replace A2 := A2.far hb
    replace B := B.trans (hb.mono B.size)
    clear hb
    obtain ⟨⟨x0, x1⟩, _, _⟩ := id A1
    go_wp2_with fail
    refine (HQ.out _).mono ?_
    rintro e w4 ⟨rfl, hb⟩
    replace A2 := A2.far hb
    replace B := B.trans (hb.mono B.size)
    clear hb A1 x0 x1
    obtain ⟨p0, p1⟩ := (A2.put (.int .i64 0) (.int .i64 0)).1
    obtain ⟨⟨x0, x1⟩, x2, x3⟩ := id A2
    go_wp2
    unfold putD at p0 p1
    exact bodyPost_ret (v := .tuple #[.agg #[.int .i64 0, .int .i64 0], .bool false]) (by simp [results, Try.results9, go_sem, p0, p1]) rfl ⟨rfl, below_putD B (by omega) _ _⟩
end Go.Proofs.Ytpeelgdcjmnhdaa
