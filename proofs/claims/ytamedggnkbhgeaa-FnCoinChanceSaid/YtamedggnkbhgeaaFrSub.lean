/- Differences of fractions: impl.SubFractions, spec.l01FNeg, SubFractions, MulFractions, DivFractions, and their laws. -/
import Derived.Test.YtamedggnkbhgeaaFrLaw
namespace Go.Proofs.Ytamedggnkbhgeaa
open Go.RowKit Go.PlainAid
set_option maxHeartbeats 800000

theorem sub_yes (fn fd gn gd n d : Int) (ok : Bool) (w : World) (hg : VF gn gd) (HC : Hid (GivesFrac 83 #[.agg #[.int .i64 fn, .int .i64 fd], .agg #[.int .i64 (-gn), .int .i64 gd]] n d ok)) :
    Calls Try.prog 59 #[.agg #[.int .i64 fn, .int .i64 fd], .agg #[.int .i64 gn, .int .i64 gd]] w fun e w' => e = .returned (.tuple #[.agg #[.int .i64 n, .int .i64 d], .bool ok]) ∧ Below w.heap.size w w' := by
  have HG := Lib.hid hg
  have w1 : IntKind.i64.wrap (-gn) = -gn := IntWalk.i64_in _ (by have := hg.2.2.1; have := hg.2.2.2.1; omega)
  clear hg
  go_enter Try.func59, Try.ntmps59
  have A0 := ((D2.new w (.int .i64 fn) (.int .i64 fd) 37).alloc (.cells #[.int .i64 gn, .int .i64 gd] 37)).alloc (.cells #[.int .i64 0, .int .i64 0] 37)
  have A1 := (D2.new (w.alloc (.cells #[.int .i64 fn, .int .i64 fd] 37)) (.int .i64 gn) (.int .i64 gd) 37).alloc (.cells #[.int .i64 0, .int .i64 0] 37)
  have A2 := (D2.new ((w.alloc (.cells #[.int .i64 fn, .int .i64 fd] 37)).alloc (.cells #[.int .i64 gn, .int .i64 gd] 37)) (.int .i64 0) (.int .i64 0) 37)
  have B : Below w.heap.size w (((w.alloc (.cells #[.int .i64 fn, .int .i64 fd] 37)).alloc (.cells #[.int .i64 gn, .int .i64 gd] 37)).alloc (.cells #[.int .i64 0, .int .i64 0] 37)) :=
    (((Below.refl _ w).alloc (Nat.le_refl _) _).alloc (by simp) _).alloc (by simp; omega) _
  simp only [World.size_alloc] at A1 A2
  go_wp2_with fail
  refine (valid_yes _ _ _ HG.out).mono ?_
  rintro e w4 ⟨rfl, hb⟩
  replace A0 := A0.far hb
  replace A1 := A1.far hb
  replace A2 := A2.far hb
  replace B := B.trans (hb.mono B.size)
  clear hb
  obtain ⟨⟨x0, x1⟩, _, _⟩ := id A0
  obtain ⟨⟨x2, x3⟩, _, _⟩ := id A1
  go_wp2_with fail
  refine (HC.out _).mono ?_
  rintro e w5 ⟨rfl, hb⟩
  replace A2 := A2.far hb
  replace B := B.trans (hb.mono B.size)
  clear hb x0 x1 x2 x3 A0 A1
  obtain ⟨p0, p1⟩ := (A2.put (.int .i64 n) (.int .i64 d)).1
  obtain ⟨⟨x0, x1⟩, x2, x3⟩ := id A2
  go_wp2
  unfold putD at p0 p1
  exact bodyPost_ret (v := .tuple #[.agg #[.int .i64 n, .int .i64 d], .bool ok]) (by simp [results, Try.results59, go_sem, p0, p1]) rfl ⟨rfl, below_putD B (by omega) _ _⟩

theorem sub_no (fn fd gn gd : Int) (w : World) (hg : ¬ VF gn gd) :
    Calls Try.prog 59 #[.agg #[.int .i64 fn, .int .i64 fd], .agg #[.int .i64 gn, .int .i64 gd]] w fun e w' => e = .returned (.tuple #[.agg #[.int .i64 0, .int .i64 0], .bool false]) ∧ Below w.heap.size w w' := by
  have HG := Lib.hid hg
  clear hg
  go_enter Try.func59, Try.ntmps59
  have A0 := ((D2.new w (.int .i64 fn) (.int .i64 fd) 37).alloc (.cells #[.int .i64 gn, .int .i64 gd] 37)).alloc (.cells #[.int .i64 0, .int .i64 0] 37)
  have A1 := (D2.new (w.alloc (.cells #[.int .i64 fn, .int .i64 fd] 37)) (.int .i64 gn) (.int .i64 gd) 37).alloc (.cells #[.int .i64 0, .int .i64 0] 37)
  have A2 := (D2.new ((w.alloc (.cells #[.int .i64 fn, .int .i64 fd] 37)).alloc (.cells #[.int .i64 gn, .int .i64 gd] 37)) (.int .i64 0) (.int .i64 0) 37)
  have B : Below w.heap.size w (((w.alloc (.cells #[.int .i64 fn, .int .i64 fd] 37)).alloc (.cells #[.int .i64 gn, .int .i64 gd] 37)).alloc (.cells #[.int .i64 0, .int .i64 0] 37)) :=
    (((Below.refl _ w).alloc (Nat.le_refl _) _).alloc (by simp) _).alloc (by simp; omega) _
  simp only [World.size_alloc] at A1 A2
  go_wp2_with fail
  refine (valid_no _ _ _ HG.out).mono ?_
  rintro e w4 ⟨rfl, hb⟩
  replace A2 := A2.far hb
  replace B := B.trans (hb.mono B.size)
  clear hb A0 A1
  obtain ⟨p0, p1⟩ := (A2.put (.int .i64 0) (.int .i64 0)).1
  obtain ⟨⟨x0, x1⟩, x2, x3⟩ := id A2
  go_wp2
  unfold putD at p0 p1
  exact bodyPost_ret (v := .tuple #[.agg #[.int .i64 0, .int .i64 0], .bool false]) (by simp [results, Try.results59, go_sem, p0, p1]) rfl ⟨rfl, below_putD B (by omega) _ _⟩

end Go.Proofs.Ytamedggnkbhgeaa
