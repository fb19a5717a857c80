/- Quotients of fractions: impl.DivFractions, spec.DivFractions, and the law. -/
import Derived.Test.YtamedggnkbhgeaaFrMul
namespace Go.Proofs.Ytamedggnkbhgeaa
open Go.RowKit Go.PlainAid
set_option maxHeartbeats 800000

/-- one divided by a fraction -/
def recN (gn gd : Int) : Int := if gn < 0 then -gd else gd
def recD (gn : Int) : Int := if gn < 0 then -gn else gn
theorem rec_VF {gn gd : Int} (hg : VF gn gd) (h0 : gn ≠ 0) : VF (recN gn gd) (recD gn) := by
  obtain ⟨⟨g1, g2, g3, g4⟩, g5⟩ := hg.out
  unfold recN recD
  by_cases h : gn < 0
  · rw [if_pos h, if_pos h]
    refine ⟨by omega, by omega, by omega, by omega, ?_⟩
    rw [gcdI_neg, gcdI_comm, gcdI_neg]
    exact g5
  · rw [if_neg h, if_neg h]
    refine ⟨by omega, by omega, by omega, by omega, ?_⟩
    rw [gcdI_comm]
    exact g5
theorem rec_mk {gn gd : Int} (hg : VF gn gd) : mkN gd gn = recN gn gd ∧ mkD gd gn = recD gn := by
  obtain ⟨_, g5⟩ := hg.out
  unfold mkN mkD recN recD
  rw [gcdI_comm gd gn, g5, Int.tdiv_one, Int.tdiv_one]
  exact ⟨rfl, rfl⟩

theorem div_yes (fn fd gn gd n d : Int) (ok : Bool) (w : World) (hg : VF gn gd) (h0 : gn ≠ 0) (HC : Hid (GivesFrac 84 #[.agg #[.int .i64 fn, .int .i64 fd], .agg #[.int .i64 (recN gn gd), .int .i64 (recD gn)]] n d ok)) :
    Calls Try.prog 60 #[.agg #[.int .i64 fn, .int .i64 fd], .agg #[.int .i64 gn, .int .i64 gd]] w fun e w' => e = .returned (.tuple #[.agg #[.int .i64 n, .int .i64 d], .bool ok]) ∧ Below w.heap.size w w' := by
  have HG := Lib.hid hg
  have b0 : (gn == 0) = false := by simp [h0]
  have w1 : IntKind.i64.wrap (-gn) = -gn := IntWalk.i64_in _ (by have := hg.2.2.1; have := hg.2.2.2.1; omega)
  have w2 : IntKind.i64.wrap (-gd) = -gd := IntWalk.i64_in _ (by have := hg.1; have := hg.2.1; omega)
  clear h0
  by_cases hs : gn < 0
  · have HR : Hid (recN gn gd = -gd ∧ recD gn = -gn) := by unfold Hid recN recD; rw [if_pos hs, if_pos hs]; exact ⟨rfl, rfl⟩
    rw [HR.out.1, HR.out.2] at HC
    clear hg
    go_enter Try.func60, Try.ntmps60
    have A0 := ((D2.new w (.int .i64 fn) (.int .i64 fd) 37).alloc (.cells #[.int .i64 gn, .int .i64 gd] 37)).alloc (.cells #[.int .i64 0, .int .i64 0] 37)
    have A1 := (D2.new (w.alloc (.cells #[.int .i64 fn, .int .i64 fd] 37)) (.int .i64 gn) (.int .i64 gd) 37).alloc (.cells #[.int .i64 0, .int .i64 0] 37)
    have A2 := (D2.new ((w.alloc (.cells #[.int .i64 fn, .int .i64 fd] 37)).alloc (.cells #[.int .i64 gn, .int .i64 gd] 37)) (.int .i64 0) (.int .i64 0) 37)
    have B : Below w.heap.size w (((w.alloc (.cells #[.int .i64 fn, .int .i64 fd] 37)).alloc (.cells #[.int .i64 gn, .int .i64 gd] 37)).alloc (.cells #[.int .i64 0, .int .i64 0] 37)) :=
      (((Below.refl _ w).alloc (Nat.le_refl _) _).alloc (by simp) _).alloc (by simp; omega) _
    simp only [World.size_alloc] at A1 A2
    go_wp2_with fail
    refine (valid_yes _ _ _ HG.out).mono ?_
    rintro e w4 ⟨rfl, hb⟩
    replace A0 := A0.far hb
    replace A1 := A1.far hb
    replace A2 := A2.far hb
    replace B := B.trans (hb.mono B.size)
    clear hb
    obtain ⟨⟨x0, x1⟩, _, _⟩ := id A0
    obtain ⟨⟨x2, x3⟩, _, _⟩ := id A1
    go_wp2_with fail
    refine (HC.out _).mono ?_
    rintro e w5 ⟨rfl, hb⟩
    replace A2 := A2.far hb
    replace B := B.trans (hb.mono B.size)
    clear hb x0 x1 x2 x3 A0 A1
    obtain ⟨p0, p1⟩ := (A2.put (.int .i64 n) (.int .i64 d)).1
    obtain ⟨⟨x0, x1⟩, x2, x3⟩ := id A2
    go_wp2
    unfold putD at p0 p1
    exact bodyPost_ret (v := .tuple #[.agg #[.int .i64 n, .int .i64 d], .bool ok]) (by simp [results, Try.results60, go_sem, p0, p1]) rfl ⟨rfl, below_putD B (by omega) _ _⟩
  · have HR : Hid (recN gn gd = gd ∧ recD gn = gn) := by unfold Hid recN recD; rw [if_neg hs, if_neg hs]; exact ⟨rfl, rfl⟩
    rw [HR.out.1, HR.out.2] at HC
    clear hg
    go_enter Try.func60, Try.ntmps60
    have A0 := ((D2.new w (.int .i64 fn) (.int .i64 fd) 37).alloc (.cells #[.int .i64 gn, .int .i64 gd] 37)).alloc (.cells #[.int .i64 0, .int .i64 0] 37)
    have A1 := (D2.new (w.alloc (.cells #[.int .i64 fn, .int .i64 fd] 37)) (.int .i64 gn) (.int .i64 gd) 37).alloc (.cells #[.int .i64 0, .int .i64 0] 37)
    have A2 := (D2.new ((w.alloc (.cells #[.int .i64 fn, .int .i64 fd] 37)).alloc (.cells #[.int .i64 gn, .int .i64 gd] 37)) (.int .i64 0) (.int .i64 0) 37)
    have B : Below w.heap.size w (((w.alloc (.cells #[.int .i64 fn, .int .i64 fd] 37)).alloc (.cells #[.int .i64 gn, .int .i64 gd] 37)).alloc (.cells #[.int .i64 0, .int .i64 0] 37)) :=
      (((Below.refl _ w).alloc (Nat.le_refl _) _).alloc (by simp) _).alloc (by simp; omega) _
    simp only [World.size_alloc] at A1 A2
    go_wp2_with fail
    refine (valid_yes _ _ _ HG.out).mono ?_
    rintro e w4 ⟨rfl, hb⟩
    replace A0 := A0.far hb
    replace A1 := A1.far hb
    replace A2 := A2.far hb
    replace B := B.trans (hb.mono B.size)
    clear hb
    obtain ⟨⟨x0, x1⟩, _, _⟩ := id A0
    obtain ⟨⟨x2, x3⟩, _, _⟩ := id A1
    go_wp2_with fail
    refine (HC.out _).mono ?_
    rintro e w5 ⟨rfl, hb⟩
    replace A2 := A2.far hb
    replace B := B.trans (hb.mono B.size)
    clear hb x0 x1 x2 x3 A0 A1
    obtain ⟨p0, p1⟩ := (A2.put (.int .i64 n) (.int .i64 d)).1
    obtain ⟨⟨x0, x1⟩, x2, x3⟩ := id A2
    go_wp2
    unfold putD at p0 p1
    exact bodyPost_ret (v := .tuple #[.agg #[.int .i64 n, .int .i64 d], .bool ok]) (by simp [results, Try.results60, go_sem, p0, p1]) rfl ⟨rfl, below_putD B (by omega) _ _⟩

theorem div_no (fn fd gn gd : Int) (w : World) (hg : ¬ (VF gn gd ∧ gn ≠ 0)) :
    Calls Try.prog 60 #[.agg #[.int .i64 fn, .int .i64 fd], .agg #[.int .i64 gn, .int .i64 gd]] w fun e w' => e = .returned (.tuple #[.agg #[.int .i64 0, .int .i64 0], .bool false]) ∧ Below w.heap.size w w' := by
  by_cases hv : VF gn gd
  · have HG := Lib.hid hv
    have h0 : gn = 0 := by
      by_cases h : gn = 0
      · exact h
      · exact absurd ⟨hv, h⟩ hg
    have b0 : (gn == 0) = true := by simp [h0]
    clear hg hv h0
    go_enter Try.func60, Try.ntmps60
    have A0 := ((D2.new w (.int .i64 fn) (.int .i64 fd) 37).alloc (.cells #[.int .i64 gn, .int .i64 gd] 37)).alloc (.cells #[.int .i64 0, .int .i64 0] 37)
    have A1 := (D2.new (w.alloc (.cells #[.int .i64 fn, .int .i64 fd] 37)) (.int .i64 gn) (.int .i64 gd) 37).alloc (.cells #[.int .i64 0, .int .i64 0] 37)
    have A2 := (D2.new ((w.alloc (.cells #[.int .i64 fn, .int .i64 fd] 37)).alloc (.cells #[.int .i64 gn, .int .i64 gd] 37)) (.int .i64 0) (.int .i64 0) 37)
    have B : Below w.heap.size w (((w.alloc (.cells #[.int .i64 fn, .int .i64 fd] 37)).alloc (.cells #[.int .i64 gn, .int .i64 gd] 37)).alloc (.cells #[.int .i64 0, .int .i64 0] 37)) :=
      (((Below.refl _ w).alloc (Nat.le_refl _) _).alloc (by simp) _).alloc (by simp; omega) _
    simp only [World.size_alloc] at A1 A2
    go_wp2_with fail
    refine (valid_yes _ _ _ HG.out).mono ?_
    rintro e w4 ⟨rfl, hb⟩
    replace A1 := A1.far hb
    replace A2 := A2.far hb
    replace B := B.trans (hb.mono B.size)
    clear hb A0
    obtain ⟨⟨y0, y1⟩, _, _⟩ := id A1
    obtain ⟨p0, p1⟩ := (A2.put (.int .i64 0) (.int .i64 0)).1
    obtain ⟨⟨x0, x1⟩, x2, x3⟩ := id A2
    go_wp2
    unfold putD at p0 p1
    exact bodyPost_ret (v := .tuple #[.agg #[.int .i64 0, .int .i64 0], .bool false]) (by simp [results, Try.results60, go_sem, p0, p1]) rfl ⟨rfl, below_putD B (by omega) _ _⟩
  · have HG := Lib.hid hv
    clear hg hv
    go_enter Try.func60, Try.ntmps60
    have A0 := ((D2.new w (.int .i64 fn) (.int .i64 fd) 37).alloc (.cells #[.int .i64 gn, .int .i64 gd] 37)).alloc (.cells #[.int .i64 0, .int .i64 0] 37)
    have A1 := (D2.new (w.alloc (.cells #[.int .i64 fn, .int .i64 fd] 37)) (.int .i64 gn) (.int .i64 gd) 37).alloc (.cells #[.int .i64 0, .int .i64 0] 37)
    have A2 := (D2.new ((w.alloc (.cells #[.int .i64 fn, .int .i64 fd] 37)).alloc (.cells #[.int .i64 gn, .int .i64 gd] 37)) (.int .i64 0) (.int .i64 0) 37)
    have B : Below w.heap.size w (((w.alloc (.cells #[.int .i64 fn, .int .i64 fd] 37)).alloc (.cells #[.int .i64 gn, .int .i64 gd] 37)).alloc (.cells #[.int .i64 0, .int .i64 0] 37)) :=
      (((Below.refl _ w).alloc (Nat.le_refl _) _).alloc (by simp) _).alloc (by simp; omega) _
    simp only [World.size_alloc] at A1 A2
    go_wp2_with fail
    refine (valid_no _ _ _ HG.out).mono ?_
    rintro e w4 ⟨rfl, hb⟩
    replace A2 := A2.far hb
    replace B := B.trans (hb.mono B.size)
    clear hb A0 A1
    obtain ⟨p0, p1⟩ := (A2.put (.int .i64 0) (.int .i64 0)).1
    obtain ⟨⟨x0, x1⟩, x2, x3⟩ := id A2
    go_wp2
    unfold putD at p0 p1
    exact bodyPost_ret (v := .tuple #[.agg #[.int .i64 0, .int .i64 0], .bool false]) (by simp [results, Try.results60, go_sem, p0, p1]) rfl ⟨rfl, below_putD B (by omega) _ _⟩

end Go.Proofs.Ytamedggnkbhgeaa
