/- Frames of exact laws over slices of slices (written by tools/genss.py). -/
import Derived.Test.YtmnnpkmjamhmcaaNtA
namespace Go.Proofs.Ytmnnpkmjamhmcaa
open Go.RowKit Go.PlainAid
set_option maxHeartbeats 1600000
set_option maxRecDepth 20000
def GivesSReversedNet (f0 : FuncId) (p0 : Int) (x9 : Int) (m9 : Nat) (f9 : Nat → List Int) (ok : Bool) : Prop := ∀ (W : World) ,  Calls Try.prog f0 #[.int .i64 p0] W fun e w' => ∃ p q, e = .returned (.tuple #[.agg #[.int .i64 x9, .slice p m9 q], .bool ok]) ∧ RR w'.heap.size w' p m9 f9 ∧ Below W.heap.size W w'
def GivesIReversedNet (f0 : FuncId) (p0 : Int) (x9 : Int) (m9 : Nat) (f9 : Nat → List Int) (ok : Bool) : Prop := ∀ (W : World) ,  Calls Try.prog f0 #[.int .i64 p0] W fun e w' => ∃ v, e = .returned (.tuple #[.agg #[.int .i64 x9, v], .bool ok]) ∧ LW W.heap.size w'.heap.size w' v m9 f9 ∧ Below W.heap.size W w'
theorem lawReversedNet_core (p0 : Int) (x9 : Int) (m9 : Nat) (f9 : Nat → List Int) (ok : Bool) (w : World)  (hy : m9 + szl f9 m9 ≤ 1048576) 
    (HS : Hid (GivesSReversedNet 47 p0 x9 m9 f9 ok)) (HI : Hid (GivesIReversedNet 48 p0 x9 m9 f9 ok)) :
    Calls Try.prog 11 #[.int .i64 p0] w fun e w' => e = .returned (.bool true) ∧ Below w.heap.size w w' := by
  have hok : (ok != ok) = false := by simp
  have B := Below.refl w.heap.size w
  go_enter Try.func11, Try.ntmps11
  go_wp2_with fail
  refine (HS.out w  ).mono ?_
  rintro e w1 ⟨b1v, c1v, rfl, G1, hb⟩
  have zw1 := hb.size
  replace B := B.trans (hb.mono B.size)
  clear hb
  clear HS
  have hbA : Below w1.heap.size w1 (w1.alloc (.cells #[.int .i64 x9, .slice b1v m9 c1v] 27)) := (Below.refl _ _).alloc (Nat.le_refl _) _
  have AW := D2.new w1 (.int .i64 x9) (.slice b1v m9 c1v) 27
  have sw2 : w1.heap.size < (w1.alloc (.cells #[.int .i64 x9, .slice b1v m9 c1v] 27)).heap.size := by simp
  replace G1 := G1.below (hbA.mono (by omega))
  have zw2 := hbA.size
  replace B := B.trans (hbA.mono B.size)
  clear hbA
  obtain ⟨⟨xAW, yAW⟩, _⟩ := id AW
  go_wp2_with fail
  clear xAW yAW
  generalize w1.alloc (.cells #[.int .i64 x9, .slice b1v m9 c1v] 27) = w2 at *
  refine (HI.out w2  ).mono ?_
  rintro e w3 ⟨v2, rfl, G2, hb⟩
  replace G1 := G1.below (hb.mono (by omega))
  replace AW := AW.far hb
  have zw3 := hb.size
  replace B := B.trans (hb.mono B.size)
  clear hb
  obtain ⟨q2g, d2g, hv2g, _, _⟩ := G2.rr
  cases hv2g
  have hbA : Below w3.heap.size w3 (w3.alloc (.cells #[.int .i64 x9, .slice q2g m9 d2g] 27)) := (Below.refl _ _).alloc (Nat.le_refl _) _
  have AG := D2.new w3 (.int .i64 x9) (.slice q2g m9 d2g) 27
  have sw4 : w3.heap.size < (w3.alloc (.cells #[.int .i64 x9, .slice q2g m9 d2g] 27)).heap.size := by simp
  replace G1 := G1.below (hbA.mono (by omega))
  replace AW := AW.far hbA
  replace G2 := G2.far hbA
  have zw4 := hbA.size
  replace B := B.trans (hbA.mono B.size)
  clear hbA
  obtain ⟨qw5, dw5, hvw5, hdw5, Rw5⟩ := G2.rr
  cases hvw5
  obtain ⟨⟨xAW, yAW⟩, _⟩ := id AW
  obtain ⟨⟨xAG, yAG⟩, _⟩ := id AG
  go_wp2_with fail
  clear xAW yAW xAG yAG
  generalize w3.alloc (.cells #[.int .i64 x9, .slice q2g m9 d2g] 27) = w4 at *
  refine (eqNet_any x9 _ _ m9 _ _ f9 _ _ w4 Rw5 G1 (by have := G2.top_le; omega) (by omega) hy).mono ?_
  rintro e w5 ⟨rfl, hb⟩
  clear hdw5 Rw5
  replace G1 := G1.below (hb.mono (by omega))
  replace AW := AW.far hb
  replace G2 := G2.far hb
  replace AG := AG.far hb
  have zw5 := hb.size
  replace B := B.trans (hb.mono B.size)
  clear hb
  obtain ⟨⟨xAW, yAW⟩, _⟩ := id AW
  obtain ⟨⟨xAG, yAG⟩, _⟩ := id AG
  go_wp2_with fail
  clear xAW yAW xAG yAG
  refine (markNet_any x9 _ m9 f9 _ _ _ G2 hy).mono ?_
  rintro e w6 ⟨rfl, M2, hc⟩
  clear G2
  replace G1 := G1.chg hc (by omega) (by omega)
  replace AW := AW.chg hc (by omega)
  replace AG := AG.chg hc (by omega)
  have zw6 := hc.size
  replace B := below_chg B hc (by omega) (by omega)
  clear hc
  have hq9 : ((1 + (szl f9 m9 : Nat) : Int) != (1 + (szl f9 m9 : Nat) : Int)) = false := by simp
  have tq9 : decide ((1 + (szl f9 m9 : Nat) : Int) < 0) = false := by simp; omega
  obtain ⟨⟨xAW, yAW⟩, _⟩ := id AW
  obtain ⟨⟨xAG, yAG⟩, _⟩ := id AG
  go_wp2_with fail
  clear xAW yAW xAG yAG
  refine (heldNet_any x9 _ m9 f9 _ _ _ M2 hy).mono ?_
  rintro e w7 ⟨rfl, hb⟩
  replace G1 := G1.below (hb.mono (by omega))
  replace AW := AW.far hb
  replace AG := AG.far hb
  replace M2 := M2.far hb
  have zw7 := hb.size
  replace B := B.trans (hb.mono B.size)
  clear hb
  obtain ⟨⟨xAW, yAW⟩, _⟩ := id AW
  obtain ⟨⟨xAG, yAG⟩, _⟩ := id AG
  go_wp2_with fail
  clear xAW yAW xAG yAG
  refine (HI.out w7  ).mono ?_
  rintro e w8 ⟨v4, rfl, G4, hb⟩
  replace G1 := G1.below (hb.mono (by omega))
  replace AW := AW.far hb
  replace AG := AG.far hb
  replace M2 := M2.far hb
  have zw8 := hb.size
  replace B := B.trans (hb.mono B.size)
  clear hb
  obtain ⟨q4g, d4g, hv4g, _, _⟩ := G4.rr
  cases hv4g
  have hbA : Below w8.heap.size w8 (w8.alloc (.cells #[.int .i64 x9, .slice q4g m9 d4g] 27)) := (Below.refl _ _).alloc (Nat.le_refl _) _
  have AH := D2.new w8 (.int .i64 x9) (.slice q4g m9 d4g) 27
  have sw9 : w8.heap.size < (w8.alloc (.cells #[.int .i64 x9, .slice q4g m9 d4g] 27)).heap.size := by simp
  replace G1 := G1.below (hbA.mono (by omega))
  replace AW := AW.far hbA
  replace AG := AG.far hbA
  replace M2 := M2.far hbA
  replace G4 := G4.far hbA
  have zw9 := hbA.size
  replace B := B.trans (hbA.mono B.size)
  clear hbA
  obtain ⟨qw10, dw10, hvw10, hdw10, Rw10⟩ := G4.rr
  cases hvw10
  obtain ⟨⟨xAW, yAW⟩, _⟩ := id AW
  obtain ⟨⟨xAG, yAG⟩, _⟩ := id AG
  obtain ⟨⟨xAH, yAH⟩, _⟩ := id AH
  go_wp2_with fail
  clear xAW yAW xAG yAG xAH yAH
  generalize w8.alloc (.cells #[.int .i64 x9, .slice q4g m9 d4g] 27) = w9 at *
  refine (eqNet_any x9 _ _ m9 _ _ f9 _ _ w9 Rw10 G1 (by have := G4.top_le; omega) (by omega) hy).mono ?_
  rintro e w10 ⟨rfl, hb⟩
  clear hdw10 Rw10
  replace G1 := G1.below (hb.mono (by omega))
  replace AW := AW.far hb
  replace AG := AG.far hb
  replace M2 := M2.far hb
  replace G4 := G4.far hb
  replace AH := AH.far hb
  have zw10 := hb.size
  replace B := B.trans (hb.mono B.size)
  clear hb
  clear G4 G1
  obtain ⟨⟨xAW, yAW⟩, _⟩ := id AW
  obtain ⟨⟨xAG, yAG⟩, _⟩ := id AG
  obtain ⟨⟨xAH, yAH⟩, _⟩ := id AH
  go_wp2_with fail
  clear xAW yAW xAG yAG xAH yAH
  refine (heldNet_any x9 _ m9 f9 _ _ _ M2 hy).mono ?_
  rintro e w11 ⟨rfl, hb⟩
  replace AW := AW.far hb
  replace AG := AG.far hb
  replace M2 := M2.far hb
  replace AH := AH.far hb
  have zw11 := hb.size
  replace B := B.trans (hb.mono B.size)
  clear hb
  clear AW AG M2 AH
  go_wp2
  go_ret
  exact ⟨rfl, B⟩
def GivesSPascalNet (f0 : FuncId) (p0 : Int) (x9 : Int) (m9 : Nat) (f9 : Nat → List Int) (ok : Bool) : Prop := ∀ (W : World) ,  Calls Try.prog f0 #[.int .i64 p0] W fun e w' => ∃ p q, e = .returned (.tuple #[.agg #[.int .i64 x9, .slice p m9 q], .bool ok]) ∧ RR w'.heap.size w' p m9 f9 ∧ Below W.heap.size W w'
def GivesIPascalNet (f0 : FuncId) (p0 : Int) (x9 : Int) (m9 : Nat) (f9 : Nat → List Int) (ok : Bool) : Prop := ∀ (W : World) ,  Calls Try.prog f0 #[.int .i64 p0] W fun e w' => ∃ v, e = .returned (.tuple #[.agg #[.int .i64 x9, v], .bool ok]) ∧ LW W.heap.size w'.heap.size w' v m9 f9 ∧ Below W.heap.size W w'
theorem lawPascalNet_core (p0 : Int) (x9 : Int) (m9 : Nat) (f9 : Nat → List Int) (ok : Bool) (w : World)  (hy : m9 + szl f9 m9 ≤ 1048576) 
    (HS : Hid (GivesSPascalNet 51 p0 x9 m9 f9 ok)) (HI : Hid (GivesIPascalNet 52 p0 x9 m9 f9 ok)) :
    Calls Try.prog 12 #[.int .i64 p0] w fun e w' => e = .returned (.bool true) ∧ Below w.heap.size w w' := by
  have hok : (ok != ok) = false := by simp
  have B := Below.refl w.heap.size w
  go_enter Try.func12, Try.ntmps12
  go_wp2_with fail
  refine (HS.out w  ).mono ?_
  rintro e w1 ⟨b1v, c1v, rfl, G1, hb⟩
  have zw1 := hb.size
  replace B := B.trans (hb.mono B.size)
  clear hb
  clear HS
  have hbA : Below w1.heap.size w1 (w1.alloc (.cells #[.int .i64 x9, .slice b1v m9 c1v] 27)) := (Below.refl _ _).alloc (Nat.le_refl _) _
  have AW := D2.new w1 (.int .i64 x9) (.slice b1v m9 c1v) 27
  have sw2 : w1.heap.size < (w1.alloc (.cells #[.int .i64 x9, .slice b1v m9 c1v] 27)).heap.size := by simp
  replace G1 := G1.below (hbA.mono (by omega))
  have zw2 := hbA.size
  replace B := B.trans (hbA.mono B.size)
  clear hbA
  obtain ⟨⟨xAW, yAW⟩, _⟩ := id AW
  go_wp2_with fail
  clear xAW yAW
  generalize w1.alloc (.cells #[.int .i64 x9, .slice b1v m9 c1v] 27) = w2 at *
  refine (HI.out w2  ).mono ?_
  rintro e w3 ⟨v2, rfl, G2, hb⟩
  replace G1 := G1.below (hb.mono (by omega))
  replace AW := AW.far hb
  have zw3 := hb.size
  replace B := B.trans (hb.mono B.size)
  clear hb
  obtain ⟨q2g, d2g, hv2g, _, _⟩ := G2.rr
  cases hv2g
  have hbA : Below w3.heap.size w3 (w3.alloc (.cells #[.int .i64 x9, .slice q2g m9 d2g] 27)) := (Below.refl _ _).alloc (Nat.le_refl _) _
  have AG := D2.new w3 (.int .i64 x9) (.slice q2g m9 d2g) 27
  have sw4 : w3.heap.size < (w3.alloc (.cells #[.int .i64 x9, .slice q2g m9 d2g] 27)).heap.size := by simp
  replace G1 := G1.below (hbA.mono (by omega))
  replace AW := AW.far hbA
  replace G2 := G2.far hbA
  have zw4 := hbA.size
  replace B := B.trans (hbA.mono B.size)
  clear hbA
  obtain ⟨qw5, dw5, hvw5, hdw5, Rw5⟩ := G2.rr
  cases hvw5
  obtain ⟨⟨xAW, yAW⟩, _⟩ := id AW
  obtain ⟨⟨xAG, yAG⟩, _⟩ := id AG
  go_wp2_with fail
  clear xAW yAW xAG yAG
  generalize w3.alloc (.cells #[.int .i64 x9, .slice q2g m9 d2g] 27) = w4 at *
  refine (eqNet_any x9 _ _ m9 _ _ f9 _ _ w4 Rw5 G1 (by have := G2.top_le; omega) (by omega) hy).mono ?_
  rintro e w5 ⟨rfl, hb⟩
  clear hdw5 Rw5
  replace G1 := G1.below (hb.mono (by omega))
  replace AW := AW.far hb
  replace G2 := G2.far hb
  replace AG := AG.far hb
  have zw5 := hb.size
  replace B := B.trans (hb.mono B.size)
  clear hb
  obtain ⟨⟨xAW, yAW⟩, _⟩ := id AW
  obtain ⟨⟨xAG, yAG⟩, _⟩ := id AG
  go_wp2_with fail
  clear xAW yAW xAG yAG
  refine (markNet_any x9 _ m9 f9 _ _ _ G2 hy).mono ?_
  rintro e w6 ⟨rfl, M2, hc⟩
  clear G2
  replace G1 := G1.chg hc (by omega) (by omega)
  replace AW := AW.chg hc (by omega)
  replace AG := AG.chg hc (by omega)
  have zw6 := hc.size
  replace B := below_chg B hc (by omega) (by omega)
  clear hc
  have hq9 : ((1 + (szl f9 m9 : Nat) : Int) != (1 + (szl f9 m9 : Nat) : Int)) = false := by simp
  have tq9 : decide ((1 + (szl f9 m9 : Nat) : Int) < 0) = false := by simp; omega
  obtain ⟨⟨xAW, yAW⟩, _⟩ := id AW
  obtain ⟨⟨xAG, yAG⟩, _⟩ := id AG
  go_wp2_with fail
  clear xAW yAW xAG yAG
  refine (heldNet_any x9 _ m9 f9 _ _ _ M2 hy).mono ?_
  rintro e w7 ⟨rfl, hb⟩
  replace G1 := G1.below (hb.mono (by omega))
  replace AW := AW.far hb
  replace AG := AG.far hb
  replace M2 := M2.far hb
  have zw7 := hb.size
  replace B := B.trans (hb.mono B.size)
  clear hb
  obtain ⟨⟨xAW, yAW⟩, _⟩ := id AW
  obtain ⟨⟨xAG, yAG⟩, _⟩ := id AG
  go_wp2_with fail
  clear xAW yAW xAG yAG
  refine (HI.out w7  ).mono ?_
  rintro e w8 ⟨v4, rfl, G4, hb⟩
  replace G1 := G1.below (hb.mono (by omega))
  replace AW := AW.far hb
  replace AG := AG.far hb
  replace M2 := M2.far hb
  have zw8 := hb.size
  replace B := B.trans (hb.mono B.size)
  clear hb
  obtain ⟨q4g, d4g, hv4g, _, _⟩ := G4.rr
  cases hv4g
  have hbA : Below w8.heap.size w8 (w8.alloc (.cells #[.int .i64 x9, .slice q4g m9 d4g] 27)) := (Below.refl _ _).alloc (Nat.le_refl _) _
  have AH := D2.new w8 (.int .i64 x9) (.slice q4g m9 d4g) 27
  have sw9 : w8.heap.size < (w8.alloc (.cells #[.int .i64 x9, .slice q4g m9 d4g] 27)).heap.size := by simp
  replace G1 := G1.below (hbA.mono (by omega))
  replace AW := AW.far hbA
  replace AG := AG.far hbA
  replace M2 := M2.far hbA
  replace G4 := G4.far hbA
  have zw9 := hbA.size
  replace B := B.trans (hbA.mono B.size)
  clear hbA
  obtain ⟨qw10, dw10, hvw10, hdw10, Rw10⟩ := G4.rr
  cases hvw10
  obtain ⟨⟨xAW, yAW⟩, _⟩ := id AW
  obtain ⟨⟨xAG, yAG⟩, _⟩ := id AG
  obtain ⟨⟨xAH, yAH⟩, _⟩ := id AH
  go_wp2_with fail
  clear xAW yAW xAG yAG xAH yAH
  generalize w8.alloc (.cells #[.int .i64 x9, .slice q4g m9 d4g] 27) = w9 at *
  refine (eqNet_any x9 _ _ m9 _ _ f9 _ _ w9 Rw10 G1 (by have := G4.top_le; omega) (by omega) hy).mono ?_
  rintro e w10 ⟨rfl, hb⟩
  clear hdw10 Rw10
  replace G1 := G1.below (hb.mono (by omega))
  replace AW := AW.far hb
  replace AG := AG.far hb
  replace M2 := M2.far hb
  replace G4 := G4.far hb
  replace AH := AH.far hb
  have zw10 := hb.size
  replace B := B.trans (hb.mono B.size)
  clear hb
  clear G4 G1
  obtain ⟨⟨xAW, yAW⟩, _⟩ := id AW
  obtain ⟨⟨xAG, yAG⟩, _⟩ := id AG
  obtain ⟨⟨xAH, yAH⟩, _⟩ := id AH
  go_wp2_with fail
  clear xAW yAW xAG yAG xAH yAH
  refine (heldNet_any x9 _ m9 f9 _ _ _ M2 hy).mono ?_
  rintro e w11 ⟨rfl, hb⟩
  replace AW := AW.far hb
  replace AG := AG.far hb
  replace M2 := M2.far hb
  replace AH := AH.far hb
  have zw11 := hb.size
  replace B := B.trans (hb.mono B.size)
  clear hb
  clear AW AG M2 AH
  go_wp2
  go_ret
  exact ⟨rfl, B⟩
def GivesSValidNet (f0 : FuncId) (x0 : Int) (m : Nat) (f : Nat → List Int) (ok : Bool) : Prop := ∀ (W : World) b c, RR W.heap.size W b m f → m ≤ c →  Calls Try.prog f0 #[.agg #[.int .i64 x0, .slice b m c]] W fun e w' => e = .returned (.bool ok) ∧ Below W.heap.size W w'
def GivesIValidNet (f0 : FuncId) (x0 : Int) (m : Nat) (f : Nat → List Int) (ok : Bool) : Prop := ∀ (W : World) b c, RR W.heap.size W b m f → m ≤ c →  Calls Try.prog f0 #[.agg #[.int .i64 x0, .slice b m c]] W fun e w' => e = .returned (.bool ok) ∧ Below W.heap.size W w'
theorem lawValidNet_core (x0 : Int) (a : Option Addr) (m cap : Nat) (f : Nat → List Int) (ok : Bool) (w : World) (h : RR w.heap.size w a m f) (hm : m ≤ maxLen) (hL : ∀ d, (f d).length ≤ maxLen) 
    (HS : Hid (m + szl f m ≤ 1048576 → GivesSValidNet 16 x0 m f ok)) (HI : Hid (m + szl f m ≤ 1048576 → GivesIValidNet 18 x0 m f ok)) :
    Calls Try.prog 3 #[.agg #[.int .i64 x0, .slice a m cap]] w fun e w' => e = .returned (.bool true) ∧ Below w.heap.size w w' := by
  have HR := Lib.hid h
  have HLL := Lib.hid hL
  clear h hL
  have HZ : Hid (∀ W : World, Below w.heap.size w W → Calls Try.prog 15 #[.agg #[.int .i64 x0, .slice a m cap], .int .i64 1048576] W fun e w' => e = .returned (.int .i64 (left2 m f)) ∧ Below W.heap.size W w') := fun W hW => szNet_any x0 a m cap f W (HR.out.far hW) hm HLL.out
  by_cases hcn : m + szl f m ≤ 1048576
  rotate_left
  · have e0 : left2 m f = -1 := by unfold left2; rw [if_neg hcn]
    rw [e0] at HZ
    clear e0 hcn
    have A0 := D2.new w (.int .i64 x0) (.slice a m cap) 24
    have B : Below w.heap.size w (w.alloc (.cells #[.int .i64 x0, .slice a m cap] 24)) := (Below.refl _ _).alloc (Nat.le_refl _) _
    go_enter Try.func3, Try.ntmps3
    go_wp2_with fail
    generalize w.alloc (.cells #[.int .i64 x0, .slice a m cap] 24) = w0 at A0 B ⊢
    refine (HZ.out w0 B).mono ?_
    rintro e w1 ⟨rfl, hb⟩
    have HBB := Lib.hid (B.trans (hb.mono B.size))
    clear hb B A0
    go_wp2
    go_ret
    exact ⟨rfl, HBB.out⟩
  have e0 : left2 m f = 1048576 - ((m + szl f m : Nat) : Int) := by unfold left2; rw [if_pos hcn]
  rw [e0] at HZ
  clear e0
  have tz : decide ((1048576 : Int) - ((m + szl f m : Nat) : Int) < 0) = false := by simp; omega
  replace HS := Lib.hid (HS.out hcn)
  replace HI := Lib.hid (HI.out hcn)
  have hok : (ok != ok) = false := by simp
  have A0 := D2.new w (.int .i64 x0) (.slice a m cap) 24
  have B : Below w.heap.size w (w.alloc (.cells #[.int .i64 x0, .slice a m cap] 24)) := (Below.refl _ _).alloc (Nat.le_refl _) _
  go_enter Try.func3, Try.ntmps3
  go_wp2_with fail
  generalize w.alloc (.cells #[.int .i64 x0, .slice a m cap] 24) = w0 at A0 B ⊢
  have zw0 := B.size
  have sA0 := A0.lt
  refine (HZ.out w0 B).mono ?_
  rintro e w1 ⟨rfl, hb⟩
  clear HZ
  replace A0 := A0.far hb
  have zw1 := hb.size
  replace B := B.trans (hb.mono B.size)
  clear hb
  obtain ⟨⟨xA0, yA0⟩, _⟩ := id A0
  go_wp2_with fail
  clear xA0 yA0
  refine (toNet_any x0 a m cap f w1 (HR.out.far B) hcn).mono ?_
  rintro e w2 ⟨b1m, c1m, rfl, k1m, r1m, L1m, hb⟩
  replace A0 := A0.far hb
  have zw2 := hb.size
  replace B := B.trans (hb.mono B.size)
  clear hb
  clear L1m
  obtain ⟨⟨xA0, yA0⟩, _⟩ := id A0
  go_wp2_with fail
  clear xA0 yA0
  refine (HS.out w2 b1m c1m (r1m.up (by omega)) k1m).mono ?_
  rintro e w3 ⟨rfl, hb⟩
  replace A0 := A0.far hb
  replace r1m := r1m.below (hb.mono (by omega))
  have zw3 := hb.size
  replace B := B.trans (hb.mono B.size)
  clear hb
  clear r1m
  clear HS
  obtain ⟨⟨xA0, yA0⟩, _⟩ := id A0
  go_wp2_with fail
  clear xA0 yA0
  refine (toNet_any x0 a m cap f w3 (HR.out.far B) hcn).mono ?_
  rintro e w4 ⟨b2m, c2m, rfl, k2m, r2m, L2m, hb⟩
  replace A0 := A0.far hb
  have zw4 := hb.size
  replace B := B.trans (hb.mono B.size)
  clear hb
  have hbA : Below w4.heap.size w4 (w4.alloc (.cells #[.int .i64 x0, .slice b2m m c2m] 27)) := (Below.refl _ _).alloc (Nat.le_refl _) _
  have A1 := D2.new w4 (.int .i64 x0) (.slice b2m m c2m) 27
  have sw5 : w4.heap.size < (w4.alloc (.cells #[.int .i64 x0, .slice b2m m c2m] 27)).heap.size := by simp
  replace A0 := A0.far hbA
  replace r2m := r2m.below (hbA.mono (by omega))
  replace L2m := L2m.far hbA
  have zw5 := hbA.size
  replace B := B.trans (hbA.mono B.size)
  clear hbA
  obtain ⟨⟨xA0, yA0⟩, _⟩ := id A0
  obtain ⟨⟨xA1, yA1⟩, _⟩ := id A1
  go_wp2_with fail
  clear xA0 yA0 xA1 yA1
  generalize w4.alloc (.cells #[.int .i64 x0, .slice b2m m c2m] 27) = w5 at *
  refine (HI.out w5 b2m c2m (r2m.up (by omega)) k2m).mono ?_
  rintro e w6 ⟨rfl, hb⟩
  replace A0 := A0.far hb
  replace r2m := r2m.below (hb.mono (by omega))
  replace L2m := L2m.far hb
  replace A1 := A1.far hb
  have zw6 := hb.size
  replace B := B.trans (hb.mono B.size)
  clear hb
  clear HI
  clear r2m
  obtain ⟨⟨xA0, yA0⟩, _⟩ := id A0
  obtain ⟨⟨xA1, yA1⟩, _⟩ := id A1
  go_wp2_with fail
  clear xA0 yA0 xA1 yA1
  obtain ⟨qa0, qa1⟩ := (A1.drew).gr (rw := none) (by simp)
  obtain ⟨qb0, qb1⟩ := (A0.drew).gr (rw := none) (by simp)
  refine wp_region_mix (none) [0, 1] [2, 3, 4] (by kernel_rfl) (by kernel_rfl) ?_
  simp only [pickOps, List.filterMap_cons, List.filterMap_nil, List.getElem?_toArray, List.getElem?_cons_succ, List.getElem?_cons_zero]
  repeat (refine wpQuietG_step (fun K hK => ?_); go_simp; first | (refine hK _ ?_; clear hK K) | (apply Exists.intro; refine ⟨fun _ => ?_, hK _ ?_⟩; (fail); clear hK K))
  refine wpQuietG_nil ?_
  clear qa0 qa1 qb0 qb1
  intro w7 hG hb
  replace hb := of_drew hb
  replace A0 := A0.far hb
  replace L2m := L2m.far hb
  replace A1 := A1.far hb
  have zw7 := hb.size
  replace B := B.trans (hb.mono B.size)
  clear hb
  obtain ⟨⟨xA0, yA0⟩, _⟩ := id A0
  obtain ⟨⟨xA1, yA1⟩, _⟩ := id A1
  go_wp2_with fail
  clear xA0 yA0 xA1 yA1
  refine (toNet_any x0 a m cap f w7 (HR.out.far B) hcn).mono ?_
  rintro e w8 ⟨b3m, c3m, rfl, k3m, r3m, L3m, hb⟩
  replace hG := gr_step hG hb
  replace A0 := A0.far hb
  replace L2m := L2m.far hb
  replace A1 := A1.far hb
  have zw8 := hb.size
  replace B := B.trans (hb.mono B.size)
  clear hb
  clear L3m
  go_wp2
  try refine ⟨hG, ?_⟩
  clear hG
  intro w9 hG hb
  replace A0 := A0.far hb
  replace L2m := L2m.far hb
  replace A1 := A1.far hb
  replace r3m := r3m.below (hb.mono (by omega))
  have zw9 := hb.size
  replace B := B.trans (hb.mono B.size)
  clear hb
  have R2x := L2m.rrOf.2
  obtain ⟨⟨xA0, yA0⟩, _⟩ := id A0
  obtain ⟨⟨xA1, yA1⟩, _⟩ := id A1
  go_wp2_with fail
  clear xA0 yA0 xA1 yA1
  refine (eqNet_any x0 _ _ m _ _ f _ _ w9 R2x r3m (by omega) (by omega) hcn).mono ?_
  rintro e w10 ⟨rfl, hb⟩
  replace hG := gr_step hG hb
  clear R2x
  replace A0 := A0.far hb
  replace L2m := L2m.far hb
  replace A1 := A1.far hb
  replace r3m := r3m.below (hb.mono (by omega))
  have zw10 := hb.size
  replace B := B.trans (hb.mono B.size)
  clear hb
  clear r3m
  go_wp2
  try refine ⟨hG, ?_⟩
  clear hG
  intro w11 hG hb
  replace A0 := A0.far hb
  replace L2m := L2m.far hb
  replace A1 := A1.far hb
  have zw11 := hb.size
  replace B := B.trans (hb.mono B.size)
  clear hb
  go_wp2
  try refine ⟨hG, ?_⟩
  clear hG
  intro w12 hG hb
  clear hG
  replace A0 := A0.far hb
  replace L2m := L2m.far hb
  replace A1 := A1.far hb
  have zw12 := hb.size
  replace B := B.trans (hb.mono B.size)
  clear hb
  clear A0 L2m A1
  go_wp2
  go_ret
  exact ⟨rfl, B⟩
def GivesSScrambleNet (f0 : FuncId) (x0 : Int) (m : Nat) (f : Nat → List Int) (p1 : Int) (n : Nat) (xs : List Int) (x9 : Int) (m9 : Nat) (f9 : Nat → List Int) (ok : Bool) : Prop := ∀ (W : World) b c b2 c2, RR W.heap.size W b m f → m ≤ c → RO W.heap.size W b2 xs → n ≤ c2 →  Calls Try.prog f0 #[.agg #[.int .i64 x0, .slice b m c], .int .i64 p1, .slice b2 n c2] W fun e w' => ∃ p q, e = .returned (.tuple #[.agg #[.int .i64 x9, .slice p m9 q], .bool ok]) ∧ RR w'.heap.size w' p m9 f9 ∧ Below W.heap.size W w'
def GivesIScrambleNet (f0 : FuncId) (x0 : Int) (m : Nat) (f : Nat → List Int) (p1 : Int) (n : Nat) (xs : List Int) (x9 : Int) (m9 : Nat) (f9 : Nat → List Int) (ok : Bool) : Prop := ∀ (W : World) b c b2 c2, RR W.heap.size W b m f → m ≤ c → RO W.heap.size W b2 xs → n ≤ c2 →  Calls Try.prog f0 #[.agg #[.int .i64 x0, .slice b m c], .int .i64 p1, .slice b2 n c2] W fun e w' => ∃ v, e = .returned (.tuple #[.agg #[.int .i64 x9, v], .bool ok]) ∧ LW W.heap.size w'.heap.size w' v m9 f9 ∧ Below W.heap.size W w'
theorem lawScrambleNet_core (x0 : Int) (a : Option Addr) (m cap : Nat) (f : Nat → List Int) (p1 : Int) (a2 : Option Addr) (n cap2 : Nat) (xs : List Int) (x9 : Int) (m9 : Nat) (f9 : Nat → List Int) (ok : Bool) (w : World) (h : RR w.heap.size w a m f) (hm : m ≤ maxLen) (hL : ∀ d, (f d).length ≤ maxLen) (h2 : RO w.heap.size w a2 xs) (hn : xs.length = n) (hy : m9 + szl f9 m9 ≤ 1048576) 
    (HS : Hid (m + szl f m ≤ 1048576 → n ≤ 1048576 → GivesSScrambleNet 53 x0 m f p1 n xs x9 m9 f9 ok)) (HI : Hid (m + szl f m ≤ 1048576 → n ≤ 1048576 → GivesIScrambleNet 54 x0 m f p1 n xs x9 m9 f9 ok)) :
    Calls Try.prog 13 #[.agg #[.int .i64 x0, .slice a m cap], .int .i64 p1, .slice a2 n cap2] w fun e w' => e = .returned (.bool true) ∧ Below w.heap.size w w' := by
  have HR := Lib.hid h
  have HLL := Lib.hid hL
  have HR2 := Lib.hid h2
  have HN := Lib.hid hn
  clear h hL
  clear h2 hn
  by_cases hb2 : 1048576 < n
  · have t0 : decide ((1048576 : Int) < (n : Int)) = true := by simp; omega
    go_enter Try.func13, Try.ntmps13
    go_wp2
    go_ret
    exact ⟨rfl, (Below.refl _ _).alloc (Nat.le_refl _) _⟩
  have t0 : decide ((1048576 : Int) < (n : Int)) = false := by simp; omega
  have HZ : Hid (∀ W : World, Below w.heap.size w W → Calls Try.prog 15 #[.agg #[.int .i64 x0, .slice a m cap], .int .i64 1048576] W fun e w' => e = .returned (.int .i64 (left2 m f)) ∧ Below W.heap.size W w') := fun W hW => szNet_any x0 a m cap f W (HR.out.far hW) hm HLL.out
  by_cases hcn : m + szl f m ≤ 1048576
  rotate_left
  · have e0 : left2 m f = -1 := by unfold left2; rw [if_neg hcn]
    rw [e0] at HZ
    clear e0 hcn
    have A0 := D2.new w (.int .i64 x0) (.slice a m cap) 24
    have B : Below w.heap.size w (w.alloc (.cells #[.int .i64 x0, .slice a m cap] 24)) := (Below.refl _ _).alloc (Nat.le_refl _) _
    go_enter Try.func13, Try.ntmps13
    go_wp2_with fail
    generalize w.alloc (.cells #[.int .i64 x0, .slice a m cap] 24) = w0 at A0 B ⊢
    refine (HZ.out w0 B).mono ?_
    rintro e w1 ⟨rfl, hb⟩
    have HBB := Lib.hid (B.trans (hb.mono B.size))
    clear hb B A0
    go_wp2
    go_ret
    exact ⟨rfl, HBB.out⟩
  have e0 : left2 m f = 1048576 - ((m + szl f m : Nat) : Int) := by unfold left2; rw [if_pos hcn]
  rw [e0] at HZ
  clear e0
  have tz : decide ((1048576 : Int) - ((m + szl f m : Nat) : Int) < 0) = false := by simp; omega
  replace HS := Lib.hid (HS.out hcn (by omega))
  replace HI := Lib.hid (HI.out hcn (by omega))
  have hok : (ok != ok) = false := by simp
  have A0 := D2.new w (.int .i64 x0) (.slice a m cap) 24
  have B : Below w.heap.size w (w.alloc (.cells #[.int .i64 x0, .slice a m cap] 24)) := (Below.refl _ _).alloc (Nat.le_refl _) _
  go_enter Try.func13, Try.ntmps13
  go_wp2_with fail
  generalize w.alloc (.cells #[.int .i64 x0, .slice a m cap] 24) = w0 at A0 B ⊢
  have zw0 := B.size
  have sA0 := A0.lt
  refine (HZ.out w0 B).mono ?_
  rintro e w1 ⟨rfl, hb⟩
  clear HZ
  replace A0 := A0.far hb
  have zw1 := hb.size
  replace B := B.trans (hb.mono B.size)
  clear hb
  obtain ⟨⟨xA0, yA0⟩, _⟩ := id A0
  go_wp2_with fail
  clear xA0 yA0
  refine (toNet_any x0 a m cap f w1 (HR.out.far B) hcn).mono ?_
  rintro e w2 ⟨b1m, c1m, rfl, k1m, r1m, L1m, hb⟩
  replace A0 := A0.far hb
  have zw2 := hb.size
  replace B := B.trans (hb.mono B.size)
  clear hb
  clear L1m
  obtain ⟨⟨xA0, yA0⟩, _⟩ := id A0
  go_wp2_with fail
  clear xA0 yA0
  refine (copy7_any a2 n cap2 xs w2 ((HR2.out.below B).up B.size) HN.out (by omega)).mono ?_
  rintro e w3 ⟨b1s, c1s, rfl, r1s, k1s, S1s, hb⟩
  replace A0 := A0.far hb
  replace r1m := r1m.below (hb.mono (by omega))
  have zw3 := hb.size
  replace B := B.trans (hb.mono B.size)
  clear hb
  clear S1s
  obtain ⟨⟨xA0, yA0⟩, _⟩ := id A0
  go_wp2_with fail
  clear xA0 yA0
  refine (HS.out w3 b1m c1m b1s c1s (r1m.up (by omega)) k1m (r1s.up (by omega)) k1s).mono ?_
  rintro e w4 ⟨b1v, c1v, rfl, G1, hb⟩
  replace A0 := A0.far hb
  replace r1m := r1m.below (hb.mono (by omega))
  replace r1s := r1s.below (hb.mono (by omega))
  have zw4 := hb.size
  replace B := B.trans (hb.mono B.size)
  clear hb
  clear r1m r1s
  clear HS
  have hbA : Below w4.heap.size w4 (w4.alloc (.cells #[.int .i64 x9, .slice b1v m9 c1v] 27)) := (Below.refl _ _).alloc (Nat.le_refl _) _
  have AW := D2.new w4 (.int .i64 x9) (.slice b1v m9 c1v) 27
  have sw5 : w4.heap.size < (w4.alloc (.cells #[.int .i64 x9, .slice b1v m9 c1v] 27)).heap.size := by simp
  replace A0 := A0.far hbA
  replace G1 := G1.below (hbA.mono (by omega))
  have zw5 := hbA.size
  replace B := B.trans (hbA.mono B.size)
  clear hbA
  obtain ⟨⟨xA0, yA0⟩, _⟩ := id A0
  obtain ⟨⟨xAW, yAW⟩, _⟩ := id AW
  go_wp2_with fail
  clear xA0 yA0 xAW yAW
  generalize w4.alloc (.cells #[.int .i64 x9, .slice b1v m9 c1v] 27) = w5 at *
  refine (toNet_any x0 a m cap f w5 (HR.out.far B) hcn).mono ?_
  rintro e w6 ⟨b2m, c2m, rfl, k2m, r2m, L2m, hb⟩
  replace A0 := A0.far hb
  replace G1 := G1.below (hb.mono (by omega))
  replace AW := AW.far hb
  have zw6 := hb.size
  replace B := B.trans (hb.mono B.size)
  clear hb
  have hbA : Below w6.heap.size w6 (w6.alloc (.cells #[.int .i64 x0, .slice b2m m c2m] 27)) := (Below.refl _ _).alloc (Nat.le_refl _) _
  have A1 := D2.new w6 (.int .i64 x0) (.slice b2m m c2m) 27
  have sw7 : w6.heap.size < (w6.alloc (.cells #[.int .i64 x0, .slice b2m m c2m] 27)).heap.size := by simp
  replace A0 := A0.far hbA
  replace G1 := G1.below (hbA.mono (by omega))
  replace AW := AW.far hbA
  replace r2m := r2m.below (hbA.mono (by omega))
  replace L2m := L2m.far hbA
  have zw7 := hbA.size
  replace B := B.trans (hbA.mono B.size)
  clear hbA
  obtain ⟨⟨xA0, yA0⟩, _⟩ := id A0
  obtain ⟨⟨xAW, yAW⟩, _⟩ := id AW
  obtain ⟨⟨xA1, yA1⟩, _⟩ := id A1
  go_wp2_with fail
  clear xA0 yA0 xAW yAW xA1 yA1
  generalize w6.alloc (.cells #[.int .i64 x0, .slice b2m m c2m] 27) = w7 at *
  refine (copy7_any a2 n cap2 xs w7 ((HR2.out.below B).up B.size) HN.out (by omega)).mono ?_
  rintro e w8 ⟨b2s, c2s, rfl, r2s, k2s, S2s, hb⟩
  replace A0 := A0.far hb
  replace G1 := G1.below (hb.mono (by omega))
  replace AW := AW.far hb
  replace r2m := r2m.below (hb.mono (by omega))
  replace L2m := L2m.far hb
  replace A1 := A1.far hb
  have zw8 := hb.size
  replace B := B.trans (hb.mono B.size)
  clear hb
  obtain ⟨⟨xA0, yA0⟩, _⟩ := id A0
  obtain ⟨⟨xAW, yAW⟩, _⟩ := id AW
  obtain ⟨⟨xA1, yA1⟩, _⟩ := id A1
  go_wp2_with fail
  clear xA0 yA0 xAW yAW xA1 yA1
  refine (HI.out w8 b2m c2m b2s c2s (r2m.up (by omega)) k2m (r2s.up (by omega)) k2s).mono ?_
  rintro e w9 ⟨v2, rfl, G2, hb⟩
  replace A0 := A0.far hb
  replace G1 := G1.below (hb.mono (by omega))
  replace AW := AW.far hb
  replace r2m := r2m.below (hb.mono (by omega))
  replace L2m := L2m.far hb
  replace A1 := A1.far hb
  replace r2s := r2s.below (hb.mono (by omega))
  replace S2s := S2s.chg (Chg.of hb 0 0) (by omega) (.inr (Nat.zero_le _))
  have zw9 := hb.size
  replace B := B.trans (hb.mono B.size)
  clear hb
  obtain ⟨q2g, d2g, hv2g, _, _⟩ := G2.rr
  cases hv2g
  have hbA : Below w9.heap.size w9 (w9.alloc (.cells #[.int .i64 x9, .slice q2g m9 d2g] 27)) := (Below.refl _ _).alloc (Nat.le_refl _) _
  have AG := D2.new w9 (.int .i64 x9) (.slice q2g m9 d2g) 27
  have sw10 : w9.heap.size < (w9.alloc (.cells #[.int .i64 x9, .slice q2g m9 d2g] 27)).heap.size := by simp
  replace A0 := A0.far hbA
  replace G1 := G1.below (hbA.mono (by omega))
  replace AW := AW.far hbA
  replace r2m := r2m.below (hbA.mono (by omega))
  replace L2m := L2m.far hbA
  replace A1 := A1.far hbA
  replace r2s := r2s.below (hbA.mono (by omega))
  replace S2s := S2s.chg (Chg.of hbA 0 0) (by omega) (.inr (Nat.zero_le _))
  replace G2 := G2.far hbA
  have zw10 := hbA.size
  replace B := B.trans (hbA.mono B.size)
  clear hbA
  clear r2m r2s
  obtain ⟨qw11, dw11, hvw11, hdw11, Rw11⟩ := G2.rr
  cases hvw11
  obtain ⟨⟨xA0, yA0⟩, _⟩ := id A0
  obtain ⟨⟨xAW, yAW⟩, _⟩ := id AW
  obtain ⟨⟨xA1, yA1⟩, _⟩ := id A1
  obtain ⟨⟨xAG, yAG⟩, _⟩ := id AG
  go_wp2_with fail
  clear xA0 yA0 xAW yAW xA1 yA1 xAG yAG
  generalize w9.alloc (.cells #[.int .i64 x9, .slice q2g m9 d2g] 27) = w10 at *
  refine (eqNet_any x9 _ _ m9 _ _ f9 _ _ w10 Rw11 G1 (by have := G2.top_le; omega) (by omega) hy).mono ?_
  rintro e w11 ⟨rfl, hb⟩
  clear hdw11 Rw11
  replace A0 := A0.far hb
  replace G1 := G1.below (hb.mono (by omega))
  replace AW := AW.far hb
  replace L2m := L2m.far hb
  replace A1 := A1.far hb
  replace S2s := S2s.chg (Chg.of hb 0 0) (by omega) (.inr (Nat.zero_le _))
  replace G2 := G2.far hb
  replace AG := AG.far hb
  have zw11 := hb.size
  replace B := B.trans (hb.mono B.size)
  clear hb
  obtain ⟨⟨xA0, yA0⟩, _⟩ := id A0
  obtain ⟨⟨xAW, yAW⟩, _⟩ := id AW
  obtain ⟨⟨xA1, yA1⟩, _⟩ := id A1
  obtain ⟨⟨xAG, yAG⟩, _⟩ := id AG
  go_wp2_with fail
  clear xA0 yA0 xAW yAW xA1 yA1 xAG yAG
  obtain ⟨qa0, qa1⟩ := (A1.drew).gr (rw := none) (by simp)
  obtain ⟨qb0, qb1⟩ := (A0.drew).gr (rw := none) (by simp)
  refine wp_region_mix (none) [0, 1] [2, 3, 4] (by kernel_rfl) (by kernel_rfl) ?_
  simp only [pickOps, List.filterMap_cons, List.filterMap_nil, List.getElem?_toArray, List.getElem?_cons_succ, List.getElem?_cons_zero]
  repeat (refine wpQuietG_step (fun K hK => ?_); go_simp; first | (refine hK _ ?_; clear hK K) | (apply Exists.intro; refine ⟨fun _ => ?_, hK _ ?_⟩; (fail); clear hK K))
  refine wpQuietG_nil ?_
  clear qa0 qa1 qb0 qb1
  intro w12 hG hb
  replace hb := of_drew hb
  replace A0 := A0.far hb
  replace G1 := G1.below (hb.mono (by omega))
  replace AW := AW.far hb
  replace L2m := L2m.far hb
  replace A1 := A1.far hb
  replace S2s := S2s.chg (Chg.of hb 0 0) (by omega) (.inr (Nat.zero_le _))
  replace G2 := G2.far hb
  replace AG := AG.far hb
  have zw12 := hb.size
  replace B := B.trans (hb.mono B.size)
  clear hb
  obtain ⟨⟨xA0, yA0⟩, _⟩ := id A0
  obtain ⟨⟨xAW, yAW⟩, _⟩ := id AW
  obtain ⟨⟨xA1, yA1⟩, _⟩ := id A1
  obtain ⟨⟨xAG, yAG⟩, _⟩ := id AG
  go_wp2_with fail
  clear xA0 yA0 xAW yAW xA1 yA1 xAG yAG
  refine (toNet_any x0 a m cap f w12 (HR.out.far B) hcn).mono ?_
  rintro e w13 ⟨b3m, c3m, rfl, k3m, r3m, L3m, hb⟩
  replace hG := gr_step hG hb
  replace A0 := A0.far hb
  replace G1 := G1.below (hb.mono (by omega))
  replace AW := AW.far hb
  replace L2m := L2m.far hb
  replace A1 := A1.far hb
  replace S2s := S2s.chg (Chg.of hb 0 0) (by omega) (.inr (Nat.zero_le _))
  replace G2 := G2.far hb
  replace AG := AG.far hb
  have zw13 := hb.size
  replace B := B.trans (hb.mono B.size)
  clear hb
  clear L3m
  go_wp2
  try refine ⟨hG, ?_⟩
  clear hG
  intro w14 hG hb
  replace A0 := A0.far hb
  replace G1 := G1.below (hb.mono (by omega))
  replace AW := AW.far hb
  replace L2m := L2m.far hb
  replace A1 := A1.far hb
  replace S2s := S2s.chg (Chg.of hb 0 0) (by omega) (.inr (Nat.zero_le _))
  replace G2 := G2.far hb
  replace AG := AG.far hb
  replace r3m := r3m.below (hb.mono (by omega))
  have zw14 := hb.size
  replace B := B.trans (hb.mono B.size)
  clear hb
  have R2x := L2m.rrOf.2
  obtain ⟨⟨xA0, yA0⟩, _⟩ := id A0
  obtain ⟨⟨xAW, yAW⟩, _⟩ := id AW
  obtain ⟨⟨xA1, yA1⟩, _⟩ := id A1
  obtain ⟨⟨xAG, yAG⟩, _⟩ := id AG
  go_wp2_with fail
  clear xA0 yA0 xAW yAW xA1 yA1 xAG yAG
  refine (eqNet_any x0 _ _ m _ _ f _ _ w14 R2x r3m (by omega) (by omega) hcn).mono ?_
  rintro e w15 ⟨rfl, hb⟩
  replace hG := gr_step hG hb
  clear R2x
  replace A0 := A0.far hb
  replace G1 := G1.below (hb.mono (by omega))
  replace AW := AW.far hb
  replace L2m := L2m.far hb
  replace A1 := A1.far hb
  replace S2s := S2s.chg (Chg.of hb 0 0) (by omega) (.inr (Nat.zero_le _))
  replace G2 := G2.far hb
  replace AG := AG.far hb
  replace r3m := r3m.below (hb.mono (by omega))
  have zw15 := hb.size
  replace B := B.trans (hb.mono B.size)
  clear hb
  clear r3m
  go_wp2
  try refine ⟨hG, ?_⟩
  clear hG
  intro w16 hG hb
  replace A0 := A0.far hb
  replace G1 := G1.below (hb.mono (by omega))
  replace AW := AW.far hb
  replace L2m := L2m.far hb
  replace A1 := A1.far hb
  replace S2s := S2s.chg (Chg.of hb 0 0) (by omega) (.inr (Nat.zero_le _))
  replace G2 := G2.far hb
  replace AG := AG.far hb
  have zw16 := hb.size
  replace B := B.trans (hb.mono B.size)
  clear hb
  go_wp2
  try refine ⟨hG, ?_⟩
  clear hG
  intro w17 hG hb
  clear hG
  replace A0 := A0.far hb
  replace G1 := G1.below (hb.mono (by omega))
  replace AW := AW.far hb
  replace L2m := L2m.far hb
  replace A1 := A1.far hb
  replace S2s := S2s.chg (Chg.of hb 0 0) (by omega) (.inr (Nat.zero_le _))
  replace G2 := G2.far hb
  replace AG := AG.far hb
  have zw17 := hb.size
  replace B := B.trans (hb.mono B.size)
  clear hb
  obtain ⟨⟨xA0, yA0⟩, _⟩ := id A0
  obtain ⟨⟨xAW, yAW⟩, _⟩ := id AW
  obtain ⟨⟨xA1, yA1⟩, _⟩ := id A1
  obtain ⟨⟨xAG, yAG⟩, _⟩ := id AG
  go_wp2_with fail
  clear xA0 yA0 xAW yAW xA1 yA1 xAG yAG
  refine (copy7_any a2 n cap2 xs w17 ((HR2.out.below B).up B.size) HN.out (by omega)).mono ?_
  rintro e w18 ⟨b3s, c3s, rfl, r3s, k3s, S3s, hb⟩
  replace A0 := A0.far hb
  replace G1 := G1.below (hb.mono (by omega))
  replace AW := AW.far hb
  replace L2m := L2m.far hb
  replace A1 := A1.far hb
  replace S2s := S2s.chg (Chg.of hb 0 0) (by omega) (.inr (Nat.zero_le _))
  replace G2 := G2.far hb
  replace AG := AG.far hb
  have zw18 := hb.size
  replace B := B.trans (hb.mono B.size)
  clear hb
  obtain ⟨⟨xA0, yA0⟩, _⟩ := id A0
  obtain ⟨⟨xAW, yAW⟩, _⟩ := id AW
  obtain ⟨⟨xA1, yA1⟩, _⟩ := id A1
  obtain ⟨⟨xAG, yAG⟩, _⟩ := id AG
  go_wp2_with fail
  clear xA0 yA0 xAW yAW xA1 yA1 xAG yAG
  refine (eq64_yes _ _ xs _ _ _ _ _ S2s S3s (by have := HN.out; omega)).mono ?_
  rintro e w19 ⟨rfl, nw19, ew19⟩
  have hb : Below w18.heap.size w18 w19 := by rw [ew19]; exact below_drewN (Below.refl _ _) _
  clear ew19
  replace A0 := A0.far hb
  replace G1 := G1.below (hb.mono (by omega))
  replace AW := AW.far hb
  replace L2m := L2m.far hb
  replace A1 := A1.far hb
  replace S2s := S2s.chg (Chg.of hb 0 0) (by omega) (.inr (Nat.zero_le _))
  replace G2 := G2.far hb
  replace AG := AG.far hb
  replace r3s := r3s.below (hb.mono (by omega))
  replace S3s := S3s.chg (Chg.of hb 0 0) (by omega) (.inr (Nat.zero_le _))
  have zw19 := hb.size
  replace B := B.trans (hb.mono B.size)
  clear hb
  clear r3s S3s
  have hk1 : m = 0 ∨ 1 ≤ m := by omega
  have hs0 : m = 0 → szl f m = 0 := fun e => by rw [e]; rfl
  obtain ⟨⟨xA0, yA0⟩, _⟩ := id A0
  obtain ⟨⟨xAW, yAW⟩, _⟩ := id AW
  obtain ⟨⟨xA1, yA1⟩, _⟩ := id A1
  obtain ⟨⟨xAG, yAG⟩, _⟩ := id AG
  go_wp2_with fail
  clear xA0 yA0 xAW yAW xA1 yA1 xAG yAG
  refine (markNet_any x0 _ m f _ _ _ L2m hcn).mono ?_
  rintro e w20 ⟨rfl, _, hc⟩
  clear L2m
  replace A0 := A0.chg hc (by omega)
  replace G1 := G1.chg hc (by omega) (by omega)
  replace AW := AW.chg hc (by omega)
  replace A1 := A1.chg hc (by omega)
  replace S2s := S2s.chg hc (by omega) (by omega)
  replace G2 := G2.chg hc (by omega)
  replace AG := AG.chg hc (by omega)
  have zw20 := hc.size
  replace B := below_chg B hc (by omega) (by omega)
  clear hc
  obtain ⟨⟨xA0, yA0⟩, _⟩ := id A0
  obtain ⟨⟨xAW, yAW⟩, _⟩ := id AW
  obtain ⟨⟨xA1, yA1⟩, _⟩ := id A1
  obtain ⟨⟨xAG, yAG⟩, _⟩ := id AG
  go_wp2_with fail
  clear xA0 yA0 xAW yAW xA1 yA1 xAG yAG
  refine (mark64_any _ xs _ _ (1 + (szl f m : Nat)) _ S2s (by have := HN.out; omega) (by omega) (by omega)).mono ?_
  rintro e w21 ⟨rfl, _, hg⟩
  have hc := Chg.grown hg S2s.in
  clear hg
  clear S2s
  replace A0 := A0.chg hc (by omega)
  replace G1 := G1.chg hc (by omega) (by omega)
  replace AW := AW.chg hc (by omega)
  replace A1 := A1.chg hc (by omega)
  replace G2 := G2.chg hc (by omega)
  replace AG := AG.chg hc (by omega)
  have zw21 := hc.size
  replace B := below_chg B hc (by omega) (by omega)
  clear hc
  have tk : decide (((1 + (szl f m : Nat)) + (xs.length : Int)) < (0 : Int)) = false := by simp; omega
  obtain ⟨qw22, dw22, hvw22, hdw22, Rw22⟩ := G2.rr
  cases hvw22
  obtain ⟨⟨xA0, yA0⟩, _⟩ := id A0
  obtain ⟨⟨xAW, yAW⟩, _⟩ := id AW
  obtain ⟨⟨xA1, yA1⟩, _⟩ := id A1
  obtain ⟨⟨xAG, yAG⟩, _⟩ := id AG
  go_wp2_with fail
  clear xA0 yA0 xAW yAW xA1 yA1 xAG yAG
  refine (eqNet_any x9 _ _ m9 _ _ f9 _ _ w21 Rw22 G1 (by have := G2.top_le; omega) (by omega) hy).mono ?_
  rintro e w22 ⟨rfl, hb⟩
  clear hdw22 Rw22
  replace A0 := A0.far hb
  replace G1 := G1.below (hb.mono (by omega))
  replace AW := AW.far hb
  replace A1 := A1.far hb
  replace G2 := G2.far hb
  replace AG := AG.far hb
  have zw22 := hb.size
  replace B := B.trans (hb.mono B.size)
  clear hb
  obtain ⟨⟨xA0, yA0⟩, _⟩ := id A0
  obtain ⟨⟨xAW, yAW⟩, _⟩ := id AW
  obtain ⟨⟨xA1, yA1⟩, _⟩ := id A1
  obtain ⟨⟨xAG, yAG⟩, _⟩ := id AG
  go_wp2_with fail
  clear xA0 yA0 xAW yAW xA1 yA1 xAG yAG
  refine (markNet_any x9 _ m9 f9 _ _ _ G2 hy).mono ?_
  rintro e w23 ⟨rfl, M2, hc⟩
  clear G2
  replace A0 := A0.chg hc (by omega)
  replace G1 := G1.chg hc (by omega) (by omega)
  replace AW := AW.chg hc (by omega)
  replace A1 := A1.chg hc (by omega)
  replace AG := AG.chg hc (by omega)
  have zw23 := hc.size
  replace B := below_chg B hc (by omega) (by omega)
  clear hc
  have hq9 : ((1 + (szl f9 m9 : Nat) : Int) != (1 + (szl f9 m9 : Nat) : Int)) = false := by simp
  have tq9 : decide ((1 + (szl f9 m9 : Nat) : Int) < 0) = false := by simp; omega
  obtain ⟨⟨xA0, yA0⟩, _⟩ := id A0
  obtain ⟨⟨xAW, yAW⟩, _⟩ := id AW
  obtain ⟨⟨xA1, yA1⟩, _⟩ := id A1
  obtain ⟨⟨xAG, yAG⟩, _⟩ := id AG
  go_wp2_with fail
  clear xA0 yA0 xAW yAW xA1 yA1 xAG yAG
  refine (heldNet_any x9 _ m9 f9 _ _ _ M2 hy).mono ?_
  rintro e w24 ⟨rfl, hb⟩
  replace A0 := A0.far hb
  replace G1 := G1.below (hb.mono (by omega))
  replace AW := AW.far hb
  replace A1 := A1.far hb
  replace AG := AG.far hb
  replace M2 := M2.far hb
  have zw24 := hb.size
  replace B := B.trans (hb.mono B.size)
  clear hb
  obtain ⟨⟨xA0, yA0⟩, _⟩ := id A0
  obtain ⟨⟨xAW, yAW⟩, _⟩ := id AW
  obtain ⟨⟨xA1, yA1⟩, _⟩ := id A1
  obtain ⟨⟨xAG, yAG⟩, _⟩ := id AG
  go_wp2_with fail
  clear xA0 yA0 xAW yAW xA1 yA1 xAG yAG
  refine (toNet_any x0 a m cap f w24 (HR.out.far B) hcn).mono ?_
  rintro e w25 ⟨b4m, c4m, rfl, k4m, r4m, L4m, hb⟩
  replace A0 := A0.far hb
  replace G1 := G1.below (hb.mono (by omega))
  replace AW := AW.far hb
  replace A1 := A1.far hb
  replace AG := AG.far hb
  replace M2 := M2.far hb
  have zw25 := hb.size
  replace B := B.trans (hb.mono B.size)
  clear hb
  clear L4m
  obtain ⟨⟨xA0, yA0⟩, _⟩ := id A0
  obtain ⟨⟨xAW, yAW⟩, _⟩ := id AW
  obtain ⟨⟨xA1, yA1⟩, _⟩ := id A1
  obtain ⟨⟨xAG, yAG⟩, _⟩ := id AG
  go_wp2_with fail
  clear xA0 yA0 xAW yAW xA1 yA1 xAG yAG
  refine (copy7_any a2 n cap2 xs w25 ((HR2.out.below B).up B.size) HN.out (by omega)).mono ?_
  rintro e w26 ⟨b4s, c4s, rfl, r4s, k4s, S4s, hb⟩
  replace A0 := A0.far hb
  replace G1 := G1.below (hb.mono (by omega))
  replace AW := AW.far hb
  replace A1 := A1.far hb
  replace AG := AG.far hb
  replace M2 := M2.far hb
  replace r4m := r4m.below (hb.mono (by omega))
  have zw26 := hb.size
  replace B := B.trans (hb.mono B.size)
  clear hb
  clear S4s
  obtain ⟨⟨xA0, yA0⟩, _⟩ := id A0
  obtain ⟨⟨xAW, yAW⟩, _⟩ := id AW
  obtain ⟨⟨xA1, yA1⟩, _⟩ := id A1
  obtain ⟨⟨xAG, yAG⟩, _⟩ := id AG
  go_wp2_with fail
  clear xA0 yA0 xAW yAW xA1 yA1 xAG yAG
  refine (HI.out w26 b4m c4m b4s c4s (r4m.up (by omega)) k4m (r4s.up (by omega)) k4s).mono ?_
  rintro e w27 ⟨v4, rfl, G4, hb⟩
  replace A0 := A0.far hb
  replace G1 := G1.below (hb.mono (by omega))
  replace AW := AW.far hb
  replace A1 := A1.far hb
  replace AG := AG.far hb
  replace M2 := M2.far hb
  replace r4m := r4m.below (hb.mono (by omega))
  replace r4s := r4s.below (hb.mono (by omega))
  have zw27 := hb.size
  replace B := B.trans (hb.mono B.size)
  clear hb
  clear r4m r4s
  obtain ⟨q4g, d4g, hv4g, _, _⟩ := G4.rr
  cases hv4g
  have hbA : Below w27.heap.size w27 (w27.alloc (.cells #[.int .i64 x9, .slice q4g m9 d4g] 27)) := (Below.refl _ _).alloc (Nat.le_refl _) _
  have AH := D2.new w27 (.int .i64 x9) (.slice q4g m9 d4g) 27
  have sw28 : w27.heap.size < (w27.alloc (.cells #[.int .i64 x9, .slice q4g m9 d4g] 27)).heap.size := by simp
  replace A0 := A0.far hbA
  replace G1 := G1.below (hbA.mono (by omega))
  replace AW := AW.far hbA
  replace A1 := A1.far hbA
  replace AG := AG.far hbA
  replace M2 := M2.far hbA
  replace G4 := G4.far hbA
  have zw28 := hbA.size
  replace B := B.trans (hbA.mono B.size)
  clear hbA
  obtain ⟨qw29, dw29, hvw29, hdw29, Rw29⟩ := G4.rr
  cases hvw29
  obtain ⟨⟨xA0, yA0⟩, _⟩ := id A0
  obtain ⟨⟨xAW, yAW⟩, _⟩ := id AW
  obtain ⟨⟨xA1, yA1⟩, _⟩ := id A1
  obtain ⟨⟨xAG, yAG⟩, _⟩ := id AG
  obtain ⟨⟨xAH, yAH⟩, _⟩ := id AH
  go_wp2_with fail
  clear xA0 yA0 xAW yAW xA1 yA1 xAG yAG xAH yAH
  generalize w27.alloc (.cells #[.int .i64 x9, .slice q4g m9 d4g] 27) = w28 at *
  refine (eqNet_any x9 _ _ m9 _ _ f9 _ _ w28 Rw29 G1 (by have := G4.top_le; omega) (by omega) hy).mono ?_
  rintro e w29 ⟨rfl, hb⟩
  clear hdw29 Rw29
  replace A0 := A0.far hb
  replace G1 := G1.below (hb.mono (by omega))
  replace AW := AW.far hb
  replace A1 := A1.far hb
  replace AG := AG.far hb
  replace M2 := M2.far hb
  replace G4 := G4.far hb
  replace AH := AH.far hb
  have zw29 := hb.size
  replace B := B.trans (hb.mono B.size)
  clear hb
  clear G4 G1
  obtain ⟨⟨xA0, yA0⟩, _⟩ := id A0
  obtain ⟨⟨xAW, yAW⟩, _⟩ := id AW
  obtain ⟨⟨xA1, yA1⟩, _⟩ := id A1
  obtain ⟨⟨xAG, yAG⟩, _⟩ := id AG
  obtain ⟨⟨xAH, yAH⟩, _⟩ := id AH
  go_wp2_with fail
  clear xA0 yA0 xAW yAW xA1 yA1 xAG yAG xAH yAH
  refine (heldNet_any x9 _ m9 f9 _ _ _ M2 hy).mono ?_
  rintro e w30 ⟨rfl, hb⟩
  replace A0 := A0.far hb
  replace AW := AW.far hb
  replace A1 := A1.far hb
  replace AG := AG.far hb
  replace M2 := M2.far hb
  replace AH := AH.far hb
  have zw30 := hb.size
  replace B := B.trans (hb.mono B.size)
  clear hb
  clear A0 AW A1 AG M2 AH
  go_wp2
  go_ret
  exact ⟨rfl, B⟩
end Go.Proofs.Ytmnnpkmjamhmcaa
