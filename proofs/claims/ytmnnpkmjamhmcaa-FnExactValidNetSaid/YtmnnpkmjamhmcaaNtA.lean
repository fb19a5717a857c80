/- Nets in the laws: laws.szNet, toNet, eqNet, markNet, heldNet. -/
import Derived.Test.YtmnnpkmjamhmcaaSSc
import Derived.Deep.CutBlock
import Derived.Deep.Cut
namespace Go.Proofs.Ytmnnpkmjamhmcaa
open Go.RowKit Go.PlainAid
set_option maxHeartbeats 1600000

theorem D2.set0 {V : World} {b : Nat} {x y : Value} (h : D2 V b x y) (u : Value) : D2 (V.setCell ⟨b, 0, none⟩ u) b u y :=
  ⟨⟨World.cell?_setCell_same V _ _ h.1.1, (cell_otherD (addr_neD (by omega))).trans h.1.2⟩, by rw [World.frozen?_setCell]; exact h.2.1, by rw [World.frozen?_setCell]; exact h.2.2⟩
theorem D2.set1 {V : World} {b : Nat} {x y : Value} (h : D2 V b x y) (u : Value) : D2 (V.setCell ⟨b, 1, none⟩ u) b x u :=
  ⟨⟨(cell_otherD (addr_neD (by omega))).trans h.1.1, World.cell?_setCell_same V _ _ h.1.2⟩, by rw [World.frozen?_setCell]; exact h.2.1, by rw [World.frozen?_setCell]; exact h.2.2⟩
theorem D2.chg {lo top : Nat} {w w1 : World} {b : Nat} {x y : Value} (h : D2 w b x y) (hc : Chg lo top w w1) (hne : b < lo ∨ top ≤ b) : D2 w1 b x y := by
  have hb := hc.block b h.lt (by omega)
  exact ⟨⟨(World.cell?_of_block (a := ⟨b, 0, none⟩) hb).trans h.1.1, (World.cell?_of_block (a := ⟨b, 1, none⟩) hb).trans h.1.2⟩, (World.frozen?_of_block (a := ⟨b, 0, none⟩) hb).trans h.2.1, (World.frozen?_of_block (a := ⟨b, 1, none⟩) hb).trans h.2.2⟩
theorem SL.widen {base top base' top' : Nat} {w : World} {v : Value} {xs : List Int} (h : SL base top w v xs) (hb : base' ≤ base) (ht : top ≤ top') : SL base' top' w v xs := (h.lower7 hb).up ht
theorem LW.widen {lo top lo' top' : Nat} {w : World} {v : Value} {m : Nat} {f : Nat → List Int} (h : LW lo top w v m f) (hl : lo' ≤ lo) (ht : top ≤ top') (hz : top' ≤ w.heap.size) : LW lo' top' w v m f := by
  rcases h with ⟨rfl, h, h2⟩ | ⟨g, c, us, rfl, hmc, hg, ht0, h1, h2, h3, h4⟩
  · exact .inl ⟨rfl, h, hz⟩
  · exact .inr ⟨g, c, us, rfl, hmc, by omega, hz, h1, fun d hd => (h2 d hd).widen hl ht, h3, h4⟩
theorem LW.setb {lo top : Nat} {w : World} {v : Value} {m : Nat} {f : Nat → List Int} (h : LW lo top w v m f) {b j : Nat} (hb : b < lo) (u : Value) : LW lo top (w.setCell ⟨b, j, none⟩ u) v m f := by
  have hz : (w.setCell ⟨b, j, none⟩ u).heap.size = w.heap.size := by simp [World.setCell]
  rcases h with ⟨rfl, h, h2⟩ | ⟨g, c, us, rfl, hmc, hg, ht0, h1, h2, h3, h4⟩
  · exact .inl ⟨rfl, h, by omega⟩
  · exact .inr ⟨g, c, us, rfl, hmc, by omega, by omega, fun d hd => by rw [cell_otherD (addr_neD (by omega))]; exact h1 d hd, fun d hd => (h2 d hd).setb hb u, h3, h4⟩
theorem LW.rrOf {lo top : Nat} {w : World} {a : Option Addr} {c m : Nat} {f : Nat → List Int} (h : LW lo top w (.slice a m c) m f) : m ≤ c ∧ RR top w a m f := by
  obtain ⟨q, d, e, hc, hr⟩ := h.rr
  cases e
  exact ⟨hc, hr⟩
theorem szNet_any (x : Int) (a : Option Addr) (m c : Nat) (f : Nat → List Int) (w : World) (h : RR w.heap.size w a m f) (hm : m ≤ maxLen) (hL : ∀ d, (f d).length ≤ maxLen) :
    Calls Try.prog 15 #[.agg #[.int .i64 x, .slice a m c], .int .i64 1048576] w fun e w' => e = .returned (.int .i64 (left2 m f)) ∧ Below w.heap.size w w' := by
  have B0 : Below w.heap.size w (w.alloc (.cells #[.int .i64 x, .slice a m c] 24)) := (Below.refl _ w).alloc (Nat.le_refl _) _
  have HS := Lib.hid (szSS_any a m c f _ (h.far B0) hm hL)
  have HB := Lib.hid B0
  have hl2 : left2 m f = -1 ∨ 0 ≤ left2 m f := by unfold left2; split <;> omega
  generalize left2 m f = t at HS hl2 ⊢
  clear h hm hL B0
  rcases hl2 with rfl | h0
  · go_enter Try.func15, Try.ntmps15
    go_wp2_with fail
    refine HS.out.mono ?_
    rintro e w1 ⟨rfl, rfl⟩
    go_wp2
    go_ret
    exact ⟨rfl, HB.out⟩
  · have t0 : decide (t < 0) = false := by simp; omega
    go_enter Try.func15, Try.ntmps15
    go_wp2_with fail
    refine HS.out.mono ?_
    rintro e w1 ⟨rfl, rfl⟩
    go_wp2
    go_ret
    exact ⟨rfl, HB.out⟩
theorem toNet_any (x : Int) (a : Option Addr) (m c : Nat) (f : Nat → List Int) (w : World) (h : RR w.heap.size w a m f) (hm : m + szl f m ≤ 1048576) :
    Calls Try.prog 17 #[.agg #[.int .i64 x, .slice a m c]] w fun e w' => ∃ b c', e = .returned (.agg #[.int .i64 x, .slice b m c']) ∧ m ≤ c' ∧ RR w'.heap.size w' b m f ∧ LW w.heap.size w'.heap.size w' (.slice b m c') m f ∧ Below w.heap.size w w' := by
  have HR := Lib.hid h
  clear h
  obtain ⟨w1, hw1⟩ : ∃ w1, w.alloc (.cells #[.int .i64 x, .slice a m c] 24) = w1 := ⟨_, rfl⟩
  have A0 : D2 w1 w.heap.size (.int .i64 x) (.slice a m c) := by rw [← hw1]; exact D2.new w _ _ _
  have z1 : w1.heap.size = w.heap.size + 1 := by rw [← hw1]; simp
  have B1 : Below w.heap.size w w1 := by rw [← hw1]; exact (Below.refl _ _).alloc (Nat.le_refl _) _
  obtain ⟨w2, hw2⟩ : ∃ w2, w1.alloc (.cells #[.int .i64 0, .slice none 0 0] 27) = w2 := ⟨_, rfl⟩
  have A1 : D2 w2 (w.heap.size + 1) (.int .i64 0) (.slice none 0 0) := by rw [← hw2, ← z1]; exact D2.new w1 _ _ _
  have z2 : w2.heap.size = w.heap.size + 1 + 1 := by rw [← hw2]; simp [z1]
  have B2 : Below w.heap.size w w2 := by rw [← hw2]; exact B1.alloc B1.size _
  replace A0 : D2 w2 w.heap.size (.int .i64 x) (.slice a m c) := by rw [← hw2]; exact A0.alloc _
  obtain ⟨w3, hw3⟩ : ∃ w3, w2.alloc (.cells #[.int .i64 0, .slice none 0 0] 27) = w3 := ⟨_, rfl⟩
  have A2 : D2 w3 (w.heap.size + 1 + 1) (.int .i64 0) (.slice none 0 0) := by rw [← hw3, ← z2]; exact D2.new w2 _ _ _
  have z3 : w3.heap.size = w.heap.size + 1 + 1 + 1 := by rw [← hw3]; simp [z2]
  have B3 : Below w.heap.size w w3 := by rw [← hw3]; exact B2.alloc B2.size _
  replace A0 : D2 w3 w.heap.size (.int .i64 x) (.slice a m c) := by rw [← hw3]; exact A0.alloc _
  replace A1 : D2 w3 (w.heap.size + 1) (.int .i64 0) (.slice none 0 0) := by rw [← hw3]; exact A1.alloc _
  have A2' := A2.set0 (.int .i64 x)
  have A0' := A0.other (show w.heap.size + 1 + 1 ≠ w.heap.size by omega) 0 (.int .i64 x)
  have A1' := A1.other (show w.heap.size + 1 + 1 ≠ w.heap.size + 1 by omega) 0 (.int .i64 x)
  have B' := B3.setCell (p := ⟨w.heap.size + 1 + 1, 0, none⟩) (show w.heap.size ≤ w.heap.size + 1 + 1 by omega) (.int .i64 x)
  have z' : (w3.setCell ⟨w.heap.size + 1 + 1, 0, none⟩ (.int .i64 x)).heap.size = w.heap.size + 1 + 1 + 1 := by simp [World.setCell]; exact z3
  obtain ⟨⟨x0, x1⟩, _⟩ := id A0
  obtain ⟨⟨y0, y1⟩, yf⟩ := id A2
  clear B1 B2 B3
  go_enter Try.func17, Try.ntmps17
  go_upto_region 3 with fail
  clear x0 x1 y0 y1 yf A0 A1 A2 hw1 hw2 hw3 z1 z2 z3
  generalize w3.setCell ⟨w.heap.size + 1 + 1, 0, none⟩ (.int .i64 x) = w4 at A0' A1' A2' B' z' ⊢
  obtain ⟨⟨x0, x1⟩, _⟩ := id A0'
  go_wp2_with fail
  refine (copySS_any a m c f w4 (HR.out.far B') hm).mono ?_
  rintro e w5 ⟨b, c', rfl, hc, hr, hs, hb⟩
  have S5 : LW (w.heap.size + 1 + 1 + 1) w5.heap.size w5 (.slice b m c') m f := by rw [← z']; exact hs
  have A0'' := (A0'.far hb).other (show w.heap.size + 1 + 1 ≠ w.heap.size by omega) 1 (.slice b m c')
  have A1'' := (A1'.far hb).other (show w.heap.size + 1 + 1 ≠ w.heap.size + 1 by omega) 1 (.slice b m c')
  have A2'' := (A2'.far hb).set1 (.slice b m c')
  have B'' := (B'.trans (hb.mono B'.size)).setCell (p := ⟨w.heap.size + 1 + 1, 1, none⟩) (show w.heap.size ≤ w.heap.size + 1 + 1 by omega) (.slice b m c')
  have S6 := S5.setb (b := w.heap.size + 1 + 1) (j := 1) (by omega) (.slice b m c')
  have z6 : w5.heap.size = (w5.setCell ⟨w.heap.size + 1 + 1, 1, none⟩ (.slice b m c')).heap.size := by simp [World.setCell]
  rw [z6] at S6
  obtain ⟨⟨y0, y1⟩, yf⟩ := A2'.far hb
  clear x0 x1 A0' A1' A2' B' hr hs hb z' S5 z6
  go_upto_region 4 with fail
  clear y0 y1 yf
  generalize w5.setCell ⟨w.heap.size + 1 + 1, 1, none⟩ (.slice b m c') = w6 at A0'' A1'' A2'' B'' S6 ⊢
  have HP : Hid (LW w.heap.size (putD w6 (w.heap.size + 1) (.int .i64 x) (.slice b m c')).heap.size (putD w6 (w.heap.size + 1) (.int .i64 x) (.slice b m c')) (.slice b m c') m f) := by
    have S8 := (S6.setb (b := w.heap.size + 1) (j := 0) (by omega) (.int .i64 x)).setb (b := w.heap.size + 1) (j := 1) (by omega) (.slice b m c')
    unfold Hid
    exact LW.widen S8 (by omega) (by rw [size_putD]; exact Nat.le_refl _) (Nat.le_refl _)
  have HB : Hid (Below w.heap.size w (putD w6 (w.heap.size + 1) (.int .i64 x) (.slice b m c'))) := below_putD B'' (by omega) _ _
  have HQ := Lib.hid HP.out.rrOf
  obtain ⟨p0, p1⟩ := (A1''.put (.int .i64 x) (.slice b m c')).1
  obtain ⟨⟨x0, x1⟩, xf⟩ := id A1''
  obtain ⟨⟨y0, y1⟩, _⟩ := id A2''
  clear A0'' A1'' A2'' B'' S6
  go_wp2
  unfold putD at p0 p1
  exact bodyPost_ret (v := .agg #[.int .i64 x, .slice b m c']) (by simp [results, Try.results17, go_sem, p0, p1]) rfl ⟨_, _, rfl, HQ.out.1, HQ.out.2, HP.out, HB.out⟩
theorem eqNet_any (x : Int) (a1 a2 : Option Addr) (m c1 c2 : Nat) (f : Nat → List Int) (t1 t2 : Nat) (w : World) (h1 : RR t1 w a1 m f) (h2 : RR t2 w a2 m f) (ht1 : t1 ≤ w.heap.size) (ht2 : t2 ≤ w.heap.size) (hm : m + szl f m ≤ 1048576) :
    Calls Try.prog 19 #[.agg #[.int .i64 x, .slice a1 m c1], .agg #[.int .i64 x, .slice a2 m c2]] w fun e w' => e = .returned (.bool true) ∧ Below w.heap.size w w' := by
  have e0 : (x != x) = false := by simp
  have A0 := (D2.new w (.int .i64 x) (.slice a1 m c1) 27).alloc (.cells #[.int .i64 x, .slice a2 m c2] 27)
  have A1 := D2.new (w.alloc (.cells #[.int .i64 x, .slice a1 m c1] 27)) (.int .i64 x) (.slice a2 m c2) 27
  have B : Below w.heap.size w ((w.alloc (.cells #[.int .i64 x, .slice a1 m c1] 27)).alloc (.cells #[.int .i64 x, .slice a2 m c2] 27)) := ((Below.refl _ w).alloc (Nat.le_refl _) _).alloc (by simp) _
  simp only [World.size_alloc] at A1
  have HE := Lib.hid (eqRR_yes a1 a2 m c1 c2 f t1 t2 _ (h1.below (B.mono ht1)) (h2.below (B.mono ht2)) (Nat.le_trans ht1 B.size) (Nat.le_trans ht2 B.size) hm)
  have HB := Lib.hid B
  clear h1 h2 B
  go_enter Try.func19, Try.ntmps19
  go_wp2_with fail
  generalize ((w.alloc (.cells #[.int .i64 x, .slice a1 m c1] 27)).alloc (.cells #[.int .i64 x, .slice a2 m c2] 27)) = w1 at A0 A1 HB HE ⊢
  refine (HE.out).mono ?_
  rintro e w2 ⟨rfl, hb⟩
  have HB2 := Lib.hid (HB.out.trans (hb.mono HB.out.size))
  clear A0 A1 HE hb
  go_wp2
  go_ret
  exact ⟨rfl, HB2.out⟩
theorem markNet_any (x : Int) (v : Value) (m : Nat) (f : Nat → List Int) (lo top : Nat) (w : World) (h : LW lo top w v m f) (hm : m + szl f m ≤ 1048576) :
    Calls Try.prog 49 #[.agg #[.int .i64 x, v], .int .i64 1] w fun e w' => e = .returned (.int .i64 (1 + (szl f m : Nat))) ∧ LW lo top w' v m (fun d => marks (1 + szl f d) (f d).length) ∧ Chg lo top w w' := by
  have B0 : Below w.heap.size w (w.alloc (.cells #[.int .i64 x, v] 27)) := (Below.refl _ _).alloc (Nat.le_refl _) _
  have HM := Lib.hid (markW_any v m f lo top _ (h.far B0) hm)
  have HC := Lib.hid (Chg.of B0 lo top)
  clear B0 h
  go_enter Try.func49, Try.ntmps49
  go_wp2_with fail
  refine HM.out.mono ?_
  rintro e w2 ⟨rfl, hl, hc⟩
  have HK := Lib.hid (And.intro hl (HC.out.trans hc))
  clear hl hc HM HC
  go_wp2
  go_ret
  exact ⟨rfl, HK.out⟩
theorem heldNet_any (x : Int) (v : Value) (m : Nat) (f : Nat → List Int) (lo top : Nat) (w : World) (h : LW lo top w v m (fun d => marks (1 + szl f d) (f d).length)) (hm : m + szl f m ≤ 1048576) :
    Calls Try.prog 50 #[.agg #[.int .i64 x, v], .int .i64 1] w fun e w' => e = .returned (.int .i64 (1 + (szl f m : Nat))) ∧ Below w.heap.size w w' := by
  have B0 : Below w.heap.size w (w.alloc (.cells #[.int .i64 x, v] 27)) := (Below.refl _ _).alloc (Nat.le_refl _) _
  have HM := Lib.hid (heldW_any v m f lo top _ (h.far B0) hm)
  have HB := Lib.hid B0
  have t0 : decide ((1 : Int) + ((szl f m : Nat) : Int) < 0) = false := by simp; omega
  clear B0 h
  go_enter Try.func50, Try.ntmps50
  go_wp2_with fail
  refine HM.out.mono ?_
  rintro e w2 ⟨rfl, rfl⟩
  clear HM
  go_wp2
  go_ret
  exact ⟨rfl, HB.out⟩
end Go.Proofs.Ytmnnpkmjamhmcaa
