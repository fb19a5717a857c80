/- Linear machines in the laws: copied, measured, compared. -/
import Derived.Test.YtciofobedgmbjaaLinA
import Derived.Deep.CutBlock
import Derived.Deep.Cut
namespace Go.Proofs.Ytciofobedgmbjaa
open Go.RowKit Go.PlainAid
set_option maxHeartbeats 800000

theorem SL.set8 {base top : Nat} {w : World} {v : Value} {xs : List Int} (h : SL base top w v xs) {b j : Nat} (hb : b < base) (u : Value) : SL base top (w.setCell ⟨b, j, none⟩ u) v xs := by
  rcases h with h | ⟨g, cap, rfl, h1, h2, h3, h4, h5⟩
  · exact .inl h
  · exact .inr ⟨g, cap, rfl, h1, h2, h3, fun i hi => by rw [cell_otherD (addr_neD (by omega))]; exact h4 i hi, fun i => by simp only [World.frozen?_setCell]; exact h5 i⟩
theorem toLin_any (x : Int) (a : Option Addr) (n c : Nat) (xs : List Int) (o : Int) (w : World) (h : RO w.heap.size w a xs) (hn : xs.length = n) (hl : n ≤ 1048576) :
    Calls Try.prog 11 #[.agg #[.int .i64 x, .slice a n c, .int .i64 o]] w fun e w' => ∃ b c', e = .returned (.agg #[.int .i64 x, .slice b n c', .int .i64 o]) ∧ RO w'.heap.size w' b xs ∧ n ≤ c' ∧ SL w.heap.size w'.heap.size w' (.slice b n c') xs ∧ Below w.heap.size w w' := by
  have HR := Lib.hid h
  have HN := Lib.hid hn
  clear h hn
  obtain ⟨w1, hw1⟩ : ∃ w1, w.alloc (.cells #[.int .i64 x, .slice a n c, .int .i64 o] 24) = w1 := ⟨_, rfl⟩
  have A0 : D3 w1 w.heap.size (.int .i64 x) (.slice a n c) (.int .i64 o) := by rw [← hw1]; exact D3.new w _ _ _ _
  have z1 : w1.heap.size = w.heap.size + 1 := by rw [← hw1]; simp
  have B1 : Below w.heap.size w w1 := by rw [← hw1]; exact (Below.refl _ _).alloc (Nat.le_refl _) _
  obtain ⟨w2, hw2⟩ : ∃ w2, w1.alloc (.cells #[.int .i64 0, .slice none 0 0, .int .i64 0] 27) = w2 := ⟨_, rfl⟩
  have A1 : D3 w2 (w.heap.size + 1) (.int .i64 0) (.slice none 0 0) (.int .i64 0) := by rw [← hw2, ← z1]; exact D3.new w1 _ _ _ _
  have z2 : w2.heap.size = w.heap.size + 1 + 1 := by rw [← hw2]; simp [z1]
  have B2 : Below w.heap.size w w2 := by rw [← hw2]; exact B1.alloc B1.size _
  replace A0 : D3 w2 w.heap.size (.int .i64 x) (.slice a n c) (.int .i64 o) := by rw [← hw2]; exact A0.alloc _
  obtain ⟨w3, hw3⟩ : ∃ w3, w2.alloc (.cells #[.int .i64 0, .slice none 0 0, .int .i64 0] 27) = w3 := ⟨_, rfl⟩
  have A2 : D3 w3 (w.heap.size + 1 + 1) (.int .i64 0) (.slice none 0 0) (.int .i64 0) := by rw [← hw3, ← z2]; exact D3.new w2 _ _ _ _
  have z3 : w3.heap.size = w.heap.size + 1 + 1 + 1 := by rw [← hw3]; simp [z2]
  have B3 : Below w.heap.size w w3 := by rw [← hw3]; exact B2.alloc B2.size _
  replace A0 : D3 w3 w.heap.size (.int .i64 x) (.slice a n c) (.int .i64 o) := by rw [← hw3]; exact A0.alloc _
  replace A1 : D3 w3 (w.heap.size + 1) (.int .i64 0) (.slice none 0 0) (.int .i64 0) := by rw [← hw3]; exact A1.alloc _
  have A2' := A2.set0 (.int .i64 x)
  have A0' := A0.other (show w.heap.size + 1 + 1 ≠ w.heap.size by omega) 0 (.int .i64 x)
  have A1' := A1.other (show w.heap.size + 1 + 1 ≠ w.heap.size + 1 by omega) 0 (.int .i64 x)
  have B' := B3.setCell (p := ⟨w.heap.size + 1 + 1, 0, none⟩) (show w.heap.size ≤ w.heap.size + 1 + 1 by omega) (.int .i64 x)
  have z' : (w3.setCell ⟨w.heap.size + 1 + 1, 0, none⟩ (.int .i64 x)).heap.size = w.heap.size + 1 + 1 + 1 := by simp [World.setCell]; exact z3
  obtain ⟨⟨x0, x1, x2⟩, _⟩ := id A0
  obtain ⟨⟨y0, y1, y2⟩, yf⟩ := id A2
  clear B1 B2 B3
  go_enter Try.func11, Try.ntmps11
  go_upto_region 3 with fail
  clear x0 x1 x2 y0 y1 y2 yf A0 A1 A2 hw1 hw2 hw3 z1 z2 z3
  generalize w3.setCell ⟨w.heap.size + 1 + 1, 0, none⟩ (.int .i64 x) = w4 at A0' A1' A2' B' z' ⊢
  obtain ⟨⟨x0, x1, x2⟩, _⟩ := id A0'
  go_wp2_with fail
  refine (copy7_any a n c xs _ ((HR.out.below B').up B'.size) HN.out hl).mono ?_
  rintro e w5 ⟨b, c', rfl, hr, hc, hs, hb⟩
  have S5 : SL (w.heap.size + 1 + 1 + 1) w5.heap.size w5 (.slice b n c') xs := by rw [← z']; exact hs
  have zz : w5.heap.size = (w5.setCell ⟨w.heap.size + 1 + 1, 1, none⟩ (.slice b n c')).heap.size := by simp [World.setCell]
  have A0'' := (A0'.far hb).other (show w.heap.size + 1 + 1 ≠ w.heap.size by omega) 1 (.slice b n c')
  have A1'' := (A1'.far hb).other (show w.heap.size + 1 + 1 ≠ w.heap.size + 1 by omega) 1 (.slice b n c')
  have A2'' := (A2'.far hb).set1 (.slice b n c')
  have B'' := (B'.trans (hb.mono B'.size)).setCell (p := ⟨w.heap.size + 1 + 1, 1, none⟩) (show w.heap.size ≤ w.heap.size + 1 + 1 by omega) (.slice b n c')
  have S6 := S5.set8 (b := w.heap.size + 1 + 1) (j := 1) (by omega) (.slice b n c')
  rw [zz] at S6
  obtain ⟨⟨y0, y1, y2⟩, yf⟩ := A2'.far hb
  clear x0 x1 x2 A0' A1' A2' B' hr hs hb z' S5 zz
  go_upto_region 4 with fail
  clear y0 y1 y2 yf
  generalize w5.setCell ⟨w.heap.size + 1 + 1, 1, none⟩ (.slice b n c') = w6 at A0'' A1'' A2'' B'' S6 ⊢
  have A0 := A0''.other (show w.heap.size + 1 + 1 ≠ w.heap.size by omega) 2 (.int .i64 o)
  have A1 := A1''.other (show w.heap.size + 1 + 1 ≠ w.heap.size + 1 by omega) 2 (.int .i64 o)
  have A2 := A2''.set2 (.int .i64 o)
  have B := B''.setCell (p := ⟨w.heap.size + 1 + 1, 2, none⟩) (show w.heap.size ≤ w.heap.size + 1 + 1 by omega) (.int .i64 o)
  have S7 := S6.set8 (b := w.heap.size + 1 + 1) (j := 2) (by omega) (.int .i64 o)
  have zz : w6.heap.size = (w6.setCell ⟨w.heap.size + 1 + 1, 2, none⟩ (.int .i64 o)).heap.size := by simp [World.setCell]
  rw [zz] at S7
  obtain ⟨⟨x0, x1, x2⟩, _⟩ := id A0''
  obtain ⟨⟨y0, y1, y2⟩, yf⟩ := id A2''
  clear A0'' A1'' A2'' B'' S6 zz
  go_upto_region 5 with fail
  clear x0 x1 x2 y0 y1 y2 yf
  generalize w6.setCell ⟨w.heap.size + 1 + 1, 2, none⟩ (.int .i64 o) = w7 at A0 A1 A2 B S7 ⊢
  have HP : Hid (SL w.heap.size (putT w7 (w.heap.size + 1) (.int .i64 x) (.slice b n c') (.int .i64 o)).heap.size (putT w7 (w.heap.size + 1) (.int .i64 x) (.slice b n c') (.int .i64 o)) (.slice b n c') xs) := by
    have S8 := ((S7.set8 (b := w.heap.size + 1) (j := 0) (by omega) (.int .i64 x)).set8 (b := w.heap.size + 1) (j := 1) (by omega) (.slice b n c')).set8 (b := w.heap.size + 1) (j := 2) (by omega) (.int .i64 o)
    unfold Hid
    rw [size_putT]
    exact S8.lower7 (by omega)
  have HB : Hid (Below w.heap.size w (putT w7 (w.heap.size + 1) (.int .i64 x) (.slice b n c') (.int .i64 o))) := below_putT B (by omega) _ _ _
  have HQ : Hid (RO (putT w7 (w.heap.size + 1) (.int .i64 x) (.slice b n c') (.int .i64 o)).heap.size (putT w7 (w.heap.size + 1) (.int .i64 x) (.slice b n c') (.int .i64 o)) b xs) := by
    obtain ⟨a', cap', he, hr⟩ := HP.out.ro
    cases he
    exact hr
  obtain ⟨p0, p1, p2⟩ := (A1.put (.int .i64 x) (.slice b n c') (.int .i64 o)).1
  obtain ⟨⟨x0, x1, x2⟩, xf⟩ := id A1
  obtain ⟨⟨y0, y1, y2⟩, _⟩ := id A2
  clear A0 A1 A2 B S7
  go_wp2
  unfold putT at p0 p1 p2
  exact bodyPost_ret (v := .agg #[.int .i64 x, .slice b n c', .int .i64 o]) (by simp [results, Try.results11, go_sem, p0, p1, p2]) rfl ⟨_, _, rfl, HQ.out, hc, HP.out, HB.out⟩
end Go.Proofs.Ytciofobedgmbjaa
