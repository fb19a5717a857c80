/- Drawn registers and numbers: laws.r8Long, laws.r8At, spec.R8Number, spec.R8Register. -/
import Derived.Test.YtapccbplmbbnnacReg
import Derived.Test.YtapccbplmbbnnacSrc
import Derived.Deep.AppendLies
namespace Go.Proofs.Ytapccbplmbbnnac
open Go.RowKit Go.PlainAid
set_option maxHeartbeats 400000

theorem r8Long_no (a b : Option Addr) (la ca lb cb : Nat) (w : World) (h1 : la ≤ 48) (h2 : lb ≤ 48) :
    Calls Try.prog 11 #[.slice a la ca, .slice b lb cb] w fun e w' => e = .returned (.bool false) ∧ w = w' := by
  have d1 : decide (48 < (la : Int)) = false := by simp; omega
  have d2 : decide (48 < (lb : Int)) = false := by simp; omega
  go_enter Try.func11, Try.ntmps11
  go_wp2
  go_ret
  exact ⟨rfl, rfl⟩
theorem r8Long_yes (a b : Option Addr) (la ca lb cb : Nat) (w : World) (ha : la ≤ 9223372036854775807) (hb : lb ≤ 9223372036854775807) (h : ¬ (la ≤ 48 ∧ lb ≤ 48)) :
    Calls Try.prog 11 #[.slice a la ca, .slice b lb cb] w fun e w' => e = .returned (.bool true) ∧ w = w' := by
  by_cases h1 : la ≤ 48
  · have h2 : ¬ lb ≤ 48 := fun x => h ⟨h1, x⟩
    have d1 : decide (48 < (la : Int)) = false := by simp; omega
    have d2 : decide (48 < (lb : Int)) = true := by simp; omega
    clear h
    go_enter Try.func11, Try.ntmps11
    go_wp2
    go_ret
    exact ⟨rfl, rfl⟩
  · have d1 : decide (48 < (la : Int)) = true := by simp; omega
    clear h
    go_enter Try.func11, Try.ntmps11
    go_wp2
    go_ret
    exact ⟨rfl, rfl⟩
def NatPost (n : Int) (w : World) (e : Ending) (w' : World) : Prop := ∃ v : Nat, e = .returned (.int .i64 v) ∧ (v : Int) < n ∧ ∃ m, w' = w.drewN m
theorem r8At_any (a : Option Addr) (len cap : Nat) (i : Nat) (n : Int) (base : Nat) (w : World) (hC : Code w base a len) (hl : len ≤ 1048576) (i1 : i ≤ 1000000000) (n0 : 1 ≤ n) (n1 : n ≤ 9223372036854775807) :
    Calls Try.prog 12 #[.slice a len cap, .int .i64 i, .int .i64 n] w (NatPost n w) := by
  by_cases hn : n ≤ 1
  · clear hC
    go_enter Try.func12, Try.ntmps12
    go_wp2
    go_ret
    exact ⟨0, rfl, by omega, 0, rfl⟩
  · by_cases hi : i < len
    · rcases hC with ⟨_, h0⟩ | ⟨c, off, rfl, hcb, hx⟩
      · omega
      · obtain ⟨x, x0, x1, hcell⟩ := hx i hi
        have r0 := Int.emod_nonneg x (show n ≠ 0 by omega)
        have r1 := Int.emod_lt_of_pos x (show 0 < n by omega)
        obtain ⟨v, hv⟩ := Int.eq_ofNat_of_zero_le r0
        clear hx
        go_enter Try.func12, Try.ntmps12
        go_wp2
        go_ret
        exact ⟨v, rfl, by omega, 0, rfl⟩
    · clear hC
      go_enter Try.func12, Try.ntmps12
      go_wp2
      go_ret
      exact ⟨0, rfl, by omega, 0, rfl⟩

theorem Code.mono {w : World} {base base' : Nat} {a : Option Addr} {len : Nat} (h : Code w base a len) (hb : base ≤ base') : Code w base' a len := by
  rcases h with h | ⟨c, off, ha, hc, hx⟩
  · exact .inl h
  · exact .inr ⟨c, off, ha, by omega, hx⟩

def NumPost (n : Int) (w : World) (e : Ending) (w' : World) : Prop := ∃ v : Nat, e = .returned (.int .i64 v) ∧ (v : Int) < n ∧ Below w.heap.size w w'
theorem r8Number_any (a : Option Addr) (len cap : Nat) (n : Int) (w : World) (hC : Code w w.heap.size a len) (hl : len ≤ 1048576) (n0 : 1 ≤ n) (n1 : n ≤ 9223372036854775807) :
    Calls Try.prog 16 #[.slice a len cap, .int .i64 n] w (NumPost n w) := by
  have HC := Lib.hid hC
  clear hC
  go_enter Try.func16, Try.ntmps16
  go_wp2_with fail
  refine (from_any a len cap _ HC.out).mono ?_
  rintro e w1 ⟨rfl, hs1, hb1⟩
  have S1 := Lib.hid hs1
  clear hs1
  go_wp2_with fail
  refine (pick_any w.heap.size w.heap.size a len cap 0 n _ S1.out (by omega) hl n0 n1).mono ?_
  rintro e w2 ⟨x, rfl, ⟨x0, x1⟩, hs2, hg2⟩
  have B2 := Lib.hid (hb1.grown hg2 hb1.size (by simp))
  clear hs2 hg2 hb1
  obtain ⟨v, rfl⟩ := Int.eq_ofNat_of_zero_le x0
  go_wp2
  go_ret
  exact ⟨v, rfl, x1, B2.out⟩

/-- a struct of two in block g, writable -/
def Cell2 (w : World) (g : Nat) (x y : Value) : Prop := w.cell? ⟨g, 0, none⟩ = some x ∧ w.cell? ⟨g, 1, none⟩ = some y ∧ w.frozen? ⟨g, 0, none⟩ = false ∧ w.frozen? ⟨g, 1, none⟩ = false
theorem Cell2.lt {w : World} {g : Nat} {x y : Value} (h : Cell2 w g x y) : g < w.heap.size := World.block_lt_of_cell? w _ h.1
theorem Cell2.grow {w w1 : World} {g b : Nat} {x y : Value} (h : Cell2 w g x y) (hg : w.grownBy w1 (some b)) (hne : g ≠ b) : Cell2 w1 g x y := by
  have hn : some g ≠ some b := fun e => hne (by simpa using e)
  refine ⟨(hg.cell_far ⟨g, 0, none⟩ h.lt hn).trans h.1, (hg.cell_far ⟨g, 1, none⟩ h.lt hn).trans h.2.1, (hg.frozen_far ⟨g, 0, none⟩ h.lt hn).trans h.2.2.1, (hg.frozen_far ⟨g, 1, none⟩ h.lt hn).trans h.2.2.2⟩
theorem Cell2.below {w w1 : World} {g n : Nat} {x y : Value} (h : Cell2 w g x y) (hb : Below n w w1) (hn : g < n) : Cell2 w1 g x y :=
  ⟨(hb.cell (p := ⟨g, 0, none⟩) hn).trans h.1, (hb.cell (p := ⟨g, 1, none⟩) hn).trans h.2.1, (hb.frozen (p := ⟨g, 0, none⟩) hn).trans h.2.2.1, (hb.frozen (p := ⟨g, 1, none⟩) hn).trans h.2.2.2⟩
theorem or_one (t : Nat) (h : t < 65536) : bits .or .i64 (t : Int) 1 = ((t ||| 1 : Nat) : Int) := i64_orN t 1 (by omega) (by omega)

/-- a drawn register -/
def RegPost (w : World) (e : Ending) (w' : World) : Prop := ∃ W T : Nat, e = .returned (.agg #[.int .i64 W, .int .i64 T]) ∧ W ≤ 7 ∧ T < 2 ^ W ∧ Below w.heap.size w w'
theorem r8Register_any (a : Option Addr) (len cap : Nat) (w : World) (hC : Code w w.heap.size a len) (hl : len ≤ 1048576) :
    Calls Try.prog 15 #[.slice a len cap] w (RegPost w) := by
  have HC : Hid (Code (w.alloc (.cells #[.int .i64 0, .int .i64 0] 35)) (w.alloc (.cells #[.int .i64 0, .int .i64 0] 35)).heap.size a len) :=
    (hC.below ((Below.refl _ _).alloc (Nat.le_refl _) _)).mono (by simp)
  clear hC
  go_enter Try.func15, Try.ntmps15
  go_wp2_with fail
  obtain ⟨w0, hw0⟩ : ∃ x, w.alloc (.cells #[.int .i64 0, .int .i64 0] 35) = x := ⟨_, rfl⟩
  have Z0 : Hid (w0.heap.size = w.heap.size + 1) := by unfold Hid; rw [← hw0]; simp
  have Z0a : w.heap.size < w0.heap.size := by have := Z0.out; omega
  clear Z0
  have R0 : Cell2 w0 w.heap.size (.int .i64 0) (.int .i64 0) := by rw [← hw0]; exact ⟨by simp [go_sem], by simp [go_sem], by simp [go_sem], by simp [go_sem]⟩
  have B0 : Below w.heap.size w w0 := by rw [← hw0]; exact (Below.refl _ _).alloc (Nat.le_refl _) _
  rw [hw0] at HC ⊢
  clear hw0
  have R0 := Lib.hid R0
  have B0 := Lib.hid B0
  refine (from_any a len cap _ HC.out).mono ?_
  rintro e w1 ⟨rfl, hs1, hb1⟩
  have S1 := Lib.hid hs1
  have R1 := Lib.hid (R0.out.below hb1 (by omega))
  have B1 := Lib.hid (B0.out.trans (hb1.mono (by omega)))
  have Z1 : w0.heap.size < w1.heap.size := by
    obtain ⟨_, _, k, s, _, _, _, c0, _⟩ := hs1
    exact World.block_lt_of_cell? w1 _ c0
  clear hs1 hb1 R0 B0
  go_wp2_with fail
  refine (pick_any w0.heap.size w0.heap.size a len cap 0 8 _ S1.out (by omega) hl (by omega) (by omega)).mono ?_
  rintro e w2 ⟨x, rfl, ⟨x0, x1⟩, hs2, hg2⟩
  have S2 := Lib.hid hs2
  have R2 := Lib.hid (R1.out.grow hg2 (by omega))
  have B2 := Lib.hid (B1.out.grown hg2 B1.out.size (fun y hy => by simp at hy; omega))
  have Z2 : w0.heap.size < w2.heap.size := Nat.lt_of_lt_of_le Z1 hg2.size
  clear hs2 hg2 R1 B1 S1
  obtain ⟨W, rfl⟩ := Int.eq_ofNat_of_zero_le x0
  obtain ⟨P, hP⟩ : ∃ P : Int, 2 ^ W = P := ⟨_, rfl⟩
  obtain ⟨p1, p2⟩ := pow62 W (by omega)
  rw [hP] at p1 p2
  go_wp2_with fail
  obtain ⟨g1, hg1⟩ : ∃ g, w2.heap.size = g := ⟨_, rfl⟩
  obtain ⟨w3, hw3⟩ : ∃ x, w2.alloc (.cells #[.int .i64 W, .int .i64 0] 35) = x := ⟨_, rfl⟩
  have bel : Below w2.heap.size w2 w3 := by rw [← hw3]; exact (Below.refl _ _).alloc (Nat.le_refl _) _
  have C3 : Hid (Cell2 w3 g1 (.int .i64 W) (.int .i64 0)) := by rw [← hw3, ← hg1]; exact ⟨by simp [go_sem], by simp [go_sem], by simp [go_sem], by simp [go_sem]⟩
  have S3 := Lib.hid (S2.out.below (bel.mono (by omega)))
  have R3 := Lib.hid (R2.out.below bel (by omega))
  have B3 := Lib.hid (B2.out.trans (bel.mono B2.out.size))
  have ne1 : g1 ≠ w0.heap.size := by omega
  have ne2 : g1 ≠ w.heap.size := by omega
  have ne3 : w.heap.size ≠ w0.heap.size := by omega
  have lt1 : w0.heap.size + 1 ≤ g1 := by omega
  have lt2 : w.heap.size ≤ g1 := by omega
  rw [hw3, hg1]
  clear hw3 hg1 bel S2 R2 B2 Z2 Z1
  refine (pick_any w0.heap.size w0.heap.size a len cap (0 + 2) P _ S3.out (by omega) hl p1 (by omega)).mono ?_
  rintro e w4 ⟨x, rfl, ⟨y0, y1⟩, hs4, hg4⟩
  have S4 := Lib.hid hs4
  have R4 := Lib.hid (R3.out.grow hg4 ne3)
  have C4 := Lib.hid (C3.out.grow hg4 ne1)
  have B4 := Lib.hid (B3.out.grown hg4 B3.out.size (fun y hy => by simp at hy; omega))
  clear hs4 hg4 S3 R3 C3 B3
  obtain ⟨T, rfl⟩ := Int.eq_ofNat_of_zero_le y0
  obtain ⟨c0, c1, f0, f1⟩ := C4.out
  go_wp2_with fail
  obtain ⟨w5, hw5⟩ : ∃ x, w4.setCell ⟨g1, 1, none⟩ (.int .i64 T) = x := ⟨_, rfl⟩
  have bel : Below g1 w4 w5 := by rw [← hw5]; exact (Below.refl _ _).setCell (p := ⟨g1, 1, none⟩) (Nat.le_refl _) _
  have C5 : Hid (Cell2 w5 g1 (.int .i64 W) (.int .i64 T)) := by
    rw [← hw5]
    exact ⟨(cell_ne (by omega)).trans c0, World.cell?_setCell_same w4 _ _ c1, by rw [World.frozen?_setCell]; exact f0, by rw [World.frozen?_setCell]; exact f1⟩
  have S5 := Lib.hid (S4.out.below (bel.mono lt1))
  have R5 := Lib.hid (R4.out.below bel (by omega))
  have B5 := Lib.hid (B4.out.trans (bel.mono lt2))
  rw [hw5]
  clear hw5 bel S4 R4 C4 B4 c0 c1 f0 f1
  refine (one_any w0.heap.size w0.heap.size a len cap (0 + 2 + 2) 2 _ S5.out (by omega) hl (by omega) (by omega)).mono ?_
  rintro e w6 ⟨v, rfl, hs6, hg6⟩
  have R6 := Lib.hid (R5.out.grow hg6 ne3)
  have C6 := Lib.hid (C5.out.grow hg6 ne1)
  have B6 := Lib.hid (B5.out.grown hg6 B5.out.size (fun y hy => by simp at hy; omega))
  clear hs6 hg6 S5 R5 C5 B5
  obtain ⟨c0, c1, f0, f1⟩ := C6.out
  obtain ⟨r0, r1, g0, g2⟩ := R6.out
  have HT : Hid (T < 2 ^ W) := by
    have e : ((2 ^ W : Nat) : Int) = (2 : Int) ^ W := by simp
    unfold Hid
    omega
  have hT2 : T < 65536 := by
    have h := HT.out
    have : 2 ^ W ≤ 2 ^ 7 := Nat.pow_le_pow_right (by omega) (by omega)
    omega
  have HW : Hid (W ≤ 7) := by unfold Hid; omega
  have oo := or_one T hT2
  have neo : (⟨g1, 1, none⟩ : Addr).block ≠ w.heap.size := ne2
  cases v
  · go_wp2
    exact bodyPost_ret (v := .agg #[.int .i64 W, .int .i64 T]) (by simp [results, Try.results15, go_sem, r0, r1]) rfl ⟨W, T, rfl, HW.out, HT.out, (B6.out.setCell (by simp) _).setCell (by simp) _⟩
  · by_cases hW0 : 0 < W
    · have HT2 : Hid (T ||| 1 < 2 ^ W) := by
        have : 2 ^ 1 ≤ 2 ^ W := Nat.pow_le_pow_right (by omega) hW0
        exact Nat.or_lt_two_pow HT.out (by omega)
      go_wp2
      exact bodyPost_ret (v := .agg #[.int .i64 W, .int .i64 (T ||| 1 : Nat)]) (by simp [results, Try.results15, go_sem, r0, r1, c0, c1]) rfl ⟨W, T ||| 1, rfl, HW.out, HT2.out, ((B6.out.setCell (p := ⟨g1, 1, none⟩) lt2 _).setCell (by simp) _).setCell (by simp) _⟩
    · go_wp2
      exact bodyPost_ret (v := .agg #[.int .i64 W, .int .i64 T]) (by simp [results, Try.results15, go_sem, r0, r1]) rfl ⟨W, T, rfl, HW.out, HT.out, (B6.out.setCell (by simp) _).setCell (by simp) _⟩
end Go.Proofs.Ytapccbplmbbnnac
