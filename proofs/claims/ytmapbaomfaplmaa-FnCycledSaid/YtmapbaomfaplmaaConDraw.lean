/- Drawn congruences: spec.l00Src's among, spec.l03DrawOk, spec.B10Congruence. -/
import Derived.Test.YtmapbaomfaplmaaConPow
import Derived.Test.YtmapbaomfaplmaaSrc
import Derived.Deep.AppendLies
namespace Go.Proofs.Ytmapbaomfaplmaa
open Go.RowKit Go.PlainAid
set_option maxHeartbeats 800000

theorem grow_new {a w : World} {row : Option Nat} {g : Nat} (h : a.grownBy w row) (hg : a.heap.size ≤ g) (j : Nat) (u : Value) : a.grownBy (w.setCell ⟨g, j, none⟩ u) row :=
  ⟨h.os, h.tape, h.output, by simpa [World.setCell] using h.size, fun i hi hne => (Below.heap_setCell w ⟨g, j, none⟩ u i (by simp; omega)).trans (h.block i hi hne)⟩
theorem grow_alloc {a w : World} {row : Option Nat} (h : a.grownBy w row) (o : Obj) : a.grownBy (w.alloc o) row := by
  obtain ⟨h1, h2, h3, h4, h5⟩ := h
  have k := World.grownBy_alloc w o none
  exact ⟨k.os.trans h1, k.tape.trans h2, k.output.trans h3, Nat.le_trans h4 k.size, fun i hi hne => (k.block i (Nat.lt_of_lt_of_le hi h4) (by simp)).trans (h5 i hi hne)⟩
theorem grow_put3 {a w : World} {row : Option Nat} {g : Nat} (h : a.grownBy w row) (hg : a.heap.size ≤ g) (x y z : Value) : a.grownBy (put3 w g x y z) row :=
  grow_new (grow_new (grow_new h hg _ _) hg _ _) hg _ _
theorem C3.grow {w w1 : World} {g b : Nat} {x y z : Value} (h : C3 w g x y z) (hg : w.grownBy w1 (some b)) (hne : g ≠ b) : C3 w1 g x y z := by
  have hn : some g ≠ some b := fun e => hne (by simpa using e)
  have hl := h.lt
  obtain ⟨⟨h0, h1, h2⟩, f0, f1, f2⟩ := h
  exact ⟨⟨(hg.cell_far ⟨g, 0, none⟩ hl hn).trans h0, (hg.cell_far ⟨g, 1, none⟩ hl hn).trans h1, (hg.cell_far ⟨g, 2, none⟩ hl hn).trans h2⟩, (hg.frozen_far ⟨g, 0, none⟩ hl hn).trans f0, (hg.frozen_far ⟨g, 1, none⟩ hl hn).trans f1, (hg.frozen_far ⟨g, 2, none⟩ hl hn).trans f2⟩

theorem among_any (base b : Nat) (a : Option Addr) (len cap n g : Nat) (w : World) (h : Src base w b a len cap n) (hn : n ≤ 900000000) (hl : len ≤ 1048576) (hg : g < w.heap.size) (hne : g ≠ b)
    (hx : ∀ i, i < 7 → ∃ y : Int, 16 ≤ y ∧ y ≤ 256 ∧ w.cell? ⟨g, i, none⟩ = some (.int .i64 y)) :
    Calls Try.prog 62 #[.pointer (some ⟨b, 0, none⟩), .slice (some ⟨g, 0, none⟩) 7 7] w (NextPost base b a len cap (n + 2) (fun v => 16 ≤ v ∧ v ≤ 256) w) := by
  have HS := Lib.hid h
  have HX := Lib.hid hx
  clear h hx
  go_enter Try.func62, Try.ntmps62
  go_wp2_with fail
  refine (pick_any base b a len cap n 7 _ HS.out (by omega) hl (by omega) (by omega)).mono ?_
  rintro e w1 ⟨v, rfl, ⟨v0, v1⟩, hs, hgr⟩
  obtain ⟨V, rfl⟩ := Int.eq_ofNat_of_zero_le v0
  obtain ⟨y, y0, y1, hy⟩ := HX.out V (by omega)
  have hc : w1.cell? ⟨g, V, none⟩ = some (.int .i64 y) := (hgr.cell_far ⟨g, V, none⟩ hg (fun e => hne (by simpa using e))).trans hy
  have H2 := Lib.hid (And.intro hs hgr)
  clear hs hgr hy
  go_wp2
  go_ret
  exact ⟨y, rfl, ⟨y0, y1⟩, H2.out.1, H2.out.2⟩

/-- what a drawn congruence is -/
def DrawPost (base b : Nat) (a : Option Addr) (len cap n : Nat) (w : World) (e : Ending) (w' : World) : Prop :=
  ∃ M A C : Nat, e = .returned (.agg #[.int .i64 M, .int .i64 A, .int .i64 C]) ∧ (2 ≤ M ∧ M ≤ 4001 ∧ A < M ∧ C < M) ∧ Src base w' b a len cap n ∧ w.grownBy w' (some b)
/-- between two choices -/
def DrawS (base b : Nat) (a : Option Addr) (len cap n : Nat) (w W : World) : Prop := Src base W b a len cap n ∧ w.grownBy W (some b) ∧ C3 W w.heap.size (.int .i64 0) (.int .i64 0) (.int .i64 0) ∧ b < w.heap.size
theorem DrawS.step {base b : Nat} {a : Option Addr} {len cap n n' : Nat} {w W W' : World} (h : DrawS base b a len cap n w W) (hs : Src base W' b a len cap n') (hg : W.grownBy W' (some b)) : DrawS base b a len cap n' w W' :=
  ⟨hs, grow_trans h.2.1 hg, h.2.2.1.grow hg (by have := h.2.2.2; omega), h.2.2.2⟩
theorem DrawS.more {base b : Nat} {a : Option Addr} {len cap n n' : Nat} {w W : World} (h : DrawS base b a len cap n w W) (hn : n ≤ n') : DrawS base b a len cap n' w W := ⟨h.1.more hn, h.2⟩
theorem DrawS.alloc {base b : Nat} {a : Option Addr} {len cap n : Nat} {w W : World} (h : DrawS base b a len cap n w W) (o : Obj) : DrawS base b a len cap n w (W.alloc o) :=
  ⟨h.1.below ((Below.refl (b + 1) W).alloc (by have := h.2.2.2; have := h.2.1.size; omega) o), grow_alloc h.2.1 o, h.2.2.1.alloc o, h.2.2.2⟩
theorem DrawS.set {base b : Nat} {a : Option Addr} {len cap n g : Nat} {w W : World} (h : DrawS base b a len cap n w W) (hg : w.heap.size < g) (j : Nat) (u : Value) : DrawS base b a len cap n w (W.setCell ⟨g, j, none⟩ u) :=
  ⟨h.1.below ((Below.refl (b + 1) W).setCell (p := ⟨g, j, none⟩) (by have := h.2.2.2; simp; omega) u), grow_new h.2.1 (by omega) _ _, h.2.2.1.other (by omega) _ _, h.2.2.2⟩
theorem DrawS.done {base b : Nat} {a : Option Addr} {len cap n n' M A C : Nat} {w W : World} (h : DrawS base b a len cap n w W) (hn : n ≤ n') (h1 : 2 ≤ M ∧ M ≤ 4001) (h2 : A < M) (h3 : C < M) {e : Ending} (he : e = .returned (.agg #[.int .i64 M, .int .i64 A, .int .i64 C])) (x y z : Value) :
    DrawPost base b a len cap n' w e (put3 W w.heap.size x y z) := by
  have hb := h.2.2.2
  refine ⟨M, A, C, he, ⟨h1.1, h1.2, h2, h3⟩, (h.1.below ?_).more hn, grow_put3 h.2.1 (Nat.le_refl _) _ _ _⟩
  exact below_put3 (Below.refl (b + 1) W) (by omega) _ _ _
theorem C3.set1 {V : World} {b : Nat} {x y z : Value} (h : C3 V b x y z) (u : Value) : C3 (V.setCell ⟨b, 1, none⟩ u) b x u z := by
  obtain ⟨⟨h0, h1, h2⟩, f0, f1, f2⟩ := h
  refine ⟨⟨?_, ?_, ?_⟩, ?_, ?_, ?_⟩
  · rw [set_ne (ne_addr (by omega))]; exact h0
  · exact World.cell?_setCell_same _ _ _ h1
  · rw [set_ne (ne_addr (by omega))]; exact h2
  all_goals simp only [World.frozen?_setCell]; assumption
theorem C3.set2 {V : World} {b : Nat} {x y z : Value} (h : C3 V b x y z) (u : Value) : C3 (V.setCell ⟨b, 2, none⟩ u) b x y u := by
  obtain ⟨⟨h0, h1, h2⟩, f0, f1, f2⟩ := h
  refine ⟨⟨?_, ?_, ?_⟩, ?_, ?_, ?_⟩
  · rw [set_ne (ne_addr (by omega))]; exact h0
  · rw [set_ne (ne_addr (by omega))]; exact h1
  · exact World.cell?_setCell_same _ _ _ h2
  all_goals simp only [World.frozen?_setCell]; assumption

theorem drawOk_any (base b : Nat) (a : Option Addr) (len cap n : Nat) (w : World) (h : Src base w b a len cap n) (hn : n ≤ 1000000) (hl : len ≤ 1048576) :
    Calls Try.prog 57 #[.pointer (some ⟨b, 0, none⟩)] w (DrawPost base b a len cap (n + 12) w) := by
  have hb : b < w.heap.size := by
    obtain ⟨_, _, k, s, _, _, _, c0, _⟩ := h
    exact World.block_lt_of_cell? w _ c0
  have S0 : Hid (DrawS base b a len cap n w (w.alloc (.cells #[.int .i64 0, .int .i64 0, .int .i64 0] 25))) :=
    ⟨h.below ((Below.refl (b + 1) w).alloc hb _), World.grownBy_alloc w _ _, C3.new w _ _ _ _, hb⟩
  clear h
  go_enter Try.func57, Try.ntmps57
  go_wp2_with fail
  generalize w.alloc (.cells #[.int .i64 0, .int .i64 0, .int .i64 0] 25) = W0 at S0 ⊢
  refine (pick_any base b a len cap n 60 _ S0.out.1 (by omega) hl (by omega) (by omega)).mono ?_
  rintro e W1 ⟨v, rfl, ⟨v0, v1⟩, hs, hg⟩
  have S1 := Lib.hid (S0.out.step hs hg)
  clear S0 hs hg
  go_wp2_with fail
  refine (pick_any base b a len cap (n + 2) 8 _ S1.out.1 (by omega) hl (by omega) (by omega)).mono ?_
  rintro e W2 ⟨u, rfl, ⟨u0, u1⟩, hs, hg⟩
  have S2 := Lib.hid (S1.out.step hs hg)
  clear S1 hs hg
  have HN : Hid (n ≤ 1000000) := hn
  obtain ⟨V, rfl⟩ := Int.eq_ofNat_of_zero_le v0
  rcases (show u = 0 ∨ u = 1 ∨ (¬ u = 0 ∧ ¬ u = 1) by omega) with h0 | h1 | h2
  case' inl =>
    subst h0
    go_wp2_with fail
    refine (pick_any base b a len cap (n + 2 + 2) 4000 _ S2.out.1 (by omega) hl (by omega) (by omega)).mono ?_
    rintro e W3 ⟨x, rfl, ⟨x0, x1⟩, hs, hg⟩
    have S3 := Lib.hid ((S2.out.step hs hg).more (n' := n + 6) (by omega))
    clear S2 hs hg
    obtain ⟨m, hm⟩ : ∃ m : Nat, 2 + x = (m : Int) := ⟨(2 + x).toNat, by omega⟩
    have hm1 : 2 ≤ m := by omega
    have hm2 : m ≤ 4001 := by omega
    clear x0 x1
    go_wp2_with fail
    clear hm
  case' inr.inl =>
    subst h1
    have S2a : Hid (DrawS base b a len cap (n + 2 + 2) w (W2.alloc (.cells #[.int .i64 16, .int .i64 64, .int .i64 256, .int .i64 100, .int .i64 81, .int .i64 31, .int .i64 127] 2))) := S2.out.alloc _
    go_wp2_with fail
    refine (among_any base b a len cap (n + 2 + 2) _ _ S2a.out.1 (by omega) hl (by simp) (by have := S2.out.2.2.2; have := S2.out.2.1.size; omega) (fun i hi => ?_)).mono ?_
    · rcases (show i = 0 ∨ i = 1 ∨ i = 2 ∨ i = 3 ∨ i = 4 ∨ i = 5 ∨ i = 6 by omega) with rfl | rfl | rfl | rfl | rfl | rfl | rfl
      · exact ⟨16, by omega, by omega, by simp [go_sem]⟩
      · exact ⟨64, by omega, by omega, by simp [go_sem]⟩
      · exact ⟨256, by omega, by omega, by simp [go_sem]⟩
      · exact ⟨100, by omega, by omega, by simp [go_sem]⟩
      · exact ⟨81, by omega, by omega, by simp [go_sem]⟩
      · exact ⟨31, by omega, by omega, by simp [go_sem]⟩
      · exact ⟨127, by omega, by omega, by simp [go_sem]⟩
    rintro e W3 ⟨x, rfl, ⟨x0, x1⟩, hs, hg⟩
    have S3 := Lib.hid ((S2a.out.step hs hg).more (n' := n + 6) (by omega))
    clear S2 S2a hs hg
    obtain ⟨m, rfl⟩ := Int.eq_ofNat_of_zero_le (show 0 ≤ x by omega)
    have hm1 : 2 ≤ m := by omega
    have hm2 : m ≤ 4001 := by omega
    clear x0 x1
    go_wp2_with fail
  case' inr.inr =>
    have t1 : (u == 0) = false := by simp [h2.1]
    have t2 : (u == 1) = false := by simp [h2.2]
    clear h2
    have S3 := Lib.hid (S2.out.more (n' := n + 6) (by omega))
    clear S2
    obtain ⟨m, hm⟩ : ∃ m : Nat, 2 + (V : Int) = (m : Int) := ⟨2 + V, by omega⟩
    have hm1 : 2 ≤ m := by omega
    have hm2 : m ≤ 4001 := by omega
    go_wp2_with fail
    clear hm v0 v1
  all_goals
    refine (pick_any base b a len cap (n + 6) m _ S3.out.1 (by omega) hl (by omega) (by omega)).mono ?_
    rintro e W4 ⟨x, rfl, ⟨x0, x1⟩, hs, hg⟩
    have S4 := Lib.hid (S3.out.step hs hg)
    clear S3 hs hg
    obtain ⟨A, rfl⟩ := Int.eq_ofNat_of_zero_le x0
    have hA : A < m := by omega
    have HA := Lib.hid hA
    have HM := Lib.hid (And.intro hm1 hm2)
    clear x0 x1 hA
    go_wp2_with fail
    have D5 := C3.new W4 (.int .i64 m) (.int .i64 A) (.int .i64 0) 25
    have S5 := Lib.hid (S4.out.alloc (.cells #[.int .i64 m, .int .i64 A, .int .i64 0] 25))
    have hz : Hid (w.heap.size < W4.heap.size) := S4.out.2.2.1.lt
    generalize W4.alloc (.cells #[.int .i64 m, .int .i64 A, .int .i64 0] 25) = W5 at D5 S5 ⊢
    obtain ⟨g, hgg⟩ : ∃ g, W4.heap.size = g := ⟨_, rfl⟩
    rw [hgg] at D5 hz ⊢
    have hgb : g ≠ b := by have := S4.out.2.2.2; have := hz.out; omega
    have hbg : ¬ b = g := fun e => hgb e.symm
    clear S4 hgg
    refine (pick_any base b a len cap (n + 6 + 2) m _ S5.out.1 (by omega) hl (by omega) (by omega)).mono ?_
    rintro e W6 ⟨x, rfl, ⟨x0, x1⟩, hs, hg⟩
    have S6 := Lib.hid (S5.out.step hs hg)
    have D6 := Lib.hid (D5.grow hg hgb)
    clear S5 D5 hs hg
    obtain ⟨C, rfl⟩ := Int.eq_ofNat_of_zero_le x0
    have HC : Hid (C < m) := by unfold Hid; omega
    clear x0 x1
    obtain ⟨⟨d0, d1, d2⟩, f0, f1, f2⟩ := D6.out
    go_wp2_with fail
    have S7 := Lib.hid (S6.out.set hz.out 2 (.int .i64 C))
    have D7 := Lib.hid (D6.out.set2 (.int .i64 C))
    generalize W6.setCell ⟨g, 2, none⟩ (.int .i64 C) = W7 at S7 D7 ⊢
    clear S6 D6 d0 d1 d2 f0 f1 f2
    refine (one_any base b a len cap (n + 6 + 2 + 2) 4 _ S7.out.1 (by omega) hl (by omega) (by omega)).mono ?_
    rintro e W8 ⟨v, rfl, hs, hg⟩
    have S8 := Lib.hid (S7.out.step hs hg)
    have D8 := Lib.hid (D7.out.grow hg hgb)
    clear S7 D7 hs hg
    obtain ⟨⟨d0, d1, d2⟩, f0, f1, f2⟩ := D8.out
    obtain ⟨⟨z0, z1, z2⟩, zf0, zf1, zf2⟩ := S8.out.2.2.1
    have hzg : ¬ w.heap.size = g := by have := hz.out; omega
    have hgz : ¬ g = w.heap.size := fun e => hzg e.symm
    cases v
    · go_wp2
      have P := (S8.out.2.2.1.put (.int .i64 m) (.int .i64 A) (.int .i64 C)).1
      unfold put3 at P
      obtain ⟨p0, p1, p2⟩ := P
      exact bodyPost_ret (v := .agg #[.int .i64 m, .int .i64 A, .int .i64 C]) (by simp [results, Try.results57, go_sem, p0, p1, p2]) rfl (S8.out.done (by omega) HM.out HA.out HC.out rfl _ _ _)
    · by_cases h4 : 4 < m
      · have H4 : Hid (1 + m / 2 < m) := by unfold Hid; omega
        go_wp2
        have S9 := S8.out.set hz.out 1 (.int .i64 ((1 + m / 2 : Nat) : Int))
        have P := (S9.2.2.1.put (.int .i64 m) (.int .i64 ((1 + m / 2 : Nat) : Int)) (.int .i64 C)).1
        have e1 : ((1 + m / 2 : Nat) : Int) = 1 + (m : Int) / 2 := by omega
        have SD := S9.done (n' := n + 12) (by omega) HM.out H4.out HC.out rfl (.int .i64 m) (.int .i64 ((1 + m / 2 : Nat) : Int)) (.int .i64 C)
        unfold put3 at P SD
        rw [e1] at P SD
        obtain ⟨p0, p1, p2⟩ := P
        exact bodyPost_ret (v := .agg #[.int .i64 m, .int .i64 (1 + (m : Int) / 2), .int .i64 C]) (by simp [results, Try.results57, go_sem, p0, p1, p2]) rfl SD
      · go_wp2
        have P := (S8.out.2.2.1.put (.int .i64 m) (.int .i64 A) (.int .i64 C)).1
        unfold put3 at P
        obtain ⟨p0, p1, p2⟩ := P
        exact bodyPost_ret (v := .agg #[.int .i64 m, .int .i64 A, .int .i64 C]) (by simp [results, Try.results57, go_sem, p0, p1, p2]) rfl (S8.out.done (by omega) HM.out HA.out HC.out rfl _ _ _)
end Go.Proofs.Ytmapbaomfaplmaa
