/- impl.cycleOf over congruences: its contract, where the step may make memory. -/
import Derived.Test.YtamedggnkbhgeabIterK
import Derived.Test.YtamedggnkbhgeabCycA
import Derived.Test.YtamedggnkbhgeabQTail
import Derived.WalkSmall
import Derived.StillTailTactics
namespace Go.Proofs.Ytamedggnkbhgeab
open Go.RowKit Go.Shelf
attribute [local go_sem] Oper.semAt_some
set_option maxHeartbeats 2000000
theorem statesFromK_any (c t g x : Int) (W : World) :
    Calls Try.prog 71 #[.func (.func 42) #[] #[], .agg #[.int .i64 c, .int .i64 t, .int .i64 g], .int .i64 x] W fun e w' => e = .returned (.func (.func 81) #[] #[.pointer (some ⟨W.heap.size + 1 + 1, 0, none⟩), .pointer (some ⟨W.heap.size, 0, none⟩), .pointer (some ⟨W.heap.size + 1, 0, none⟩)]) ∧
      w' = ((W.alloc (.cells #[.func (.func 42) #[] #[]] 57)).alloc (.cells #[.int .i64 c, .int .i64 t, .int .i64 g] 54)).alloc (.cells #[.int .i64 x] 2) := by
  go_enter Try.func71, Try.ntmps71
  go_wp2
  go_ret
  exact ⟨rfl, rfl⟩

/-- the machine's two fields, in its own cell and in the iterator's -/
def FixK (s1 : Int) (c t g I Z : Nat) (V : World) : Prop := (V.cell? ⟨Z, 0, none⟩ = some (.func (.func 42) #[] #[]) ∧ V.cell? ⟨Z + 1, 0, none⟩ = some (.int .i64 c) ∧ V.cell? ⟨Z + 1, 1, none⟩ = some (.int .i64 t) ∧ V.cell? ⟨Z + 1, 2, none⟩ = some (.int .i64 g)) ∧ Z + 5 ≤ I ∧
  V.cell? ⟨I + 1 + 1, 0, none⟩ = some (.int .i64 s1) ∧ V.cell? ⟨I, 0, none⟩ = some (.func (.func 42) #[] #[]) ∧ V.cell? ⟨I + 1, 0, none⟩ = some (.int .i64 c) ∧ V.cell? ⟨I + 1, 1, none⟩ = some (.int .i64 t) ∧ V.cell? ⟨I + 1, 2, none⟩ = some (.int .i64 g)
theorem FixK.other {s1 : Int} {m t g I Z c : Nat} {V : World} (h : FixK s1 m t g I Z V) (h1 : Z + 1 < c) (h2 : c < Z + 5) (u : Value) : FixK s1 m t g I Z (V.setCell ⟨c, 0, none⟩ u) := by
  obtain ⟨⟨a1, a2, a3, a4⟩, hI, b1, b2, b3, b4, b5⟩ := h
  exact ⟨⟨cell_other a1 (by omega) _, cell_other a2 (by omega) _, cell_other1 a3 (by omega) _, cell_other2 a4 (by omega) _⟩, hI, cell_other b1 (by omega) _, cell_other b2 (by omega) _, cell_other b3 (by omega) _, cell_other1 b4 (by omega) _, cell_other2 b5 (by omega) _⟩
theorem FixK.kept {s1 : Int} {m t g I Z : Nat} {V W : World} {row : Option Nat} (h : FixK s1 m t g I Z V) (hg : V.grownBy W row) (hr : ∀ r, row = some r → ∃ o : Obj, V.heap[r]? = some o ∧ o.isCells = false) : FixK s1 m t g I Z W :=
  ⟨⟨cell_kept h.1.1 hg hr, cell_kept h.1.2.1 hg hr, cell_kept h.1.2.2.1 hg hr, cell_kept h.1.2.2.2 hg hr⟩, h.2.1, cell_kept h.2.2.1 hg hr, cell_kept h.2.2.2.1 hg hr, cell_kept h.2.2.2.2.1 hg hr, cell_kept h.2.2.2.2.2.1 hg hr, cell_kept h.2.2.2.2.2.2 hg hr⟩
theorem FixK.drew {s1 : Int} {m t g I Z : Nat} {V : World} (h : FixK s1 m t g I Z V) : FixK s1 m t g I Z V.drew := h
/-- between two rounds of the first search -/
def Cyk1 (s : Nat → Nat) (B m t g I Z k : Nat) (V : World) : Prop := FixK (s 1) m t g I Z V ∧ ∃ j L, Mark s B k j L ∧ Cel V (Z + 1 + 1) (.int .i64 (s (2 ^ j - 1))) ∧ Cel V (Z + 1 + 1 + 1) (.int .i64 (2 ^ j : Nat)) ∧ Cel V (Z + 1 + 1 + 1 + 1) (.int .i64 L)
/-- behind it -/
def Cyk1x (s : Nat → Nat) (B m t g I Z : Nat) (V : World) : Prop := FixK (s 1) m t g I Z V ∧ ∃ M c, 0 < c ∧ M < 2 * B ∧ c ≤ 2 * B ∧ s (M + c) = s M ∧ (∀ i, 0 < i → i < c → ¬ s (M + i) = s M) ∧ Cel V (Z + 1 + 1 + 1 + 1) (.int .i64 c)
theorem Cyk1.mu {s : Nat → Nat} {B m t g I Z k : Nat} {V : World} (h : Cyk1 s B m t g I Z k V) : (4 * B - (cellN V (Z + 1 + 1 + 1) - 1 + cellN V (Z + 1 + 1 + 1 + 1))) + k = 4 * B := by
  obtain ⟨_, j, L, hm, _, hp, hl⟩ := h
  have hk := hm.small
  have h0 : 0 < 2 ^ j := Nat.pow_pos (by omega)
  obtain ⟨e, _⟩ := hm
  have h1 : cellN V (Z + 1 + 1 + 1) = 2 ^ j := by
    unfold cellN
    rw [hp.1]
    exact Int.toNat_natCast _
  have h2 : cellN V (Z + 1 + 1 + 1 + 1) = L := by
    unfold cellN
    rw [hl.1]
    exact Int.toNat_natCast _
  omega
theorem Cyk1.kept {s : Nat → Nat} {B m t g I Z k : Nat} {V W : World} {row : Option Nat} (h : Cyk1 s B m t g I Z k V) (hg : V.grownBy W row) (hr : ∀ r, row = some r → ∃ o : Obj, V.heap[r]? = some o ∧ o.isCells = false) : Cyk1 s B m t g I Z k W := by
  obtain ⟨a, j, L, hm, c1, c2, c3⟩ := h
  exact ⟨a.kept hg hr, j, L, hm, c1.kept hg hr, c2.kept hg hr, c3.kept hg hr⟩
theorem Cyk1x.kept {s : Nat → Nat} {B m t g I Z : Nat} {V W : World} {row : Option Nat} (h : Cyk1x s B m t g I Z V) (hg : V.grownBy W row) (hr : ∀ r, row = some r → ∃ o : Obj, V.heap[r]? = some o ∧ o.isCells = false) : Cyk1x s B m t g I Z W := by
  obtain ⟨a, M, c, h1, h2, h3, h4, h5, h6⟩ := h
  exact ⟨a.kept hg hr, M, c, h1, h2, h3, h4, h5, h6.kept hg hr⟩

/-- what a round of the first search leaves, cell by cell -/
def Tryk (s1 : Int) (m t g I Z : Nat) (w V W : World) (x y z : Value) : Prop := KeepsOthers V W ∧ FixK s1 m t g I Z W ∧ Cel W (Z + 1 + 1) x ∧ Cel W (Z + 1 + 1 + 1) y ∧ Cel W (Z + 1 + 1 + 1 + 1) z ∧ Below Z w W
theorem Tryk.m {s1 : Int} {m t g I Z : Nat} {w V W : World} {x y z : Value} (h : Tryk s1 m t g I Z w V W x y z) (u : Value) : Tryk s1 m t g I Z w V (W.setCell ⟨Z + 1 + 1, 0, none⟩ u) u y z := by
  obtain ⟨a, b, c, d, e, f⟩ := h
  exact ⟨a.trans (KeepsOthers.setCell _ _ _), b.other (by omega) (by omega) _, c.set _, d.other (by omega) _, e.other (by omega) _, f.setCell (by show Z ≤ Z + 1 + 1; omega) _⟩
theorem Tryk.q {s1 : Int} {m t g I Z : Nat} {w V W : World} {x y z : Value} (h : Tryk s1 m t g I Z w V W x y z) (u : Value) : Tryk s1 m t g I Z w V (W.setCell ⟨Z + 1 + 1 + 1, 0, none⟩ u) x u z := by
  obtain ⟨a, b, c, d, e, f⟩ := h
  exact ⟨a.trans (KeepsOthers.setCell _ _ _), b.other (by omega) (by omega) _, c.other (by omega) _, d.set _, e.other (by omega) _, f.setCell (by show Z ≤ Z + 1 + 1 + 1; omega) _⟩
theorem Tryk.r {s1 : Int} {m t g I Z : Nat} {w V W : World} {x y z : Value} (h : Tryk s1 m t g I Z w V W x y z) (u : Value) : Tryk s1 m t g I Z w V (W.setCell ⟨Z + 1 + 1 + 1 + 1, 0, none⟩ u) x y u := by
  obtain ⟨a, b, c, d, e, f⟩ := h
  exact ⟨a.trans (KeepsOthers.setCell _ _ _), b.other (by omega) (by omega) _, c.other (by omega) _, d.other (by omega) _, e.set _, f.setCell (by show Z ≤ Z + 1 + 1 + 1 + 1; omega) _⟩
theorem Tryk.drew {s1 : Int} {m t g I Z : Nat} {w V W : World} {x y z : Value} (h : Tryk s1 m t g I Z w V W x y z) : Tryk s1 m t g I Z w V W.drew x y z :=
  ⟨h.1.trans (KeepsOthers.drew _), h.2.1.drew, h.2.2.1.drew, h.2.2.2.1.drew, h.2.2.2.2.1.drew, h.2.2.2.2.2.drew⟩
theorem Tryk.done {s : Nat → Nat} {B m t g I Z k j : Nat} {w V W : World} {x y : Int} (hm : Mark s B (k + 1) (j + 1) 0) (ex : ((s (2 ^ (j + 1) - 1) : Nat) : Int) = x) (ey : ((2 ^ (j + 1) : Nat) : Int) = y) (h : Tryk (s 1) m t g I Z w V W (.int .i64 x) (.int .i64 y) (.int .i64 0)) :
    KeepsOthers V W ∧ Cyk1 s B m t g I Z (k + 1) W ∧ Below Z w W := by
  subst ex ey
  obtain ⟨a, b, c, d, e, f⟩ := h
  exact ⟨a, ⟨b, j + 1, 0, hm, c, d, e⟩, f⟩

/-- between two rounds of the second search: its cells -/
def Cyk2C (s : Nat → Nat) (m t g Z A G D cc : Nat) (w : World) (k : Nat) (V : World) : Prop := Cel V A (.int .i64 (s (k + cc))) ∧ Cel V G (.int .i64 k) ∧ (Cel V (Z + 1 + 1 + 1 + 1) (.int .i64 cc) ∧ V.heap[D]? = some (.deferred (some [])) ∧ Below Z w V) ∧
  (V.cell? ⟨Z, 0, none⟩ = some (.func (.func 42) #[] #[]) ∧ V.cell? ⟨Z + 1, 0, none⟩ = some (.int .i64 m) ∧ V.cell? ⟨Z + 1, 1, none⟩ = some (.int .i64 t) ∧ V.cell? ⟨Z + 1, 2, none⟩ = some (.int .i64 g)) ∧ V.cell? ⟨G + 1 + 1 + 1, 0, none⟩ = some (.int .i64 (s 0)) ∧ V.cell? ⟨G + 1, 0, none⟩ = some (.func (.func 42) #[] #[]) ∧ V.cell? ⟨G + 1 + 1, 0, none⟩ = some (.int .i64 m) ∧ V.cell? ⟨G + 1 + 1, 1, none⟩ = some (.int .i64 t) ∧ V.cell? ⟨G + 1 + 1, 2, none⟩ = some (.int .i64 g)
def Cyk2 (s : Nat → Nat) (m t g Z A G D M cc : Nat) (w : World) (k : Nat) (V : World) : Prop := Cyk2C s m t g Z A G D cc w k V ∧ k ≤ M ∧ ∀ i, i < k → ¬ s (i + cc) = s i
def Cyk2x (s : Nat → Nat) (Z G D cc : Nat) (w : World) (V : World) : Prop := (∃ b, CycP s b cc ∧ Cel V G (.int .i64 b)) ∧ Cel V (Z + 1 + 1 + 1 + 1) (.int .i64 cc) ∧ V.heap[D]? = some (.deferred (some [])) ∧ Below Z w V
theorem Cyk2.mu {s : Nat → Nat} {m t g Z A G D M cc k : Nat} {w V : World} (h : Cyk2 s m t g Z A G D M cc w k V) : (M + 1 - cellN V G) + k = M + 1 := by
  obtain ⟨⟨_, hg, _⟩, hk, _⟩ := h
  have h1 : cellN V G = k := by
    unfold cellN
    rw [hg.1]
    exact Int.toNat_natCast _
  omega
theorem Cyk2.own {s : Nat → Nat} {m t g Z A G D M cc B : Nat} {w : World} (hD : D < B) (hn : Z ≤ w.heap.size) (hB : Z ≤ B) : OwnFrom B (Cyk2 s m t g Z A G D M cc w) := by
  rintro k V W row ⟨⟨a1, a2, ⟨a3, a4, a5⟩, ⟨a6, a7, a11, a13⟩, a8, a9, a10, a12, a14⟩, h⟩ hg hr
  have hr2 := fun r e => (hr r e).2
  exact ⟨⟨a1.kept hg hr2, a2.kept hg hr2, ⟨a3.kept hg hr2, deferred_kept a4 hD hg hr, a5.grown hg (Nat.le_trans hn a5.size) (fun k e => Nat.le_trans hB (hr k e).1)⟩, ⟨cell_kept a6 hg hr2, cell_kept a7 hg hr2, cell_kept a11 hg hr2, cell_kept a13 hg hr2⟩, cell_kept a8 hg hr2, cell_kept a9 hg hr2, cell_kept a10 hg hr2, cell_kept a12 hg hr2, cell_kept a14 hg hr2⟩, h⟩
theorem Cyk2x.own {s : Nat → Nat} {Z G D cc B : Nat} {w : World} (hD : D < B) (hn : Z ≤ w.heap.size) (hB : Z ≤ B) (c : Code) : OwnFrom B (fun (_ : Nat) V => c = .exit 4 ∧ Cyk2x s Z G D cc w V) := by
  rintro k V W row ⟨hc, ⟨b, h1, h2⟩, a3, a4, a5⟩ hg hr
  have hr2 := fun r e => (hr r e).2
  exact ⟨hc, ⟨b, h1, h2.kept hg hr2⟩, a3.kept hg hr2, deferred_kept a4 hD hg hr, a5.grown hg (Nat.le_trans hn a5.size) (fun k e => Nat.le_trans hB (hr k e).1)⟩


set_option maxRecDepth 100000 in
theorem cycleK_any (s : Nat → Nat) (m t g : Nat) (w : World) (B b c : Nat) (hs : Steps s) (hc0 : 0 < c) (hbc : b + c ≤ B) (he : s (b + c) = s b) (hB : B ≤ 100000)
    (HN : Hid (∀ (k : Nat) (W : World), Calls Try.prog 42 #[.agg #[.int .i64 m, .int .i64 t, .int .i64 g], .int .i64 (s k)] W fun e w' => e = .returned (.int .i64 (s (k + 1))) ∧ Below W.heap.size W w')) :
    Calls Try.prog 41 #[.func (.func 42) #[] #[], .agg #[.int .i64 m, .int .i64 t, .int .i64 g], .int .i64 (s 0)] w fun e w' => (∃ b' c' : Nat, e = .returned (.tuple #[.int .i64 b', .int .i64 c']) ∧ CycP s b' c') ∧ Below w.heap.size w w' := by
  refine (callsIn_wide (n := 8)).1 ?_
  refine callsIn_of_wp_marks Try.func41 rfl trivial ?_ rfl
  simp only [Try.ntmps41, List.size_toArray, List.length_cons, List.length_nil, Nat.reduceAdd, Nat.reduceSub, Array.replicate_succ, Array.replicate_zero, List.push_toArray, List.append_toArray, List.nil_append, List.cons_append]
  gi_wp2
  obtain ⟨W1, hW1⟩ : ∃ W, ((((w.alloc (Obj.cells #[Value.func (Fn.func 42) #[] #[]] 57)).alloc (Obj.cells #[Value.int IntKind.i64 m, Value.int IntKind.i64 t, Value.int IntKind.i64 g] 54)).alloc (Obj.cells #[Value.int IntKind.i64 (s 0)] 2)).alloc (Obj.cells #[Value.int IntKind.i64 1] 2)).alloc (Obj.cells #[Value.int IntKind.i64 0] 2) = W := ⟨_, rfl⟩
  have hz1 : W1.heap.size = w.heap.size + 5 := by rw [← hW1]; simp
  have hB1 : Below w.heap.size w W1 := by rw [← hW1]; exact (((((Below.refl _ w).alloc (Nat.le_refl _) _).alloc (by simp) _).alloc (by simp; omega) _).alloc (by simp; omega) _).alloc (by simp; omega) _
  have c0 : W1.cell? ⟨w.heap.size, 0, none⟩ = some (.func (.func 42) #[] #[]) := by rw [← hW1]; simp [go_sem]
  have c1 : W1.cell? ⟨w.heap.size + 1, 0, none⟩ = some (.int .i64 m) := by rw [← hW1]; simp [go_sem]
  have c5 : W1.cell? ⟨w.heap.size + 1, 1, none⟩ = some (.int .i64 t) := by rw [← hW1]; simp [go_sem]
  have c6 : W1.cell? ⟨w.heap.size + 1, 2, none⟩ = some (.int .i64 g) := by rw [← hW1]; simp [go_sem]
  have c2 : W1.cell? ⟨w.heap.size + 1 + 1, 0, none⟩ = some (.int .i64 (s 0)) := by rw [← hW1]; simp [go_sem]
  have c3 : W1.cell? ⟨w.heap.size + 1 + 1 + 1, 0, none⟩ = some (.int .i64 1) := by rw [← hW1]; simp [go_sem]
  have c4 : W1.cell? ⟨w.heap.size + 1 + 1 + 1 + 1, 0, none⟩ = some (.int .i64 0) := by rw [← hW1]; simp [go_sem]
  have f2 : W1.frozen? ⟨w.heap.size + 1 + 1, 0, none⟩ = false := by rw [← hW1]; simp [go_sem]
  have f3 : W1.frozen? ⟨w.heap.size + 1 + 1 + 1, 0, none⟩ = false := by rw [← hW1]; simp [go_sem]
  have f4 : W1.frozen? ⟨w.heap.size + 1 + 1 + 1 + 1, 0, none⟩ = false := by rw [← hW1]; simp [go_sem]
  rw [hW1]
  clear hW1
  have hmx : Try.prog.follows .mixedOrders = true := by kernel_rfl
  have K0 : ∀ q : GW W1, q.w.cell? ⟨w.heap.size, 0, none⟩ = some (.func (.func 42) #[] #[]) := fun q => cell_below c0 q.h
  have K1 : ∀ q : GW W1, q.w.cell? ⟨w.heap.size + 1, 0, none⟩ = some (.int .i64 m) := fun q => cell_below c1 q.h
  have K2 : ∀ q : GW W1, q.w.cell? ⟨w.heap.size + 1, 1, none⟩ = some (.int .i64 t) := fun q => cell_below c5 q.h
  have K3 : ∀ q : GW W1, q.w.cell? ⟨w.heap.size + 1, 2, none⟩ = some (.int .i64 g) := fun q => cell_below c6 q.h
  refine wpIn_wide.2 ?_
  refine wp_region_quiet_tail (C := fun w' => ∃ q : GW W1, w' = q.w) 6 hmx (by kernel_rfl) ⟨⟨W1.drew, (Below.refl _ _).drew⟩, rfl⟩ ?_
  simp only [List.take_succ_cons, List.take_zero, List.drop_succ_cons, List.drop_zero]
  repeat (quiet_step (exact gw_call (HN.out 0 _)))
  refine wpQuiet_nil ?_
  rintro W2 ⟨⟨_, hW2⟩, rfl⟩
  clear K0 K1 K2 K3
  have a0 := cell_below c0 hW2
  have a1 := cell_below c1 hW2
  have a5 := cell_below c5 hW2
  have a6 := cell_below c6 hW2
  have a2 : Cel W2 (w.heap.size + 1 + 1) (.int .i64 (s (2 ^ 0 - 1))) := Cel.below ⟨c2, f2⟩ hW2
  have a3 : Cel W2 (w.heap.size + 1 + 1 + 1) (.int .i64 (2 ^ 0 : Nat)) := Cel.below ⟨c3, f3⟩ hW2
  have a4 : Cel W2 (w.heap.size + 1 + 1 + 1 + 1) (.int .i64 (0 : Nat)) := Cel.below ⟨c4, f4⟩ hW2
  have hB2 : Below w.heap.size w W2 := hB1.trans (hW2.mono hB1.size)
  have hz2 : w.heap.size + 5 ≤ W2.heap.size := by have := hW2.size; omega
  have A2 := Lib.hid a2
  have A3 := Lib.hid a3
  have A4 := Lib.hid a4
  have Z2 := Lib.hid hz2
  clear hz1 hB1 c0 c1 c2 c3 c4 c5 c6 f2 f3 f4 hW2 a2 a3 a4 hz2
  go_wp2_with (go_at_call 71; refine (statesFromK_any _ _ _ _ _).mono ?_; rintro e w' ⟨rfl, rfl⟩)
  gi_wp2
  obtain ⟨I, hI⟩ : ∃ I, W2.heap.size = I := ⟨_, rfl⟩
  have hZI : w.heap.size + 5 ≤ I := by rw [← hI]; exact Z2.out
  have hs0 : Cyk1 s B m t g I w.heap.size 0 (((W2.alloc (Obj.cells #[Value.func (Fn.func 42) #[] #[]] 57)).alloc (Obj.cells #[Value.int IntKind.i64 m, Value.int IntKind.i64 t, Value.int IntKind.i64 g] 54)).alloc (Obj.cells #[Value.int IntKind.i64 (s 1)] 2)) := by
    have n0 := Cel.new W2 (.func (.func 42) #[] #[]) 57
    have n2 := Cel.new ((W2.alloc (Obj.cells #[Value.func (Fn.func 42) #[] #[]] 57)).alloc (Obj.cells #[Value.int IntKind.i64 m, Value.int IntKind.i64 t, Value.int IntKind.i64 g] 54)) (.int .i64 (s 1)) 2
    have k1 : ((W2.alloc (Obj.cells #[Value.func (Fn.func 42) #[] #[]] 57)).alloc (Obj.cells #[Value.int IntKind.i64 m, Value.int IntKind.i64 t, Value.int IntKind.i64 g] 54)).cell? ⟨W2.heap.size + 1, 0, none⟩ = some (.int .i64 m) := by simp [go_sem]
    have k2 : ((W2.alloc (Obj.cells #[Value.func (Fn.func 42) #[] #[]] 57)).alloc (Obj.cells #[Value.int IntKind.i64 m, Value.int IntKind.i64 t, Value.int IntKind.i64 g] 54)).cell? ⟨W2.heap.size + 1, 1, none⟩ = some (.int .i64 t) := by simp [go_sem]
    have k3 : ((W2.alloc (Obj.cells #[Value.func (Fn.func 42) #[] #[]] 57)).alloc (Obj.cells #[Value.int IntKind.i64 m, Value.int IntKind.i64 t, Value.int IntKind.i64 g] 54)).cell? ⟨W2.heap.size + 1, 2, none⟩ = some (.int .i64 g) := by simp [go_sem]
    have ck : ∀ {a : Addr} {v : Value} {V : World} (o : Obj), V.cell? a = some v → (V.alloc o).cell? a = some v := fun o h => cell_kept h (World.grownBy_alloc _ o none) (fun r e => by cases e)
    simp only [World.size_alloc, hI] at n0 n2 k1 k2 k3
    exact ⟨⟨⟨ck _ (ck _ (ck _ a0)), ck _ (ck _ (ck _ a1)), ck _ (ck _ (ck _ a5)), ck _ (ck _ (ck _ a6))⟩, hZI, n2.1, ((n0.alloc _).alloc _).1, ck _ k1, ck _ k2, ck _ k3⟩, 0, 0, Mark.start (by omega), ((A2.out.alloc _).alloc _).alloc _, ((A3.out.alloc _).alloc _).alloc _, ((A4.out.alloc _).alloc _).alloc _⟩
  have hb3 : Below w.heap.size w (((W2.alloc (Obj.cells #[Value.func (Fn.func 42) #[] #[]] 57)).alloc (Obj.cells #[Value.int IntKind.i64 m, Value.int IntKind.i64 t, Value.int IntKind.i64 g] 54)).alloc (Obj.cells #[Value.int IntKind.i64 (s 1)] 2)) := ((hB2.alloc hB2.size _).alloc (by simp; omega) _).alloc (by simp; omega) _
  rw [hI]
  generalize ((W2.alloc (Obj.cells #[Value.func (Fn.func 42) #[] #[]] 57)).alloc (Obj.cells #[Value.int IntKind.i64 m, Value.int IntKind.i64 t, Value.int IntKind.i64 g] 54)).alloc (Obj.cells #[Value.int IntKind.i64 (s 1)] 2) = W3 at hs0 hb3 ⊢
  clear a0 a1 a5 a6 A2 A3 A4 Z2 hB2 hI
  have hd : 1 ≤ 8 - 1 - 1 := by omega
  refine' wpIn_until rfl (by omega) (gf := 81) (lb := #[.pointer (some ⟨I + 1 + 1, 0, none⟩), .pointer (some ⟨I, 0, none⟩), .pointer (some ⟨I + 1, 0, none⟩)]) rfl trivial (enters_of Try.func81 (by kernel_rfl) rfl)
    (conStates (fun k => .int .i64 (s (k + 1))) (.int .i64 m) (.int .i64 t) (.int .i64 g) (I + 1 + 1) I (I + 1) (fun V => 4 * B - (cellN V (w.heap.size + 1 + 1 + 1) - 1 + cellN V (w.heap.size + 1 + 1 + 1 + 1))) (4 * B) _ W3 (by omega) (fun k W => HN.out (k + 1) W))
    (Below.refl _ _) rfl
    (fun k V => Cyk1 s B m t g I w.heap.size k V ∧ Below w.heap.size w V) (fun c _ V => (c = .exit 0 ∧ Cyk1x s B m t g I w.heap.size V) ∧ Below w.heap.size w V)
    (OwnFrom.and (Own.from (fun _ _ _ _ h hg hr => h.kept hg hr) _) (ownFrom_below (Nat.le_refl _) hb3.size))
    (fun c => OwnFrom.and (Own.from (fun _ _ _ _ h hg hr => ⟨h.1, h.2.kept hg hr⟩) _) (ownFrom_below (Nat.le_refl _) hb3.size))
    (fun k V h => ⟨h.1.mu, h.1.1.2.2⟩) ⟨hs0, hb3⟩ _ ?assign ?body ?stop
  case assign =>
    intro l k W K hK
    gi_wp2
    exact hK
  case body =>
    rintro l k V ⟨⟨hF, j, L, hm, cM, cP, cL⟩, hB⟩
    have HM := Lib.hid hm
    have HF := Lib.hid hF
    have HcM := Lib.hid cM
    have HcP := Lib.hid cP
    have HcL := Lib.hid cL
    obtain ⟨m0, mf⟩ := cM
    obtain ⟨p0, pf⟩ := cP
    obtain ⟨l0, lf⟩ := cL
    obtain ⟨q, hq⟩ : ∃ q, 2 ^ j = q := ⟨_, rfl⟩
    obtain ⟨hm1, hm2, hm3, _⟩ := hm
    obtain ⟨x, hx⟩ : ∃ x, s (k + 1) = x := ⟨_, rfl⟩
    obtain ⟨y, hy⟩ : ∃ y, s (2 ^ j - 1) = y := ⟨_, rfl⟩
    have HX := Lib.hid hx
    have HY := Lib.hid hy
    have HQ := Lib.hid hq
    rw [hy] at m0
    rw [hq] at p0 hm1 hm2 hm3
    have hL : L < 1000000 := by omega
    have hq2 : q < 1000000 := by omega
    rw [hx]
    clear hF hx hy hq
    by_cases h1 : x = y
    · have t1 : ((x : Int) == (y : Int)) = true := by rw [h1]; simp
      have HR : Hid (0 < L + 1 ∧ 2 ^ j - 1 < 2 * B ∧ L + 1 ≤ 2 * B ∧ s (2 ^ j - 1 + (L + 1)) = s (2 ^ j - 1) ∧ ∀ i, 0 < i → i < L + 1 → ¬ s (2 ^ j - 1 + i) = s (2 ^ j - 1)) := by
        have a := HQ.out
        refine ⟨by omega, by omega, by omega, ?_, fun i g0 g1 => HM.out.2.2.2 i g0 (by omega)⟩
        rw [show 2 ^ j - 1 + (L + 1) = k + 1 by omega, HX.out, HY.out, h1]
      clear h1
      gi_wp2
      exact ⟨KeepsOthers.setCell _ _ _, ⟨rfl, HF.out.other (by omega) (by omega) _, 2 ^ j - 1, L + 1, HR.out.1, HR.out.2.1, HR.out.2.2.1, HR.out.2.2.2.1, HR.out.2.2.2.2, HcL.out.set _⟩, hB.setCell (p := ⟨w.heap.size + 1 + 1 + 1 + 1, 0, none⟩) (by simp; omega) _⟩
    · have t1 : ((x : Int) == (y : Int)) = false := by rw [beq_eq_false_iff_ne]; omega
      have hne : Hid (¬ s (k + 1) = s (2 ^ j - 1)) := by unfold Hid; rw [HX.out, HY.out]; exact h1
      by_cases h2 : L + 1 = q
      · have t2 : ((L : Int) + 1 == (q : Int)) = true := by rw [beq_iff_eq]; omega
        have HD := Lib.hid (Mark.double hs hc0 hbc he HM.out hne.out (by rw [HQ.out]; exact h2))
        have HE := Lib.hid h2
        clear h1 h2
        gi_wp2
        have HT0 : Hid (Tryk (s 1) m t g I w.heap.size w V V (.int .i64 (s (2 ^ j - 1))) (.int .i64 q) (.int .i64 L)) := ⟨KeepsOthers.refl V, HF.out, HcM.out, by have := HcP.out; rwa [HQ.out] at this, HcL.out, hB⟩
        have HT1 := Lib.hid (HT0.out.r (.int .i64 ((L : Int) + 1)))
        generalize V.setCell ⟨w.heap.size + 1 + 1 + 1 + 1, 0, none⟩ (.int .i64 ((L : Int) + 1)) = V1 at HT1 ⊢
        obtain ⟨-, -, ⟨u1, v1⟩, ⟨u2, v2⟩, ⟨u3, v3⟩, -⟩ := HT1.out
        clear HT0 m0 mf p0 pf l0 lf HcM HcP HcL HF hB
        have eM : Hid (((s (2 ^ (j + 1) - 1) : Nat) : Int) = (x : Int)) := by
          have a := HQ.out
          have b := HX.out
          have c := HE.out
          have e : 2 ^ (j + 1) - 1 = k + 1 := by rw [Nat.pow_succ]; omega
          unfold Hid
          rw [e, b]
        have eP : Hid (((2 ^ (j + 1) : Nat) : Int) = IntKind.i64.wrap (2 * (q : Int))) := by
          have a := HQ.out
          unfold Hid
          rw [IntWalk.i64_in _ (by omega), Nat.pow_succ]
          omega
        clear HX HY HQ HE
        gi_region_with_o (fail)
        all_goals gi_wp2
        all_goals refine Tryk.done HD.out eM.out eP.out ?_
        all_goals exact (((HT1.out.m _).q _).r _).drew
      · have t2 : ((L : Int) + 1 == (q : Int)) = false := by rw [beq_eq_false_iff_ne]; omega
        have HD := Lib.hid (Mark.next HM.out hne.out (by rw [HQ.out]; exact h2))
        clear h1 h2
        gi_wp2
        exact ⟨KeepsOthers.setCell _ _ _, ⟨HF.out.other (by omega) (by omega) _, j, L + 1, HD.out, HcM.out.other (by omega) _, HcP.out.other (by omega) _, HcL.out.set _⟩, hB.setCell (p := ⟨w.heap.size + 1 + 1 + 1 + 1, 0, none⟩) (by simp; omega) _⟩
  case stop =>
    rintro D c k V hD ⟨⟨rfl, hF, M, cc, c1, c2, c3, c4, c5, cL⟩, hB⟩ hK
    have HL := Lib.hid cL
    have HF := Lib.hid hF
    have HC := Lib.hid (And.intro c4 c5)
    have hKd := Lib.hid hK
    clear hK c4 c5 cL hF
    have hcc : cc < 1000000 := by omega
    have l1 : (V.alloc (.cells #[.int .i64 (s 0)] 2)).cell? ⟨w.heap.size + 1 + 1 + 1 + 1, 0, none⟩ = some (.int .i64 cc) := (HL.out.alloc _).1
    gi_wp2
    obtain ⟨A, hA⟩ : ∃ A, V.heap.size = A := ⟨_, rfl⟩
    have nA := Cel.new V (.int .i64 (s 0)) 2
    rw [hA] at nA
    have gL := HL.out.alloc (.cells #[.int .i64 (s 0)] 2)
    have nLA : w.heap.size + 1 + 1 + 1 + 1 < A := by rw [← hA]; exact HL.out.lt
    have gF := (HF.out.kept (World.grownBy_alloc V (.cells #[.int .i64 (s 0)] 2) none) (fun r e => by cases e))
    have gB := hB.alloc hB.size (.cells #[.int .i64 (s 0)] 2)
    have gD : (V.alloc (.cells #[.int .i64 (s 0)] 2)).heap[D]? = some (.deferred (some [])) := (KeepsOthers.alloc V (.cells #[.int .i64 (s 0)] 2)).same D _ hKd.out rfl
    rw [hA]
    have hZD : w.heap.size ≤ D := Nat.le_trans hb3.size hD
    clear hKd HL HF hB l1 hA hD
    generalize V.alloc (.cells #[.int .i64 (s 0)] 2) = V2 at nA gL gF gB gD ⊢
    gi_loopw [37] (fun iv wr => ∃ k : Nat, k ≤ cc ∧ iv = .int .i64 k ∧ Cel wr A (.int .i64 (s k)) ∧ Hid (Cel wr (w.heap.size + 1 + 1 + 1 + 1) (.int .i64 cc) ∧ wr.heap[D]? = some (.deferred (some [])) ∧ Below w.heap.size w wr) ∧ wr.cell? ⟨w.heap.size, 0, none⟩ = some (.func (.func 42) #[] #[]) ∧ wr.cell? ⟨w.heap.size + 1, 0, none⟩ = some (.int .i64 m) ∧ wr.cell? ⟨w.heap.size + 1, 1, none⟩ = some (.int .i64 t) ∧ wr.cell? ⟨w.heap.size + 1, 2, none⟩ = some (.int .i64 g)) (fun iv _ => cc - (intOf iv).toNat)
    case atStart => exact ⟨0, Nat.zero_le _, rfl, nA, ⟨gL, gD, gB⟩, gF.1.1, gF.1.2.1, gF.1.2.2.1, gF.1.2.2.2⟩
    case round =>
      obtain ⟨k, hk, rfl, hA, H, hf, hp, hq, hq3⟩ := hrel
      have HA := Lib.hid hA
      obtain ⟨a0, a1⟩ := hA
      clear nA gL gF gB gD
      by_cases hlt : k < cc
      · gi_wp2
        refine ⟨trivial, (callsIn_wide.2 (HN.out k _)).mono ?_⟩
        rintro e W4 ⟨rfl, hb4⟩
        have HA4 := Lib.hid (HA.out.below hb4)
        have H4 := Lib.hid (And.intro (H.out.1.below hb4) (And.intro ((hb4.block D (Array.getElem?_eq_some_iff.1 H.out.2.1).1).trans H.out.2.1) (H.out.2.2.trans (hb4.mono H.out.2.2.size))))
        have HM4 := Lib.hid (And.intro (cell_below hf hb4) (And.intro (cell_below hp hb4) (And.intro (cell_below hq hb4) (cell_below hq3 hb4))))
        obtain ⟨b0, b1⟩ := HA4.out
        clear hb4 a0 a1 hf hp hq hq3
        gi_wp2
        go_roundw
        case rel => exact ⟨k + 1, by omega, by go_num, HA4.out.set _, ⟨H4.out.1.other (by omega) _, (KeepsOthers.setCell _ _ _).same D _ H4.out.2.1 rfl, H4.out.2.2.setCell (p := ⟨A, 0, none⟩) (by simp; omega) _⟩, cell_other HM4.out.1 (by omega) _, cell_other HM4.out.2.1 (by omega) _, cell_other1 HM4.out.2.2.1 (by omega) _, cell_other2 HM4.out.2.2.2 (by omega) _⟩
        case measure => simp [intOf]; omega
      · obtain rfl : k = cc := by omega
        have x0 : (wr.alloc (.cells #[.int .i64 0] 2)).cell? ⟨w.heap.size, 0, none⟩ = some (.func (.func 42) #[] #[]) := cell_kept hf (World.grownBy_alloc wr _ none) (fun r e => by cases e)
        have x1 : (wr.alloc (.cells #[.int .i64 0] 2)).cell? ⟨w.heap.size + 1, 0, none⟩ = some (.int .i64 m) := cell_kept hp (World.grownBy_alloc wr _ none) (fun r e => by cases e)
        have x2 : (wr.alloc (.cells #[.int .i64 0] 2)).cell? ⟨w.heap.size + 1, 1, none⟩ = some (.int .i64 t) := cell_kept hq (World.grownBy_alloc wr _ none) (fun r e => by cases e)
        have x3 : (wr.alloc (.cells #[.int .i64 0] 2)).cell? ⟨w.heap.size + 1, 2, none⟩ = some (.int .i64 g) := cell_kept hq3 (World.grownBy_alloc wr _ none) (fun r e => by cases e)
        clear a0 a1
        gi_wp2
        refine ⟨trivial, (callsIn_wide.2 (statesFromK_any _ _ _ _ _)).mono ?_⟩
        rintro e w6 ⟨rfl, rfl⟩
        gi_wp2
        obtain ⟨G, hG⟩ : ∃ G, wr.heap.size = G := ⟨_, rfl⟩
        have hAl : A < G := by rw [← hG]; exact HA.out.lt
        have hZl : w.heap.size ≤ G := by rw [← hG]; exact H.out.2.2.size
        have hDl : D < G := by rw [← hG]; exact (Array.getElem?_eq_some_iff.1 H.out.2.1).1
        have hsz : (wr.alloc (.cells #[.int .i64 0] 2)).heap.size = G + 1 := by rw [World.size_alloc, hG]
        have hs2 : Cyk2 s m t g w.heap.size A G D M k w 0 ((((wr.alloc (.cells #[.int .i64 0] 2)).alloc (Obj.cells #[Value.func (Fn.func 42) #[] #[]] 57)).alloc (Obj.cells #[Value.int IntKind.i64 m, Value.int IntKind.i64 t, Value.int IntKind.i64 g] 54)).alloc (Obj.cells #[Value.int IntKind.i64 (s 0)] 2)) := by
          have n0 := Cel.new wr (.int .i64 0) 2
          have n1 := Cel.new (wr.alloc (.cells #[.int .i64 0] 2)) (.func (.func 42) #[] #[]) 57
          have y1 : (((wr.alloc (.cells #[.int .i64 0] 2)).alloc (Obj.cells #[Value.func (Fn.func 42) #[] #[]] 57)).alloc (Obj.cells #[Value.int IntKind.i64 m, Value.int IntKind.i64 t, Value.int IntKind.i64 g] 54)).cell? ⟨wr.heap.size + 1 + 1, 0, none⟩ = some (.int .i64 m) := by simp [go_sem]
          have y2 : (((wr.alloc (.cells #[.int .i64 0] 2)).alloc (Obj.cells #[Value.func (Fn.func 42) #[] #[]] 57)).alloc (Obj.cells #[Value.int IntKind.i64 m, Value.int IntKind.i64 t, Value.int IntKind.i64 g] 54)).cell? ⟨wr.heap.size + 1 + 1, 1, none⟩ = some (.int .i64 t) := by simp [go_sem]
          have y3 : (((wr.alloc (.cells #[.int .i64 0] 2)).alloc (Obj.cells #[Value.func (Fn.func 42) #[] #[]] 57)).alloc (Obj.cells #[Value.int IntKind.i64 m, Value.int IntKind.i64 t, Value.int IntKind.i64 g] 54)).cell? ⟨wr.heap.size + 1 + 1, 2, none⟩ = some (.int .i64 g) := by simp [go_sem]
          have n3 := Cel.new (((wr.alloc (.cells #[.int .i64 0] 2)).alloc (Obj.cells #[Value.func (Fn.func 42) #[] #[]] 57)).alloc (Obj.cells #[Value.int IntKind.i64 m, Value.int IntKind.i64 t, Value.int IntKind.i64 g] 54)) (.int .i64 (s 0)) 2
          simp only [World.size_alloc, hG] at n0 n1 n3 y1 y2 y3
          have ck : ∀ {a : Addr} {v : Value} {V : World} (o : Obj), V.cell? a = some v → (V.alloc o).cell? a = some v := fun o h => cell_kept h (World.grownBy_alloc _ o none) (fun r e => by cases e)
          refine ⟨⟨?_, (((n0.alloc _).alloc _).alloc _), ⟨(((H.out.1.alloc _).alloc _).alloc _).alloc _, ?_, ?_⟩, ⟨ck _ (ck _ (ck _ x0)), ck _ (ck _ (ck _ x1)), ck _ (ck _ (ck _ x2)), ck _ (ck _ (ck _ x3))⟩, n3.1, ((n1.alloc _).alloc _).1, ck _ y1, ck _ y2, ck _ y3⟩, Nat.zero_le _, fun i hi => by omega⟩
          · rw [Nat.zero_add]; exact (((HA.out.alloc _).alloc _).alloc _).alloc _
          · exact (KeepsOthers.alloc _ _).same D _ ((KeepsOthers.alloc _ _).same D _ ((KeepsOthers.alloc _ _).same D _ ((KeepsOthers.alloc _ _).same D _ H.out.2.1 rfl) rfl) rfl) rfl
          · exact (((H.out.2.2.alloc (by omega) _).alloc (by simp; omega) _).alloc (by simp; omega) _).alloc (by simp; omega) _
        rw [hG]
        have hs6 : ((((wr.alloc (.cells #[.int .i64 0] 2)).alloc (Obj.cells #[Value.func (Fn.func 42) #[] #[]] 57)).alloc (Obj.cells #[Value.int IntKind.i64 m, Value.int IntKind.i64 t, Value.int IntKind.i64 g] 54)).alloc (Obj.cells #[Value.int IntKind.i64 (s 0)] 2)).heap.size = G + 4 := by simp [hG]
        generalize (((wr.alloc (.cells #[.int .i64 0] 2)).alloc (Obj.cells #[Value.func (Fn.func 42) #[] #[]] 57)).alloc (Obj.cells #[Value.int IntKind.i64 m, Value.int IntKind.i64 t, Value.int IntKind.i64 g] 54)).alloc (Obj.cells #[Value.int IntKind.i64 (s 0)] 2) = W6 at hs2 hs6 ⊢
        clear x0 x1 x2 x3 hf hp hq hq3 HA H hsz hG
        have hd : 1 ≤ 8 - 1 - 1 := by omega
        refine' wpIn_until rfl (by omega) (gf := 81) (lb := #[.pointer (some ⟨G + 1 + 1 + 1, 0, none⟩), .pointer (some ⟨G + 1, 0, none⟩), .pointer (some ⟨G + 1 + 1, 0, none⟩)]) rfl trivial (enters_of Try.func81 (by kernel_rfl) rfl)
          (conStates (fun k => .int .i64 (s k)) (.int .i64 m) (.int .i64 t) (.int .i64 g) (G + 1 + 1 + 1) (G + 1) (G + 1 + 1) (fun V => M + 1 - cellN V G) (M + 1) _ W6 (by omega) (fun k W => HN.out k W))
          (Below.refl _ _) rfl
          (Cyk2 s m t g w.heap.size A G D M k w) (fun c _ V => c = .exit 4 ∧ Cyk2x s w.heap.size G D k w V)
          (Cyk2.own (by omega) (Nat.le_refl _) (by omega)) (fun c => Cyk2x.own (by omega) (Nat.le_refl _) (by omega) c)
          (fun k V h => ⟨h.mu, h.1.2.2.2.2⟩) hs2 _ ?assign2 ?body2 ?stop2
        case assign2 =>
          intro l k W K hK
          gi_wp2
          exact hK
        case body2 =>
          rintro l i V ⟨⟨cA, cG, HH, ⟨z0, z1, z2, z3⟩, yy⟩, hi, hun⟩
          have HA := Lib.hid cA
          have HG := Lib.hid cG
          have HE := Lib.hid HH
          have HY := Lib.hid yy
          have HU := Lib.hid hun
          obtain ⟨a0, a1⟩ := cA
          obtain ⟨g0, g1⟩ := cG
          have hiL : i < 1000000 := by omega
          have hAG : ¬ A = G := by omega
          have hGA : ¬ G = A := by omega
          clear HH yy hun hs2 hs6
          by_cases h1 : s (i + k) = s i
          · have t1 : ((s i : Int) == (s (i + k) : Int)) = true := by rw [h1]; simp
            have HR : Hid (CycP s i k) := cycP_of hs c1 HC.out.1 HC.out.2 h1 HU.out
            clear h1
            gi_wp2
            exact ⟨KeepsOthers.refl _, rfl, ⟨i, HR.out, HG.out⟩, HE.out⟩
          · have t1 : ((s i : Int) == (s (i + k) : Int)) = false := by rw [beq_eq_false_iff_ne]; omega
            have hiM : i < M := by
              apply Nat.lt_of_le_of_ne hi
              intro e
              exact h1 (by rw [e]; exact HC.out.1)
            have HH1 := Lib.hid h1
            clear h1
            gi_wp2
            refine ⟨trivial, (callsIn_wide.2 (HN.out (i + k) _)).mono ?_⟩
            rintro e W4 ⟨rfl, hb4⟩
            have KO := Lib.hid (KeepsOthers.of_grownBy (grown_below hb4) (fun j o e => by cases e))
            have HA4 := Lib.hid (HA.out.below hb4)
            have HG4 := Lib.hid (HG.out.below hb4)
            have HE4 := Lib.hid (And.intro (HE.out.1.below hb4) (And.intro ((hb4.block D (Array.getElem?_eq_some_iff.1 HE.out.2.1).1).trans HE.out.2.1) (HE.out.2.2.trans (hb4.mono HE.out.2.2.size))))
            have HZ4 := Lib.hid (And.intro (cell_below z0 hb4) (And.intro (cell_below z1 hb4) (And.intro (cell_below z2 hb4) (cell_below z3 hb4))))
            have HY4 := Lib.hid (And.intro (cell_below HY.out.1 hb4) (And.intro (cell_below HY.out.2.1 hb4) (And.intro (cell_below HY.out.2.2.1 hb4) (And.intro (cell_below HY.out.2.2.2.1 hb4) (cell_below HY.out.2.2.2.2 hb4)))))
            clear HA HG HE HY z0 z1 z2 z3 a0 a1 g0 g1 hb4
            obtain ⟨a0, a1⟩ := HA4.out
            have l2 : (W4.setCell ⟨A, 0, none⟩ (.int .i64 (s (i + k + 1)))).cell? ⟨G, 0, none⟩ = some (.int .i64 i) := (HG4.out.other hAG _).1
            have l3 : (W4.setCell ⟨A, 0, none⟩ (.int .i64 (s (i + k + 1)))).frozen? ⟨G, 0, none⟩ = false := (HG4.out.other hAG _).2
            gi_wp2
            exact ⟨KO.out.trans ((KeepsOthers.setCell _ _ _).trans (KeepsOthers.setCell _ _ _)),
              ⟨by rw [Nat.add_right_comm i 1 k]; exact (HA4.out.set _).other hGA _, (HG4.out.other hAG _).set _,
                ⟨(HE4.out.1.other (by omega) _).other (by omega) _, (KeepsOthers.setCell _ _ _).same D _ ((KeepsOthers.setCell _ _ _).same D _ HE4.out.2.1 rfl) rfl, (HE4.out.2.2.setCell (p := ⟨A, 0, none⟩) (by simp; omega) _).setCell (p := ⟨G, 0, none⟩) hZl _⟩,
                ⟨cell_other (cell_other HZ4.out.1 (by omega) _) (by omega) _, cell_other (cell_other HZ4.out.2.1 (by omega) _) (by omega) _, cell_other1 (cell_other1 HZ4.out.2.2.1 (by omega) _) (by omega) _, cell_other2 (cell_other2 HZ4.out.2.2.2 (by omega) _) (by omega) _⟩,
                cell_other (cell_other HY4.out.1 (by omega) _) (by omega) _, cell_other (cell_other HY4.out.2.1 (by omega) _) (by omega) _, cell_other (cell_other HY4.out.2.2.1 (by omega) _) (by omega) _, cell_other1 (cell_other1 HY4.out.2.2.2.1 (by omega) _) (by omega) _, cell_other2 (cell_other2 HY4.out.2.2.2.2 (by omega) _) (by omega) _⟩,
              hiM, fun j hj => by
                by_cases e : j = i
                · rw [e]; exact HH1.out
                · exact HU.out j (by omega)⟩
        case stop2 =>
          rintro D2 c i V hD2 ⟨rfl, ⟨b', hb', cG⟩, cL, hK, hBl⟩ hK2
          have HK := Lib.hid hK
          have HK2 := Lib.hid hK2
          have HCP := Lib.hid hb'
          obtain ⟨g0, g1⟩ := cG
          obtain ⟨l0, l1⟩ := cL
          have hD3 : G + 4 ≤ D2 := hs6 ▸ hD2
          have hne : ¬ D = D2 := by omega
          have hZ2 : w.heap.size ≤ D2 := by omega
          clear hK hK2 hs2 hs6
          gi_wp2
          first
          | gi_region_with_o (fail)
          | skip
          all_goals gi_wp2
          all_goals
            refine ⟨by simp, .inl ⟨_, _, rfl, run_takeDeferred HK2.out, ?_⟩⟩
            refine ⟨by simp, .inl ⟨_, _, rfl, run_takeDeferred ((World.putObj_heap_other hne).trans HK.out), ?_⟩⟩
            refine ⟨.tuple #[.int .i64 b', .int .i64 k], by simp [results, Try.results41, go_sem], ⟨b', k, rfl, HCP.out⟩, ?_⟩
            exact (hBl.drew.grown (grownBy_putObj' _ D2 _) hBl.size (fun r e => by cases e; exact hZ2)).grown (grownBy_putObj' _ D _) (by simpa using hBl.size) (fun r e => by cases e; exact hZD)
end Go.Proofs.Ytamedggnkbhgeab
