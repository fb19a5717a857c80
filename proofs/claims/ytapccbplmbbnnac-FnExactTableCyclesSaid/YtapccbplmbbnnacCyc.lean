/- impl.cycleOf over polynomials: its contract: how many states come before the cycle, and its length. -/
import Derived.Test.YtapccbplmbbnnacIter
import Derived.Test.YtapccbplmbbnnacCycMath
import Derived.WalkSmall
import Derived.StillTailTactics
namespace Go.Proofs.Ytapccbplmbbnnac
open Go.RowKit Go.Shelf
attribute [local go_sem] Oper.semAt_some
set_option maxHeartbeats 2000000
theorem statesFrom_any (p x : Int) (W : World) :
    Calls Try.prog 55 #[.func (.func 41) #[] #[], .int .i64 p, .int .i64 x] W fun e w' => e = .returned (.func (.func 59) #[] #[.pointer (some ⟨W.heap.size + 1 + 1, 0, none⟩), .pointer (some ⟨W.heap.size, 0, none⟩), .pointer (some ⟨W.heap.size + 1, 0, none⟩)]) ∧
      w' = ((W.alloc (.cells #[.func (.func 41) #[] #[]] 67)).alloc (.cells #[.int .i64 p] 62)).alloc (.cells #[.int .i64 x] 62) := by
  go_enter Try.func55, Try.ntmps55
  go_wp2
  go_ret
  exact ⟨rfl, rfl⟩

def cellN (V : World) (b : Nat) : Nat := match V.cell? ⟨b, 0, none⟩ with | some (.int _ n) => n.toNat | _ => 0
/-- the cells that no round touches -/
def FixC (s1 : Int) (p Z : Nat) (V : World) : Prop := V.cell? ⟨Z, 0, none⟩ = some (.func (.func 41) #[] #[]) ∧ V.cell? ⟨Z + 1, 0, none⟩ = some (.int .i64 p) ∧ V.cell? ⟨Z + 5, 0, none⟩ = some (.func (.func 41) #[] #[]) ∧ V.cell? ⟨Z + 5 + 1, 0, none⟩ = some (.int .i64 p) ∧ V.cell? ⟨Z + 5 + 1 + 1, 0, none⟩ = some (.int .i64 s1)
/-- a cell of one's own that may be written -/
def Cel (V : World) (b : Nat) (v : Value) : Prop := V.cell? ⟨b, 0, none⟩ = some v ∧ V.frozen? ⟨b, 0, none⟩ = false
theorem Cel.kept {V W : World} {b : Nat} {v : Value} {row : Option Nat} (h : Cel V b v) (hg : V.grownBy W row) (hr : ∀ r, row = some r → ∃ o : Obj, V.heap[r]? = some o ∧ o.isCells = false) : Cel W b v := ⟨cell_kept h.1 hg hr, (frozen_kept h.1 hg hr).trans h.2⟩
theorem Cel.new (W : World) (v : Value) (t : TypeId) : Cel (W.alloc (.cells #[v] t)) W.heap.size v := ⟨by simp [go_sem], by simp [go_sem]⟩
theorem Cel.alloc {V : World} {b : Nat} {v : Value} (h : Cel V b v) (o : Obj) : Cel (V.alloc o) b v := h.kept (World.grownBy_alloc V o none) (fun r e => by cases e)
theorem Cel.lt {V : World} {b : Nat} {v : Value} (h : Cel V b v) : b < V.heap.size := World.block_lt_of_cell? V _ h.1
theorem Cel.set {V : World} {b : Nat} {v : Value} (h : Cel V b v) (u : Value) : Cel (V.setCell ⟨b, 0, none⟩ u) b u := ⟨World.cell?_setCell_same' _ _ _ (by rw [h.1]; rfl), by rw [World.frozen?_setCell]; exact h.2⟩
theorem Cel.other {V : World} {b c : Nat} {v : Value} (h : Cel V b v) (hne : c ≠ b) (u : Value) : Cel (V.setCell ⟨c, 0, none⟩ u) b v := ⟨by rw [World.cell?_setCell_other V _ _ _ (fun y => hne (by have := congrArg Addr.block y; simp at this; omega))]; exact h.1, by rw [World.frozen?_setCell]; exact h.2⟩
theorem FixC.other {s1 : Int} {p Z c : Nat} {V : World} (h : FixC s1 p Z V) (h1 : Z + 1 < c) (h2 : c < Z + 5) (u : Value) : FixC s1 p Z (V.setCell ⟨c, 0, none⟩ u) := by
  obtain ⟨a, b, d, e, f⟩ := h
  have key : ∀ {q : Nat} {v : Value}, V.cell? ⟨q, 0, none⟩ = some v → q ≠ c → (V.setCell ⟨c, 0, none⟩ u).cell? ⟨q, 0, none⟩ = some v := fun hv hq => by
    rw [World.cell?_setCell_other V _ _ _ (fun y => hq (by have := congrArg Addr.block y; simp at this; omega))]; exact hv
  exact ⟨key a (by omega), key b (by omega), key d (by omega), key e (by omega), key f (by omega)⟩
theorem FixC.kept {s1 : Int} {p Z : Nat} {V W : World} {row : Option Nat} (h : FixC s1 p Z V) (hg : V.grownBy W row) (hr : ∀ r, row = some r → ∃ o : Obj, V.heap[r]? = some o ∧ o.isCells = false) : FixC s1 p Z W :=
  ⟨cell_kept h.1 hg hr, cell_kept h.2.1 hg hr, cell_kept h.2.2.1 hg hr, cell_kept h.2.2.2.1 hg hr, cell_kept h.2.2.2.2 hg hr⟩
theorem Cel.drew {V : World} {b : Nat} {v : Value} (h : Cel V b v) : Cel V.drew b v := h
theorem FixC.drew {s1 : Int} {p Z : Nat} {V : World} (h : FixC s1 p Z V) : FixC s1 p Z V.drew := h
/-- between two rounds of the first search -/
def Cyc1 (s : Nat → Nat) (B p Z k : Nat) (V : World) : Prop := FixC (s 1) p Z V ∧ ∃ j L, Mark s B k j L ∧ Cel V (Z + 1 + 1) (.int .i64 (s (2 ^ j - 1))) ∧ Cel V (Z + 1 + 1 + 1) (.int .i64 (2 ^ j : Nat)) ∧ Cel V (Z + 1 + 1 + 1 + 1) (.int .i64 L)
/-- behind it -/
def Cyc1x (s : Nat → Nat) (B p Z : Nat) (V : World) : Prop := FixC (s 1) p Z V ∧ ∃ M c, 0 < c ∧ M < 2 * B ∧ c ≤ 2 * B ∧ s (M + c) = s M ∧ (∀ i, 0 < i → i < c → ¬ s (M + i) = s M) ∧ Cel V (Z + 1 + 1 + 1 + 1) (.int .i64 c)
theorem Cyc1.mu {s : Nat → Nat} {B p Z k : Nat} {V : World} (h : Cyc1 s B p Z k V) : (4 * B - (cellN V (Z + 1 + 1 + 1) - 1 + cellN V (Z + 1 + 1 + 1 + 1))) + k = 4 * B := by
  obtain ⟨_, j, L, hm, _, hp, hl⟩ := h
  have hk := hm.small
  have h0 : 0 < 2 ^ j := Nat.pow_pos (by omega)
  obtain ⟨e, _⟩ := hm
  have h1 : cellN V (Z + 1 + 1 + 1) = 2 ^ j := by
    unfold cellN
    rw [hp.1]
    exact Int.toNat_natCast _
  have h2 : cellN V (Z + 1 + 1 + 1 + 1) = L := by
    unfold cellN
    rw [hl.1]
    exact Int.toNat_natCast _
  omega
theorem Cyc1.kept {s : Nat → Nat} {B p Z k : Nat} {V W : World} {row : Option Nat} (h : Cyc1 s B p Z k V) (hg : V.grownBy W row) (hr : ∀ r, row = some r → ∃ o : Obj, V.heap[r]? = some o ∧ o.isCells = false) : Cyc1 s B p Z k W := by
  obtain ⟨a, j, L, hm, c1, c2, c3⟩ := h
  exact ⟨a.kept hg hr, j, L, hm, c1.kept hg hr, c2.kept hg hr, c3.kept hg hr⟩
theorem Cyc1x.kept {s : Nat → Nat} {B p Z : Nat} {V W : World} {row : Option Nat} (h : Cyc1x s B p Z V) (hg : V.grownBy W row) (hr : ∀ r, row = some r → ∃ o : Obj, V.heap[r]? = some o ∧ o.isCells = false) : Cyc1x s B p Z W := by
  obtain ⟨a, M, c, h1, h2, h3, h4, h5, h6⟩ := h
  exact ⟨a.kept hg hr, M, c, h1, h2, h3, h4, h5, h6.kept hg hr⟩

/-- what a round of the first search leaves, cell by cell -/
def Trip (s1 : Int) (p Z : Nat) (w V W : World) (x y z : Value) : Prop := KeepsOthers V W ∧ FixC s1 p Z W ∧ Cel W (Z + 1 + 1) x ∧ Cel W (Z + 1 + 1 + 1) y ∧ Cel W (Z + 1 + 1 + 1 + 1) z ∧ Below Z w W
theorem Trip.m {s1 : Int} {p Z : Nat} {w V W : World} {x y z : Value} (h : Trip s1 p Z w V W x y z) (u : Value) : Trip s1 p Z w V (W.setCell ⟨Z + 1 + 1, 0, none⟩ u) u y z := by
  obtain ⟨a, b, c, d, e, f⟩ := h
  exact ⟨a.trans (KeepsOthers.setCell _ _ _), b.other (by omega) (by omega) _, c.set _, d.other (by omega) _, e.other (by omega) _, f.setCell (by show Z ≤ Z + 1 + 1; omega) _⟩
theorem Trip.q {s1 : Int} {p Z : Nat} {w V W : World} {x y z : Value} (h : Trip s1 p Z w V W x y z) (u : Value) : Trip s1 p Z w V (W.setCell ⟨Z + 1 + 1 + 1, 0, none⟩ u) x u z := by
  obtain ⟨a, b, c, d, e, f⟩ := h
  exact ⟨a.trans (KeepsOthers.setCell _ _ _), b.other (by omega) (by omega) _, c.other (by omega) _, d.set _, e.other (by omega) _, f.setCell (by show Z ≤ Z + 1 + 1 + 1; omega) _⟩
theorem Trip.r {s1 : Int} {p Z : Nat} {w V W : World} {x y z : Value} (h : Trip s1 p Z w V W x y z) (u : Value) : Trip s1 p Z w V (W.setCell ⟨Z + 1 + 1 + 1 + 1, 0, none⟩ u) x y u := by
  obtain ⟨a, b, c, d, e, f⟩ := h
  exact ⟨a.trans (KeepsOthers.setCell _ _ _), b.other (by omega) (by omega) _, c.other (by omega) _, d.other (by omega) _, e.set _, f.setCell (by show Z ≤ Z + 1 + 1 + 1 + 1; omega) _⟩
theorem Trip.drew {s1 : Int} {p Z : Nat} {w V W : World} {x y z : Value} (h : Trip s1 p Z w V W x y z) : Trip s1 p Z w V W.drew x y z :=
  ⟨h.1.trans (KeepsOthers.drew _), h.2.1.drew, h.2.2.1.drew, h.2.2.2.1.drew, h.2.2.2.2.1.drew, h.2.2.2.2.2.drew⟩
theorem Trip.done {s : Nat → Nat} {B p Z k j : Nat} {w V W : World} {x y : Int} (hm : Mark s B (k + 1) (j + 1) 0) (ex : ((s (2 ^ (j + 1) - 1) : Nat) : Int) = x) (ey : ((2 ^ (j + 1) : Nat) : Int) = y) (h : Trip (s 1) p Z w V W (.int .i64 x) (.int .i64 y) (.int .i64 0)) :
    KeepsOthers V W ∧ Cyc1 s B p Z (k + 1) W ∧ Below Z w W := by
  subst ex ey
  obtain ⟨a, b, c, d, e, f⟩ := h
  exact ⟨a, ⟨b, j + 1, 0, hm, c, d, e⟩, f⟩

theorem cell_other {V : World} {q c : Nat} {v : Value} (h : V.cell? ⟨q, 0, none⟩ = some v) (hne : c ≠ q) (u : Value) : (V.setCell ⟨c, 0, none⟩ u).cell? ⟨q, 0, none⟩ = some v := by
  rw [World.cell?_setCell_other V _ _ _ (fun y => hne (by have := congrArg Addr.block y; simp at this; omega))]; exact h
/-- between two rounds of the second search: its cells -/
def Cyc2C (s : Nat → Nat) (p Z A G D cc : Nat) (w : World) (k : Nat) (V : World) : Prop := Cel V A (.int .i64 (s (k + cc))) ∧ Cel V G (.int .i64 k) ∧ (Cel V (Z + 1 + 1 + 1 + 1) (.int .i64 cc) ∧ V.heap[D]? = some (.deferred (some [])) ∧ Below Z w V) ∧
  (V.cell? ⟨Z, 0, none⟩ = some (.func (.func 41) #[] #[]) ∧ V.cell? ⟨Z + 1, 0, none⟩ = some (.int .i64 p)) ∧ V.cell? ⟨G + 1, 0, none⟩ = some (.func (.func 41) #[] #[]) ∧ V.cell? ⟨G + 1 + 1, 0, none⟩ = some (.int .i64 p) ∧ V.cell? ⟨G + 1 + 1 + 1, 0, none⟩ = some (.int .i64 (s 0))
def Cyc2 (s : Nat → Nat) (p Z A G D M cc : Nat) (w : World) (k : Nat) (V : World) : Prop := Cyc2C s p Z A G D cc w k V ∧ k ≤ M ∧ ∀ i, i < k → ¬ s (i + cc) = s i
def Cyc2x (s : Nat → Nat) (Z G D cc : Nat) (w : World) (V : World) : Prop := (∃ b, CycP s b cc ∧ Cel V G (.int .i64 b)) ∧ Cel V (Z + 1 + 1 + 1 + 1) (.int .i64 cc) ∧ V.heap[D]? = some (.deferred (some [])) ∧ Below Z w V
theorem Cyc2.mu {s : Nat → Nat} {p Z A G D M cc k : Nat} {w V : World} (h : Cyc2 s p Z A G D M cc w k V) : (M + 1 - cellN V G) + k = M + 1 := by
  obtain ⟨⟨_, hg, _⟩, hk, _⟩ := h
  have h1 : cellN V G = k := by
    unfold cellN
    rw [hg.1]
    exact Int.toNat_natCast _
  omega
theorem deferred_kept {V W : World} {D B : Nat} {row : Option Nat} (h : V.heap[D]? = some (.deferred (some []))) (hD : D < B) (hg : V.grownBy W row) (hr : ∀ r, row = some r → B ≤ r ∧ ∃ o : Obj, V.heap[r]? = some o ∧ o.isCells = false) : W.heap[D]? = some (.deferred (some [])) :=
  (hg.block D (Array.getElem?_eq_some_iff.1 h).1 (fun e => by have := (hr D e.symm).1; omega)).trans h
theorem Cyc2.own {s : Nat → Nat} {p Z A G D M cc B : Nat} {w : World} (hD : D < B) (hn : Z ≤ w.heap.size) (hB : Z ≤ B) : OwnFrom B (Cyc2 s p Z A G D M cc w) := by
  rintro k V W row ⟨⟨a1, a2, ⟨a3, a4, a5⟩, ⟨a6, a7⟩, a8, a9, a10⟩, h⟩ hg hr
  have hr2 := fun r e => (hr r e).2
  exact ⟨⟨a1.kept hg hr2, a2.kept hg hr2, ⟨a3.kept hg hr2, deferred_kept a4 hD hg hr, a5.grown hg (Nat.le_trans hn a5.size) (fun k e => Nat.le_trans hB (hr k e).1)⟩, ⟨cell_kept a6 hg hr2, cell_kept a7 hg hr2⟩, cell_kept a8 hg hr2, cell_kept a9 hg hr2, cell_kept a10 hg hr2⟩, h⟩
theorem Cyc2x.own {s : Nat → Nat} {Z G D cc B : Nat} {w : World} (hD : D < B) (hn : Z ≤ w.heap.size) (hB : Z ≤ B) (c : Code) : OwnFrom B (fun (_ : Nat) V => c = .exit 4 ∧ Cyc2x s Z G D cc w V) := by
  rintro k V W row ⟨hc, ⟨b, h1, h2⟩, a3, a4, a5⟩ hg hr
  have hr2 := fun r e => (hr r e).2
  exact ⟨hc, ⟨b, h1, h2.kept hg hr2⟩, a3.kept hg hr2, deferred_kept a4 hD hg hr, a5.grown hg (Nat.le_trans hn a5.size) (fun k e => Nat.le_trans hB (hr k e).1)⟩

set_option maxRecDepth 100000 in
theorem cycle_any (s : Nat → Nat) (p : Nat) (w : World) (B b c : Nat) (hs : Steps s) (hc0 : 0 < c) (hbc : b + c ≤ B) (he : s (b + c) = s b) (hB : B ≤ 65536)
    (HN : Hid (∀ (k : Nat) (W : World), Calls Try.prog 41 #[.int .i64 p, .int .i64 (s k)] W fun e w' => e = .returned (.int .i64 (s (k + 1))) ∧ W = w')) :
    Calls Try.prog 42 #[.func (.func 41) #[] #[], .int .i64 p, .int .i64 (s 0)] w fun e w' => (∃ b' c' : Nat, e = .returned (.tuple #[.int .i64 b', .int .i64 c']) ∧ CycP s b' c') ∧ Below w.heap.size w w' := by
  refine (callsIn_wide (n := 8)).1 ?_
  refine callsIn_of_wp_marks Try.func42 rfl trivial ?_ rfl
  simp only [Try.ntmps42, List.size_toArray, List.length_cons, List.length_nil, Nat.reduceAdd, Nat.reduceSub, Array.replicate_succ, Array.replicate_zero, List.push_toArray, List.append_toArray, List.nil_append, List.cons_append]
  gi_wp2
  obtain ⟨W1, hW1⟩ : ∃ W, ((((w.alloc (Obj.cells #[Value.func (Fn.func 41) #[] #[]] 67)).alloc (Obj.cells #[Value.int IntKind.i64 p] 62)).alloc (Obj.cells #[Value.int IntKind.i64 (s 0)] 62)).alloc (Obj.cells #[Value.int IntKind.i64 1] 2)).alloc (Obj.cells #[Value.int IntKind.i64 0] 2) = W := ⟨_, rfl⟩
  have hz1 : W1.heap.size = w.heap.size + 5 := by rw [← hW1]; simp
  have hB1 : Below w.heap.size w W1 := by rw [← hW1]; exact (((((Below.refl _ w).alloc (Nat.le_refl _) _).alloc (by simp) _).alloc (by simp; omega) _).alloc (by simp; omega) _).alloc (by simp; omega) _
  have c0 : W1.cell? ⟨w.heap.size, 0, none⟩ = some (.func (.func 41) #[] #[]) := by rw [← hW1]; simp [go_sem]
  have c1 : W1.cell? ⟨w.heap.size + 1, 0, none⟩ = some (.int .i64 p) := by rw [← hW1]; simp [go_sem]
  have c2 : W1.cell? ⟨w.heap.size + 1 + 1, 0, none⟩ = some (.int .i64 (s 0)) := by rw [← hW1]; simp [go_sem]
  have c3 : W1.cell? ⟨w.heap.size + 1 + 1 + 1, 0, none⟩ = some (.int .i64 1) := by rw [← hW1]; simp [go_sem]
  have c4 : W1.cell? ⟨w.heap.size + 1 + 1 + 1 + 1, 0, none⟩ = some (.int .i64 0) := by rw [← hW1]; simp [go_sem]
  have f0 : W1.frozen? ⟨w.heap.size, 0, none⟩ = false := by rw [← hW1]; simp [go_sem]
  have f1 : W1.frozen? ⟨w.heap.size + 1, 0, none⟩ = false := by rw [← hW1]; simp [go_sem]
  have f2 : W1.frozen? ⟨w.heap.size + 1 + 1, 0, none⟩ = false := by rw [← hW1]; simp [go_sem]
  have f3 : W1.frozen? ⟨w.heap.size + 1 + 1 + 1, 0, none⟩ = false := by rw [← hW1]; simp [go_sem]
  have f4 : W1.frozen? ⟨w.heap.size + 1 + 1 + 1 + 1, 0, none⟩ = false := by rw [← hW1]; simp [go_sem]
  rw [hW1]
  clear hW1
  have hmx : Try.prog.follows .mixedOrders = true := by kernel_rfl
  refine wpIn_wide.2 ?_
  go_still_tail 6, hmx
  still_call ((HN.out 0 _).mono fun e w' ⟨a, b⟩ => ⟨a, b.symm⟩)
  refine wpStill_nil ?_
  change wpList _ _ _ _ _ W1.drew
  have hz2 : W1.drew.heap.size = w.heap.size + 5 := hz1
  have hB2 : Below w.heap.size w W1.drew := hB1.drew
  have e0 : W1.drew.cell? ⟨w.heap.size, 0, none⟩ = some (.func (.func 41) #[] #[]) := c0
  have e1 : W1.drew.cell? ⟨w.heap.size + 1, 0, none⟩ = some (.int .i64 p) := c1
  have e2 : W1.drew.cell? ⟨w.heap.size + 1 + 1, 0, none⟩ = some (.int .i64 (s 0)) := c2
  have e3 : W1.drew.cell? ⟨w.heap.size + 1 + 1 + 1, 0, none⟩ = some (.int .i64 1) := c3
  have e4 : W1.drew.cell? ⟨w.heap.size + 1 + 1 + 1 + 1, 0, none⟩ = some (.int .i64 0) := c4
  have g0 : W1.drew.frozen? ⟨w.heap.size, 0, none⟩ = false := f0
  have g1 : W1.drew.frozen? ⟨w.heap.size + 1, 0, none⟩ = false := f1
  have g2 : W1.drew.frozen? ⟨w.heap.size + 1 + 1, 0, none⟩ = false := f2
  have g3 : W1.drew.frozen? ⟨w.heap.size + 1 + 1 + 1, 0, none⟩ = false := f3
  have g4 : W1.drew.frozen? ⟨w.heap.size + 1 + 1 + 1 + 1, 0, none⟩ = false := f4
  clear hz1 hB1 c0 c1 c2 c3 c4 f0 f1 f2 f3 f4
  generalize W1.drew = W2 at hz2 hB2 e0 e1 e2 e3 e4 g0 g1 g2 g3 g4 ⊢
  have hs0 : Cyc1 s B p w.heap.size 0 (((W2.alloc (Obj.cells #[Value.func (Fn.func 41) #[] #[]] 67)).alloc (Obj.cells #[Value.int IntKind.i64 p] 62)).alloc (Obj.cells #[Value.int IntKind.i64 (s 1)] 62)) := by
    have n0 := Cel.new W2 (.func (.func 41) #[] #[]) 67
    have n1 := Cel.new (W2.alloc (Obj.cells #[Value.func (Fn.func 41) #[] #[]] 67)) (.int .i64 p) 62
    have n2 := Cel.new ((W2.alloc (Obj.cells #[Value.func (Fn.func 41) #[] #[]] 67)).alloc (Obj.cells #[Value.int IntKind.i64 p] 62)) (.int .i64 (s 1)) 62
    simp only [World.size_alloc, hz2] at n0 n1 n2
    have a0 : Cel W2 w.heap.size _ := ⟨e0, g0⟩
    have a1 : Cel W2 (w.heap.size + 1) _ := ⟨e1, g1⟩
    have a2 : Cel W2 (w.heap.size + 1 + 1) (.int .i64 (s (2 ^ 0 - 1))) := ⟨e2, g2⟩
    have a3 : Cel W2 (w.heap.size + 1 + 1 + 1) (.int .i64 (2 ^ 0 : Nat)) := ⟨e3, g3⟩
    have a4 : Cel W2 (w.heap.size + 1 + 1 + 1 + 1) (.int .i64 (0 : Nat)) := ⟨e4, g4⟩
    exact ⟨⟨(((a0.alloc _).alloc _).alloc _).1, (((a1.alloc _).alloc _).alloc _).1, ((n0.alloc _).alloc _).1, (n1.alloc _).1, n2.1⟩, 0, 0, Mark.start (by omega), ((a2.alloc _).alloc _).alloc _, ((a3.alloc _).alloc _).alloc _, ((a4.alloc _).alloc _).alloc _⟩
  have hb3 : Below w.heap.size w (((W2.alloc (Obj.cells #[Value.func (Fn.func 41) #[] #[]] 67)).alloc (Obj.cells #[Value.int IntKind.i64 p] 62)).alloc (Obj.cells #[Value.int IntKind.i64 (s 1)] 62)) := ((hB2.alloc hB2.size _).alloc (by simp; omega) _).alloc (by simp; omega) _
  go_wp2_with (go_at_call 55; refine (statesFrom_any _ _ _).mono ?_; rintro e w' ⟨rfl, rfl⟩)
  gi_wp2
  generalize ((W2.alloc (Obj.cells #[Value.func (Fn.func 41) #[] #[]] 67)).alloc (Obj.cells #[Value.int IntKind.i64 p] 62)).alloc (Obj.cells #[Value.int IntKind.i64 (s 1)] 62) = W3 at hs0 hb3 ⊢
  clear e0 e1 e2 e3 e4 g0 g1 g2 g3 g4 hB2 hz2
  have hd : 1 ≤ 8 - 1 - 1 := by omega
  refine wpIn_until rfl (by omega) (gf := 59) (lb := #[.pointer (some ⟨w.heap.size + 5 + 1 + 1, 0, none⟩), .pointer (some ⟨w.heap.size + 5, 0, none⟩), .pointer (some ⟨w.heap.size + 5 + 1, 0, none⟩)]) rfl trivial (enters_of Try.func59 (by kernel_rfl) rfl)
    (polyStates (fun k => .int .i64 (s (k + 1))) (.int .i64 p) (w.heap.size + 5 + 1 + 1) (w.heap.size + 5) (w.heap.size + 5 + 1) (fun V => 4 * B - (cellN V (w.heap.size + 1 + 1 + 1) - 1 + cellN V (w.heap.size + 1 + 1 + 1 + 1))) (4 * B) _ W3 (by omega) (fun k W => HN.out (k + 1) W))
    (Below.refl _ _) rfl
    (fun k V => Cyc1 s B p w.heap.size k V ∧ Below w.heap.size w V) (fun c _ V => (c = .exit 0 ∧ Cyc1x s B p w.heap.size V) ∧ Below w.heap.size w V)
    (OwnFrom.and (Own.from (fun _ _ _ _ h hg hr => h.kept hg hr) _) (ownFrom_below (Nat.le_refl _) hb3.size))
    (fun c => OwnFrom.and (Own.from (fun _ _ _ _ h hg hr => ⟨h.1, h.2.kept hg hr⟩) _) (ownFrom_below (Nat.le_refl _) hb3.size))
    (fun k V h => ⟨h.1.mu, h.1.1.2.2.2.2, h.1.1.2.2.1, h.1.1.2.2.2.1⟩) ⟨hs0, hb3⟩
    (fun k => { tmps := #[.func (.func 41) #[] #[], .int .i64 p, .int .i64 (s 0), .pointer (some ⟨w.heap.size, 0, none⟩), .pointer (some ⟨w.heap.size + 1, 0, none⟩), undef, .int .i64 0, .int .i64 0, .pointer (some ⟨w.heap.size + 1 + 1, 0, none⟩), .pointer (some ⟨w.heap.size + 1 + 1 + 1, 0, none⟩), .pointer (some ⟨w.heap.size + 1 + 1 + 1 + 1, 0, none⟩), .int .i64 (s (k + 1)), undef, undef, undef, .int .i64 (s 0), .func (.func 41) #[] #[], .int .i64 p, .func (.func 41) #[] #[], .int .i64 p, .int .i64 (s 0), .int .i64 (s 1), .func (.func 59) #[] #[.pointer (some ⟨w.heap.size + 5 + 1 + 1, 0, none⟩), .pointer (some ⟨w.heap.size + 5, 0, none⟩), .pointer (some ⟨w.heap.size + 5 + 1, 0, none⟩)], .int .i64 (s (k + 1)), undef, undef, undef, undef, undef, undef, undef, undef, undef, undef, undef, undef, undef, undef, undef, undef, undef, undef, undef, undef, undef, undef, undef, undef, undef, undef, undef, undef, undef, undef, undef, undef, undef, undef, undef, undef], defers := [] }) ?assign ?body ?stop
  case assign =>
    intro l k W K hK
    gi_wp2
    exact hK
  case body =>
    rintro l k V ⟨⟨hF, j, L, hm, cM, cP, cL⟩, hB⟩
    have HM := Lib.hid hm
    have HF := Lib.hid hF
    have HcM := Lib.hid cM
    have HcP := Lib.hid cP
    have HcL := Lib.hid cL
    obtain ⟨m0, mf⟩ := cM
    obtain ⟨p0, pf⟩ := cP
    obtain ⟨l0, lf⟩ := cL
    obtain ⟨q, hq⟩ : ∃ q, 2 ^ j = q := ⟨_, rfl⟩
    obtain ⟨hm1, hm2, hm3, _⟩ := hm
    obtain ⟨x, hx⟩ : ∃ x, s (k + 1) = x := ⟨_, rfl⟩
    obtain ⟨y, hy⟩ : ∃ y, s (2 ^ j - 1) = y := ⟨_, rfl⟩
    have HX := Lib.hid hx
    have HY := Lib.hid hy
    have HQ := Lib.hid hq
    rw [hy] at m0
    rw [hq] at p0 hm1 hm2 hm3
    have hL : L < 1000000 := by omega
    have hq2 : q < 1000000 := by omega
    rw [hx]
    clear hF hx hy hq
    by_cases h1 : x = y
    · have t1 : ((x : Int) == (y : Int)) = true := by rw [h1]; simp
      have HR : Hid (0 < L + 1 ∧ 2 ^ j - 1 < 2 * B ∧ L + 1 ≤ 2 * B ∧ s (2 ^ j - 1 + (L + 1)) = s (2 ^ j - 1) ∧ ∀ i, 0 < i → i < L + 1 → ¬ s (2 ^ j - 1 + i) = s (2 ^ j - 1)) := by
        have a := HQ.out
        refine ⟨by omega, by omega, by omega, ?_, fun i g0 g1 => HM.out.2.2.2 i g0 (by omega)⟩
        rw [show 2 ^ j - 1 + (L + 1) = k + 1 by omega, HX.out, HY.out, h1]
      clear h1
      gi_wp2
      exact ⟨KeepsOthers.setCell _ _ _, ⟨rfl, HF.out.other (by omega) (by omega) _, 2 ^ j - 1, L + 1, HR.out.1, HR.out.2.1, HR.out.2.2.1, HR.out.2.2.2.1, HR.out.2.2.2.2, HcL.out.set _⟩, hB.setCell (p := ⟨w.heap.size + 1 + 1 + 1 + 1, 0, none⟩) (by simp; omega) _⟩
    · have t1 : ((x : Int) == (y : Int)) = false := by rw [beq_eq_false_iff_ne]; omega
      have hne : Hid (¬ s (k + 1) = s (2 ^ j - 1)) := by unfold Hid; rw [HX.out, HY.out]; exact h1
      by_cases h2 : L + 1 = q
      · have t2 : ((L : Int) + 1 == (q : Int)) = true := by rw [beq_iff_eq]; omega
        have HD := Lib.hid (Mark.double hs hc0 hbc he HM.out hne.out (by rw [HQ.out]; exact h2))
        have HE := Lib.hid h2
        clear h1 h2
        gi_wp2
        have HT0 : Hid (Trip (s 1) p w.heap.size w V V (.int .i64 (s (2 ^ j - 1))) (.int .i64 q) (.int .i64 L)) := ⟨KeepsOthers.refl V, HF.out, HcM.out, by have := HcP.out; rwa [HQ.out] at this, HcL.out, hB⟩
        have HT1 := Lib.hid (HT0.out.r (.int .i64 ((L : Int) + 1)))
        generalize V.setCell ⟨w.heap.size + 1 + 1 + 1 + 1, 0, none⟩ (.int .i64 ((L : Int) + 1)) = V1 at HT1 ⊢
        obtain ⟨-, -, ⟨u1, v1⟩, ⟨u2, v2⟩, ⟨u3, v3⟩, -⟩ := HT1.out
        clear HT0 m0 mf p0 pf l0 lf HcM HcP HcL HF hB
        have eM : Hid (((s (2 ^ (j + 1) - 1) : Nat) : Int) = (x : Int)) := by
          have a := HQ.out
          have b := HX.out
          have c := HE.out
          have e : 2 ^ (j + 1) - 1 = k + 1 := by rw [Nat.pow_succ]; omega
          unfold Hid
          rw [e, b]
        have eP : Hid (((2 ^ (j + 1) : Nat) : Int) = IntKind.i64.wrap (2 * (q : Int))) := by
          have a := HQ.out
          unfold Hid
          rw [IntWalk.i64_in _ (by omega), Nat.pow_succ]
          omega
        clear HX HY HQ HE
        gi_region_with_o (fail)
        all_goals gi_wp2
        all_goals refine Trip.done HD.out eM.out eP.out ?_
        all_goals exact (((HT1.out.m _).q _).r _).drew
      · have t2 : ((L : Int) + 1 == (q : Int)) = false := by rw [beq_eq_false_iff_ne]; omega
        have HD := Lib.hid (Mark.next HM.out hne.out (by rw [HQ.out]; exact h2))
        clear h1 h2
        gi_wp2
        exact ⟨KeepsOthers.setCell _ _ _, ⟨HF.out.other (by omega) (by omega) _, j, L + 1, HD.out, HcM.out.other (by omega) _, HcP.out.other (by omega) _, HcL.out.set _⟩, hB.setCell (p := ⟨w.heap.size + 1 + 1 + 1 + 1, 0, none⟩) (by simp; omega) _⟩
  case stop =>
    rintro D c k V hD ⟨⟨rfl, hF, M, cc, c1, c2, c3, c4, c5, cL⟩, hB⟩ hK
    have HL := Lib.hid cL
    have HF := Lib.hid hF
    have HC := Lib.hid (And.intro c4 c5)
    have hKd := Lib.hid hK
    clear hK c4 c5 cL hF
    have hcc : cc < 1000000 := by omega
    have l1 : (V.alloc (.cells #[.int .i64 (s 0)] 62)).cell? ⟨w.heap.size + 1 + 1 + 1 + 1, 0, none⟩ = some (.int .i64 cc) := (HL.out.alloc _).1
    gi_wp2
    obtain ⟨A, hA⟩ : ∃ A, V.heap.size = A := ⟨_, rfl⟩
    have nA := Cel.new V (.int .i64 (s 0)) 62
    rw [hA] at nA
    have gL := HL.out.alloc (.cells #[.int .i64 (s 0)] 62)
    have nLA : w.heap.size + 1 + 1 + 1 + 1 < A := by rw [← hA]; exact HL.out.lt
    have gF := (HF.out.kept (World.grownBy_alloc V (.cells #[.int .i64 (s 0)] 62) none) (fun r e => by cases e))
    have gB := hB.alloc hB.size (.cells #[.int .i64 (s 0)] 62)
    have gD : (V.alloc (.cells #[.int .i64 (s 0)] 62)).heap[D]? = some (.deferred (some [])) := (KeepsOthers.alloc V (.cells #[.int .i64 (s 0)] 62)).same D _ hKd.out rfl
    rw [hA]
    have hZD : w.heap.size ≤ D := Nat.le_trans hb3.size hD
    clear hKd HL HF hB l1 hA hD
    generalize V.alloc (.cells #[.int .i64 (s 0)] 62) = V2 at nA gL gF gB gD ⊢
    gi_loopw [37] (fun iv wr => ∃ k : Nat, k ≤ cc ∧ iv = .int .i64 k ∧ Cel wr A (.int .i64 (s k)) ∧ Hid (Cel wr (w.heap.size + 1 + 1 + 1 + 1) (.int .i64 cc) ∧ wr.heap[D]? = some (.deferred (some [])) ∧ Below w.heap.size w wr) ∧ wr.cell? ⟨w.heap.size, 0, none⟩ = some (.func (.func 41) #[] #[]) ∧ wr.cell? ⟨w.heap.size + 1, 0, none⟩ = some (.int .i64 p)) (fun iv _ => cc - (intOf iv).toNat)
    case atStart => exact ⟨0, Nat.zero_le _, rfl, nA, ⟨gL, gD, gB⟩, gF.1, gF.2.1⟩
    case round =>
      obtain ⟨k, hk, rfl, hA, H, hf, hp⟩ := hrel
      have HA := Lib.hid hA
      obtain ⟨a0, a1⟩ := hA
      clear nA gL gF gB gD
      by_cases hlt : k < cc
      · gi_wp2
        refine ⟨trivial, (callsIn_wide.2 (HN.out k _)).mono ?_⟩
        rintro e W4 ⟨rfl, rfl⟩
        gi_wp2
        go_roundw
        case rel => exact ⟨k + 1, by omega, by go_num, HA.out.set _, ⟨H.out.1.other (by omega) _, (KeepsOthers.setCell _ _ _).same D _ H.out.2.1 rfl, H.out.2.2.setCell (p := ⟨A, 0, none⟩) (by simp; omega) _⟩, cell_other hf (by omega) _, cell_other hp (by omega) _⟩
        case measure => simp [intOf]; omega
      · obtain rfl : k = cc := by omega
        have x0 : (wr.alloc (.cells #[.int .i64 0] 2)).cell? ⟨w.heap.size, 0, none⟩ = some (.func (.func 41) #[] #[]) := cell_kept hf (World.grownBy_alloc wr _ none) (fun r e => by cases e)
        have x1 : (wr.alloc (.cells #[.int .i64 0] 2)).cell? ⟨w.heap.size + 1, 0, none⟩ = some (.int .i64 p) := cell_kept hp (World.grownBy_alloc wr _ none) (fun r e => by cases e)
        clear a0 a1
        gi_wp2
        refine ⟨trivial, (callsIn_wide.2 (statesFrom_any _ _ _)).mono ?_⟩
        rintro e w6 ⟨rfl, rfl⟩
        gi_wp2
        obtain ⟨G, hG⟩ : ∃ G, wr.heap.size = G := ⟨_, rfl⟩
        have hAl : A < G := by rw [← hG]; exact HA.out.lt
        have hZl : w.heap.size ≤ G := by rw [← hG]; exact H.out.2.2.size
        have hDl : D < G := by rw [← hG]; exact (Array.getElem?_eq_some_iff.1 H.out.2.1).1
        have hsz : (wr.alloc (.cells #[.int .i64 0] 2)).heap.size = G + 1 := by rw [World.size_alloc, hG]
        have hs2 : Cyc2 s p w.heap.size A G D M k w 0 ((((wr.alloc (.cells #[.int .i64 0] 2)).alloc (Obj.cells #[Value.func (Fn.func 41) #[] #[]] 67)).alloc (Obj.cells #[Value.int IntKind.i64 p] 62)).alloc (Obj.cells #[Value.int IntKind.i64 (s 0)] 62)) := by
          have n0 := Cel.new wr (.int .i64 0) 2
          have n1 := Cel.new (wr.alloc (.cells #[.int .i64 0] 2)) (.func (.func 41) #[] #[]) 67
          have n2 := Cel.new ((wr.alloc (.cells #[.int .i64 0] 2)).alloc (Obj.cells #[Value.func (Fn.func 41) #[] #[]] 67)) (.int .i64 p) 62
          have n3 := Cel.new (((wr.alloc (.cells #[.int .i64 0] 2)).alloc (Obj.cells #[Value.func (Fn.func 41) #[] #[]] 67)).alloc (Obj.cells #[Value.int IntKind.i64 p] 62)) (.int .i64 (s 0)) 62
          simp only [World.size_alloc, hG] at n0 n1 n2 n3
          have ck : ∀ {b : Nat} {v : Value} {V : World} (o : Obj), V.cell? ⟨b, 0, none⟩ = some v → (V.alloc o).cell? ⟨b, 0, none⟩ = some v := fun o h => cell_kept h (World.grownBy_alloc _ o none) (fun r e => by cases e)
          refine ⟨⟨?_, (((n0.alloc _).alloc _).alloc _), ⟨(((H.out.1.alloc _).alloc _).alloc _).alloc _, ?_, ?_⟩, ⟨ck _ (ck _ (ck _ x0)), ck _ (ck _ (ck _ x1))⟩, ((n1.alloc _).alloc _).1, (n2.alloc _).1, n3.1⟩, Nat.zero_le _, fun i hi => by omega⟩
          · rw [Nat.zero_add]; exact (((HA.out.alloc _).alloc _).alloc _).alloc _
          · exact (KeepsOthers.alloc _ _).same D _ ((KeepsOthers.alloc _ _).same D _ ((KeepsOthers.alloc _ _).same D _ ((KeepsOthers.alloc _ _).same D _ H.out.2.1 rfl) rfl) rfl) rfl
          · exact (((H.out.2.2.alloc (by omega) _).alloc (by simp; omega) _).alloc (by simp; omega) _).alloc (by simp; omega) _
        rw [hG]
        have hs6 : ((((wr.alloc (.cells #[.int .i64 0] 2)).alloc (Obj.cells #[Value.func (Fn.func 41) #[] #[]] 67)).alloc (Obj.cells #[Value.int IntKind.i64 p] 62)).alloc (Obj.cells #[Value.int IntKind.i64 (s 0)] 62)).heap.size = G + 4 := by simp [hG]
        generalize (((wr.alloc (.cells #[.int .i64 0] 2)).alloc (Obj.cells #[Value.func (Fn.func 41) #[] #[]] 67)).alloc (Obj.cells #[Value.int IntKind.i64 p] 62)).alloc (Obj.cells #[Value.int IntKind.i64 (s 0)] 62) = W6 at hs2 hs6 ⊢
        clear x0 x1 hf hp HA H hsz hG
        have hd : 1 ≤ 8 - 1 - 1 := by omega
        refine' wpIn_until rfl (by omega) (gf := 59) (lb := #[.pointer (some ⟨G + 1 + 1 + 1, 0, none⟩), .pointer (some ⟨G + 1, 0, none⟩), .pointer (some ⟨G + 1 + 1, 0, none⟩)]) rfl trivial (enters_of Try.func59 (by kernel_rfl) rfl)
          (polyStates (fun k => .int .i64 (s k)) (.int .i64 p) (G + 1 + 1 + 1) (G + 1) (G + 1 + 1) (fun V => M + 1 - cellN V G) (M + 1) _ W6 (by omega) (fun k W => HN.out k W))
          (Below.refl _ _) rfl
          (Cyc2 s p w.heap.size A G D M k w) (fun c _ V => c = .exit 4 ∧ Cyc2x s w.heap.size G D k w V)
          (Cyc2.own (by omega) (Nat.le_refl _) (by omega)) (fun c => Cyc2x.own (by omega) (Nat.le_refl _) (by omega) c)
          (fun k V h => ⟨h.mu, h.1.2.2.2.2.2.2, h.1.2.2.2.2.1, h.1.2.2.2.2.2.1⟩) hs2 _ ?assign2 ?body2 ?stop2
        case assign2 =>
          intro l k W K hK
          gi_wp2
          exact hK
        case body2 =>
          rintro l i V ⟨⟨cA, cG, HH, ⟨z0, z1⟩, yy⟩, hi, hun⟩
          have HA := Lib.hid cA
          have HG := Lib.hid cG
          have HE := Lib.hid HH
          have HY := Lib.hid yy
          have HU := Lib.hid hun
          obtain ⟨a0, a1⟩ := cA
          obtain ⟨g0, g1⟩ := cG
          have hiL : i < 1000000 := by omega
          have hAG : ¬ A = G := by omega
          have hGA : ¬ G = A := by omega
          clear HH yy hun hs2 hs6
          by_cases h1 : s (i + k) = s i
          · have t1 : ((s i : Int) == (s (i + k) : Int)) = true := by rw [h1]; simp
            have HR : Hid (CycP s i k) := cycP_of hs c1 HC.out.1 HC.out.2 h1 HU.out
            clear h1
            gi_wp2
            exact ⟨KeepsOthers.refl _, rfl, ⟨i, HR.out, HG.out⟩, HE.out⟩
          · have t1 : ((s i : Int) == (s (i + k) : Int)) = false := by rw [beq_eq_false_iff_ne]; omega
            have hiM : i < M := by
              apply Nat.lt_of_le_of_ne hi
              intro e
              exact h1 (by rw [e]; exact HC.out.1)
            have HH1 := Lib.hid h1
            clear h1
            have l2 : (V.setCell ⟨A, 0, none⟩ (.int .i64 (s (i + k + 1)))).cell? ⟨G, 0, none⟩ = some (.int .i64 i) := (HG.out.other hAG _).1
            have l3 : (V.setCell ⟨A, 0, none⟩ (.int .i64 (s (i + k + 1)))).frozen? ⟨G, 0, none⟩ = false := (HG.out.other hAG _).2
            gi_wp2
            refine ⟨trivial, (callsIn_wide.2 (HN.out (i + k) _)).mono ?_⟩
            rintro e W4 ⟨rfl, rfl⟩
            gi_wp2
            exact ⟨(KeepsOthers.setCell _ _ _).trans (KeepsOthers.setCell _ _ _),
              ⟨by rw [Nat.add_right_comm i 1 k]; exact (HA.out.set _).other hGA _, (HG.out.other hAG _).set _,
                ⟨(HE.out.1.other (by omega) _).other (by omega) _, (KeepsOthers.setCell _ _ _).same D _ ((KeepsOthers.setCell _ _ _).same D _ HE.out.2.1 rfl) rfl, (HE.out.2.2.setCell (p := ⟨A, 0, none⟩) (by simp; omega) _).setCell (p := ⟨G, 0, none⟩) hZl _⟩,
                ⟨cell_other (cell_other z0 (by omega) _) (by omega) _, cell_other (cell_other z1 (by omega) _) (by omega) _⟩,
                cell_other (cell_other HY.out.1 (by omega) _) (by omega) _, cell_other (cell_other HY.out.2.1 (by omega) _) (by omega) _, cell_other (cell_other HY.out.2.2 (by omega) _) (by omega) _⟩,
              hiM, fun j hj => by
                by_cases e : j = i
                · rw [e]; exact HH1.out
                · exact HU.out j (by omega)⟩
        case stop2 =>
          rintro D2 c i V hD2 ⟨rfl, ⟨b', hb', cG⟩, cL, hK, hBl⟩ hK2
          have HK := Lib.hid hK
          have HK2 := Lib.hid hK2
          have HCP := Lib.hid hb'
          obtain ⟨g0, g1⟩ := cG
          obtain ⟨l0, l1⟩ := cL
          have hD3 : G + 4 ≤ D2 := hs6 ▸ hD2
          have hne : ¬ D = D2 := by omega
          have hZ2 : w.heap.size ≤ D2 := by omega
          clear hK hK2 hs2 hs6
          gi_wp2
          first
          | gi_region_with_o (fail)
          | skip
          all_goals gi_wp2
          all_goals
            refine ⟨by simp, .inl ⟨_, _, rfl, run_takeDeferred HK2.out, ?_⟩⟩
            refine ⟨by simp, .inl ⟨_, _, rfl, run_takeDeferred ((World.putObj_heap_other hne).trans HK.out), ?_⟩⟩
            refine ⟨.tuple #[.int .i64 b', .int .i64 k], by simp [results, Try.results42, go_sem], ⟨b', k, rfl, HCP.out⟩, ?_⟩
            exact (hBl.drew.grown (grownBy_putObj' _ D2 _) hBl.size (fun r e => by cases e; exact hZ2)).grown (grownBy_putObj' _ D _) (by simpa using hBl.size) (fun r e => by cases e; exact hZD)
end Go.Proofs.Ytapccbplmbbnnac
