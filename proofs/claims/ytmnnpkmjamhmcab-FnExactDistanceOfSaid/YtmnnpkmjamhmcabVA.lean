/- Arrays of numbers: as values, and in a block that may be written. Of no program. -/
import Derived.Test.YtmnnpkmjamhmcabD3
import Derived.Test.YtmnnpkmjamhmcabRowC
import Derived.Deep.MidRow
namespace Go.Proofs.Ytmnnpkmjamhmcab
open Go Go.RowKit

/-- the numbers f 0 .. f (n-1), each one cell -/
def vs (n : Nat) (f : Nat → Nat) : List Value := (List.range n).map fun i => .int .i64 (f i)
theorem vs_length (n : Nat) (f : Nat → Nat) : (vs n f).length = n := by simp [vs]
theorem vs_get {n : Nat} (f : Nat → Nat) {k : Nat} (hk : k < n) : (vs n f)[k]? = some (.int .i64 (f k)) := by simp [vs, hk]
theorem vs_congr {n : Nat} {f g : Nat → Nat} (h : ∀ i, i < n → f i = g i) : vs n f = vs n g := by
  unfold vs
  apply List.map_congr_left
  intro i hi
  rw [h i (List.mem_range.1 hi)]
theorem vs_one (n : Nat) (f : Nat → Nat) : ∀ v ∈ vs n f, v.oneCell' = true := by
  intro v hv
  obtain ⟨i, _, rfl⟩ := List.mem_map.1 hv
  rfl
/-- n numbers in block b from offset o on, writable -/
def MA (W : World) (b o n : Nat) (f : Nat → Nat) : Prop := ∀ j, j < n → W.cell? ⟨b, o + j, none⟩ = some (.int .i64 (f j)) ∧ W.frozen? ⟨b, o + j, none⟩ = false
theorem MA.range {W : World} {b o n : Nat} {f : Nat → Nat} (h : MA W b o n f) : W.rangeAt b o (vs n f) := fun j v hv => by
  have hj : j < n := by have := (List.getElem?_eq_some_iff.1 hv).1; rwa [vs_length] at this
  rw [vs_get f hj] at hv
  cases hv
  exact (h j hj).1
theorem MA.there {W : World} {b o n : Nat} {f : Nat → Nat} (h : MA W b o n f) : W.there b o n := fun j hj => ⟨by rw [(h j hj).1]; rfl, (h j hj).2⟩
theorem MA.lt {W : World} {b o n : Nat} {f : Nat → Nat} (h : MA W b o n f) (hn : 0 < n) : b < W.heap.size := World.block_lt_of_cell? W _ (h 0 hn).1
theorem MA.below {V V1 : World} {b o n m : Nat} {f : Nat → Nat} (h : MA V b o n f) (hb : Below m V V1) (hm : b < m) : MA V1 b o n f := fun j hj =>
  ⟨(hb.cell (p := ⟨b, o + j, none⟩) hm).trans (h j hj).1, (hb.frozen (p := ⟨b, o + j, none⟩) hm).trans (h j hj).2⟩
theorem MA.far {V V1 : World} {b o n : Nat} {f : Nat → Nat} (h : MA V b o n f) (hn : 0 < n) (hb : Below V.heap.size V V1) : MA V1 b o n f := h.below hb (h.lt hn)
theorem MA.drewN {V : World} {b o n : Nat} {f : Nat → Nat} (h : MA V b o n f) (m : Nat) : MA (V.drewN m) b o n f := h
theorem MA.drew {V : World} {b o n : Nat} {f : Nat → Nat} (h : MA V b o n f) : MA V.drew b o n f := h
theorem MA.grow {W0 w : World} {rw : Option Nat} {b o n : Nat} {f : Nat → Nat} (h : MA W0 b o n f) (hn : 0 < n) (hg : W0.grownBy w rw) (hne : rw ≠ some b) : MA w b o n f := fun j hj =>
  have hb := hg.block b (h.lt hn) (Ne.symm hne)
  ⟨(World.cell?_of_block (a := ⟨b, o + j, none⟩) hb).trans (h j hj).1, (World.frozen?_of_block (a := ⟨b, o + j, none⟩) hb).trans (h j hj).2⟩
theorem MA.congr {W : World} {b o n : Nat} {f g : Nat → Nat} (h : MA W b o n f) (hfg : ∀ j, j < n → f j = g j) : MA W b o n g := fun j hj => by rw [← hfg j hj]; exact h j hj
theorem MA.set {W : World} {b o n : Nat} {f g : Nat → Nat} (h : MA W b o n f) {k : Nat} (v : Nat) (hg : ∀ j, j < n → g j = if j = k then v else f j) : MA (W.setCell ⟨b, o + k, none⟩ (.int .i64 v)) b o n g := fun j hj => by
  rw [hg j hj, World.frozen?_setCell]
  refine ⟨?_, (h j hj).2⟩
  by_cases e : j = k
  · subst e
    rw [if_pos rfl]
    exact World.cell?_setCell_same W _ _ (h j hj).1
  · rw [if_neg e, cell_otherD (addr_neD (by omega))]
    exact (h j hj).1
theorem MA.other {W : World} {b o n c i : Nat} {f : Nat → Nat} (h : MA W b o n f) (hne : c ≠ b ∨ i < o ∨ o + n ≤ i) (u : Value) : MA (W.setCell ⟨c, i, none⟩ u) b o n f := fun j hj => by
  rw [World.frozen?_setCell, cell_otherD (addr_neD (by omega))]
  exact h j hj
theorem MA.put {W : World} {b o n : Nat} {f : Nat → Nat} (h : MA W b o n f) (g : Nat → Nat) : MA (W.setCells b o (vs n g)) b o n g := fun j hj => by
  have h1 := World.rangeAt_setCells_same W b o (vs n g) (by rw [vs_length]; exact h.there) j (.int .i64 (g j)) (vs_get g hj)
  exact ⟨h1, by rw [World.frozen?_setCells]; exact (h j hj).2⟩
theorem MA.away {W : World} {b o n c i : Nat} {f : Nat → Nat} (h : MA W b o n f) (l : List Value) (hne : c ≠ b ∨ i + l.length ≤ o ∨ o + n ≤ i) : MA (W.setCells c i l) b o n f := fun j hj => by
  rw [World.frozen?_setCells, World.cell?_setCells_out c l i W ⟨b, o + j, none⟩ (fun h1 _ => by
    simp only at h1
    show o + j < i ∨ i + l.length ≤ o + j
    omega)]
  exact h j hj
theorem below_setCells {B : Nat} {w : World} {b : Nat} (hb : B ≤ b) : ∀ (l : List Value) (o : Nat) (V : World), Below B w V → Below B w (V.setCells b o l) := by
  intro l
  induction l with
  | nil => intro o V h; exact h
  | cons v l ih => intro o V h; exact ih (o + 1) _ (h.setCell (p := ⟨b, o, none⟩) hb v)
theorem size_setCells {b : Nat} : ∀ (l : List Value) (o : Nat) (V : World), (V.setCells b o l).heap.size = V.heap.size := by
  intro l
  induction l with
  | nil => intro o V; rfl
  | cons v l ih => intro o V; rw [World.setCells, ih]; simp [World.setCell]
theorem gr_setCells {W0 : World} {rw : Option Nat} {b : Nat} (hp : rw = some b ∨ W0.heap.size ≤ b) : ∀ (l : List Value) (o : Nat) (w : World), W0.grownBy w rw → W0.grownBy (w.setCells b o l) rw := by
  intro l
  induction l with
  | nil => intro o w h; exact h
  | cons v l ih => intro o w h; exact ih (o + 1) _ (gr_set h (p := ⟨b, o, none⟩) hp v)
theorem MA.new {w : World} {A : Array Value} {n : Nat} {f : Nat → Nat} (t : TypeId) (o : Nat) (h : ∀ j, j < n → A[o + j]? = some (.int .i64 (f j))) : MA (w.alloc (.cells A t)) w.heap.size o n f := fun j hj => by
  refine ⟨?_, by simp [go_sem]⟩
  rw [cell_of_row (w.alloc (.cells A t)) w.heap.size (o + j) A t (0, 0) (heap_alloc_new w _)]
  exact h j hj
theorem vs_arr {n : Nat} (f : Nat → Nat) {k : Nat} (hk : k < n) : (vs n f).toArray[0 + k]? = some (.int .i64 (f k)) := by
  rw [Nat.zero_add]
  simpa using vs_get f hk
theorem vs_size (n : Nat) (f : Nat → Nat) : (vs n f).toArray.size = n := by simp [vs_length]
theorem vs_all (n : Nat) (f : Nat → Nat) : (vs n f).toArray.all (·.oneCell') = true := all_oneCell_toArray (vs_one n f)
/-- a whole array out of a block -/
theorem run_vs_load {P : Program} {W : World} {b o n ty : Nat} {el : TypeId} {f : Nat → Nat} (h : MA W b o n f) (hu : P.underlying ty = some (.array n el)) (hi : (P.info? ty).map (·.size) = some n) : (loadVar ty ⟨b, o, none⟩).run P W = .ok (.agg (vs n f).toArray) W :=
  run_loadVar_mid W b o ty (vs n f) (.array n el) h.range hu rfl (by rw [hi, vs_length])
/-- its element -/
theorem run_vs_index {P : Program} {n ty : Nat} {el : TypeId} (f : Nat → Nat) {k : Nat} (hk : k < n) (hu : P.underlying ty = some (.array n el)) (hs : (P.info? el).map (·.size) = some 1) (ha : P.underlying el = some (.int .i64)) (W : World) :
    (Instr.index ty (.agg (vs n f).toArray) (.int .i64 (k : Int))).run P W = .ok (.int .i64 (f k)) W := by
  have h0 : (0 : Int) ≤ (k : Int) ∧ (k : Int) < (n : Int) := ⟨by omega, by omega⟩
  have hg : (vs n f)[k]? = some (.int .i64 (f k)) := vs_get f hk
  have hag : (isAgg el).run P W = .ok false W := by
    unfold isAgg
    rw [Sem.run_bind, run_underlying ha W]
    rfl
  cases hq : P.info? el with
  | none => simp [hq] at hs
  | some i =>
    have hz : i.size = 1 := by simpa [hq] using hs
    simp [Instr.index, go_sem, run_underlying hu, sizeOf, typeInfo, hq, hz, hk, hag, hg, part]
/-- a list copied into an array -/
theorem MA.copy {W : World} {b n : Nat} {f g : Nat → Nat} (h : MA W b 0 n f) (xs : List Int) (hl : xs.length ≤ n) (h0 : ∀ (i : Nat) (y : Int), xs[i]? = some y → 0 ≤ y) (hg : ∀ j, j < n → g j = if j < xs.length then (xs.getD j 0).toNat else f j) : MA (W.setCells b 0 (xs.map (Value.int .i64))) b 0 n g := fun j hj => by
  have hlen : (xs.map (Value.int .i64)).length = xs.length := by simp
  rw [hg j hj, World.frozen?_setCells]
  refine ⟨?_, (h j hj).2⟩
  by_cases e : j < xs.length
  · rw [if_pos e, World.cell?_setCells_in b _ 0 W (fun i hi => by rw [hlen] at hi; rw [(h i (by omega)).1]; rfl) j (by rw [hlen]; exact e)]
    have hx : xs[j]? = some xs[j] := List.getElem?_eq_getElem e
    have hy := h0 j _ hx
    rw [List.getElem_map, List.getD_eq_getElem?_getD, hx]
    simp only [Option.getD_some]
    rw [Int.toNat_of_nonneg hy]
  · rw [if_neg e, World.cell?_setCells_out b _ 0 W ⟨b, 0 + j, none⟩ (fun _ _ => by rw [hlen]; show 0 + j < 0 ∨ 0 + xs.length ≤ 0 + j; omega)]
    exact (h j hj).1
theorem run_copy_into {P : Program} {W : World} {b n m c ty : Nat} {sT el : TypeId} {a : Option Addr} {f : Nat → Nat} {xs : List Int} (h : MA W b 0 n f) (hr : RO W.heap.size W a xs) (hn : xs.length = m) (hl : m ≤ n) (h1 : 1 ≤ m) (hu : P.underlying sT = some (.slice el)) (hs : (P.info? el).map (·.size) = some 1) :
    (Builtin.copy_ #[sT, sT] ty #[.slice (some ⟨b, 0, none⟩) n n, .slice a m c]).run P W = .ok (goInt m) (W.setCells b 0 (xs.map (Value.int .i64))) := by
  obtain ⟨y, hy⟩ : ∃ y, xs[0]? = some y := ⟨_, List.getElem?_eq_getElem (by omega)⟩
  obtain ⟨g, off, rfl, _, _⟩ := hr 0 y hy
  have := run_copy_cells (P := P) W sT sT ty el b 0 n n ⟨g, off, none⟩ m c (xs.map (Value.int .i64)) hu hs (by rw [List.length_map, hn]; exact (Nat.min_eq_left hl).symm) (fun j v hv => by
    rw [List.getElem?_map] at hv
    obtain ⟨z, hz, rfl⟩ := Option.map_eq_some_iff.1 hv
    obtain ⟨g', off', e, _, hc⟩ := hr j z hz
    cases e
    rw [Addr.add_mid]
    exact hc) (fun j hj => by rw [(h j (by simp at hj; omega)).1]; rfl) (fun j hj => (h j (by simp at hj; omega)).2) (fun v hv => by obtain ⟨z, _, rfl⟩ := List.mem_map.1 hv; rfl)
  rw [List.length_map, hn] at this
  exact this
/-- a struct or an array put together -/
theorem wpl_build {P : Program} {ops : Array Oper} {rest : List Oper} {o : Oper} {a : Act} {w : World} {Q : Exit → Act → World → Prop} (hg : o.guard = none) (t : TypeId) (parts : Array (Nat × Operand)) (cells : Array Value) (ho : o.op = .build t parts) (hb : P.built t (parts.map fun (i, x) => (i, a.eval x)).toList = some cells)
    (h : wpList P ops Q rest (a.put o.dst (.agg cells)) w) : wpList P ops Q (o :: rest) a w :=
  wpList_plain hg fun _ hK => wp_build t parts ho (by rw [hb]; rfl) (by rw [hb]; exact hK _ _ h)
end Go.Proofs.Ytmnnpkmjamhmcab
