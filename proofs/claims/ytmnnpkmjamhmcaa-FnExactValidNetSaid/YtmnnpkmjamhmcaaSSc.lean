/- Rows that are appended to a slice of slices. -/
import Derived.Test.YtmnnpkmjamhmcaaSSb
import Derived.Test.YtmnnpkmjamhmcaaS7A
import Derived.Maps.AppendAt
namespace Go.Proofs.Ytmnnpkmjamhmcaa
open Go.RowKit Go.PlainAid
set_option maxHeartbeats 1600000

theorem row_hasC {B m : Nat} {w : World} {v : Value} {e : TypeId} {xs : List Value} (h : w.ownsRow B e 1 v m xs) {g : Nat} (hg : v.ownBlock = some g) : B ≤ g ∧ ∃ cur, w.heap[g]? = some (.cells cur e (0, 0)) := by
  rcases h.2 with ⟨rfl, _⟩ | ⟨g', cap, cur, rfl, hb, hh, _⟩
  · simp [Value.ownBlock] at hg
  · simp [Value.ownBlock] at hg
    subst hg
    exact ⟨hb, cur, hh⟩
theorem row_apart {B B' m n : Nat} {w : World} {u v : Value} {xs vs : List Value} (h : w.ownsRow B 2 1 u m xs) (ho : w.ownsRow B' 35 1 v n vs) : u.ownBlock = none ∨ u.ownBlock ≠ v.ownBlock := by
  cases hv : u.ownBlock with
  | none => exact .inl rfl
  | some b =>
    refine .inr fun e => ?_
    obtain ⟨_, cur, h2⟩ := row_hasC h hv
    obtain ⟨_, cur2, h3⟩ := row_hasC ho e.symm
    rw [h3] at h2
    simp at h2
theorem row_lt {B m : Nat} {w : World} {v : Value} {e : TypeId} {xs : List Value} (h : w.ownsRow B e 1 v m xs) {g : Nat} (hg : v.ownBlock = some g) : g < w.heap.size := by
  obtain ⟨_, cur, h2⟩ := row_hasC h hg
  exact (Array.getElem?_eq_some_iff.1 h2).1
/-- rows that have been appended one after another -/
def OA (B : Nat) (vs : List Value) (g L c : Nat) (f : Nat → List Int) (w0 w : World) : Prop :=
  w.ownsRow B 35 1 (.slice (some ⟨g, 0, none⟩) L c) L vs ∧ Below B w0 w ∧ B ≤ w.heap.size ∧ (∀ d, d < L → ∃ u, vs[d]? = some u ∧ w.ownsRow B 2 1 u (f d).length ((f d).map (Value.int .i64))) ∧
    ∀ (d e : Nat) (u v : Value), d < e → vs[d]? = some u → vs[e]? = some v → u.ownBlock = none ∨ u.ownBlock ≠ v.ownBlock
theorem OA.empty (w : World) (f : Nat → List Int) : OA w.heap.size [] w.heap.size 0 0 f w (w.alloc (.cells #[] 35)) :=
  ⟨ownsRow_empty w 35 1, (Below.refl _ _).alloc (Nat.le_refl _) _, by simp, fun d hd => by omega, fun d e u v h h1 => by simp at h1⟩
theorem OA.far {B : Nat} {vs : List Value} {g L c : Nat} {f : Nat → List Int} {w0 w w1 : World} (h : OA B vs g L c f w0 w) (hb : Below w.heap.size w w1) : OA B vs g L c f w0 w1 := by
  obtain ⟨h1, h2, h3, h4, h5⟩ := h
  refine ⟨own_far h1 hb, h2.trans (hb.mono h3), Nat.le_trans h3 hb.size, fun d hd => ?_, h5⟩
  obtain ⟨u, hu, hr⟩ := h4 d hd
  exact ⟨u, hu, own_far hr hb⟩
theorem OA.drewN {B : Nat} {vs : List Value} {g L c : Nat} {f : Nat → List Int} {w0 w : World} (h : OA B vs g L c f w0 w) (n : Nat) : OA B vs g L c f w0 (w.drewN n) := h.far (below_drewN (Below.refl _ _) n)
theorem OA.lt {B : Nat} {vs : List Value} {g L c : Nat} {f : Nat → List Int} {w0 w : World} (h : OA B vs g L c f w0 w) : ∀ (d : Nat) (u : Value), vs[d]? = some u → ∀ q, u.ownBlock = some q → q < w.heap.size := by
  intro d u hu q hq
  have hl := h.1.1
  obtain ⟨u', hu', hr⟩ := h.2.2.2.1 d (by have := (List.getElem?_eq_some_iff.1 hu).1; omega)
  rw [hu] at hu'
  cases hu'
  exact row_lt hr hq
theorem OA.step {B : Nat} {vs : List Value} {g L c : Nat} {f : Nat → List Int} {w0 wr w1 : World} {v1 u : Value} {o : Obj} {T : Nat} (h : OA B vs g L c f w0 wr) (hu : wr.ownsRow B 2 1 u (f L).length ((f L).map (Value.int .i64)))
    (hT1 : ∀ (d : Nat) (u' : Value), vs[d]? = some u' → ∀ q, u'.ownBlock = some q → q < T) (hT2 : ∀ q, u.ownBlock = some q → T ≤ q)
    (hown : w1.ownsRow B 35 1 v1 (L + 1) (vs ++ [u])) (hg : (wr.alloc o).grownBy w1 (Value.slice (some ⟨g, 0, none⟩) L c).ownBlock) :
    ∃ g' c', v1 = .slice (some ⟨g', 0, none⟩) (L + 1) c' ∧ OA B (vs ++ [u]) g' (L + 1) c' f w0 w1 := by
  obtain ⟨h1, h2, h3, h4, h5⟩ := h
  obtain ⟨g', c', rfl, hg'⟩ := own_shape hown (by omega)
  have hl : vs.length = L := by simpa using h1.1
  have h1a := World.ownsRow.alloc h1 o
  have hB := row_hasC h1 (g := g) rfl
  refine ⟨g', c', rfl, hown, (h2.alloc h3 o).grown hg (by simp; omega) (fun q e => by cases e; exact hB.1), Nat.le_trans h3 (Nat.le_trans (by simp) hg.size), fun d hd => ?_, fun d e x y hde hx hy => ?_⟩
  · by_cases e : d < L
    · obtain ⟨u', hu', hr⟩ := h4 d e
      refine ⟨u', by rw [List.getElem?_append_left (by omega)]; exact hu', World.ownsRow.kept (World.ownsRow.alloc hr o) hg ?_⟩
      exact row_apart (World.ownsRow.alloc hr o) h1a
    · obtain rfl : d = L := by omega
      refine ⟨u, by rw [List.getElem?_append_right (by omega), hl]; simp, World.ownsRow.kept (World.ownsRow.alloc hu o) hg ?_⟩
      exact row_apart (World.ownsRow.alloc hu o) h1a
  · have he : e < L + 1 := by
      have := (List.getElem?_eq_some_iff.1 hy).1
      simp at this
      omega
    rw [List.getElem?_append_left (by omega)] at hx
    by_cases e2 : e < L
    · rw [List.getElem?_append_left (by omega)] at hy
      exact h5 d e x y hde hx hy
    · obtain rfl : e = L := by omega
      rw [List.getElem?_append_right (by omega), hl] at hy
      simp at hy
      subst hy
      cases hq : x.ownBlock with
      | none => exact .inl rfl
      | some q =>
        right
        intro hh
        have a1 := hT1 d x hx q hq
        have a2 := hT2 q hh.symm
        omega
theorem OA.rr {B : Nat} {vs : List Value} {g L c : Nat} {f : Nat → List Int} {w0 w : World} (h : OA B vs g L c f w0 w) : RR w.heap.size w (some ⟨g, 0, none⟩) L f := fun d hd => by
  obtain ⟨h1, h2, h3, h4, h5⟩ := h
  obtain ⟨u, hu, hr⟩ := h4 d hd
  have hs := SL.of_own hr
  obtain ⟨b, cb, e, hro⟩ := hs.ro
  refine ⟨g, 0, b, cb, rfl, row_lt h1 rfl, ?_, ?_, hro⟩
  · rw [Nat.zero_add, World.ownsRow.cellAt h1 d (by omega), hu, e]
  · rcases hs with ⟨e2, e3⟩ | ⟨g', cap, e2, h5, _⟩
    · rw [e3]; exact Nat.zero_le _
    · rw [e2] at e
      injection e with _ _ e
      omega
theorem OA.lw {B : Nat} {vs : List Value} {g L c : Nat} {f : Nat → List Int} {w0 w : World} (h : OA B vs g L c f w0 w) : LW B w.heap.size w (.slice (some ⟨g, 0, none⟩) L c) L f := by
  obtain ⟨h1, h2, h3, h4, h5⟩ := h
  have hl : vs.length = L := by simpa using h1.1
  have hLc : L ≤ c := by
    rcases h1.2 with ⟨e, _⟩ | ⟨g', cap, cur, e, _, _, hc, _⟩
    · cases e
    · cases e; exact hc
  have get : ∀ d, d < L → ∃ u, vs[d]? = some u ∧ vs.getD d undef = u ∧ w.ownsRow B 2 1 u (f d).length ((f d).map (Value.int .i64)) := fun d hd => by
    obtain ⟨u, hu, hr⟩ := h4 d hd
    exact ⟨u, hu, by rw [List.getD_eq_getElem?_getD, hu]; rfl, hr⟩
  refine .inr ⟨g, c, fun d => vs.getD d undef, rfl, hLc, ⟨(row_hasC h1 rfl).1, row_lt h1 rfl⟩, Nat.le_refl _, fun d hd => ?_, fun d hd => ?_, fun d hd => ?_, fun d e hd he hne => ?_⟩
  · obtain ⟨u, hu, e, hr⟩ := get d hd
    show _ = some (vs.getD d undef)
    rw [World.ownsRow.cellAt h1 d (by omega), hu, e]
  · obtain ⟨u, hu, e, hr⟩ := get d hd
    show SL B w.heap.size w (vs.getD d undef) (f d)
    rw [e]
    exact SL.of_own hr
  · obtain ⟨u, hu, e, hr⟩ := get d hd
    show (vs.getD d undef).ownBlock ≠ some g
    rw [e]
    rcases row_apart hr h1 with h | h
    · rw [h]; simp
    · exact h
  · obtain ⟨u, hu, e1, _⟩ := get d hd
    obtain ⟨v, hv, e2, _⟩ := get e he
    show (vs.getD d undef).ownBlock = none ∨ (vs.getD d undef).ownBlock ≠ (vs.getD e undef).ownBlock
    rw [e1, e2]
    rcases Nat.lt_or_gt_of_ne hne with hlt | hlt
    · exact h5 d e u v hlt hu hv
    · rcases h5 e d v u hlt hv hu with h | h
      · rw [h]
        cases u.ownBlock with
        | none => exact .inl rfl
        | some q => exact .inr (by simp)
      · exact .inr (Ne.symm h)
/-- a row of numbers that is written out -/
theorem row_lit (w : World) (xs : List Int) (hm : xs.length ≤ maxLen) : (w.alloc (.cells (xs.map (Value.int .i64)).toArray 2)).ownsRow w.heap.size 2 1 (.slice (some ⟨w.heap.size, 0, none⟩) xs.length xs.length) xs.length (xs.map (Value.int .i64)) :=
  ⟨by simp, .inr ⟨w.heap.size, xs.length, _, rfl, Nat.le_refl _, heap_alloc_new w _, Nat.le_refl _, hm, by simp, by rw [Nat.mul_one, List.take_of_length_le (by simp)]⟩⟩
theorem row_lit2 (w : World) (x y : Int) : (w.alloc (.cells #[.int .i64 x, .int .i64 y] 2)).ownsRow w.heap.size 2 1 (.slice (some ⟨w.heap.size, 0, none⟩) 2 2) 2 [.int .i64 x, .int .i64 y] :=
  row_lit w [x, y] (by unfold maxLen; simp)
end Go.Proofs.Ytmnnpkmjamhmcaa
