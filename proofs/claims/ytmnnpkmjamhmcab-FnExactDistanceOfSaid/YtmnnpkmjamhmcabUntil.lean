/- A range over an iterator that never ends by itself: the loop that leaves it. Of no program. -/
import Derived.RangeFuncFrom
namespace Go.Proofs.Ytmnnpkmjamhmcab
open Go Go.RowKit

variable {F : Fence} {n : Nat} {P : Program}

/-- The contract of an iterator without an end: element k is x k; it runs as long as the rounds say 'go on', which they do only where Kp holds. -/
def Endless (F : Fence) (n : Nat) (P : Program) (g : Nat) (lb : Array Value) (x : Nat → Value) (Kp : Nat → World → Prop) (w : World) : Prop :=
  ∀ (l : Nat) (J Jx : Nat → World → Prop) (W : World), Below w.heap.size w W → AbidesFrom W.heap.size J → AbidesFrom W.heap.size Jx → (∀ k V, J k V → Kp k V) →
    (∀ k V, J k V → YieldAt F (n - 1) P l #[x k] V fun e V' => (e = .returned (.bool true) ∧ J (k + 1) V') ∨ (e = .returned (.bool false) ∧ Jx (k + 1) V')) →
    J 0 W → CallsIn F n P g (#[.func (.yield l) #[] #[]] ++ lb) W fun e W' => (∃ v, e = .returned v) ∧ ∃ k, Jx k W'

/-- the ways out of a round -/
def untilPost (I : Nat → World → Prop) (Ix : Code → Nat → World → Prop) (k : Nat) (W : World) : Exit → Act → World → Prop
  | .normal, _, V => KeepsOthers W V ∧ I (k + 1) V
  | .exit id, _, V => KeepsOthers W V ∧ Ix (.exit id) (k + 1) V
  | .ret, _, V => KeepsOthers W V ∧ Ix .ret (k + 1) V
  | _, _, _ => False

theorem wpIn_until {g : Operand} {ps : Array Tmp} {assign body : Code} {Q : Exit → Act → World → Prop} {a : Act} {w w0 : World}
    (hro : F.round = none) (h1 : 1 ≤ n) {gf : Nat} {lb : Array Value} (hg : a.eval g = .func (.func gf) #[] lb) (hFg : F.fn gf) (eg : ∀ args w, (callFunc gf args).run P w = .ok (.enter gf args) w)
    {x : Nat → Value} {Kp : Nat → World → Prop} (hseq : Endless F (n - 1) P gf lb x Kp w0) (hb0 : Below w0.heap.size w0 w) (hps : ps.size = 1)
    (I : Nat → World → Prop) (Ix : Code → Nat → World → Prop) (hI : OwnFrom w.heap.size I) (hIx : ∀ c, OwnFrom w.heap.size (Ix c)) (hIK : ∀ k V, I k V → Kp k V) (h0 : I 0 w) (a₁ : Nat → Act)
    (hassign : ∀ (l k : Nat) (W : World) (K : Act → World → Prop), K (a₁ k) W →
      assign.wpIn (F.inRound l) (n - 1 - 1) P (Exit.then K (fun _ _ _ => False)) { tmps := (ps.zip #[x k]).foldl (fun t (p, v) => t.setIfInBounds p v) a.tmps, defers := [] } W)
    (hbody : ∀ (l k : Nat) (W : World), I k W → body.wpIn (F.inRound l) (n - 1 - 1) P (untilPost I Ix k W) (a₁ k) W)
    (hstop : ∀ (D : Nat) (c : Code) (k : Nat) (W : World), w.heap.size ≤ D → Ix c k W → W.heap[D]? = some (.deferred (some [])) → c.wpIn F n P Q { a with defers := { target := .collected D, args := #[] } :: a.defers } W) :
    (Code.rangeFunc g ps assign body).wpIn F n P Q a w := by
  refine wpIn_rangeFunc fun fn hfn => ?_
  rw [hro]
  -- the loop's record, in each of its states
  let R : LoopState → Option Code → Loop := fun st pe => { state := st, pending := pe, fn, tmps := a.tmps, params := ps, assign, body, defers := w.heap.size }
  have hR : ∀ st pe st', { R st pe with state := st' } = R st' pe := fun _ _ _ => rfl
  let L := w.heap.size + 1
  let V := (w.alloc (.deferred (some []))).alloc (.loop (R .ready none))
  -- what is known of the two blocks of the law's own
  let Bk : Loop → World → Prop := fun r W => W.heap[L]? = some (.loop r) ∧ W.heap[w.heap.size]? = some (.deferred (some []))
  have hV : Bk (R .ready none) V := by
    refine ⟨?_, (Below.heap_alloc _ _ _ (by simp)).trans (World.alloc_heap_new w _)⟩
    have := World.alloc_heap_new (w.alloc (.deferred (some []))) (.loop (R .ready none))
    rwa [World.size_alloc] at this
  have hVs : V.heap.size = w.heap.size + 2 := by simp [V]
  have hVb : Below w0.heap.size w0 V := hb0.trans ((((Below.refl _ w).alloc (Nat.le_refl _) _).alloc (by simp) _).mono hb0.size)
  have put : ∀ {r r' : Loop} {W : World}, Bk r W → Bk r' (W.putObj L (.loop r')) := fun {r r' W} h =>
    ⟨World.putObj_heap_same (Array.getElem?_eq_some_iff.1 h.1).1, (World.putObj_heap_other (by omega)).trans h.2⟩
  have bkeep : ∀ {r : Loop} {A B : World}, Bk r A → KeepsOthers A B → Bk r B := fun h k => ⟨k.same _ _ h.1 rfl, k.same _ _ h.2 rfl⟩
  have abide : ∀ {r : Loop} {A B : World} {row : Option Nat}, Bk r A → A.grownBy B row → (∀ q, row = some q → V.heap.size ≤ q ∧ ∃ o : Obj, A.heap[q]? = some o ∧ o.isWalk = true) → Bk r B := fun {r A B row} h hg' hr =>
    ⟨(grownBy_keeps hg' (fun q e => (hr q e).2) h.1 rfl).trans h.1, (grownBy_keeps hg' (fun q e => (hr q e).2) h.2 rfl).trans h.2⟩
  have own : ∀ {J : Nat → World → Prop}, OwnFrom w.heap.size J → ∀ {k : Nat} {r r' : Loop} {W : World}, J k W → Bk r W → J k (W.putObj L (.loop r')) := fun {J} hJ {k r r' W} hj hb => OwnFrom.putObj hJ _ hj (by omega) hb.1 rfl
  have notw : ∀ {A : World} {row : Option Nat}, (∀ q, row = some q → V.heap.size ≤ q ∧ ∃ o : Obj, A.heap[q]? = some o ∧ o.isWalk = true) → (∀ q, row = some q → w.heap.size ≤ q ∧ ∃ o : Obj, A.heap[q]? = some o ∧ o.isCells = false) :=
    fun hr q e => by obtain ⟨hB, o, ho, hw⟩ := hr q e; exact ⟨by omega, o, ho, Obj.not_cells_of_walk hw⟩
  refine ⟨L, [{ target := .collected w.heap.size, args := #[] }], V, { target := .fn (.func gf) lb, args := #[.func (.yield L) #[] #[]] }, V, gf, #[.func (.yield L) #[] #[]] ++ lb, V, run_enterLoop_outer _ _ _ _ _, ?_, ?_, ?_, fun _ => h1, ?_⟩
  · simp only [resolve, hg]
    simp [go_sem]
  · intro f' hf'
    simp [Target.leads] at hf'
    subst hf'
    exact hFg
  · simp [invoke, go_sem, eg]
  · refine (hseq L (fun k W => I k W ∧ Bk (R .ready none) W) (fun k W => ∃ c, Ix c k W ∧ Bk (R .done (some c)) W) V hVb
      (fun k A B row hs hg' hr => ⟨hI k A B row hs.1 hg' (notw hr), abide hs.2 hg' hr⟩)
      (fun k A B row ⟨c, hc, hb⟩ hg' hr => ⟨c, hIx c k A B row hc hg' (notw hr), abide hb hg' hr⟩)
      (fun k W h => hIK k W h.1) ?_ ⟨hI.alloc _ (hI.alloc _ h0), hV⟩).mono ?_
    · rintro k W ⟨hi, hb⟩
      have hy := run_yield (P := P) (args := #[x k]) hb.1 (by show 1 = ps.size; omega)
      refine ⟨fn, _, assign, body, hy, roundIn_of_wpIn hfn (hassign _ k W _ ⟨_, run_beginRound hb.1 rfl, ?_⟩)⟩
      refine wpIn_mono (hbody _ k _ (own hI hi hb)) ?_
      rintro e a3 W3 hp
      cases e with
      | normal =>
        have b3 := bkeep (put (r' := R .busy none) hb) hp.1
        exact ⟨_, _, run_endRound (P := P) none b3.1, .inl ⟨rfl, own hI hp.2 b3, put b3⟩⟩
      | ret =>
        have b3 := bkeep (put (r' := R .busy none) hb) hp.1
        exact ⟨_, _, run_endRound (P := P) (some .ret) b3.1, .inr ⟨rfl, .ret, own (hIx _) hp.2 b3, put b3⟩⟩
      | exit id =>
        have b3 := bkeep (put (r' := R .busy none) hb) hp.1
        exact ⟨_, _, run_endRound (P := P) (some (.exit id)) b3.1, .inr ⟨rfl, .exit id, own (hIx _) hp.2 b3, put b3⟩⟩
      | goto t => exact hp.elim
      | panic ch => exact hp.elim
      | outgrown => exact hp.elim
    · rintro e W2 ⟨⟨v, rfl⟩, k, c, hi, hb⟩
      exact ⟨some c, _, run_endLoop (P := P) hb.1 (by simp [R]), hstop _ c k _ (Nat.le_refl _) (own (hIx c) hi hb) ((World.putObj_heap_other (by omega)).trans hb.2)⟩
end Go.Proofs.Ytmnnpkmjamhmcab
