/- Regions that draw their order: operations that read, or that call what only makes memory, and operations that write, one after another. Of no program. -/
import Derived.Test.YtmnnpkmjamhmcabD2
import Derived.StillTail
import Derived.Deep.QuietTactic
namespace Go.Proofs.Ytmnnpkmjamhmcab
open Go Go.RowKit

/-- worlds behind W0 in which no block but one may have changed -/
structure GR (W0 : World) (rw : Option Nat) where
  w : World
  h : W0.grownBy w rw
theorem gr_refl (W : World) (rw : Option Nat) : W.grownBy W rw := ⟨rfl, rfl, rfl, Nat.le_refl _, fun _ _ _ => rfl⟩
instance (W0 : World) (rw : Option Nat) : Inhabited (GR W0 rw) := ⟨⟨W0, gr_refl _ _⟩⟩
theorem gr_step {W0 w w' : World} {rw : Option Nat} (h : W0.grownBy w rw) (hb : Below w.heap.size w w') : W0.grownBy w' rw :=
  ⟨hb.os.trans h.os, hb.tape.trans h.tape, hb.output.trans h.output, Nat.le_trans h.size hb.size, fun k hk hne => (hb.block k (Nat.lt_of_lt_of_le hk h.size)).trans (h.block k hk hne)⟩
theorem gr_alloc {W0 w : World} {rw : Option Nat} (h : W0.grownBy w rw) (o : Obj) : W0.grownBy (w.alloc o) rw := gr_step h ((Below.refl _ w).alloc (Nat.le_refl _) o)
theorem gr_set {W0 w : World} {rw : Option Nat} (h : W0.grownBy w rw) {p : Addr} (hp : rw = some p.block ∨ W0.heap.size ≤ p.block) (u : Value) : W0.grownBy (w.setCell p u) rw :=
  ⟨h.os, h.tape, h.output, by have := h.size; simpa [World.setCell] using this, fun k hk hne => by
    rw [Below.heap_setCell _ _ _ _ (by rcases hp with hp | hp; (intro e; exact hne (by rw [hp, e])); omega)]
    exact h.block k hk hne⟩
theorem gr_put {W0 w : World} {rw : Option Nat} (h : W0.grownBy w rw) {b : Nat} (hp : rw = some b ∨ W0.heap.size ≤ b) (x y : Value) : W0.grownBy (putD w b x y) rw :=
  gr_set (gr_set h (p := ⟨b, 0, none⟩) hp x) (p := ⟨b, 1, none⟩) hp y
theorem gr_undrew {W0 w : World} {rw : Option Nat} (h : W0.drew.grownBy w rw) : W0.grownBy w rw := ⟨h.os, h.tape, h.output, h.size, h.block⟩
theorem D2.grow {W0 w : World} {rw : Option Nat} {b : Nat} {x y : Value} (h : D2 W0 b x y) (hg : W0.grownBy w rw) (hne : rw ≠ some b) : D2 w b x y :=
  have hb := hg.block b h.lt (Ne.symm hne)
  ⟨⟨(World.cell?_of_block (a := ⟨b, 0, none⟩) hb).trans h.1.1, (World.cell?_of_block (a := ⟨b, 1, none⟩) hb).trans h.1.2⟩,
    (World.frozen?_of_block (a := ⟨b, 0, none⟩) hb).trans h.2.1, (World.frozen?_of_block (a := ⟨b, 1, none⟩) hb).trans h.2.2⟩
theorem D2.gr {W0 : World} {rw : Option Nat} {b : Nat} {x y : Value} (h : D2 W0 b x y) (hne : rw ≠ some b) : (∀ q : GR W0 rw, q.w.cell? ⟨b, 0, none⟩ = some x) ∧ (∀ q : GR W0 rw, q.w.cell? ⟨b, 1, none⟩ = some y) :=
  ⟨fun q => (h.grow q.h hne).1.1, fun q => (h.grow q.h hne).1.2⟩

section
variable {P : Program} {ops : Array Oper} {md : Region.Mode} {W0 : World} {rw : Option Nat}

/-- no way out but the end -/
def NoExit : Exit → Act → World → Prop := fun _ _ _ => False

/-- one value, in every world behind W0, and nothing that was there has changed -/
def stillG (P : Program) (W0 : World) (rw : Option Nat) (o : Oper) (a : Act) (v : Value) : Prop := ∀ q : GR W0 rw, o.quietAt P a (fun w' => Below q.w.heap.size q.w w') q.w v
def YieldsG (P : Program) (ops : Array Oper) (W0 : World) (rw : Option Nat) (o : Oper) (v : Value) (a : Act) : Prop :=
  (Region.wanted o (yielded ops a.tmps) = true ∧ stillG P W0 rw o a v) ∨ (Region.wanted o (yielded ops a.tmps) = false ∧ v = undef)

theorem YieldsG.of_same {o : Oper} {v : Value} {a a' : Act} (hy : YieldsG P ops W0 rw o v a) (he : execOp a'.eval o = execOp a.eval o)
    (hw : Region.wanted o (yielded ops a'.tmps) = Region.wanted o (yielded ops a.tmps)) : YieldsG P ops W0 rw o v a' := by
  unfold YieldsG stillG Oper.quietAt at *
  rw [he, hw]
  exact hy

theorem YieldsG.wpOp {i : Nat} {o : Oper} {v : Value} {a : Act} (hi : ops[i]? = some o) (hy : YieldsG P ops W0 rw o v a) {K : Act → World → Prop} {w : World} (hw : W0.grownBy w rw)
    (h : ∀ w', W0.grownBy w' rw → Below w.heap.size w w' → K (a.put o.dst v) w') : Go.wpOp P ops NoExit i K a w := by
  unfold Go.wpOp
  simp only [hi]
  rcases hy with ⟨hwa, hv⟩ | ⟨hwa, rfl⟩
  · simp only [hwa, if_true]
    refine .inl ?_
    have h3 : Oper.quietUpon P (fun w' => Below w.heap.size w w') w v ((execOp a.eval o).run P w) := hv ⟨w, hw⟩
    unfold Oper.wp
    generalize (execOp a.eval o).run P w = r at *
    cases r with
    | ok n w' =>
      cases n <;> simp only [Oper.quietUpon] at h3 <;> simp only [Oper.upon]
      case value u =>
        obtain ⟨e1, e2⟩ := h3
        rw [e1, e2]
        exact h _ hw (Below.refl _ _)
      case skip =>
        obtain ⟨e1, e2⟩ := h3
        rw [e1, ← e2]
        exact h _ hw (Below.refl _ _)
      case enter f args =>
        obtain ⟨e1, hc⟩ := h3
        rw [e1]
        exact hc.mono fun e w'' ⟨he, hb⟩ => by subst he; exact h _ (gr_step hw hb) hb
    | halt x w' => simp only [Oper.quietUpon] at h3
  · simp only [hwa, Bool.false_eq_true, if_false]; exact h _ hw (Below.refl _ _)

theorem wpOp_putG {j : Nat} {oi oj : Oper} {v : Value} (hj : ops[j]? = some oj) (hap : oi.apart ops oj = true)
    (hsi : ∀ cs b, oi.op ≠ .select cs b) (hsj : ∀ cs b, oj.op ≠ .select cs b) {K : Act → World → Prop} {a : Act} {w : World}
    (hy : YieldsG P ops W0 rw oi v a) (h : Go.wpOp P ops NoExit j K (a.put oi.dst v) w) :
    Go.wpOp P ops NoExit j (fun a' w' => YieldsG P ops W0 rw oi v a' ∧ K (a'.put oi.dst v) w') a w := by
  obtain ⟨h1, h2, h3⟩ := Oper.apart_spec hap
  have keep : ∀ (a : Act), YieldsG P ops W0 rw oi v a → ∀ u, YieldsG P ops W0 rw oi v (a.put oj.dst u) := fun a hy u =>
    hy.of_same (execOp_put oi hsi a oj.dst u h3) (wanted_put oi a oj.dst u h3)
  have keepD : ∀ d, YieldsG P ops W0 rw oi v { a with defers := d :: a.defers } := fun d => hy.of_same rfl rfl
  unfold Go.wpOp at *
  simp only [hj] at *
  rw [wanted_put oj a oi.dst v h1] at h
  split
  · rename_i hw
    simp only [hw, if_true] at h
    rcases h with h | ⟨_, a2, w2, hlets⟩
    case inr => exact hlets.elim
    refine .inl ?_
    unfold Oper.wp at *
    rw [execOp_put oj hsj a oi.dst v h1] at h
    generalize (execOp a.eval oj).run P w = r at *
    cases r with
    | ok n w' =>
      cases n <;> simp only [Oper.upon] at h ⊢
      case value u => exact ⟨keep a hy u, by rw [← Act.put_comm a v u h2]; exact h⟩
      case skip => exact ⟨keep a hy _, by rw [← Act.put_comm a v undef h2]; exact h⟩
      case defer d =>
        refine ⟨keep _ (keepD d) _, ?_⟩
        rw [← Act.put_comm _ v undef h2, ← Act.put_defers]
        exact h
      case enter f args =>
        refine Calls.mono h fun e w'' he => ?_
        cases e with
        | returned u => exact ⟨keep a hy u, by rw [← Act.put_comm a v u h2]; exact he⟩
        | panicked c => exact he.elim
        | outgrown => exact he
      case row row args => exact Rows.mono h fun u w'' he => ⟨keep a hy u, by rw [← Act.put_comm a v u h2]; exact he⟩
    | halt x w' =>
      cases x <;> simp only [Oper.upon] at h ⊢
      case panic u => exact h.elim
  · rename_i hw
    simp only [hw] at h
    exact ⟨keep a hy _, by rw [← Act.put_comm a v undef h2]; exact h⟩

/-- whatever order is picked from here on, whatever memory is made meanwhile -/
def anyG (P : Program) (md : Region.Mode) (ops : Array Oper) (W0 : World) (rw : Option Nat) (Q : Exit → Act → World → Prop) : Nat → Array Bool → Act → World → Prop
  | 0, listed, a, w => Region.ready md ops listed = [] ∧ ∀ w', W0.grownBy w' rw → Below w.heap.size w w' → Q .normal a w'
  | f + 1, listed, a, w => ¬ Region.ready md ops listed = [] ∧ ∀ w', W0.grownBy w' rw → Below w.heap.size w w' → ∀ i ∈ Region.ready md ops listed,
      Go.wpOp P ops NoExit i (fun a' w'' => W0.grownBy w'' rw ∧ anyG P md ops W0 rw Q f (listed.setIfInBounds i true) a' w'') a w'

theorem anyG_mono {Q : Exit → Act → World → Prop} {a : Act} {w w' : World} (hb : Below w.heap.size w w') : ∀ {f : Nat} {listed : Array Bool}, anyG P md ops W0 rw Q f listed a w → anyG P md ops W0 rw Q f listed a w'
  | 0, _, h => ⟨h.1, fun w2 h2 h3 => h.2 w2 h2 (hb.trans (h3.mono hb.size))⟩
  | _ + 1, _, h => ⟨h.1, fun w2 h2 h3 => h.2 w2 h2 (hb.trans (h3.mono hb.size))⟩

theorem anyG_first {Q : Exit → Act → World → Prop} {i : Nat} {oi : Oper} {v : Value} (hi : ops[i]? = some oi) (hsel : ∀ (j : Nat) (o : Oper) cs b, ops[j]? = some o → o.op ≠ .select cs b) :
    ∀ (f : Nat) (listed : Array Bool) (a : Act) (w : World),
      (∀ j oj, ops[j]? = some oj → j ≠ i → listed.getD j true = false → (∀ e ∈ oj.after, Region.binds md e = true → e.on ≠ i) → oi.apart ops oj = true) →
      i ∈ Region.ready md ops listed → YieldsG P ops W0 rw oi v a → anyG P md ops W0 rw Q f (listed.setIfInBounds i true) (a.put oi.dst v) w → anyG P md ops W0 rw Q (f + 1) listed a w := by
  intro f
  induction f with
  | zero =>
    intro listed a w _ hr hy H
    refine ⟨fun e => (by rw [e] at hr; cases hr), fun w1 h1 h2 j hj => ?_⟩
    by_cases hji : j = i
    · subst hji; exact hy.wpOp hi h1 fun w2 h3 h4 => ⟨h3, anyG_mono (h2.trans (h4.mono h2.size)) H⟩
    · have := ready_mono hj hji
      rw [H.1] at this
      cases this
  | succ f ih =>
    intro listed a w hfree hr hy H
    refine ⟨fun e => (by rw [e] at hr; cases hr), fun w1 h1 h2 j hj => ?_⟩
    by_cases hji : j = i
    · subst hji; exact hy.wpOp hi h1 fun w2 h3 h4 => ⟨h3, anyG_mono (h2.trans (h4.mono h2.size)) H⟩
    · have h3 := H.2 w1 h1 h2 j (ready_mono hj hji)
      obtain ⟨hjun, oj, hoj, hall⟩ := mem_ready.1 hj
      have hnot : ∀ e ∈ oj.after, Region.binds md e = true → e.on ≠ i := fun e he hb heq => by
        have h4 := hall e he hb
        rw [heq, getD_both (mem_ready.1 hr).1] at h4
        cases h4
      have h5 := wpOp_putG hoj (hfree j oj hoj hji hjun hnot) (fun cs b => hsel i oi cs b hi) (fun cs b => hsel j oj cs b hoj) hy h3
      refine wpOp_mono (fun a' w' h6 => ?_) h5
      obtain ⟨h6, h7, h8⟩ := h6
      refine ⟨h7, ih _ _ _ ?_ (ready_mono hr (Ne.symm hji)) h6 ?_⟩
      · intro k ok hk hki hku hk2
        refine hfree k ok hk hki ?_ hk2
        by_cases ejk : j = k
        · subst ejk; exact hjun
        · rwa [getD_set_ne true ejk] at hku
      · rw [Array.setIfInBounds_comm _ _ hji]
        exact h8

theorem upon_anyQ {o : Oper} {a : Act} {K K' : Act → World → Prop} {Q : Exit → Act → World → Prop} (h : ∀ a w, K a w → K' a w) (r : Result Next) (hh : o.upon P a K NoExit r) : o.upon P a K' Q r := by
  cases r with
  | ok n w' =>
    cases n <;> simp only [Oper.upon] at hh ⊢ <;>
      first
        | exact h _ _ hh
        | exact Calls.mono hh (fun e w'' he => by
            cases e with
            | returned u => exact h _ _ he
            | panicked c => exact he.elim
            | outgrown => obtain ⟨a2, w2, hlets⟩ := he; exact hlets.elim)
        | exact Rows.mono hh (fun _ _ he => h _ _ he)
  | halt x w' =>
    cases x <;> simp only [Oper.upon] at hh ⊢
    case panic u => exact hh.elim

theorem wpOp_anyQ {i : Nat} {a : Act} {w : World} {K K' : Act → World → Prop} {Q : Exit → Act → World → Prop} (h : ∀ a w, K a w → K' a w) (hh : Go.wpOp P ops NoExit i K a w) : Go.wpOp P ops Q i K' a w := by
  unfold Go.wpOp at *
  split
  · exact h _ _ (by simpa [*] using hh)
  · rename_i o ho
    simp only [ho] at hh
    split
    · rename_i hw
      simp only [hw, if_true] at hh
      rcases hh with hh | ⟨_, a2, w2, hlets⟩
      · exact .inl (upon_anyQ h _ hh)
      · exact hlets.elim
    · rename_i hw; simp only [hw] at hh; exact h _ _ hh

theorem wpAny_of_anyG {Q : Exit → Act → World → Prop} : ∀ (f : Nat) (listed : Array Bool) (a : Act) (w : World), W0.grownBy w rw → anyG P md ops W0 rw Q f listed a w → wpAny P md ops Q f listed a w
  | 0, _, _, _, hw, h => ⟨h.1, h.2 _ hw (Below.refl _ _)⟩
  | f + 1, _, _, _, hw, h => ⟨fun e => absurd e h.1, fun i hi => wpOp_anyQ (fun a' w' h2 => wpAny_of_anyG f _ a' w' h2.1 h2.2) (h.2 _ hw (Below.refl _ _) i hi)⟩

/-- the operations that write, one after another; memory may be made in between -/
def chainG (P : Program) (ops : Array Oper) (W0 : World) (rw : Option Nat) (Q : Exit → Act → World → Prop) : List Oper → Act → World → Prop
  | [], a, w => ∀ w', W0.grownBy w' rw → Below w.heap.size w w' → Q .normal a w'
  | o :: rest, a, w => ∀ w', W0.grownBy w' rw → Below w.heap.size w w' → wpList P ops (fun e a' w'' => e = .normal ∧ W0.grownBy w'' rw ∧ chainG P ops W0 rw Q rest a' w'') [o] a w'

def seqIdx (md : Region.Mode) (ops : Array Oper) : List Nat → Array Bool → Bool
  | [], listed => (Region.ready md ops listed).isEmpty
  | i :: ws, listed => decide (Region.ready md ops listed = [i]) && seqIdx md ops ws (listed.setIfInBounds i true)
def lexIdx (md : Region.Mode) (ops : Array Oper) (ws : List Nat) : List Nat → Array Bool → Bool
  | [], listed => seqIdx md ops ws listed
  | i :: hs, listed => (Region.ready md ops listed).contains i && Region.free md ops listed i && lexIdx md ops ws hs (listed.setIfInBounds i true)
/-- the operations with these numbers -/
def pickOps (ops : Array Oper) (l : List Nat) : List Oper := l.filterMap (ops[·]?)

theorem wpOp_of_one {i : Nat} {o : Oper} {a : Act} {w : World} {K : Act → World → Prop} (hi : ops[i]? = some o) (h : wpList P ops (fun e a' w'' => e = .normal ∧ K a' w'') [o] a w) : Go.wpOp P ops NoExit i K a w := by
  unfold Go.wpOp
  simp only [hi]
  simp only [wpList] at h
  split
  · rename_i hw
    simp only [hw, if_true] at h
    rcases h with h | ⟨_, a2, w2, hlets⟩
    · refine .inl ?_
      unfold Oper.wp at *
      generalize (execOp a.eval o).run P w = r at *
      cases r with
      | ok n w' =>
        cases n <;> simp only [Oper.upon] at h ⊢ <;>
          first
            | exact h.2
            | exact Calls.mono h (fun e w'' he => by
                cases e with
                | returned u => exact he.2
                | panicked c => cases he.1
                | outgrown => obtain ⟨a2, w2, hlets⟩ := he; cases hlets.1)
            | exact Rows.mono h (fun _ _ he => he.2)
      | halt x w' =>
        cases x <;> simp only [Oper.upon] at h ⊢
        case panic u => cases h.1
    · cases hlets.1
  · rename_i hw
    simp only [hw] at h
    exact h.2

theorem anyG_chain {Q : Exit → Act → World → Prop} : ∀ (ws : List Nat) (listed : Array Bool) (a : Act) (w : World), (∀ i ∈ ws, i < ops.size) → seqIdx md ops ws listed = true → chainG P ops W0 rw Q (pickOps ops ws) a w → anyG P md ops W0 rw Q ws.length listed a w
  | [], _, _, _, _, hB, h => ⟨by simpa [seqIdx] using hB, h⟩
  | i :: ws, listed, a, w, hlt, hB, h => by
    simp only [seqIdx, Bool.and_eq_true, decide_eq_true_eq] at hB
    obtain ⟨o, hi⟩ : ∃ o, ops[i]? = some o := ⟨_, Array.getElem?_eq_getElem (hlt i (by simp))⟩
    have hp : pickOps ops (i :: ws) = o :: pickOps ops ws := by simp [pickOps, hi]
    rw [hp] at h
    refine ⟨fun e => (by rw [hB.1] at e; cases e), fun w1 h1 h2 j hj => ?_⟩
    rw [hB.1] at hj
    obtain rfl : j = i := by simpa using hj
    refine wpOp_mono (fun a' w' h3 => ⟨h3.1, anyG_chain ws _ a' w' (fun k hk => hlt k (by simp [hk])) hB.2 h3.2⟩) (wpOp_of_one hi (h w1 h1 h2))

/-- the walk of the operations that read or call -/
def wpQuietG (P : Program) (ops : Array Oper) (W0 : World) (rw : Option Nat) (Q : Act → Prop) : List Oper → Act → Prop
  | [], a => Q a
  | o :: rest, a => if Region.wanted o (yielded ops a.tmps) then ∃ v, (∀ q : GR W0 rw, o.quietAt P a (fun w' => Below q.w.heap.size q.w w') q.w v) ∧ wpQuietG P ops W0 rw Q rest (a.put o.dst v) else wpQuietG P ops W0 rw Q rest (a.put o.dst undef)
theorem wpQuietG_nil {Q : Act → Prop} {a : Act} (h : Q a) : wpQuietG P ops W0 rw Q [] a := h
theorem wpQuietG_step {Q : Act → Prop} {a : Act} {o : Oper} {rest : List Oper}
    (h : ∀ K : Act → Prop, (∀ a, wpQuietG P ops W0 rw Q rest a → K a) → if Region.wanted o (yielded ops a.tmps) then ∃ v, (∀ q : GR W0 rw, o.quietAt P a (fun w' => Below q.w.heap.size q.w w') q.w v) ∧ K (a.put o.dst v) else K (a.put o.dst undef)) : wpQuietG P ops W0 rw Q (o :: rest) a :=
  h _ (fun _ h => h)

theorem anyG_heads {Q : Exit → Act → World → Prop} {ws : List Nat} (hsel : Region.noSelect ops = true) (hws : ∀ i ∈ ws, i < ops.size) (w : World) :
    ∀ (hs : List Nat) (listed : Array Bool) (a : Act), (∀ i ∈ hs, i < ops.size) → lexIdx md ops ws hs listed = true → wpQuietG P ops W0 rw (fun a' => chainG P ops W0 rw Q (pickOps ops ws) a' w) (pickOps ops hs) a →
      anyG P md ops W0 rw Q (ws.length + hs.length) listed a w
  | [], listed, a, _, hB, h => anyG_chain ws listed a w hws hB h
  | i :: hs, listed, a, hlt, hB, h => by
    simp only [lexIdx, Bool.and_eq_true] at hB
    obtain ⟨o, hi⟩ : ∃ o, ops[i]? = some o := ⟨_, Array.getElem?_eq_getElem (hlt i (by simp))⟩
    have hp : pickOps ops (i :: hs) = o :: pickOps ops hs := by simp [pickOps, hi]
    rw [hp] at h
    have hr : i ∈ Region.ready md ops listed := by simpa using hB.1.1
    obtain ⟨v, hy, hK⟩ : ∃ v, YieldsG P ops W0 rw o v a ∧ wpQuietG P ops W0 rw (fun a' => chainG P ops W0 rw Q (pickOps ops ws) a' w) (pickOps ops hs) (a.put o.dst v) := by
      simp only [wpQuietG] at h
      split at h
      · rename_i hw
        obtain ⟨v, h1, h2⟩ := h
        exact ⟨v, .inl ⟨hw, h1⟩, h2⟩
      · rename_i hw
        exact ⟨undef, .inr ⟨by simpa using hw, rfl⟩, h⟩
    rw [List.length_cons, ← Nat.add_assoc]
    exact anyG_first hi (Region.noSelect_spec hsel) _ listed a w (Region.free_spec hi hB.1.2) hr hy (anyG_heads hsel hws w hs _ _ (fun k hk => hlt k (by simp [hk])) hB.2 hK)

def mixB (ops : Array Oper) (hs ws : List Nat) : Bool := Region.noSelect ops && hs.all (fun i => decide (i < ops.size)) && ws.all (fun i => decide (i < ops.size)) && decide (ws.length + hs.length = ops.size) && lexIdx .any ops ws hs (Array.replicate ops.size false)

theorem wp_region_mix {id : Nat} (rw : Option Nat) {Q : Exit → Act → World → Prop} {a : Act} {w : World} {l : List Oper} (hs ws : List Nat) (hm : P.follows .mixedOrders = true) (hB : mixB l.toArray hs ws = true)
    (h : wpQuietG P l.toArray w.drew rw (fun a' => chainG P l.toArray w.drew rw Q (pickOps l.toArray ws) a' w.drew) (pickOps l.toArray hs) a) : (Code.region id l.toArray true).wp P Q a w := by
  simp only [mixB, Bool.and_eq_true, decide_eq_true_eq, List.all_eq_true] at hB
  obtain ⟨⟨⟨⟨h1, h2⟩, h3⟩, h4⟩, h5⟩ := hB
  refine wp_region_any hm ?_
  have := anyG_heads (md := .any) h1 h3 w.drew hs _ a h2 h5 h
  rw [h4] at this
  exact wpAny_of_anyG _ _ a _ (gr_refl _ _) this

theorem pick_take (l : List Oper) : ∀ m, m ≤ l.length → pickOps l.toArray (List.range m) = l.take m := by
  intro m
  induction m with
  | zero => intro _; rfl
  | succ m ih =>
    intro h
    have hm : l[m]? = some l[m] := List.getElem?_eq_getElem (by omega)
    have h1 := ih (by omega)
    unfold pickOps at h1 ⊢
    rw [List.range_succ, List.filterMap_append, h1, List.take_add_one, hm]
    simp [hm]
theorem pick_drop (l : List Oper) : ∀ k m, m + k = l.length → pickOps l.toArray (List.range' m k) = l.drop m := by
  intro k
  induction k with
  | zero =>
    intro m h
    rw [List.drop_eq_nil_of_le (by omega)]
    rfl
  | succ k ih =>
    intro m h
    have hm : l[m]? = some (l[m]'(by omega)) := List.getElem?_eq_getElem (by omega)
    have h1 := ih (m + 1) (by omega)
    unfold pickOps at h1 ⊢
    rw [List.range'_succ, List.filterMap_cons]
    simp only [List.getElem?_toArray, hm] at h1 ⊢
    have e : l.drop m = l[m]'(by omega) :: l.drop (m + 1) := List.drop_eq_getElem_cons (by omega)
    rw [h1, e]
/-- the first m operations read or call, the others write -/
theorem wp_region_split {id : Nat} (rw : Option Nat) {Q : Exit → Act → World → Prop} {a : Act} {w : World} {l : List Oper} (m : Nat) (hm : P.follows .mixedOrders = true) (hle : m ≤ l.length) (hB : mixB l.toArray (List.range m) (List.range' m (l.length - m)) = true)
    (h : wpQuietG P l.toArray w.drew rw (fun a' => chainG P l.toArray w.drew rw Q (l.drop m) a' w.drew) (l.take m) a) : (Code.region id l.toArray true).wp P Q a w := by
  refine wp_region_mix rw _ _ hm hB ?_
  rwa [pick_take l m hle, pick_drop l _ m (by omega)]
end
end Go.Proofs.Ytmnnpkmjamhmcab
