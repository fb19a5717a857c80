/- The table of the steps at which states came first. Of no program. -/
import Derived.Test.YtciofobedgmbjaaCycMath
import Derived.Laws.OwnMore
import Derived.OwnWalk
import Derived.WalkKit
import Derived.Handy
import Derived.PlainAid
import Derived.Lib.Hide
import Derived.Deep.QuietTactic
import Derived.BigQuiet
namespace Go.Proofs.Ytciofobedgmbjaa
open Go.RowKit Go.PlainAid
theorem own_drewNR {w : World} {B : Nat} {e : TypeId} {size n : Nat} {v : Value} {xs : List Value} (h : w.ownsRow B e size v n xs) (m : Nat) : (w.drewN m).ownsRow B e size v n xs := h
/-- the table of the steps at which the states came first, after k steps -/
def visL (s : Nat → Nat) (N : Nat) : Nat → List Int
  | 0 => List.replicate N 0
  | k + 1 => (visL s N k).set (s k) ((k : Int) + 1)
theorem visL_length (s : Nat → Nat) (N : Nat) : ∀ k, (visL s N k).length = N := by
  intro k
  induction k with
  | zero => simp [visL]
  | succ k ih => simp [visL, ih]
theorem visL_get (s : Nat → Nat) (N x : Nat) (hx : x < N) : ∀ k, ((visL s N k)[x]? = some 0 ∧ ∀ j, j < k → ¬ s j = x) ∨ ∃ j, j < k ∧ s j = x ∧ (visL s N k)[x]? = some ((j : Int) + 1) := by
  intro k
  induction k with
  | zero => exact .inl ⟨by simp [visL, hx], fun j hj => by omega⟩
  | succ k ih =>
    by_cases he : s k = x
    · exact .inr ⟨k, by omega, he, by simp only [visL]; rw [he, List.getElem?_set_self (by rw [visL_length]; exact hx)]⟩
    · have e : (visL s N (k + 1))[x]? = (visL s N k)[x]? := by simp only [visL]; rw [List.getElem?_set_ne he]
      rcases ih with ⟨h1, h2⟩ | ⟨j, h1, h2, h3⟩
      · exact .inl ⟨e.trans h1, fun j hj => by
          by_cases ej : j = k
          · rw [ej]; exact he
          · exact h2 j (by omega)⟩
      · exact .inr ⟨j, by omega, h2, e.trans h3⟩
/-- states all different -/
def Unlike (s : Nat → Nat) (k : Nat) : Prop := ∀ i j, i < j → j < k → ¬ s i = s j
theorem Unlike.next {s : Nat → Nat} {k : Nat} (h : Unlike s k) (hk : ∀ j, j < k → ¬ s j = s k) : Unlike s (k + 1) := fun i j hij hj => by
  by_cases e : j = k
  · subst e; exact hk i hij
  · exact h i j hij (by omega)
theorem Unlike.room {s : Nat → Nat} {N k : Nat} (hs : ∀ i, s i < N) (h : Unlike s (k + 1)) : k < N := by
  apply Nat.lt_of_not_le
  intro hle
  obtain ⟨i, j, hij, hj, e⟩ := pigeon N s (fun i _ => hs i)
  exact h i j hij (by omega) e
theorem Unlike.cyc {s : Nat → Nat} (hst : Steps s) {k i : Nat} (h : Unlike s k) (hi : i < k) (e : s i = s k) : CycP s i (k - i) := by
  have hM : s (i + (k - i)) = s i := by rw [show i + (k - i) = k by omega]; exact e.symm
  refine cycP_of (M := i) hst (by omega) hM (fun j h0 h1 => ?_) hM (fun j hj => ?_)
  · exact fun x => h i (i + j) (by omega) (by omega) x.symm
  · exact fun x => h j (j + (k - i)) (by omega) (by omega) x.symm
theorem CycP.unique {s : Nat → Nat} {b c b' c' : Nat} (h : CycP s b c) (g : CycP s b' c') : b = b' ∧ c = c' := by
  have h1 := h.2.2.2 b' c' g.1 g.2.1
  have h2 := g.2.2.2 b c h.1 h.2.1
  omega
theorem cyc_exists {s : Nat → Nat} (hst : Steps s) {N : Nat} (hs : ∀ i, s i < N) : ∃ b c, CycP s b c := by
  have key : ∀ n, Unlike s n ∨ ∃ k i, i < k ∧ Unlike s k ∧ s i = s k := by
    intro n
    induction n with
    | zero => exact .inl fun i j _ hj => by omega
    | succ n ih =>
      rcases ih with h | h
      · by_cases hx : ∃ j, j < n ∧ s j = s n
        · obtain ⟨j, hj, e⟩ := hx
          exact .inr ⟨n, j, hj, h, e⟩
        · exact .inl (h.next fun j hj e => hx ⟨j, hj, e⟩)
      · exact .inr h
  rcases key (N + 1) with h | ⟨k, i, hi, hU, e⟩
  · have := Unlike.room hs h
    omega
  · exact ⟨i, k - i, hU.cyc hst hi e⟩
theorem vis_at {w : World} {base : Nat} {e : TypeId} {g n cap x : Nat} {l : List Int} {v : Int} (h : w.ownsRow base e 1 (.slice (some ⟨g, 0, none⟩) n cap) n (l.map (Value.int .i64))) (hx : x < n) (hv : l[x]? = some v) :
    w.cell? ⟨g, x, none⟩ = some (.int .i64 v) ∧ w.frozen? ⟨g, x, none⟩ = false := by
  refine ⟨?_, h.frozenAt _⟩
  rw [h.cellAt x (by omega)]
  simp [hv]
theorem vis_put {w : World} {base : Nat} {e : TypeId} {g n cap x : Nat} {l : List Int} (h : w.ownsRow base e 1 (.slice (some ⟨g, 0, none⟩) n cap) n (l.map (Value.int .i64))) (y : Int) :
    (w.setCell ⟨g, x, none⟩ (.int .i64 y)).ownsRow base e 1 (.slice (some ⟨g, 0, none⟩) n cap) n ((l.set x y).map (Value.int .i64)) := by
  rw [List.map_set]
  exact (h.stored x (.int .i64 y)).1
theorem own_belowR {w w1 : World} {B : Nat} {e : TypeId} {size n : Nat} {v : Value} {xs : List Value} (h : w.ownsRow B e size v n xs) (hb : Below w.heap.size w w1) : w1.ownsRow B e size v n xs := by
  obtain ⟨h1, h2 | ⟨g, cap, cur, hv, hg, hc, r⟩⟩ := h
  · exact ⟨h1, .inl h2⟩
  · exact ⟨h1, .inr ⟨g, cap, cur, hv, hg, by rw [hb.block g (Array.getElem?_eq_some_iff.1 hc).1]; exact hc, r⟩⟩
end Go.Proofs.Ytciofobedgmbjaa
