/- Texts made of bytes that a call has laid itself. -/
import Derived.Test.YtmnnpkmjamhmcabRows
import Derived.WalkKit
import Derived.WalkSpells
import Derived.WalkLawsBesides
import Derived.ProofKit
import Derived.Handy
import Derived.PlainAid
import Derived.Lib.Hide
import Derived.Laws.BytesArg
import Derived.Laws.BytesString
import Derived.Laws.OwnMore
import Derived.OwnWalk
import Derived.WalkSmall
import Derived.StillTailTactics
namespace Go.Proofs.Ytmnnpkmjamhmcab
open Go.RowKit Go.PlainAid
set_option maxHeartbeats 400000

theorem Try.info5 : (Try.prog.info? 5).map (fun i => (i.zero, i.size, i.bytes)) = some (some (.int .u8 0), 1, 1) := by kernel_rfl

/-- the conversion of a row of bytes of one's own to a text -/
theorem conv_own {P : Program} {w : World} {base : Nat} {src dst e : TypeId} {v : Value} {n : Nat} {xs : List Int} (hs : P.underlying src = some (.slice e)) (he : P.underlying e = some (.int .u8)) (hd : P.underlying dst = some .string)
    (h : w.ownsRow base e 1 v n (xs.map (Value.int .u8))) : (convert src dst v).run P w = .ok (.string (strOfNums xs)) w := by
  have hl := h.1
  rw [List.length_map, Nat.mul_one] at hl
  obtain ⟨_, ⟨rfl, rfl⟩ | ⟨g, cap, cur, rfl, hg, hb, h1, h2, h3, h4⟩⟩ := h
  · have : xs = [] := List.eq_nil_of_length_eq_zero hl
    subst this
    exact run_convert_bytes_nil w src e hs he 0 0 dst hd
  · have hown : w.ownsRow base e 1 (.slice (some ⟨g, 0, none⟩) n cap) n (xs.map (Value.int .u8)) := ⟨by simpa using hl, .inr ⟨g, cap, cur, rfl, hg, hb, h1, h2, h3, h4⟩⟩
    refine run_convert_bytes_arg w src e hs he g 0 n cap xs hl (fun i hi => ?_) dst hd
    rw [Nat.zero_add, hown.cellAt i (by omega)]
    simp [List.getElem?_eq_getElem (show i < xs.length by omega)]

theorem ownsRow_empty (w : World) (e : TypeId) (size : Nat) : (w.alloc (.cells #[] e)).ownsRow w.heap.size e size (.slice (some ⟨w.heap.size, 0, none⟩) 0 0) 0 [] :=
  ⟨by simp, .inr ⟨w.heap.size, 0, #[], rfl, Nat.le_refl _, heap_alloc_new w _, Nat.le_refl _, by simp [maxLen], by simp, by simp⟩⟩

theorem own_block {w : World} {base : Nat} {e : TypeId} {size : Nat} {v : Value} {n : Nat} {xs : List Value} (h : w.ownsRow base e size v n xs) : ∀ g, v.ownBlock = some g → base ≤ g := by
  intro g hg
  obtain ⟨_, ⟨rfl, _⟩ | ⟨g', cap, cur, rfl, hb, _⟩⟩ := h
  · simp [Value.ownBlock] at hg
  · simp [Value.ownBlock] at hg
    omega

/-- what has been written so far, and noughts behind it -/
def pad (l : List Int) (n : Nat) : List Int := l ++ List.replicate (n - l.length) 0
theorem pad_full (l : List Int) : pad l l.length = l := by simp [pad]
theorem pad_set (k : IntKind) (l : List Int) (n : Nat) (c : Int) (h : l.length < n) : ((pad l n).map (Value.int k)).set l.length (.int k c) = (pad (l ++ [c]) n).map (Value.int k) := by
  unfold pad
  obtain ⟨m, hm⟩ : ∃ m, n - l.length = m + 1 := ⟨n - l.length - 1, by omega⟩
  have hm2 : n - (l ++ [c]).length = m := by simp; omega
  rw [hm, hm2, List.map_append, List.map_append, List.map_append, List.set_append_right _ _ (by simp)]
  simp [List.replicate_succ]
theorem pad_get (k : IntKind) (l : List Int) (n : Nat) (h : l.length < n) : ((pad l n).map (Value.int k))[l.length]? = some (.int k 0) := by
  unfold pad
  obtain ⟨m, hm⟩ : ∃ m, n - l.length = m + 1 := ⟨n - l.length - 1, by omega⟩
  rw [hm, List.map_append, List.getElem?_append_right (by simp)]
  simp [List.replicate_succ]
theorem pad_made (k : IntKind) (n : Nat) : (madeCells (Value.int k 0).cells (n * 1)).toList = (pad [] n).map (Value.int k) := by
  have : (Value.int k 0).cells = #[.int k 0] := rfl
  rw [this, toList_madeCells_one]
  simp [pad]

/-- the next place is written -/
theorem own_step {w : World} {base : Nat} {e : TypeId} {g n cap j : Nat} {k : IntKind} {l : List Int} (h : w.ownsRow base e 1 (.slice (some ⟨g, 0, none⟩) n cap) n ((pad l n).map (Value.int k))) (hl : l.length = j) (hj : j < n) (c : Int) :
    (w.setCell ⟨g, j, none⟩ (.int k c)).ownsRow base e 1 (.slice (some ⟨g, 0, none⟩) n cap) n ((pad (l ++ [c]) n).map (Value.int k)) := by
  subst hl
  rw [← pad_set k l n c hj]
  exact (h.stored l.length (.int k c)).1
theorem own_next {w : World} {base : Nat} {e : TypeId} {g n cap j : Nat} {k : IntKind} {l : List Int} (h : w.ownsRow base e 1 (.slice (some ⟨g, 0, none⟩) n cap) n ((pad l n).map (Value.int k))) (hl : l.length = j) (hj : j < n) :
    w.cell? ⟨g, j, none⟩ = some (.int k 0) ∧ w.frozen? ⟨g, j, none⟩ = false := by
  subst hl
  refine ⟨?_, h.frozenAt _⟩
  rw [h.cellAt l.length (by omega)]
  exact pad_get k l n hj

/-- the same from the end: noughts ahead of what has been written -/
def padL (l : List Int) (n : Nat) : List Int := List.replicate (n - l.length) 0 ++ l
theorem padL_full (l : List Int) : padL l l.length = l := by simp [padL]
theorem padL_made (k : IntKind) (n : Nat) : (madeCells (Value.int k 0).cells (n * 1)).toList = (padL [] n).map (Value.int k) := by
  have : (Value.int k 0).cells = #[.int k 0] := rfl
  rw [this, toList_madeCells_one]
  simp [padL]
theorem padL_set (k : IntKind) (l : List Int) (n : Nat) (c : Int) (h : l.length < n) : ((padL l n).map (Value.int k)).set (n - 1 - l.length) (.int k c) = (padL (c :: l) n).map (Value.int k) := by
  unfold padL
  obtain ⟨m, hm⟩ : ∃ m, n - l.length = m + 1 := ⟨n - l.length - 1, by omega⟩
  have hm2 : n - (c :: l).length = m := by simp; omega
  have hm3 : n - 1 - l.length = m := by omega
  rw [hm, hm2, hm3, List.replicate_succ', List.append_assoc, List.map_append, List.set_append_right _ _ (by simp)]
  simp
theorem padL_get (k : IntKind) (l : List Int) (n : Nat) (h : l.length < n) : ((padL l n).map (Value.int k))[n - 1 - l.length]? = some (.int k 0) := by
  unfold padL
  obtain ⟨m, hm⟩ : ∃ m, n - l.length = m + 1 := ⟨n - l.length - 1, by omega⟩
  have hm3 : n - 1 - l.length = m := by omega
  rw [hm, hm3, List.replicate_succ', List.append_assoc, List.map_append, List.getElem?_append_right (by simp)]
  simp
theorem own_stepL {w : World} {base : Nat} {e : TypeId} {g n cap j : Nat} {k : IntKind} {l : List Int} (h : w.ownsRow base e 1 (.slice (some ⟨g, 0, none⟩) n cap) n ((padL l n).map (Value.int k))) (hl : l.length = j) (hj : j < n) (c : Int) :
    (w.setCell ⟨g, n - 1 - j, none⟩ (.int k c)).ownsRow base e 1 (.slice (some ⟨g, 0, none⟩) n cap) n ((padL (c :: l) n).map (Value.int k)) := by
  subst hl
  rw [← padL_set k l n c hj]
  exact (h.stored (n - 1 - l.length) (.int k c)).1
theorem own_nextL {w : World} {base : Nat} {e : TypeId} {g n cap j : Nat} {k : IntKind} {l : List Int} (h : w.ownsRow base e 1 (.slice (some ⟨g, 0, none⟩) n cap) n ((padL l n).map (Value.int k))) (hl : l.length = j) (hj : j < n) :
    w.cell? ⟨g, n - 1 - j, none⟩ = some (.int k 0) ∧ w.frozen? ⟨g, n - 1 - j, none⟩ = false := by
  subst hl
  refine ⟨?_, h.frozenAt _⟩
  rw [h.cellAt (n - 1 - l.length) (by omega)]
  exact padL_get k l n hj

theorem own_shape {w : World} {base : Nat} {e : TypeId} {size n : Nat} {v : Value} {xs : List Value} (h : w.ownsRow base e size v n xs) (hn : 0 < n) : ∃ g cap, v = .slice (some ⟨g, 0, none⟩) n cap ∧ base ≤ g := by
  obtain ⟨_, ⟨_, h0⟩ | ⟨g, cap, cur, rfl, hg, _⟩⟩ := h
  · omega
  · exact ⟨g, cap, rfl, hg⟩

theorem own_base {w : World} {B B' : Nat} {e : TypeId} {size n : Nat} {v : Value} {xs : List Value} (h : w.ownsRow B e size v n xs) (hB : B' ≤ B) : w.ownsRow B' e size v n xs := by
  obtain ⟨h1, h2 | ⟨g, cap, cur, hv, hg, r⟩⟩ := h
  · exact ⟨h1, .inl h2⟩
  · exact ⟨h1, .inr ⟨g, cap, cur, hv, by omega, r⟩⟩

theorem ret_str {a b : ByteArray} (h : a = b) : Ending.returned (.string a) = .returned (.string b) := by rw [h]
end Go.Proofs.Ytmnnpkmjamhmcab
