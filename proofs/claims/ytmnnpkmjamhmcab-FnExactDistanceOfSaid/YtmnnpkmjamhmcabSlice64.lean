/- Slices of int64 that a call has made: compared, marked, and asked for the marks (laws.eqInt64S, markInt64S, heldInt64S). -/
import Derived.Test.YtmnnpkmjamhmcabBytes
import Derived.Deep.QuietTactic
import Derived.BigQuiet
namespace Go.Proofs.Ytmnnpkmjamhmcab
open Go.RowKit Go.PlainAid
set_option maxHeartbeats 400000

theorem Try.info2 : (Try.prog.info? 2).map (fun i => (i.zero, i.size, i.bytes)) = some (some (.int .i64 0), 1, 8) := by kernel_rfl

/-- the value is a slice with these numbers, in a block from base on and below top, which may be written -/
def SL (base top : Nat) (w : World) (v : Value) (xs : List Int) : Prop :=
  (v = .slice none 0 0 ∧ xs = []) ∨
  ∃ g cap, v = .slice (some ⟨g, 0, none⟩) xs.length cap ∧ xs.length ≤ cap ∧ base ≤ g ∧ g < top ∧ (∀ i, (h : i < xs.length) → w.cell? ⟨g, i, none⟩ = some (.int .i64 xs[i])) ∧ ∀ i, w.frozen? ⟨g, i, none⟩ = false

theorem SL.of_own {base : Nat} {w : World} {e : TypeId} {v : Value} {xs : List Int} (h : w.ownsRow base e 1 v xs.length (xs.map (Value.int .i64))) : SL base w.heap.size w v xs := by
  obtain ⟨hl, ⟨rfl, h0⟩ | ⟨g, cap, cur, rfl, hg, hb, h1, h2, h3, h4⟩⟩ := h
  · exact .inl ⟨rfl, List.eq_nil_of_length_eq_zero h0⟩
  · have hown : w.ownsRow base e 1 (.slice (some ⟨g, 0, none⟩) xs.length cap) xs.length (xs.map (Value.int .i64)) := ⟨hl, .inr ⟨g, cap, cur, rfl, hg, hb, h1, h2, h3, h4⟩⟩
    refine .inr ⟨g, cap, rfl, h1, hg, ?_, fun i hi => ?_, fun i => hown.frozenAt i⟩
    · have := (Array.getElem?_eq_some_iff.1 hb).1
      exact this
    · rw [hown.cellAt i (by omega)]
      simp [List.getElem?_eq_getElem hi]

theorem SL.below {base top : Nat} {w w1 : World} {v : Value} {xs : List Int} (h : SL base top w v xs) (hb : Below top w w1) : SL base top w1 v xs := by
  rcases h with h | ⟨g, cap, rfl, h1, h2, h3, h4, h5⟩
  · exact .inl h
  · exact .inr ⟨g, cap, rfl, h1, h2, h3, fun i hi => (hb.cell (p := ⟨g, i, none⟩) h3).trans (h4 i hi), fun i => (hb.frozen (p := ⟨g, i, none⟩) h3).trans (h5 i)⟩
theorem SL.up {base top top' : Nat} {w : World} {v : Value} {xs : List Int} (h : SL base top w v xs) (ht : top ≤ top') : SL base top' w v xs := by
  rcases h with h | ⟨g, cap, rfl, h1, h2, h3, h4, h5⟩
  · exact .inl h
  · exact .inr ⟨g, cap, rfl, h1, h2, by omega, h4, h5⟩
theorem SL.drewN {base top : Nat} {w : World} {v : Value} {xs : List Int} (h : SL base top w v xs) (n : Nat) : SL base top (w.drewN n) v xs := by
  rcases h with h | ⟨g, cap, rfl, h1, h2, h3, h4, h5⟩
  · exact .inl h
  · exact .inr ⟨g, cap, rfl, h1, h2, h3, h4, h5⟩

theorem eq64_yes (u v : Value) (xs : List Int) (b1 t1 b2 t2 : Nat) (w : World) (hu : SL b1 t1 w u xs) (hv : SL b2 t2 w v xs) (hn : xs.length ≤ 1048576) :
    Calls Try.prog 60 #[u, v] w fun e w' => e = .returned (.bool true) ∧ ∃ n, w' = w.drewN n := by
  rcases hu with ⟨rfl, rfl⟩ | ⟨g, cap, rfl, _, _, _, hc, _⟩
  · rcases hv with ⟨rfl, _⟩ | ⟨g, cap, rfl, _⟩
    · go_enter Try.func60, Try.ntmps60
      go_wp2
      refine wp_loop_rounds 1 ?_
      rw [rounds_succ]
      go_wp2
      go_ret
      exact ⟨rfl, 0, rfl⟩
    · go_enter Try.func60, Try.ntmps60
      go_wp2
      refine wp_loop_rounds 1 ?_
      rw [rounds_succ]
      go_wp2
      go_ret
      exact ⟨rfl, 0, rfl⟩
  · rcases hv with ⟨rfl, rfl⟩ | ⟨g2, cap2, rfl, _, _, _, hc2, _⟩
    · go_enter Try.func60, Try.ntmps60
      go_wp2
      refine wp_loop_rounds 1 ?_
      rw [rounds_succ]
      go_wp2
      go_ret
      exact ⟨rfl, 0, rfl⟩
    · have HC := Lib.hid hc
      have HC2 := Lib.hid hc2
      have hne : ((xs.length : Int) != (xs.length : Int)) = false := by simp
      clear hc hc2
      go_enter Try.func60, Try.ntmps60
      go_wp2
      go_loopw [5] (fun i wr => ∃ k n : Nat, k ≤ xs.length ∧ i = .int .i64 k ∧ wr = w.drewN n) (fun i _ => xs.length - (intOf i).toNat)
      case atStart => exact ⟨0, 0, Nat.zero_le _, rfl, rfl⟩
      case round =>
        obtain ⟨k, n, hk, rfl, rfl⟩ := hrel
        by_cases hlt : k < xs.length
        · have c1 := HC.out k hlt
          have c2 := HC2.out k hlt
          have hx : (xs[k] != xs[k]) = false := by simp
          go_wp2
          go_quiet (fail)
          go_wp2
          go_roundw
          case rel => exact ⟨k + 1, n + nq, by omega, by go_num, rfl⟩
          case measure => simp [intOf]; omega
        · go_wp2
          go_ret
          exact ⟨rfl, n, rfl⟩

/-- the marks from k on -/
def marks (k : Int) (n : Nat) : List Int := (List.range n).map fun i => k + (i : Nat)
theorem marks_length (k : Int) (n : Nat) : (marks k n).length = n := by simp [marks]
theorem marks_get (k : Int) (n i : Nat) (h : i < (marks k n).length) : (marks k n)[i] = k + i := by simp [marks]

theorem grown_setCell {a w : World} {g : Nat} (h : a.grownBy w (some g)) (j : Nat) (u : Value) : a.grownBy (w.setCell ⟨g, j, none⟩ u) (some g) :=
  ⟨h.os, h.tape, h.output, by simpa [World.setCell] using h.size, fun i hi hne => (Below.heap_setCell w ⟨g, j, none⟩ u i (by
    rintro rfl
    exact hne rfl)).trans (h.block i hi hne)⟩

/-- what is written so far -/
def Marked (g : Nat) (k : Int) (xs : List Int) (j : Nat) (w : World) : Prop :=
  (∀ i, i < j → w.cell? ⟨g, i, none⟩ = some (.int .i64 (k + i))) ∧ (∀ i, (h : i < xs.length) → j ≤ i → w.cell? ⟨g, i, none⟩ = some (.int .i64 xs[i])) ∧ ∀ i, w.frozen? ⟨g, i, none⟩ = false

theorem Marked.step {g : Nat} {k : Int} {xs : List Int} {j : Nat} {w : World} (h : Marked g k xs j w) (hj : j < xs.length) : Marked g k xs (j + 1) (w.setCell ⟨g, j, none⟩ (.int .i64 (k + j))) := by
  obtain ⟨h1, h2, h3⟩ := h
  have ho := h2 j hj (Nat.le_refl _)
  refine ⟨fun i hi => ?_, fun i hi hij => ?_, fun i => ?_⟩
  · by_cases e : i = j
    · subst e
      exact World.cell?_setCell_same w _ _ ho
    · rw [World.cell?_setCell_other w _ _ _ (fun x => by have := congrArg Addr.off x; simp at this; omega)]
      exact h1 i (by omega)
  · rw [World.cell?_setCell_other w _ _ _ (fun x => by have := congrArg Addr.off x; simp at this; omega)]
    exact h2 i hi (by omega)
  · rw [World.frozen?_setCell]
    exact h3 i

theorem mark64_any (u : Value) (xs : List Int) (base top : Nat) (k : Int) (w : World) (hu : SL base top w u xs) (hn : xs.length ≤ 1048576) (k0 : 0 ≤ k) (k1 : k ≤ 1048576) :
    Calls Try.prog 61 #[u, .int .i64 k] w fun e w' => e = .returned (.int .i64 (k + xs.length)) ∧ SL base top w' u (marks k xs.length) ∧ w.grownBy w' u.ownBlock := by
  rcases hu with ⟨rfl, rfl⟩ | ⟨g, cap, rfl, hcap, hg1, hg2, hc, hf⟩
  · go_enter Try.func61, Try.ntmps61
    go_wp2
    refine wp_loop_rounds 1 ?_
    rw [rounds_succ]
    go_wp2
    go_ret
    exact ⟨by simp, .inl ⟨rfl, rfl⟩, World.grownBy.refl _ _⟩
  · have HM : Hid (Marked g k xs 0 w) := ⟨fun i hi => by omega, fun i hi _ => hc i hi, hf⟩
    clear hc hf
    go_enter Try.func61, Try.ntmps61
    go_wp2
    go_loopw [1, 5] (fun kv i wr => ∃ j : Nat, j ≤ xs.length ∧ i = .int .i64 j ∧ kv = .int .i64 (k + j) ∧ Hid (Marked g k xs j wr) ∧ w.grownBy wr (some g)) (fun _ i _ => xs.length - (intOf i).toNat)
    case atStart => exact ⟨0, Nat.zero_le _, rfl, by simp, HM, World.grownBy.refl _ _⟩
    case round =>
      obtain ⟨j, hj, rfl, rfl, HJ, hgr⟩ := hrel
      by_cases hlt : j < xs.length
      · have c1 := HJ.out.2.1 j hlt (Nat.le_refl _)
        have f1 := HJ.out.2.2 j
        go_wp2
        go_roundw
        case rel => exact ⟨j + 1, by omega, by go_num, by go_num, HJ.out.step hlt, grown_setCell hgr _ _⟩
        case measure => simp [intOf]; omega
      · obtain rfl : j = xs.length := by omega
        go_wp2
        go_ret
        refine ⟨rfl, .inr ⟨g, cap, by rw [marks_length], by rw [marks_length]; exact hcap, hg1, hg2, fun i hi => ?_, HJ.out.2.2⟩, hgr⟩
        rw [marks_get]
        rw [marks_length] at hi
        exact HJ.out.1 i hi

theorem held64_any (u : Value) (n base top : Nat) (k : Int) (w : World) (hu : SL base top w u (marks k n)) (hn : n ≤ 1048576) (k0 : 0 ≤ k) (k1 : k ≤ 1048576) :
    Calls Try.prog 62 #[u, .int .i64 k] w fun e w' => e = .returned (.int .i64 (k + n)) ∧ w = w' := by
  rcases hu with ⟨rfl, h0⟩ | ⟨g, cap, rfl, hcap, hg1, hg2, hc, hf⟩
  · have : n = 0 := by have := congrArg List.length h0; simpa [marks_length] using this
    subst this
    go_enter Try.func62, Try.ntmps62
    go_wp2
    refine wp_loop_rounds 1 ?_
    rw [rounds_succ]
    go_wp2
    go_ret
    exact ⟨by simp, rfl⟩
  · rw [marks_length] at hcap
    have HC : Hid (∀ i, i < n → w.cell? ⟨g, i, none⟩ = some (.int .i64 (k + i))) := fun i hi => by have := hc i (by rw [marks_length]; exact hi); rwa [marks_get] at this
    rw [marks_length]
    clear hc hf
    go_enter Try.func62, Try.ntmps62
    go_wp2
    go_loop [1, 5] (fun kv i => ∃ j : Nat, j ≤ n ∧ i = .int .i64 j ∧ kv = .int .i64 (k + j)) (fun _ i => n - (intOf i).toNat)
    case atStart => exact ⟨0, Nat.zero_le _, rfl, by simp⟩
    case round =>
      obtain ⟨j, hj, rfl, rfl⟩ := hrel
      by_cases hlt : j < n
      · have c1 := HC.out j hlt
        have hx : ((k + (j : Int)) != (k + (j : Int))) = false := by simp
        go_wp2
        go_round
        case rel => exact ⟨j + 1, by omega, by go_num, by go_num⟩
        case measure => simp [intOf]; omega
      · obtain rfl : j = n := by omega
        go_wp2
        go_ret
        exact ⟨rfl, rfl⟩

theorem SL.other {base top : Nat} {w w1 : World} {v : Value} {xs : List Int} {row : Option Nat} (h : SL base top w v xs) (hg : w.grownBy w1 row) (ht : top ≤ w.heap.size) (hr : ∀ g, row = some g → top ≤ g) : SL base top w1 v xs := by
  have hb : Below top w w1 := (Below.refl top w).grown hg ht hr
  exact h.below hb
theorem SL.block {base top : Nat} {w : World} {v : Value} {xs : List Int} (h : SL base top w v xs) : ∀ g, v.ownBlock = some g → base ≤ g := by
  intro g hg
  rcases h with ⟨rfl, _⟩ | ⟨g', cap, rfl, _, h2, _⟩
  · simp [Value.ownBlock] at hg
  · simp [Value.ownBlock] at hg
    omega

/-- one call under a law: a slice with these numbers in new memory -/
def GivesList (f : FuncId) (args : Array Value) (xs : List Int) (ok : Bool) : Prop := ∀ w : World, Calls Try.prog f args w fun e w' => ∃ v, e = .returned (.tuple #[v, .bool ok]) ∧ SL w.heap.size w'.heap.size w' v xs ∧ Below w.heap.size w w'

/-- behind the first two calls and the comparison: what the rest of the law keeps -/
structure Kept (w w1 w4 : World) (a b : Value) (xs : List Int) : Prop where
  bel : Below w.heap.size w w4
  sa : SL w.heap.size w1.heap.size w4 a xs
  sb : SL w1.heap.size w4.heap.size w4 b (marks 1 xs.length)
  z1 : w1.heap.size ≤ w4.heap.size

theorem Kept.mk0 {w w1 w2 w4 : World} {a b : Value} {xs : List Int} {n : Nat} (bel : Below w.heap.size w w2) (z0 : w.heap.size ≤ w1.heap.size) (z : w1.heap.size ≤ w2.heap.size) (sa : SL w.heap.size w1.heap.size w2 a xs) (sb0 : SL w1.heap.size w2.heap.size w2 b xs)
    (hm : SL w1.heap.size w2.heap.size w4 b (marks 1 xs.length)) (hg : (w2.drewN n).grownBy w4 b.ownBlock) : Kept w w1 w4 a b xs := by
  have hz : w2.heap.size ≤ w4.heap.size := hg.size
  refine ⟨(below_drewN bel n).grown hg bel.size (fun g h => ?_), (sa.drewN n).other hg z sb0.block, hm.up hz, by omega⟩
  have := sb0.block g h
  omega

theorem Kept.next {w w1 w4 w5 : World} {a b : Value} {xs : List Int} (h : Kept w w1 w4 a b xs) (hb : Below w4.heap.size w4 w5) (_z0 : w.heap.size ≤ w1.heap.size) : Kept w w1 w5 a b xs :=
  ⟨h.bel.trans (hb.mono h.bel.size), h.sa.below (hb.mono h.z1), (h.sb.below hb).up hb.size, Nat.le_trans h.z1 hb.size⟩
theorem Kept.drewN {w w1 w4 : World} {a b : Value} {xs : List Int} (h : Kept w w1 w4 a b xs) (n : Nat) : Kept w w1 (w4.drewN n) a b xs :=
  ⟨below_drewN h.bel n, h.sa.drewN n, h.sb.drewN n, h.z1⟩
end Go.Proofs.Ytmnnpkmjamhmcab
