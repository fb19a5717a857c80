/- The ascending list, two places exchanged: impl.ascending, impl.swap, spec.l07First, spec.l07Swap. -/
import Derived.Test.YtciofobedgmbjabS7M
import Derived.Test.YtciofobedgmbjabListOk
namespace Go.Proofs.Ytciofobedgmbjab
open Go.RowKit Go.PlainAid
set_option maxHeartbeats 800000

/-- a list in block g, which may be written -/
def Rw (B g n cap : Nat) (xs : List Int) (w : World) : Prop := w.ownsRow B 2 1 (.slice (some ⟨g, 0, none⟩) n cap) n (xs.map (Value.int .i64))
theorem Rw.len {B g n cap : Nat} {xs : List Int} {w : World} (h : Rw B g n cap xs w) : xs.length = n := by simpa using h.1
theorem Rw.lt {B g n cap : Nat} {xs : List Int} {w : World} (h : Rw B g n cap xs w) : g < w.heap.size := by
  obtain ⟨_, ⟨h, _⟩ | ⟨g', cap', cur, hv, hg, hh, _⟩⟩ := h
  · cases h
  · cases hv
    exact (Array.getElem?_eq_some_iff.1 hh).1
theorem Rw.le {B g n cap : Nat} {xs : List Int} {w : World} (h : Rw B g n cap xs w) : B ≤ g := own_block h g rfl
theorem Rw.cell {B g n cap : Nat} {xs : List Int} {w : World} (h : Rw B g n cap xs w) {i : Nat} (hi : i < n) : w.cell? ⟨g, i, none⟩ = some (.int .i64 (xs.getD i 0)) := by
  have hl := h.len
  rw [World.ownsRow.cellAt h i (by omega), List.getElem?_map, List.getD_eq_getElem?_getD, List.getElem?_eq_getElem (by omega)]
  rfl
theorem Rw.frz {B g n cap : Nat} {xs : List Int} {w : World} (h : Rw B g n cap xs w) (i : Nat) : w.frozen? ⟨g, i, none⟩ = false := World.ownsRow.frozenAt h i
theorem Rw.set {B g n cap : Nat} {xs : List Int} {w : World} (h : Rw B g n cap xs w) (i : Nat) (v : Int) : Rw B g n cap (xs.set i v) (w.setCell ⟨g, i, none⟩ (.int .i64 v)) := by
  unfold Rw
  rw [List.map_set]
  exact (World.ownsRow.stored h i (.int .i64 v)).1
theorem Rw.drewN {B g n cap : Nat} {xs : List Int} {w : World} (h : Rw B g n cap xs w) (m : Nat) : Rw B g n cap xs (w.drewN m) := h
theorem Rw.drew {B g n cap : Nat} {xs : List Int} {w : World} (h : Rw B g n cap xs w) : Rw B g n cap xs w.drew := h
theorem Rw.far {B g n cap : Nat} {xs : List Int} {w w' : World} (h : Rw B g n cap xs w) (hb : Below w.heap.size w w') : Rw B g n cap xs w' := by
  obtain ⟨h1, h2 | ⟨g', cap', cur, hv, hg, hc, r⟩⟩ := h
  · exact ⟨h1, .inl h2⟩
  · exact ⟨h1, .inr ⟨g', cap', cur, hv, hg, by rw [hb.block g' (Array.getElem?_eq_some_iff.1 hc).1]; exact hc, r⟩⟩
theorem Rw.grown {B g n cap : Nat} {xs : List Int} {w w' : World} {row : Option Nat} (h : Rw B g n cap xs w) (hb : w.grownBy w' row) (hne : row ≠ some g) : Rw B g n cap xs w' :=
  World.ownsRow.kept h hb (.inr (by simp [Value.ownBlock]; exact fun e => hne e.symm))
theorem Rw.base {B B' g n cap : Nat} {xs : List Int} {w : World} (h : Rw B g n cap xs w) (hB : B' ≤ B) : Rw B' g n cap xs w := own_base h hB
theorem Rw.sl {B g n cap : Nat} {xs : List Int} {w : World} (h : Rw B g n cap xs w) : SL B w.heap.size w (.slice (some ⟨g, 0, none⟩) n cap) xs := by
  have hl := h.len
  subst hl
  exact SL.of_own h
theorem getD_set7 {l : List Int} {i j : Nat} {v : Int} (hj : j < l.length) : (l.set i v).getD j 0 = if i = j then v else l.getD j 0 := by
  rw [List.getD_eq_getElem?_getD, List.getElem?_set, List.getD_eq_getElem?_getD]
  by_cases e : i = j
  · subst e
    simp [hj]
  · rw [if_neg e, if_neg e]
theorem swap_any (B g n cap i j : Nat) (xs : List Int) (w : World) (h : Rw B g n cap xs w) (hi : i < n) (hj : j < n) :
    Calls Try.prog 79 #[.slice (some ⟨g, 0, none⟩) n cap, .int .i64 i, .int .i64 j] w fun e w' => e = .returned (.tuple #[]) ∧ Rw B g n cap (swp xs i j) w' ∧ w.grownBy w' (some g) := by
  have H := Lib.hid h
  have hl := h.len
  have c1 := h.cell hi
  have c2 := h.cell hj
  have f1 := h.frz i
  have f2 := h.frz j
  obtain ⟨x, hx⟩ : ∃ x, xs.getD i 0 = x := ⟨_, rfl⟩
  obtain ⟨y, hy⟩ : ∃ y, xs.getD j 0 = y := ⟨_, rfl⟩
  have HS : Hid (swp xs i j = (xs.set i y).set j x) := by unfold Hid swp; rw [hx, hy]
  rw [hx] at c1
  rw [hy] at c2
  have H2 := Lib.hid (h.set i y)
  have H3 := Lib.hid ((h.set i y).set j x)
  have c3 : (w.setCell ⟨g, i, none⟩ (.int .i64 y)).drew.cell? ⟨g, j, none⟩ = some (.int .i64 y) := by
    have := H2.out.cell hj
    show (w.setCell ⟨g, i, none⟩ (.int .i64 y)).cell? ⟨g, j, none⟩ = _
    rw [this, getD_set7 (by omega)]
    split
    · rfl
    · rw [hy]
  have f3 : (w.setCell ⟨g, i, none⟩ (.int .i64 y)).drew.frozen? ⟨g, j, none⟩ = false := H2.out.frz j
  clear h hx hy
  go_enter Try.func79, Try.ntmps79
  go_region
  go_returns
  rw [HS.out]
  have G : w.grownBy ((w.setCell ⟨g, i, none⟩ (.int .i64 y)).setCell ⟨g, j, none⟩ (.int .i64 x)) (some g) := grow_set (grow_set (World.grownBy.refl _ _) _ _) _ _
  exact ⟨rfl, H3.out.drewN 1, grow_drewN G 1⟩
theorem l07Swap_any (B g n cap i j : Nat) (xs : List Int) (w : World) (h : Rw B g n cap xs w) (hi : i < n) (hj : j < n) :
    Calls Try.prog 116 #[.slice (some ⟨g, 0, none⟩) n cap, .int .i64 i, .int .i64 j] w fun e w' => e = .returned (.tuple #[]) ∧ Rw B g n cap (swp xs i j) w' ∧ w.grownBy w' (some g) := by
  have hl := h.len
  have c1 := h.cell hi
  have c2 := h.cell hj
  have f1 := h.frz i
  have f2 := h.frz j
  obtain ⟨x, hx⟩ : ∃ x, xs.getD i 0 = x := ⟨_, rfl⟩
  obtain ⟨y, hy⟩ : ∃ y, xs.getD j 0 = y := ⟨_, rfl⟩
  have HS : Hid (swp xs i j = (xs.set i y).set j x) := by unfold Hid swp; rw [hx, hy]
  rw [hx] at c1
  rw [hy] at c2
  have H2 := Lib.hid (h.set i y)
  have H3 := Lib.hid ((h.set i y).set j x)
  have c3 : (w.setCell ⟨g, i, none⟩ (.int .i64 y)).cell? ⟨g, j, none⟩ = some (.int .i64 y) := by
    rw [H2.out.cell hj, getD_set7 (by omega)]
    split
    · rfl
    · rw [hy]
  have f3 : (w.setCell ⟨g, i, none⟩ (.int .i64 y)).frozen? ⟨g, j, none⟩ = false := H2.out.frz j
  clear h hx hy
  go_enter Try.func116, Try.ntmps116
  go_wp2
  go_returns
  rw [HS.out]
  exact ⟨rfl, H3.out, grow_set (grow_set (World.grownBy.refl _ _) _ _) _ _⟩
theorem asc_any (n : Nat) (w : World) (hn : n ≤ 12) :
    Calls Try.prog 76 #[.int .i64 n] w fun e w' => e = .returned (.slice (some ⟨w.heap.size, 0, none⟩) n n) ∧ Rw w.heap.size w.heap.size n n (asc n) w' ∧ Below w.heap.size w w' := by
  obtain ⟨i0, hi, hz0, hz1, hz2⟩ := info_parts Try.info2
  go_enter Try.func76, Try.ntmps76
  go_wp2_with (at_make; refine wpList_make_full _ rfl _ _ 75 rfl w.heap.size 2 i0 _ 1 Try.underlying75 hi hz0 hz1 _ _ _ _ n rfl rfl rfl rfl (by rw [hz2]; omega) (by unfold maxLen; omega) (Nat.le_refl _) ?_; intro w3 hown hgrow)
  have hown3 : w3.ownsRow w.heap.size 2 1 (.slice (some ⟨w.heap.size, 0, none⟩) n n) n ((pad (asc 0) n).map (Value.int .i64)) := by rw [pad_made] at hown; exact hown
  have B3 : Hid (Below w.heap.size w w3) := (Below.refl w.heap.size w).grown hgrow (Nat.le_refl _) (by simp)
  clear hown hgrow
  go_loopw [9] (fun iv wr => ∃ k : Nat, k ≤ n ∧ iv = .int .i64 k ∧ wr.ownsRow w.heap.size 2 1 (.slice (some ⟨w.heap.size, 0, none⟩) n n) n ((pad (asc k) n).map (Value.int .i64)) ∧ Hid (Below w.heap.size w wr)) (fun iv _ => n - (intOf iv).toNat)
  case atStart => exact ⟨0, Nat.zero_le _, rfl, hown3, B3⟩
  case round =>
    obtain ⟨k, hk, rfl, hown, HB⟩ := hrel
    clear hown3 B3
    by_cases hlt : k < n
    · obtain ⟨hd, hf⟩ := own_next hown (asc_length k) hlt
      have HO := Lib.hid (own_step hown (asc_length k) hlt (k : Int))
      have HB2 : Hid (Below w.heap.size w (wr.setCell ⟨w.heap.size, k, none⟩ (.int .i64 k))) := HB.out.setCell (p := ⟨w.heap.size, k, none⟩) (Nat.le_refl _) _
      clear hown HB
      go_wp2
      go_roundw
      case rel => exact ⟨k + 1, by omega, by go_num, by rw [asc_succ]; exact HO.out, HB2⟩
      case measure => simp [intOf]; omega
    · obtain rfl : k = n := by omega
      have hp : Hid (pad (asc k) k = asc k) := by
        unfold Hid
        have h1 := pad_full (asc k)
        rwa [asc_length] at h1
      rw [hp.out] at hown
      have HO := Lib.hid hown
      clear hown
      go_wp2
      go_ret
      exact ⟨rfl, HO.out, HB.out⟩
theorem first_any (n : Nat) (w : World) (hn : n ≤ 12) :
    Calls Try.prog 115 #[.int .i64 n] w fun e w' => ∃ g cap, e = .returned (.slice (some ⟨g, 0, none⟩) n cap) ∧ Rw w.heap.size g n cap (asc n) w' ∧ Below w.heap.size w w' := by
  obtain ⟨i0, hi, hz0, hz1, hz2⟩ := info_parts Try.info2
  have HO := Lib.hid (ownsRow_empty w 2 1)
  have HB0 : Hid (Below w.heap.size w (w.alloc (.cells #[] 2))) := (Below.refl w.heap.size w).alloc (Nat.le_refl _) _
  go_enter Try.func115, Try.ntmps115
  go_wp2
  go_loopw [3, 4] (fun v iv wr => ∃ k g cap : Nat, k ≤ n ∧ iv = .int .i64 k ∧ v = .slice (some ⟨g, 0, none⟩) k cap ∧ Hid (Rw w.heap.size g k cap (asc k) wr) ∧ Hid (Below w.heap.size w wr)) (fun _ iv _ => n - (intOf iv).toNat)
  case atStart => exact ⟨0, _, _, Nat.zero_le _, rfl, rfl, HO.out, HB0⟩
  case round =>
    obtain ⟨k, g, cap, hk, rfl, rfl, HOk, HB⟩ := hrel
    clear HO HB0
    by_cases hlt : k < n
    · have hz := HB.out.size
      have hge := HOk.out.le
      go_wp2_with (at_builtin; refine wpList_append_own _ rfl _ _ 31 rfl w.heap.size 2 i0 (.int .i64 0) 1 8 Try.underlying31 hi hz0 hz1 hz2 rfl (by decide) _ _ _ rfl (World.ownsRow.alloc HOk.out _) ⟨wr.heap.size, 0, none⟩ 1 1 [.int .i64 k] rfl rfl (cell_one_new _ _ _) (by intro u hu; simp at hu; subst hu; rfl) (by unfold maxLen; omega) (by omega) (by first | (simp; done) | (simp; omega)) ?_; intro v1 w1 hown1 hgrow _)
      obtain ⟨g1, cap1, rfl, hg1⟩ := own_shape hown1 (by omega)
      have HB1 : Hid (Below w.heap.size w w1) := ((HB.out.alloc hz _).grown hgrow (by simp; omega) (fun q e => own_block HOk.out q e))
      have HO1 : Hid (Rw w.heap.size g1 (k + 1) cap1 (asc (k + 1)) w1) := by
        unfold Hid Rw
        rw [asc_succ]
        simpa using hown1
      clear hown1 hgrow HOk HB
      go_wp2
      go_roundw
      case rel => exact ⟨k + 1, g1, cap1, by omega, by go_num, by first | rfl | go_num, HO1, HB1⟩
      case measure => simp [intOf]; omega
    · obtain rfl : k = n := by omega
      go_wp2
      go_ret
      exact ⟨g, cap, rfl, HOk.out, HB.out⟩
end Go.Proofs.Ytciofobedgmbjab
