/- Orders: impl.IsOrder, spec.l07Is, spec.l00Has. -/
import Derived.Test.YtjbojamhnapkpacS7A
import Derived.Test.YtjbojamhnapkpacGT
import Derived.Test.YtjbojamhnapkpacL7
namespace Go.Proofs.Ytjbojamhnapkpac
open Go.RowKit Go.PlainAid
set_option maxHeartbeats 800000

/-- twelve bools in a block -/
def BA (b : Nat) (s : Nat → Bool) (W : World) : Prop := ∀ j, j < 12 → W.cell? ⟨b, j, none⟩ = some (.bool (s j)) ∧ W.frozen? ⟨b, j, none⟩ = false
theorem BA.lt {b : Nat} {s : Nat → Bool} {W : World} (h : BA b s W) : b < W.heap.size := World.block_lt_of_cell? W _ (h 0 (by omega)).1
theorem BA.far {b : Nat} {s : Nat → Bool} {W W' : World} (h : BA b s W) (hb : Below W.heap.size W W') : BA b s W' := fun j hj =>
  ⟨(hb.cell (p := ⟨b, j, none⟩) h.lt).trans (h j hj).1, (hb.frozen (p := ⟨b, j, none⟩) h.lt).trans (h j hj).2⟩
theorem BA.set {b : Nat} {s t : Nat → Bool} {W : World} (h : BA b s W) {i : Nat} (v : Bool) (ht : ∀ j, j < 12 → t j = if i = j then v else s j) : BA b t (W.setCell ⟨b, i, none⟩ (.bool v)) := fun j hj => by
  rw [ht j hj, World.frozen?_setCell]
  refine ⟨?_, (h j hj).2⟩
  by_cases e : i = j
  · subst e
    rw [if_pos rfl]
    exact World.cell?_setCell_same W _ _ (h i hj).1
  · rw [if_neg e, cell_ne e]
    exact (h j hj).1
theorem BA.grown {b : Nat} {s : Nat → Bool} {W W' : World} {row : Option Nat} (h : BA b s W) (hg : W.grownBy W' row) (hne : row ≠ some b) : BA b s W' := fun j hj => by
  have hb := hg.block b h.lt (Ne.symm hne)
  exact ⟨(World.cell?_of_block (a := ⟨b, j, none⟩) hb).trans (h j hj).1, (World.frozen?_of_block (a := ⟨b, j, none⟩) hb).trans (h j hj).2⟩
theorem BA.drewN {b : Nat} {s : Nat → Bool} {W : World} (h : BA b s W) (m : Nat) : BA b s (W.drewN m) := h
theorem lt12 {j : Nat} (h : j < 12) : j = 0 ∨ j = 1 ∨ j = 2 ∨ j = 3 ∨ j = 4 ∨ j = 5 ∨ j = 6 ∨ j = 7 ∨ j = 8 ∨ j = 9 ∨ j = 10 ∨ j = 11 := by omega
theorem BA.new (w : World) (t : TypeId) : BA w.heap.size (fun _ => false) (w.alloc (.cells #[.bool false, .bool false, .bool false, .bool false, .bool false, .bool false, .bool false, .bool false, .bool false, .bool false, .bool false, .bool false] t)) := fun j hj => by
  rcases lt12 hj with rfl | rfl | rfl | rfl | rfl | rfl | rfl | rfl | rfl | rfl | rfl | rfl <;> exact ⟨by simp [go_sem], by simp [go_sem]⟩
theorem among_zero (xs : List Int) (x : Int) : among xs 0 x = false := by simp [among]
theorem RO.take {top : Nat} {w : World} {a : Option Addr} {xs : List Int} (h : RO top w a xs) (k : Nat) : RO top w a (xs.take k) := fun i x hx => by
  by_cases hi : i < k
  · rw [List.getElem?_take_of_lt hi] at hx
    exact h i x hx
  · rw [List.getElem?_take_eq_none (by omega)] at hx
    cases hx
theorem has_any (a : Option Addr) (n cap : Nat) (ys : List Int) (x : Int) (w : World) (h : RO w.heap.size w a ys) (hn : ys.length = n) (hl : n ≤ 1048576) (r : Bool) (hr : ys.contains x = r) :
    Calls Try.prog 26 #[.slice a n cap, .int .i64 x] w fun e w' => e = .returned (.bool r) ∧ w = w' := by
  have HB := Lib.hid hr
  have HR := Lib.hid h
  have HN := Lib.hid hn
  clear h hn hr
  go_enter Try.func26, Try.ntmps26
  go_wp2
  go_loop [5] (fun iv => ∃ k : Nat, k ≤ n ∧ iv = .int .i64 k ∧ Hid (∀ i, i < k → ys[i]? ≠ some x)) (fun iv => n - (intOf iv).toNat)
  case atStart => exact ⟨0, Nat.zero_le _, rfl, fun i hi => by omega⟩
  case round =>
    obtain ⟨k, hk, rfl, HK⟩ := hrel
    by_cases hlt : k < n
    · obtain ⟨y, hy⟩ : ∃ y, ys[k]? = some y := ⟨_, List.getElem?_eq_getElem (by have := HN.out; omega)⟩
      obtain ⟨g, off, rfl, hg, hc⟩ := HR.out k y hy
      by_cases e : y = x
      · subst e
        obtain rfl : r = true := by
          rw [← HB.out]
          exact List.contains_iff_mem.2 (List.mem_of_getElem? hy)
        have t1 : (y == y) = true := by simp
        go_wp2
        go_ret
        exact ⟨rfl, rfl⟩
      · have t1 : (y == x) = false := by simpa using e
        have HK2 : Hid (∀ i, i < k + 1 → ys[i]? ≠ some x) := fun i hi => by
          by_cases e2 : i = k
          · subst e2
            rw [hy]
            exact fun h => e (Option.some.inj h)
          · exact HK.out i (by omega)
        clear e hy HK
        go_wp2
        go_round
        case rel => exact ⟨k + 1, by omega, by go_num, HK2⟩
        case measure => first | (simp [intOf]; done) | (simp [intOf]; omega)
    · obtain rfl : k = n := by omega
      obtain rfl : r = false := by
        rw [← HB.out]
        cases e : ys.contains x with
        | false => rfl
        | true =>
          obtain ⟨i, hi⟩ := List.mem_iff_getElem?.1 (List.contains_iff_mem.1 e)
          exact absurd hi (HK.out i (by have := (List.getElem?_eq_some_iff.1 hi).1; have := HN.out; omega))
      go_wp2
      go_ret
      exact ⟨rfl, rfl⟩
end Go.Proofs.Ytjbojamhnapkpac
