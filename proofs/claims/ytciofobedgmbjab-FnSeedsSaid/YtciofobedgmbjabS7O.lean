/- Orders: impl.IsOrder, spec.l07Is, spec.l00Has. -/
import Derived.Test.YtciofobedgmbjabS7A
import Derived.Test.YtciofobedgmbjabGT
import Derived.Test.YtciofobedgmbjabL7
namespace Go.Proofs.Ytciofobedgmbjab
open Go.RowKit Go.PlainAid
set_option maxHeartbeats 800000

/-- twelve bools in a block -/
def BA (b : Nat) (s : Nat → Bool) (W : World) : Prop := ∀ j, j < 12 → W.cell? ⟨b, j, none⟩ = some (.bool (s j)) ∧ W.frozen? ⟨b, j, none⟩ = false
theorem BA.lt {b : Nat} {s : Nat → Bool} {W : World} (h : BA b s W) : b < W.heap.size := World.block_lt_of_cell? W _ (h 0 (by omega)).1
theorem BA.far {b : Nat} {s : Nat → Bool} {W W' : World} (h : BA b s W) (hb : Below W.heap.size W W') : BA b s W' := fun j hj =>
  ⟨(hb.cell (p := ⟨b, j, none⟩) h.lt).trans (h j hj).1, (hb.frozen (p := ⟨b, j, none⟩) h.lt).trans (h j hj).2⟩
theorem BA.set {b : Nat} {s t : Nat → Bool} {W : World} (h : BA b s W) {i : Nat} (v : Bool) (ht : ∀ j, j < 12 → t j = if i = j then v else s j) : BA b t (W.setCell ⟨b, i, none⟩ (.bool v)) := fun j hj => by
  rw [ht j hj, World.frozen?_setCell]
  refine ⟨?_, (h j hj).2⟩
  by_cases e : i = j
  · subst e
    rw [if_pos rfl]
    exact World.cell?_setCell_same W _ _ (h i hj).1
  · rw [if_neg e, cell_ne e]
    exact (h j hj).1
theorem BA.grown {b : Nat} {s : Nat → Bool} {W W' : World} {row : Option Nat} (h : BA b s W) (hg : W.grownBy W' row) (hne : row ≠ some b) : BA b s W' := fun j hj => by
  have hb := hg.block b h.lt (Ne.symm hne)
  exact ⟨(World.cell?_of_block (a := ⟨b, j, none⟩) hb).trans (h j hj).1, (World.frozen?_of_block (a := ⟨b, j, none⟩) hb).trans (h j hj).2⟩
theorem BA.drewN {b : Nat} {s : Nat → Bool} {W : World} (h : BA b s W) (m : Nat) : BA b s (W.drewN m) := h
theorem lt12 {j : Nat} (h : j < 12) : j = 0 ∨ j = 1 ∨ j = 2 ∨ j = 3 ∨ j = 4 ∨ j = 5 ∨ j = 6 ∨ j = 7 ∨ j = 8 ∨ j = 9 ∨ j = 10 ∨ j = 11 := by omega
theorem BA.new (w : World) (t : TypeId) : BA w.heap.size (fun _ => false) (w.alloc (.cells #[.bool false, .bool false, .bool false, .bool false, .bool false, .bool false, .bool false, .bool false, .bool false, .bool false, .bool false, .bool false] t)) := fun j hj => by
  rcases lt12 hj with rfl | rfl | rfl | rfl | rfl | rfl | rfl | rfl | rfl | rfl | rfl | rfl <;> exact ⟨by simp [go_sem], by simp [go_sem]⟩
theorem among_zero (xs : List Int) (x : Int) : among xs 0 x = false := by simp [among]
theorem isOrd_any (a : Option Addr) (n cap : Nat) (xs : List Int) (w : World) (h : RO w.heap.size w a xs) (hn : xs.length = n) (hl : n ≤ 1048576) (b : Bool) (hb : decide (OrdP xs) = b) :
    Calls Try.prog 84 #[.slice a n cap] w fun e w' => e = .returned (.bool b) ∧ Below w.heap.size w w' := by
  have HB := Lib.hid hb
  have HR := Lib.hid h
  have HN := Lib.hid hn
  clear h hn hb
  by_cases h1 : 1 ≤ n ∧ n ≤ 12
  · have n1 := h1.1
    have n2 := h1.2
    have HT : Hid (∀ W : World, Calls Try.prog 67 #[.int .i64 n, .int .i64 1, .int .i64 12] W fun e w' => e = .returned (.bool true) ∧ W = w') := fun W => btwI_yes _ _ _ W (by omega) (by omega)
    have hO : Hid (OrdP xs ↔ OrdTo xs n) := by
      have := ordP_iff (xs := xs) (by rw [HN.out]; exact h1)
      rwa [HN.out] at this
    clear h1
    go_enter Try.func84, Try.ntmps84
    go_wp2_with fail
    refine (HT.out _).mono ?_
    rintro e w1 ⟨rfl, rfl⟩
    go_wp2_with fail
    have A0 := BA.new w 94
    have B0 : Hid (Below w.heap.size w (w.alloc (.cells #[.bool false, .bool false, .bool false, .bool false, .bool false, .bool false, .bool false, .bool false, .bool false, .bool false, .bool false, .bool false] 94))) := (Below.refl w.heap.size w).alloc (Nat.le_refl _) _
    go_loopw [5, 12] (fun _ iv wr => ∃ k : Nat, k ≤ n ∧ iv = .int .i64 k ∧ Hid (BA w.heap.size (fun j => among xs k j) wr) ∧ Hid (OrdTo xs k) ∧ Hid (Below w.heap.size w wr)) (fun _ iv _ => n - (intOf iv).toNat)
    case atStart => exact ⟨0, Nat.zero_le _, rfl, by simp only [among_zero]; exact A0, fun i x hi _ => by omega, B0⟩
    case round =>
      obtain ⟨k, hk, rfl, HA, HK, HBl⟩ := hrel
      clear A0 B0
      by_cases hlt : k < n
      · obtain ⟨x, hx⟩ : ∃ x, xs[k]? = some x := ⟨_, List.getElem?_eq_getElem (by have := HN.out; omega)⟩
        obtain ⟨g, off, rfl, hg, hc0⟩ := HR.out k x hx
        have hc := (HBl.out.cell (p := ⟨g, off + k, none⟩) hg).trans hc0
        have HX := Lib.hid hx
        clear hc0 hx
        by_cases hin : 0 ≤ x ∧ x ≤ (n : Int) - 1
        · have HI : Hid (∀ W : World, Calls Try.prog 74 #[.int .i64 x, .int .i64 0, .int .i64 ((n : Int) - 1)] W fun e w' => e = .returned (.bool true) ∧ W = w') := fun W => btw64_yes _ _ _ W hin.1 hin.2
          obtain ⟨X, rfl⟩ := Int.eq_ofNat_of_zero_le hin.1
          have hX : X < 12 := by omega
          have d1 : wr.cell? ⟨w.heap.size, X, none⟩ = some (.bool (among xs k X)) := (HA.out X hX).1
          have d2 := (HA.out X hX).2
          have HIN := Lib.hid hin
          have hXn : (X : Int) < n := by omega
          clear hin
          cases hs : among xs k X with
          | true =>
            rw [hs] at d1
            obtain rfl : b = false := by
              rw [← HB.out]
              refine decide_eq_false (not_ordP HX.out fun y => ?_)
              rw [hs] at y
              exact absurd y.2 (by decide)
            clear hs
            go_wp2_with (go_at_call 74; with_reducible refine (HI.out _).mono ?_; rintro e w1 ⟨rfl, rfl⟩)
            go_ret
            exact ⟨rfl, HBl.out⟩
          | false =>
            rw [hs] at d1
            have HA2 : Hid (BA w.heap.size (fun j => among xs (k + 1) j) (wr.setCell ⟨w.heap.size, X, none⟩ (.bool true))) := HA.out.set true fun j _ => by
              rw [among_succ HX.out]
              by_cases e : X = j
              · subst e; simp
              · rw [if_neg e, decide_eq_false (by omega), Bool.false_or]
            have HK2 : Hid (OrdTo xs (k + 1)) := HK.out.next HX.out ⟨by omega, by rw [HN.out]; exact hXn⟩ hs
            have HBl2 : Hid (Below w.heap.size w (wr.setCell ⟨w.heap.size, X, none⟩ (.bool true))) := HBl.out.setCell (p := ⟨w.heap.size, X, none⟩) (Nat.le_refl _) _
            clear hs HA HK
            go_wp2_with (go_at_call 74; with_reducible refine (HI.out _).mono ?_; rintro e w1 ⟨rfl, rfl⟩)
            go_roundw
            case rel => exact ⟨k + 1, by omega, by go_num, HA2, HK2, HBl2⟩
            case measure => first | (simp [intOf]; done) | (simp [intOf]; omega)
        · have HI : Hid (∀ W : World, Calls Try.prog 74 #[.int .i64 x, .int .i64 0, .int .i64 ((n : Int) - 1)] W fun e w' => e = .returned (.bool false) ∧ W = w') := fun W => btw64_no _ _ _ W hin
          obtain rfl : b = false := by
            rw [← HB.out]
            exact decide_eq_false (not_ordP HX.out fun y => hin ⟨y.1.1, by have := y.1.2; rw [HN.out] at this; omega⟩)
          clear hin
          go_wp2_with (go_at_call 74; with_reducible refine (HI.out _).mono ?_; rintro e w1 ⟨rfl, rfl⟩)
          go_ret
          exact ⟨rfl, HBl.out⟩
      · obtain rfl : k = n := by omega
        obtain rfl : b = true := by
          rw [← HB.out]
          exact decide_eq_true (hO.out.2 HK.out)
        go_wp2
        go_ret
        exact ⟨rfl, HBl.out⟩
  · have HT : Hid (∀ W : World, Calls Try.prog 67 #[.int .i64 n, .int .i64 1, .int .i64 12] W fun e w' => e = .returned (.bool false) ∧ W = w') := fun W => btwI_no _ _ _ W (by omega)
    obtain rfl : b = false := by
      rw [← HB.out]
      exact decide_eq_false fun h => h1 (by rw [← HN.out]; exact h.1)
    clear h1
    go_enter Try.func84, Try.ntmps84
    go_wp2_with fail
    refine (HT.out _).mono ?_
    rintro e w1 ⟨rfl, rfl⟩
    go_wp2
    go_ret
    exact ⟨rfl, Below.refl _ _⟩
theorem RO.take {top : Nat} {w : World} {a : Option Addr} {xs : List Int} (h : RO top w a xs) (k : Nat) : RO top w a (xs.take k) := fun i x hx => by
  by_cases hi : i < k
  · rw [List.getElem?_take_of_lt hi] at hx
    exact h i x hx
  · rw [List.getElem?_take_eq_none (by omega)] at hx
    cases hx
theorem has_any (a : Option Addr) (n cap : Nat) (ys : List Int) (x : Int) (w : World) (h : RO w.heap.size w a ys) (hn : ys.length = n) (hl : n ≤ 1048576) (r : Bool) (hr : ys.contains x = r) :
    Calls Try.prog 117 #[.slice a n cap, .int .i64 x] w fun e w' => e = .returned (.bool r) ∧ w = w' := by
  have HB := Lib.hid hr
  have HR := Lib.hid h
  have HN := Lib.hid hn
  clear h hn hr
  go_enter Try.func117, Try.ntmps117
  go_wp2
  go_loop [5] (fun iv => ∃ k : Nat, k ≤ n ∧ iv = .int .i64 k ∧ Hid (∀ i, i < k → ys[i]? ≠ some x)) (fun iv => n - (intOf iv).toNat)
  case atStart => exact ⟨0, Nat.zero_le _, rfl, fun i hi => by omega⟩
  case round =>
    obtain ⟨k, hk, rfl, HK⟩ := hrel
    by_cases hlt : k < n
    · obtain ⟨y, hy⟩ : ∃ y, ys[k]? = some y := ⟨_, List.getElem?_eq_getElem (by have := HN.out; omega)⟩
      obtain ⟨g, off, rfl, hg, hc⟩ := HR.out k y hy
      by_cases e : y = x
      · subst e
        obtain rfl : r = true := by
          rw [← HB.out]
          exact List.contains_iff_mem.2 (List.mem_of_getElem? hy)
        have t1 : (y == y) = true := by simp
        go_wp2
        go_ret
        exact ⟨rfl, rfl⟩
      · have t1 : (y == x) = false := by simpa using e
        have HK2 : Hid (∀ i, i < k + 1 → ys[i]? ≠ some x) := fun i hi => by
          by_cases e2 : i = k
          · subst e2
            rw [hy]
            exact fun h => e (Option.some.inj h)
          · exact HK.out i (by omega)
        clear e hy HK
        go_wp2
        go_round
        case rel => exact ⟨k + 1, by omega, by go_num, HK2⟩
        case measure => first | (simp [intOf]; done) | (simp [intOf]; omega)
    · obtain rfl : k = n := by omega
      obtain rfl : r = false := by
        rw [← HB.out]
        cases e : ys.contains x with
        | false => rfl
        | true =>
          obtain ⟨i, hi⟩ := List.mem_iff_getElem?.1 (List.contains_iff_mem.1 e)
          exact absurd hi (HK.out i (by have := (List.getElem?_eq_some_iff.1 hi).1; have := HN.out; omega))
      go_wp2
      go_ret
      exact ⟨rfl, rfl⟩
theorem is_any (a : Option Addr) (n cap : Nat) (xs : List Int) (w : World) (h : RO w.heap.size w a xs) (hn : xs.length = n) (hl : n ≤ 1048576) (hcap : n ≤ cap) (b : Bool) (hb : decide (OrdP xs) = b) :
    Calls Try.prog 80 #[.slice a n cap] w fun e w' => e = .returned (.bool b) ∧ ∃ m, w' = w.drewN m := by
  have HB := Lib.hid hb
  have HR := Lib.hid h
  have HN := Lib.hid hn
  clear h hn hb
  go_enter Try.func80, Try.ntmps80
  go_wp2
  go_loopw [4] (fun iv wr => ∃ k m : Nat, k ≤ n ∧ iv = .int .i64 k ∧ Hid (OrdTo xs k) ∧ wr = w.drewN m) (fun iv _ => n - (intOf iv).toNat)
  case atStart => exact ⟨0, 0, Nat.zero_le _, rfl, fun i x hi _ => by omega, rfl⟩
  case round =>
    obtain ⟨k, m, hk, rfl, HK, hW⟩ := hrel
    have HW := Lib.hid hW
    have HBw : Hid (Below w.heap.size w wr) := by unfold Hid; rw [hW]; exact below_drewN (Below.refl _ _) _
    have hkc : k ≤ cap := by omega
    have hwr : IntKind.i64.wrap ((n : Int) - 1) = (n : Int) - 1 := IntWalk.i64_in _ (by omega)
    clear hW
    by_cases hlt : k < n
    · obtain ⟨x, hx⟩ : ∃ x, xs[k]? = some x := ⟨_, List.getElem?_eq_getElem (by have := HN.out; omega)⟩
      obtain ⟨g, off, rfl, hg, hc0⟩ := HR.out k x hx
      have hc := (HBw.out.cell (p := ⟨g, off + k, none⟩) hg).trans hc0
      have HX := Lib.hid hx
      clear hx hc0
      have HH : ∀ r, among xs k x = r → Hid (∀ W : World, Below w.heap.size w W → Calls Try.prog 117 #[.slice (some ⟨g, off, none⟩) k cap, .int .i64 x] W fun e w' => e = .returned (.bool r) ∧ W = w') := fun r hr W hW =>
        has_any _ k cap (xs.take k) x W (((HR.out.take k).below hW).up hW.size) (by rw [List.length_take]; have := HN.out; omega) (by omega) r hr
      by_cases hin : 0 ≤ x ∧ x ≤ (n : Int) - 1
      · have HI : Hid (∀ W : World, Calls Try.prog 66 #[.int .i64 x, .int .i64 0, .int .i64 ((n : Int) - 1)] W fun e w' => e = .returned (.bool true) ∧ W = w') := fun W => l00In_yes _ _ _ _ hin.1 hin.2
        have HIN := Lib.hid hin
        clear hin
        cases hs : among xs k x with
        | true =>
          have H1 := HH true hs
          obtain rfl : b = false := by
            rw [← HB.out]
            refine decide_eq_false (not_ordP HX.out fun y => ?_)
            rw [hs] at y
            exact absurd y.2 (by decide)
          clear hs HH
          go_wp2
          go_quiet ((first | (go_at_call 66; with_reducible exact quietG (HI.out _)) | (go_at_call 117; with_reducible exact quietG (H1.out _ (below_drewN HBw.out _)))))
          go_wp2
          go_ret
          exact ⟨rfl, _, by rw [HW.out]; exact drewN_twoG w m _⟩
        | false =>
          have H1 := HH false hs
          have HK2 : Hid (OrdTo xs (k + 1)) := HK.out.next HX.out ⟨HIN.out.1, by rw [HN.out]; have := HIN.out.2; omega⟩ hs
          clear hs HH HK
          go_wp2
          go_quiet ((first | (go_at_call 66; with_reducible exact quietG (HI.out _)) | (go_at_call 117; with_reducible exact quietG (H1.out _ (below_drewN HBw.out _)))))
          go_wp2
          go_roundw
          case rel => exact ⟨k + 1, m + nq, by omega, by go_num, HK2, by rw [HW.out]; exact drewN_twoG w m _⟩
          case measure => first | (simp [intOf]; done) | (simp [intOf]; omega)
      · have HI : Hid (∀ W : World, Calls Try.prog 66 #[.int .i64 x, .int .i64 0, .int .i64 ((n : Int) - 1)] W fun e w' => e = .returned (.bool false) ∧ W = w') := fun W => l00In_no _ _ _ _ hin
        obtain rfl : b = false := by
          rw [← HB.out]
          exact decide_eq_false (not_ordP HX.out fun y => hin ⟨y.1.1, by have := y.1.2; rw [HN.out] at this; omega⟩)
        clear hin HH
        go_wp2
        go_quiet ((go_at_call 66; with_reducible exact quietG (HI.out _)))
        go_wp2
        go_ret
        exact ⟨rfl, _, by rw [HW.out]; exact drewN_twoG w m _⟩
    · obtain rfl : k = n := by omega
      by_cases h1 : 1 ≤ k ∧ k ≤ 12
      · obtain rfl : b = true := by
          rw [← HB.out]
          exact decide_eq_true ((ordP_iff (by rw [HN.out]; exact h1)).2 (by rw [HN.out]; exact HK.out))
        obtain ⟨h2, h3⟩ := h1
        have t2 : decide ((k : Int) ≤ 12) = true := by rw [decide_eq_true_iff]; omega
        go_wp2
        go_ret
        exact ⟨rfl, m, HW.out⟩
      · obtain rfl : b = false := by
          rw [← HB.out]
          exact decide_eq_false fun h => h1 (by rw [← HN.out]; exact h.1)
        by_cases h2 : 1 ≤ k
        · have h3 : ¬ k ≤ 12 := fun y => h1 ⟨h2, y⟩
          have t2 : decide ((k : Int) ≤ 12) = false := by rw [decide_eq_false_iff_not]; omega
          clear h1 h3
          go_wp2
          go_ret
          exact ⟨rfl, m, HW.out⟩
        · clear h1
          go_wp2
          go_ret
          exact ⟨rfl, m, HW.out⟩
end Go.Proofs.Ytciofobedgmbjab
