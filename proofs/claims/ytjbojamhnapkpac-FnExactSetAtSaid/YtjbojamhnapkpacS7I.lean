/- Whether numbers increase: impl.isIncreasing, spec.l00Rises. -/
import Derived.Test.YtjbojamhnapkpacMix
import Derived.Test.YtjbojamhnapkpacGT
import Derived.Test.YtjbojamhnapkpacS7B
import Derived.Test.YtjbojamhnapkpacS7S
namespace Go.Proofs.Ytjbojamhnapkpac
open Go.RowKit Go.PlainAid
set_option maxHeartbeats 800000

/-- the numbers increase -/
def Inc7 (xs : List Int) : Prop := ∀ i x y, xs[i]? = some x → xs[i + 1]? = some y → x < y
theorem inc7_any (a : Option Addr) (n cap : Nat) (xs : List Int) (w : World) (h : RO w.heap.size w a xs) (hn : xs.length = n) (hl : n ≤ 1048576) (b : Bool) (hb : b = true ↔ Inc7 xs) :
    Calls Try.prog 34 #[.slice a n cap] w fun e w' => e = .returned (.bool b) ∧ Below w.heap.size w w' := by
  have HR := Lib.hid h
  have HN := Lib.hid hn
  have w0 : IntKind.i64.wrap ((n : Int) - 1) = (n : Int) - 1 := IntWalk.i64_in _ (by omega)
  clear h hn
  go_enter Try.func34, Try.ntmps34
  go_wp2
  go_loopw [3, 7] (fun _ i wr => ∃ k : Nat, (k = 0 ∨ k + 1 ≤ n) ∧ i = .int .i64 k ∧ Hid (∀ j x y, j < k → xs[j]? = some x → xs[j + 1]? = some y → x < y) ∧ Below w.heap.size w wr) (fun _ i _ => n - (intOf i).toNat)
  case atStart => exact ⟨0, .inl rfl, rfl, fun j _ _ h => absurd h (by omega), Below.refl _ _⟩
  case round =>
    obtain ⟨k, hk, rfl, HK, B⟩ := hrel
    by_cases hlt : k + 1 < n
    · obtain ⟨x, hx⟩ : ∃ x, xs[k]? = some x := ⟨_, List.getElem?_eq_getElem (by have := HN.out; omega)⟩
      obtain ⟨y, hy⟩ : ∃ x, xs[k + 1]? = some x := ⟨_, List.getElem?_eq_getElem (by have := HN.out; omega)⟩
      obtain ⟨g, off, rfl, hg, c0⟩ := HR.out k x hx
      obtain ⟨g', off', he, _, c1⟩ := HR.out (k + 1) y hy
      cases he
      have d0 : ∀ q : GR wr.drew none, q.w.cell? ⟨g, off + k, none⟩ = some (.int .i64 x) := fun q => gt_cell (W0 := wr.drew) ((B.cell (p := ⟨g, off + k, none⟩) hg).trans c0) ⟨q.w, (Below.refl _ wr.drew).grown q.h (Nat.le_refl _) (by simp)⟩
      have d1 : ∀ q : GR wr.drew none, q.w.cell? ⟨g, off + (k + 1), none⟩ = some (.int .i64 y) := fun q => gt_cell (W0 := wr.drew) ((B.cell (p := ⟨g, off + (k + 1), none⟩) hg).trans c1) ⟨q.w, (Below.refl _ wr.drew).grown q.h (Nat.le_refl _) (by simp)⟩
      have HXY := Lib.hid (And.intro hx hy)
      have q1 : IntKind.i64.wrap ((k : Int) + 1) = (k : Int) + 1 := IntWalk.i64_in _ (by omega)
      have r1 : (0 : Int) ≤ (k : Int) + 1 := by omega
      have r2 : ((k : Int) + 1).toNat = k + 1 := by omega
      have r3 : (k : Int) + 1 < (n : Int) := by omega
      have q2 : (k : Int) < (n : Int) - 1 := by omega
      have q3 : k < n := by omega
      clear hx hy c0 c1
      by_cases hxy : x < y
      · have HLT := Lib.hid hxy
        have q4 : ¬ y ≤ x := by omega
        clear hxy
        go_wp2
        refine wp_region_mix (none) [0, 1, 2, 3, 4, 5, 6, 7, 8, 9] [] (by kernel_rfl) (by kernel_rfl) ?_
        simp only [pickOps, List.filterMap_cons, List.filterMap_nil, List.getElem?_toArray, List.getElem?_cons_succ, List.getElem?_cons_zero]
        repeat (refine wpQuietG_step (fun K hK => ?_); go_simp; first | (refine hK _ ?_; clear hK K) | (apply Exists.intro; refine ⟨fun _ => ?_, hK _ ?_⟩; (fail); clear hK K))
        refine wpQuietG_nil ?_
        clear d0 d1
        intro W hW1 hW2
        replace hW1 := gr_undrew hW1
        replace B := B.grown hW1 B.size (by simp)
        clear hW1 hW2
        go_wp2
        go_roundw
        case rel =>
          refine ⟨k + 1, .inr (by omega), by go_num, fun j x' y' hj hx' hy' => ?_, B⟩
          by_cases e : j = k
          · subst e
            rw [HXY.out.1] at hx'
            rw [HXY.out.2] at hy'
            cases hx'
            cases hy'
            exact HLT.out
          · exact HK.out j x' y' (by omega) hx' hy'
        case measure => first | (simp [intOf]; done) | (simp [intOf]; omega)
      · have q4 : y ≤ x := by omega
        have hbf : b = false := by
          cases b
          · rfl
          · exact absurd (hb.1 rfl k x y HXY.out.1 HXY.out.2) hxy
        subst hbf
        clear hxy hb
        go_wp2
        refine wp_region_mix (none) [0, 1, 2, 3, 4, 5, 6, 7, 8, 9] [] (by kernel_rfl) (by kernel_rfl) ?_
        simp only [pickOps, List.filterMap_cons, List.filterMap_nil, List.getElem?_toArray, List.getElem?_cons_succ, List.getElem?_cons_zero]
        repeat (refine wpQuietG_step (fun K hK => ?_); go_simp; first | (refine hK _ ?_; clear hK K) | (apply Exists.intro; refine ⟨fun _ => ?_, hK _ ?_⟩; (fail); clear hK K))
        refine wpQuietG_nil ?_
        clear d0 d1
        intro W hW1 hW2
        replace hW1 := gr_undrew hW1
        replace B := B.grown hW1 B.size (by simp)
        clear hW1 hW2
        go_wp2
        go_ret
        exact ⟨rfl, B⟩
    · have q2 : ¬ (k : Int) < (n : Int) - 1 := by omega
      have hbt : b = true := hb.2 fun j x' y' hx' hy' => by
        have := (List.getElem?_eq_some_iff.1 hy').1
        exact HK.out j x' y' (by have := HN.out; omega) hx' hy'
      subst hbt
      go_wp2
      go_ret
      exact ⟨rfl, B⟩
theorem not_iff {b : Bool} {P : Prop} (h : b = true ↔ P) (hn : ¬ P) : b = false := by
  cases b
  · rfl
  · exact absurd (h.1 rfl) hn
/-- the first k numbers rise, from 0 to n - 1 -/
def SetTo (n : Nat) (xs : List Int) (k : Nat) : Prop := (∀ (i : Nat) (x : Int), i < k → xs[i]? = some x → 0 ≤ x ∧ x < n) ∧ ∀ (i : Nat) (x y : Int), i + 1 < k → xs[i]? = some x → xs[i + 1]? = some y → x < y
theorem SetTo.next {n k : Nat} {xs : List Int} {x : Int} (h : SetTo n xs k) (hx : xs[k]? = some x) (h1 : 0 ≤ x ∧ x ≤ (n : Int) - 1) (h2 : ∀ p, 0 < k → xs[k - 1]? = some p → p < x) : SetTo n xs (k + 1) := by
  refine ⟨fun i y hi hy => ?_, fun i y z hi hy hz => ?_⟩
  · by_cases e : i = k
    · subst e
      rw [hx] at hy
      cases hy
      omega
    · exact h.1 i y (by omega) hy
  · by_cases e : i + 1 = k
    · subst e
      rw [hx] at hz
      cases hz
      exact h2 y (by omega) hy
    · exact h.2 i y z (by omega) hy hz
theorem SetTo.all {n : Nat} {xs : List Int} (h : SetTo n xs xs.length) : SetP n xs :=
  ⟨fun i x hx => h.1 i x (List.getElem?_eq_some_iff.1 hx).1 hx, fun i x y hx hy => h.2 i x y (List.getElem?_eq_some_iff.1 hy).1 hx hy⟩
theorem rises_any (a : Option Addr) (m cap : Nat) (xs : List Int) (n : Nat) (w : World) (h : RO w.heap.size w a xs) (hm : xs.length = m) (hl : m ≤ 1048576) (b : Bool) (hb : b = true ↔ SetP n xs) :
    Calls Try.prog 31 #[.slice a m cap, .int .i64 0, .int .i64 ((n : Int) - 1)] w fun e w' => e = .returned (.bool b) ∧ ∃ j, w' = w.drewN j := by
  have HB := Lib.hid hb
  have HR := Lib.hid h
  have HN := Lib.hid hm
  clear h hm hb
  go_enter Try.func31, Try.ntmps31
  go_wp2
  go_loopw [7] (fun iv wr => ∃ k j : Nat, k ≤ m ∧ iv = .int .i64 k ∧ Hid (SetTo n xs k) ∧ Hid (wr = w.drewN j)) (fun iv _ => m - (intOf iv).toNat)
  case atStart => exact ⟨0, 0, Nat.zero_le _, rfl, ⟨fun i x hi _ => by omega, fun i x y hi _ _ => by omega⟩, rfl⟩
  case round =>
    obtain ⟨k, j, hk, rfl, HK, HW⟩ := hrel
    by_cases hlt : k < m
    · obtain ⟨x, hx⟩ : ∃ x, xs[k]? = some x := ⟨_, List.getElem?_eq_getElem (by have := HN.out; omega)⟩
      obtain ⟨g, off, rfl, hg, hc0⟩ := HR.out k x hx
      have hc : wr.cell? ⟨g, off + k, none⟩ = some (.int .i64 x) := by rw [HW.out]; exact hc0
      have HX := Lib.hid hx
      clear hc0 hx
      by_cases hin : 0 ≤ x ∧ x ≤ (n : Int) - 1
      · have HI : Hid (∀ W : World, Calls Try.prog 21 #[.int .i64 x, .int .i64 0, .int .i64 ((n : Int) - 1)] W fun e w' => e = .returned (.bool true) ∧ W = w') := fun W => l00In_yes _ _ _ _ hin.1 hin.2
        have HIN := Lib.hid hin
        clear hin
        by_cases h0 : k = 0
        · subst h0
          have HK2 : Hid (SetTo n xs (0 + 1)) := HK.out.next HX.out HIN.out (fun p hp _ => by omega)
          have hc2 : wr.cell? ⟨g, off, none⟩ = some (.int .i64 x) := by simpa using hc
          clear HK hc
          go_wp2_with fail
          go_quiet ((go_at_call 21; with_reducible exact quietG (HI.out _)))
          go_wp2
          go_roundw
          case rel => exact ⟨1, j + nq, by omega, rfl, HK2, by unfold Hid; rw [HW.out]; exact drewN_twoG w j nq⟩
          case measure => simp [intOf]; omega
        · obtain ⟨p, hp⟩ : ∃ p, xs[k - 1]? = some p := ⟨_, List.getElem?_eq_getElem (by have := HN.out; omega)⟩
          obtain ⟨g2, off2, he, _, hd0⟩ := HR.out (k - 1) p hp
          cases he
          obtain ⟨k1, hk1⟩ : ∃ k1, k - 1 = k1 := ⟨_, rfl⟩
          have hd : wr.cell? ⟨g, off + k1, none⟩ = some (.int .i64 p) := by rw [HW.out, ← hk1]; exact hd0
          have hw1 : IntKind.i64.wrap ((k : Int) - 1) = (k1 : Int) := by rw [IntWalk.i64_in _ (by omega)]; omega
          have hk1m : k1 < m := by omega
          have HP : Hid (xs[k - 1]? = some p) := hp
          have hkp : 0 < k := by omega
          clear hd0 hp hk1 h0
          by_cases hpx : p < x
          · have hge : ¬ x ≤ p := by omega
            have HK2 : Hid (SetTo n xs (k + 1)) := HK.out.next HX.out HIN.out (fun q _ hq => by rw [HP.out] at hq; cases hq; exact hpx)
            clear HK hpx
            go_wp2_with fail
            go_quiet ((go_at_call 21; with_reducible exact quietG (HI.out _)))
            go_wp2
            go_roundw
            case rel => exact ⟨k + 1, j + nq, by omega, by go_num, HK2, by unfold Hid; rw [HW.out]; exact drewN_twoG w j nq⟩
            case measure => first | (simp [intOf]; done) | (simp [intOf]; omega)
          · have hge : x ≤ p := by omega
            obtain rfl : b = false := by
              refine not_iff HB.out fun hS => hpx ?_
              have h1 := HX.out
              rw [show k = k - 1 + 1 by omega] at h1
              exact hS.2 (k - 1) p x HP.out h1
            clear hpx
            go_wp2_with fail
            go_quiet ((go_at_call 21; with_reducible exact quietG (HI.out _)))
            go_wp2
            go_ret
            exact ⟨rfl, j + nq, by rw [HW.out]; exact drewN_twoG w j nq⟩
      · have HI : Hid (∀ W : World, Calls Try.prog 21 #[.int .i64 x, .int .i64 0, .int .i64 ((n : Int) - 1)] W fun e w' => e = .returned (.bool false) ∧ W = w') := fun W => l00In_no _ _ _ _ hin
        obtain rfl : b = false := by
          exact not_iff HB.out fun hS => hin (by have := hS.1 k x HX.out; omega)
        clear hin
        go_wp2_with fail
        go_quiet ((go_at_call 21; with_reducible exact quietG (HI.out _)))
        go_wp2
        go_ret
        exact ⟨rfl, j + nq, by rw [HW.out]; exact drewN_twoG w j nq⟩
    · obtain rfl : k = m := by omega
      obtain rfl : b = true := by
        exact HB.out.2 (SetTo.all (by rw [HN.out]; exact HK.out))
      go_wp2
      go_ret
      exact ⟨rfl, j, HW.out⟩
end Go.Proofs.Ytjbojamhnapkpac
