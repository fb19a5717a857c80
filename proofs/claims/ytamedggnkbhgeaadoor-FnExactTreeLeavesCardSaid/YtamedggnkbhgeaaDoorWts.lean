/- Weights of faces: impl.totalOf, spec.l06Total. -/
import Derived.Test.YtamedggnkbhgeaaDoorListOk
namespace Go.Proofs.YtamedggnkbhgeaaDoor
open Go.RowKit Go.PlainAid
set_option maxHeartbeats 800000

/-- the sum of the first k numbers -/
def sumL (xs : List Int) : Nat → Int
  | 0 => 0
  | k + 1 => sumL xs k + xs.getD k 0
/-- 1 to 16 numbers from 0 to 1000000 -/
def WtP (xs : List Int) : Prop := (1 ≤ xs.length ∧ xs.length ≤ 16) ∧ ∀ (i : Nat) (x : Int), xs[i]? = some x → 0 ≤ x ∧ x ≤ 1000000
theorem getD_of {xs : List Int} {k : Nat} {x : Int} (h : xs[k]? = some x) : xs.getD k 0 = x := by rw [List.getD_eq_getElem?_getD, h]; rfl
theorem sumL_in {xs : List Int} (h : WtP xs) : ∀ k, 0 ≤ sumL xs k ∧ sumL xs k ≤ k * 1000000 := by
  intro k
  induction k with
  | zero => exact ⟨Int.le_refl _, by simp [sumL]⟩
  | succ k ih =>
    have hx : 0 ≤ xs.getD k 0 ∧ xs.getD k 0 ≤ 1000000 := by
      rw [List.getD_eq_getElem?_getD]
      cases hk : xs[k]? with
      | none => exact ⟨Int.le_refl _, by decide⟩
      | some x => exact h.2 k x hk
    unfold sumL
    omega
/-- whether there are weights, and their total -/
def TotP (xs : List Int) (t : Int) : Prop := WtP xs ∧ t = sumL xs xs.length ∧ 1 ≤ t ∧ t ≤ 1000000
theorem total_yes (a : Option Addr) (n cap : Nat) (xs : List Int) (w : World) (h : RO w.heap.size w a xs) (hn : xs.length = n) (hW : WtP xs) (bb : Bool) (hbb : decide (1 ≤ sumL xs n ∧ sumL xs n ≤ 1000000) = bb) :
    Calls Tryd.prog 43 #[.slice a n cap] w fun e w' => e = .returned (.tuple #[.int .i64 (sumL xs n), .bool bb]) ∧ w = w' := by
  have HBB := Lib.hid hbb
  have HR := Lib.hid h
  have hlen := Lib.hid hn
  have HW := Lib.hid hW
  have h1 := hW.1
  have hn1 : 1 ≤ n ∧ n ≤ 16 := by omega
  have HA : Hid (∀ W : World, W = w → Calls Tryd.prog 51 #[.slice a n cap, .int .i64 0, .int .i64 1000000] W fun e w' => e = .returned (.bool true) ∧ W = w') := fun W hw => by
    subst hw
    exact areB_any a n cap xs 0 1000000 W h hn (by omega) true (by simp only [true_iff]; exact hW.2)
  clear h hn hW h1 hbb
  go_enter Tryd.func43, Tryd.ntmps43
  go_wp2_with fail
  refine (btwI_yes n 1 16 w (by omega) (by omega)).mono ?_
  rintro e w1 ⟨rfl, rfl⟩
  go_wp2_with fail
  refine (HA.out _ rfl).mono ?_
  rintro e w1 ⟨rfl, rfl⟩
  go_wp2_with fail
  go_loop [4, 6, 18] (fun sv _ iv => ∃ k : Nat, k ≤ n ∧ iv = .int .i64 k ∧ sv = .int .i64 (sumL xs k)) (fun _ _ iv => n - (intOf iv).toNat)
  case atStart => exact ⟨0, Nat.zero_le _, rfl, rfl⟩
  case round =>
    obtain ⟨k, hk, rfl, rfl⟩ := hrel
    have hs := sumL_in HW.out k
    have hs2 : sumL xs k ≤ 16000000 := by omega
    by_cases hlt : k < n
    · obtain ⟨x, hx⟩ : ∃ x, xs[k]? = some x := ⟨_, List.getElem?_eq_getElem (by have := hlen.out; omega)⟩
      obtain ⟨g, off, rfl, hg, hc⟩ := HR.out k x hx
      have hx2 := HW.out.2 k x hx
      have HE : Hid (sumL xs (k + 1) = sumL xs k + x) := by unfold Hid; rw [sumL, getD_of hx]
      obtain ⟨hs0, _⟩ := hs
      generalize sumL xs k = s at hs0 hs2 HE
      clear hx
      go_wp2
      go_round
      case rel => exact ⟨k + 1, by omega, by go_num, by rw [HE.out]⟩
      case measure => simp [intOf]; omega
    · obtain rfl : k = n := by omega
      have HB : Hid (∀ W : World, Calls Tryd.prog 46 #[.int .i64 (sumL xs k), .int .i64 1, .int .i64 1000000] W fun e w' => e = .returned (.bool bb) ∧ W = w') := fun W => btw64_b _ _ _ _ HBB.out W
      go_wp2_with fail
      refine (HB.out _).mono ?_
      rintro e w1 ⟨rfl, rfl⟩
      go_wp2
      go_ret2
      exact ⟨rfl, rfl⟩
theorem total_no (a : Option Addr) (n cap : Nat) (xs : List Int) (w : World) (h : RO w.heap.size w a xs) (hn : xs.length = n) (hl : n ≤ 1048576) (hW : ¬ WtP xs) :
    Calls Tryd.prog 43 #[.slice a n cap] w fun e w' => e = .returned (.tuple #[.int .i64 0, .bool false]) ∧ w = w' := by
  by_cases h1 : 1 ≤ n ∧ n ≤ 16
  · have HA : Hid (∀ W : World, W = w → Calls Tryd.prog 51 #[.slice a n cap, .int .i64 0, .int .i64 1000000] W fun e w' => e = .returned (.bool false) ∧ W = w') := fun W hw => by
      subst hw
      exact areB_any a n cap xs 0 1000000 W h hn hl false (by
        constructor
        · intro x; cases x
        · intro x; exact absurd ⟨by omega, x⟩ hW)
    clear h hn hW
    go_enter Tryd.func43, Tryd.ntmps43
    go_wp2_with fail
    refine (btwI_yes n 1 16 w (by omega) (by omega)).mono ?_
    rintro e w1 ⟨rfl, rfl⟩
    go_wp2_with fail
    refine (HA.out _ rfl).mono ?_
    rintro e w1 ⟨rfl, rfl⟩
    go_wp2
    go_ret2
    exact ⟨rfl, rfl⟩
  · have HB : Hid (∀ W : World, Calls Tryd.prog 50 #[.int .i64 n, .int .i64 1, .int .i64 16] W fun e w' => e = .returned (.bool false) ∧ W = w') := fun W => btwI_no n 1 16 W (by omega)
    clear h hn hW h1
    go_enter Tryd.func43, Tryd.ntmps43
    go_wp2_with fail
    refine (HB.out _).mono ?_
    rintro e w1 ⟨rfl, rfl⟩
    go_wp2
    go_ret2
    exact ⟨rfl, rfl⟩
theorem l06Total_yes (a : Option Addr) (n cap : Nat) (xs : List Int) (w : World) (h : RO w.heap.size w a xs) (hn : xs.length = n) (hW : WtP xs) (t : Int) (ht : t = if sumL xs n ≤ 1000000 then sumL xs n else 0) :
    Calls Tryd.prog 47 #[.slice a n cap] w fun e w' => e = .returned (.int .i64 t) ∧ w = w' := by
  have HT := Lib.hid ht
  have HR := Lib.hid h
  have hlen := Lib.hid hn
  have HW := Lib.hid hW
  have h1 := hW.1
  have hn1 : 1 ≤ n ∧ n ≤ 16 := by omega
  clear h hn hW h1 ht
  go_enter Tryd.func47, Tryd.ntmps47
  go_wp2_with fail
  refine (l00In_yes n 1 16 w (by omega) (by omega)).mono ?_
  rintro e w1 ⟨rfl, rfl⟩
  go_wp2_with fail
  go_loop [3, 4] (fun sv iv => ∃ k : Nat, k ≤ n ∧ iv = .int .i64 k ∧ sv = .int .i64 (sumL xs k)) (fun _ iv => n - (intOf iv).toNat)
  case atStart => exact ⟨0, Nat.zero_le _, rfl, rfl⟩
  case round =>
    obtain ⟨k, hk, rfl, rfl⟩ := hrel
    have hs := sumL_in HW.out k
    have hs2 : sumL xs k ≤ 16000000 := by omega
    obtain ⟨hs0, _⟩ := hs
    by_cases hlt : k < n
    · obtain ⟨x, hx⟩ : ∃ x, xs[k]? = some x := ⟨_, List.getElem?_eq_getElem (by have := hlen.out; omega)⟩
      obtain ⟨g, off, rfl, hg, hc⟩ := HR.out k x hx
      have hx2 := HW.out.2 k x hx
      have HE : Hid (sumL xs (k + 1) = sumL xs k + x) := by unfold Hid; rw [sumL, getD_of hx]
      have HI : Hid (∀ w : World, Calls Tryd.prog 53 #[.int .i64 x, .int .i64 0, .int .i64 1000000] w fun e w' => e = .returned (.bool true) ∧ w = w') := fun w => l00In_yes _ _ _ _ hx2.1 hx2.2
      generalize sumL xs k = s at hs0 hs2 HE
      clear hx
      go_wp2_with (go_at_call 53; with_reducible refine (HI.out _).mono ?_; rintro e w1 ⟨rfl, rfl⟩)
      go_round
      case rel => exact ⟨k + 1, by omega, by go_num, by rw [HE.out]⟩
      case measure => simp [intOf]; omega
    · obtain rfl : k = n := by omega
      by_cases hle : sumL xs k ≤ 1000000
      · obtain rfl : t = sumL xs k := by rw [HT.out, if_pos hle]
        go_wp2
        go_ret
        exact ⟨rfl, rfl⟩
      · obtain rfl : t = 0 := by rw [HT.out, if_neg hle]
        go_wp2
        go_ret
        exact ⟨rfl, rfl⟩
theorem l06Total_no (a : Option Addr) (n cap : Nat) (xs : List Int) (w : World) (h : RO w.heap.size w a xs) (hn : xs.length = n) (hl : n ≤ 1048576) (hW : ¬ WtP xs) :
    Calls Tryd.prog 47 #[.slice a n cap] w fun e w' => e = .returned (.int .i64 0) ∧ w = w' := by
  by_cases h1 : 1 ≤ n ∧ n ≤ 16
  · have HR := Lib.hid h
    have hlen := Lib.hid hn
    have HW := Lib.hid hW
    clear h hn hW
    go_enter Tryd.func47, Tryd.ntmps47
    go_wp2_with fail
    refine (l00In_yes n 1 16 w (by omega) (by omega)).mono ?_
    rintro e w1 ⟨rfl, rfl⟩
    go_wp2_with fail
    go_loop [3, 4] (fun sv iv => ∃ (k : Nat) (s : Int), k ≤ n ∧ iv = .int .i64 k ∧ sv = .int .i64 s ∧ 0 ≤ s ∧ s ≤ k * 1000000 ∧ Hid (∀ (i : Nat) (x : Int), i < k → xs[i]? = some x → 0 ≤ x ∧ x ≤ 1000000)) (fun _ iv => n - (intOf iv).toNat)
    case atStart => exact ⟨0, 0, Nat.zero_le _, rfl, rfl, by omega, by omega, fun i x h _ => absurd h (by omega)⟩
    case round =>
      obtain ⟨k, s, hk, rfl, rfl, hs0, hs1, HK⟩ := hrel
      have hs2 : s ≤ 16000000 := by omega
      by_cases hlt : k < n
      · obtain ⟨x, hx⟩ : ∃ x, xs[k]? = some x := ⟨_, List.getElem?_eq_getElem (by have := hlen.out; omega)⟩
        obtain ⟨g, off, rfl, hg, hc⟩ := HR.out k x hx
        have HX := Lib.hid hx
        by_cases hx2 : 0 ≤ x ∧ x ≤ 1000000
        · have HI : Hid (∀ w : World, Calls Tryd.prog 53 #[.int .i64 x, .int .i64 0, .int .i64 1000000] w fun e w' => e = .returned (.bool true) ∧ w = w') := fun w => l00In_yes _ _ _ _ hx2.1 hx2.2
          have HS1 := Lib.hid hs1
          clear hx hs1
          go_wp2_with (go_at_call 53; with_reducible refine (HI.out _).mono ?_; rintro e w1 ⟨rfl, rfl⟩)
          go_round
          case rel =>
            refine ⟨k + 1, s + x, by omega, by go_num, rfl, by omega, by have := HS1.out; omega, fun i y hi hy => ?_⟩
            by_cases e : i = k
            · subst e
              rw [HX.out] at hy
              cases hy
              exact hx2
            · exact HK.out i y (by omega) hy
          case measure => simp [intOf]; omega
        · have HI : Hid (∀ w : World, Calls Tryd.prog 53 #[.int .i64 x, .int .i64 0, .int .i64 1000000] w fun e w' => e = .returned (.bool false) ∧ w = w') := fun w => l00In_no _ _ _ _ hx2
          clear hx hx2
          go_wp2_with (go_at_call 53; with_reducible refine (HI.out _).mono ?_; rintro e w1 ⟨rfl, rfl⟩)
          go_ret
          exact ⟨rfl, rfl⟩
      · obtain rfl : k = n := by omega
        exact absurd ⟨by have := hlen.out; omega, fun i x hx => HK.out i x (by have := (List.getElem?_eq_some_iff.1 hx).1; have := hlen.out; omega) hx⟩ HW.out
  · have HB : Hid (∀ W : World, Calls Tryd.prog 53 #[.int .i64 n, .int .i64 1, .int .i64 16] W fun e w' => e = .returned (.bool false) ∧ W = w') := fun W => l00In_no n 1 16 W (by omega)
    clear h hn hW h1
    go_enter Tryd.func47, Tryd.ntmps47
    go_wp2_with fail
    refine (HB.out _).mono ?_
    rintro e w1 ⟨rfl, rfl⟩
    go_wp2
    go_ret
    exact ⟨rfl, rfl⟩
/-- the total, 0 if there is none -/
theorem l06Total_any (a : Option Addr) (n cap : Nat) (xs : List Int) (h0 : xs.length = n) (hl : n ≤ 1048576) : ∃ t : Int, (0 ≤ t ∧ t ≤ 1000000) ∧ (t = 0 ↔ ¬ ∃ u, TotP xs u) ∧ (1 ≤ t → TotP xs t) ∧ ∀ w : World, RO w.heap.size w a xs →
    Calls Tryd.prog 47 #[.slice a n cap] w fun e w' => e = .returned (.int .i64 t) ∧ w = w' := by
  by_cases hW : WtP xs
  · have hs := sumL_in hW n
    refine ⟨if sumL xs n ≤ 1000000 then sumL xs n else 0, ?_, ?_, ?_, fun w h => l06Total_yes a n cap xs w h h0 hW _ rfl⟩
    · split <;> omega
    · constructor
      · intro e
        rintro ⟨u, _, hu, h1, h2⟩
        rw [h0] at hu
        split at e <;> omega
      · intro e
        by_cases hle : sumL xs n ≤ 1000000
        · rw [if_pos hle]
          by_cases h1 : 1 ≤ sumL xs n
          · exact absurd ⟨sumL xs n, hW, by rw [h0], h1, hle⟩ e
          · omega
        · rw [if_neg hle]
    · intro e
      split at e
      · rename_i hle
        rw [if_pos hle]
        exact ⟨hW, by rw [h0], e, hle⟩
      · omega
  · exact ⟨0, ⟨by omega, by omega⟩, ⟨fun _ => fun ⟨u, hu⟩ => hW hu.1, fun _ => rfl⟩, fun e => by omega, fun w h => l06Total_no a n cap xs w h h0 hl hW⟩
end Go.Proofs.YtamedggnkbhgeaaDoor
