/- The lengths of the runs: impl.RunLengths, spec.l01Runs, spec.RunLengths, and the law FnExactRunLengths. -/
import Derived.Test.YtooohiaokjpoiabBits
import Derived.Test.YtooohiaokjpoiabSlice64
namespace Go.Proofs.Ytooohiaokjpoiab
open Go.RowKit Go.PlainAid
set_option maxHeartbeats 400000

/-- the last number, and one more -/
def bump (l : List Int) : List Int := l.set (l.length - 1) (l.getD (l.length - 1) 0 + 1)
/-- the lengths of the runs of the first k bytes -/
def runsTo (s : ByteArray) : Nat → List Int
  | 0 => []
  | k + 1 => if k = 0 ∨ bt s k ≠ bt s (k - 1) then runsTo s k ++ [1] else bump (runsTo s k)

theorem bump_length (l : List Int) : (bump l).length = l.length := by simp [bump]
theorem runsTo_length (s : ByteArray) : ∀ k, (runsTo s k).length ≤ k ∧ (0 < k → 0 < (runsTo s k).length) := by
  intro k
  induction k with
  | zero => simp [runsTo]
  | succ k ih =>
    unfold runsTo
    split
    · simp; omega
    · next h =>
      rw [bump_length]
      have : 0 < k := by
        have : ¬ k = 0 := fun x => h (.inl x)
        omega
      exact ⟨by omega, fun _ => ih.2 this⟩
theorem runsTo_in (s : ByteArray) : ∀ k, ∀ i, (h : i < (runsTo s k).length) → 0 ≤ (runsTo s k)[i] ∧ (runsTo s k)[i] ≤ k := by
  intro k
  induction k with
  | zero => intro i h; simp [runsTo] at h
  | succ k ih =>
    intro i h
    unfold runsTo at h ⊢
    split at h
    · next hc =>
      simp only [hc, if_true]
      rw [List.getElem_append]
      split
      · next h2 => have := ih i h2; omega
      · simp; omega
    · next hc =>
      simp only [hc, if_false]
      rw [bump_length] at h
      unfold bump
      rw [List.getElem_set]
      split
      · next h2 =>
        have h3 : (runsTo s k).length - 1 < (runsTo s k).length := by omega
        have := ih _ h3
        rw [List.getD_eq_getElem?_getD, List.getElem?_eq_getElem h3, Option.getD_some]
        omega
      · have := ih i h; omega

theorem set_last (l : List Int) (c : Int) : ((l ++ [0]).map (Value.int .i64)).set l.length (.int .i64 c) = (l ++ [c]).map (Value.int .i64) := by
  rw [List.map_append, List.set_append_right _ _ (by simp)]
  simp

theorem last_get (l : List Int) : ((l.map (Value.int .i64)) ++ [.int .i64 0])[l.length]? = some (.int .i64 0) := by
  rw [List.getElem?_append_right (by simp)]
  simp

theorem l01Runs_any (s : ByteArray) (w : World) (hs : s.size ≤ 400) :
    Calls Try.prog 49 #[.string s] w fun e w' => ∃ v, e = .returned v ∧ w'.ownsRow w.heap.size 2 1 v (runsTo s s.size).length ((runsTo s s.size).map (Value.int .i64)) ∧ Below w.heap.size w w' := by
  obtain ⟨i0, hi, hz0, hz1, hz2⟩ := info_parts Try.info2
  go_enter Try.func49, Try.ntmps49
  go_wp2
  go_loopw [3, 4] (fun v i wr => ∃ k : Nat, k ≤ s.size ∧ i = .int .i64 k ∧ wr.ownsRow w.heap.size 2 1 v (runsTo s k).length ((runsTo s k).map (Value.int .i64)) ∧ Below w.heap.size w wr) (fun _ i _ => s.size - (intOf i).toNat)
  case atStart => exact ⟨0, Nat.zero_le _, rfl, ownsRow_empty w _ _, (Below.refl _ _).alloc (Nat.le_refl _) _⟩
  case round =>
    obtain ⟨k, hk, rfl, hown, hbel⟩ := hrel
    obtain ⟨l1, l2⟩ := runsTo_length s k
    by_cases hlt : k < s.size
    · by_cases hk0 : k = 0
      · have HR : Hid (runsTo s (k + 1) = runsTo s k ++ [1]) := by
          show (if _ then _ else _) = _
          rw [if_pos (.inl hk0)]
        have h0 : ((k : Int) == 0) = true := by simp [hk0]
        have HK := Lib.hid hk0
        clear hk0
        go_wp2
        go_quiet (fail)
        have hown2 : (wr.drewN nq).ownsRow w.heap.size 2 1 _ _ _ := hown
        have hbel2 : Below w.heap.size w (wr.drewN nq) := below_drewN hbel nq
        clear hown hbel
        generalize wr.drewN nq = w2 at hown2 hbel2 ⊢
        go_wp2_with (at_builtin; refine wpList_append_own _ rfl _ _ 22 rfl w.heap.size 2 i0 (.int .i64 0) 1 8 Try.underlying22 hi hz0 hz1 hz2 rfl (by decide) _ _ _ rfl (hown2.alloc _) ⟨w2.heap.size, 0, none⟩ 1 1 [.int .i64 0] rfl rfl (cell_one_new _ _ _) (by intro u hu; simp at hu; subst hu; rfl) (by unfold maxLen; omega) (by omega) (by have := hbel2.size; simp; omega) ?_; intro v1 w1 hown1 hgrow _; have hb1 : Below w.heap.size w w1 := (hbel2.alloc hbel2.size _).grown hgrow (by have := hbel2.size; simp; omega) (own_block hown2); obtain ⟨g, cap, hv, hg⟩ := own_shape hown1 (by omega); rw [hv]; rw [hv] at hown1; have hc := hown1.cellAt (runsTo s k).length (by omega); rw [last_get] at hc; have hf := hown1.frozenAt (runsTo s k).length)
        go_roundw
        case rel =>
          refine ⟨k + 1, by omega, by go_num, ?_, hb1.setCell hg _⟩
          rw [HR.out, List.length_append, List.length_singleton, ← set_last]
          have := (hown1.stored (runsTo s k).length (.int .i64 1)).1
          simpa using this
        case measure => simp [intOf]; omega
      · have h0 : ((k : Int) == 0) = false := by simp [hk0]
        have q1 : IntKind.i64.wrap ((k : Int) - 1) = (k : Int) - 1 := IntWalk.i64_in _ (by omega)
        have q2 : (0 : Int) ≤ (k : Int) - 1 := by omega
        have q3 : ((k : Int) - 1).toNat = k - 1 := by omega
        have q4 : k - 1 < s.size := by omega
        have q5 : (k : Int) - 1 < (s.size : Int) := by omega
        have q6 : (1 : Int) ≤ (k : Int) := by omega
        have q7 : 1 ≤ k := by omega
        by_cases hd : bt s k = bt s (k - 1)
        · have HR : Hid (runsTo s (k + 1) = bump (runsTo s k)) := by
            show (if _ then _ else _) = _
            rw [if_neg (by intro x; rcases x with x | x; exact hk0 x; exact x hd)]
          have hcmp : (((s[k]'hlt).toNat : Int) != ((s[k - 1]'q4).toNat : Int)) = false := by
            rw [get_bt s k hlt, get_bt s (k - 1) q4, hd]; simp
          have hpos := l2 (by omega)
          have hin := runsTo_in s k ((runsTo s k).length - 1) (by omega)
          obtain ⟨x, hx⟩ : ∃ x, (runsTo s k)[(runsTo s k).length - 1]'(by omega) = x := ⟨_, rfl⟩
          rw [hx] at hin
          obtain ⟨x1, x2⟩ := hin
          have hb : Hid (bump (runsTo s k) = (runsTo s k).set ((runsTo s k).length - 1) (x + 1)) := by
            unfold Hid bump
            rw [List.getD_eq_getElem?_getD, List.getElem?_eq_getElem (by omega), Option.getD_some, hx]
          have hc0 := hx
          obtain ⟨g, cap, hv, hg⟩ := own_shape hown hpos
          subst hv
          have hc := hown.cellAt ((runsTo s k).length - 1) (by omega)
          rw [List.getElem?_map, List.getElem?_eq_getElem (by omega), Option.map_some, hx] at hc
          have hf := hown.frozenAt ((runsTo s k).length - 1)
          clear hk0 hd hx hc0 l2
          go_wp2
          go_quiet (fail)
          go_wp2
          go_roundw
          case rel =>
            refine ⟨k + 1, by omega, by go_num, ?_, (below_drewN hbel nq).setCell hg _⟩
            rw [HR.out, bump_length, hb.out, List.map_set]
            exact (hown.stored ((runsTo s k).length - 1) (.int .i64 (x + 1))).1
          case measure => simp [intOf]; omega
        · have HR : Hid (runsTo s (k + 1) = runsTo s k ++ [1]) := by
            show (if _ then _ else _) = _
            rw [if_pos (.inr hd)]
          have hcmp : (((s[k]'hlt).toNat : Int) != ((s[k - 1]'q4).toNat : Int)) = true := by
            rw [get_bt s k hlt, get_bt s (k - 1) q4]; simp [hd]
          clear hk0 hd l2
          go_wp2
          go_quiet (fail)
          have hown2 : (wr.drewN nq).ownsRow w.heap.size 2 1 _ _ _ := hown
          have hbel2 : Below w.heap.size w (wr.drewN nq) := below_drewN hbel nq
          clear hown hbel
          generalize wr.drewN nq = w2 at hown2 hbel2 ⊢
          go_wp2_with (at_builtin; refine wpList_append_own _ rfl _ _ 22 rfl w.heap.size 2 i0 (.int .i64 0) 1 8 Try.underlying22 hi hz0 hz1 hz2 rfl (by decide) _ _ _ rfl (hown2.alloc _) ⟨w2.heap.size, 0, none⟩ 1 1 [.int .i64 0] rfl rfl (cell_one_new _ _ _) (by intro u hu; simp at hu; subst hu; rfl) (by unfold maxLen; omega) (by omega) (by have := hbel2.size; simp; omega) ?_; intro v1 w1 hown1 hgrow _; have hb1 : Below w.heap.size w w1 := (hbel2.alloc hbel2.size _).grown hgrow (by have := hbel2.size; simp; omega) (own_block hown2); obtain ⟨g, cap, hv, hg⟩ := own_shape hown1 (by omega); rw [hv]; rw [hv] at hown1; have hc := hown1.cellAt (runsTo s k).length (by omega); rw [last_get] at hc; have hf := hown1.frozenAt (runsTo s k).length)
          go_roundw
          case rel =>
            refine ⟨k + 1, by omega, by go_num, ?_, hb1.setCell hg _⟩
            rw [HR.out, List.length_append, List.length_singleton, ← set_last]
            have := (hown1.stored (runsTo s k).length (.int .i64 1)).1
            simpa using this
          case measure => simp [intOf]; omega
    · obtain rfl : k = s.size := by omega
      go_wp2
      go_ret
      exact ⟨_, rfl, hown, hbel⟩
theorem runs_yes (s : ByteArray) (w : World) (h : BitsP s) :
    Calls Try.prog 52 #[.string s] w fun e w' => ∃ v, e = .returned (.tuple #[v, .bool true]) ∧ w'.ownsRow w.heap.size 2 1 v (runsTo s s.size).length ((runsTo s s.size).map (Value.int .i64)) ∧ Below w.heap.size w w' := by
  obtain ⟨i0, hi, hz0, hz1, hz2⟩ := info_parts Try.info2
  have hs := h.len
  have HB := Lib.hid h
  clear h
  go_enter Try.func52, Try.ntmps52
  go_wp2_with (go_at_call 40; refine (isBits_yes s _ HB.out).mono ?_; rintro e w0 ⟨rfl, hb0⟩)
  go_loopw [4, 5, 12] (fun v _ i wr => ∃ k : Nat, k ≤ s.size ∧ i = .int .i64 k ∧ wr.ownsRow w.heap.size 2 1 v (runsTo s k).length ((runsTo s k).map (Value.int .i64)) ∧ Below w.heap.size w wr) (fun _ _ i _ => s.size - (intOf i).toNat)
  case atStart => exact ⟨0, Nat.zero_le _, rfl, own_base (ownsRow_empty w0 _ _) hb0.size, hb0.alloc hb0.size _⟩
  case round =>
    obtain ⟨k, hk, rfl, hown, hbel⟩ := hrel
    obtain ⟨l1, l2⟩ := runsTo_length s k
    by_cases hlt : k < s.size
    · by_cases hk0 : k = 0
      · have HR : Hid (runsTo s (k + 1) = runsTo s k ++ [1]) := by
          show (if _ then _ else _) = _
          rw [if_pos (.inl hk0)]
        have h0 : ((k : Int) == 0) = true := by simp [hk0]
        have HK := Lib.hid hk0
        clear hk0
        go_wp2
        go_quiet (fail)
        have hown2 : (wr.drewN nq).ownsRow w.heap.size 2 1 _ _ _ := hown
        have hbel2 : Below w.heap.size w (wr.drewN nq) := below_drewN hbel nq
        clear hown hbel
        generalize wr.drewN nq = w2 at hown2 hbel2 ⊢
        go_wp2_with (at_builtin; refine wpList_append_own _ rfl _ _ 22 rfl w.heap.size 2 i0 (.int .i64 0) 1 8 Try.underlying22 hi hz0 hz1 hz2 rfl (by decide) _ _ _ rfl (hown2.alloc _) ⟨w2.heap.size, 0, none⟩ 1 1 [.int .i64 0] rfl rfl (cell_one_new _ _ _) (by intro u hu; simp at hu; subst hu; rfl) (by unfold maxLen; omega) (by omega) (by have := hbel2.size; simp; omega) ?_; intro v1 w1 hown1 hgrow _; have hb1 : Below w.heap.size w w1 := (hbel2.alloc hbel2.size _).grown hgrow (by have := hbel2.size; simp; omega) (own_block hown2); obtain ⟨g, cap, hv, hg⟩ := own_shape hown1 (by omega); rw [hv]; rw [hv] at hown1; have hc := hown1.cellAt (runsTo s k).length (by omega); rw [last_get] at hc; have hf := hown1.frozenAt (runsTo s k).length)
        go_roundw
        case rel =>
          refine ⟨k + 1, by omega, by go_num, ?_, hb1.setCell hg _⟩
          rw [HR.out, List.length_append, List.length_singleton, ← set_last]
          have := (hown1.stored (runsTo s k).length (.int .i64 1)).1
          simpa using this
        case measure => simp [intOf]; omega
      · have h0 : ((k : Int) == 0) = false := by simp [hk0]
        have q1 : IntKind.i64.wrap ((k : Int) - 1) = (k : Int) - 1 := IntWalk.i64_in _ (by omega)
        have q2 : (0 : Int) ≤ (k : Int) - 1 := by omega
        have q3 : ((k : Int) - 1).toNat = k - 1 := by omega
        have q4 : k - 1 < s.size := by omega
        have q5 : (k : Int) - 1 < (s.size : Int) := by omega
        have q6 : (1 : Int) ≤ (k : Int) := by omega
        have q7 : 1 ≤ k := by omega
        by_cases hd : bt s k = bt s (k - 1)
        · have HR : Hid (runsTo s (k + 1) = bump (runsTo s k)) := by
            show (if _ then _ else _) = _
            rw [if_neg (by intro x; rcases x with x | x; exact hk0 x; exact x hd)]
          have hcmp : (((s[k]'hlt).toNat : Int) != ((s[k - 1]'q4).toNat : Int)) = false := by
            rw [get_bt s k hlt, get_bt s (k - 1) q4, hd]; simp
          have hpos := l2 (by omega)
          have hin := runsTo_in s k ((runsTo s k).length - 1) (by omega)
          obtain ⟨x, hx⟩ : ∃ x, (runsTo s k)[(runsTo s k).length - 1]'(by omega) = x := ⟨_, rfl⟩
          rw [hx] at hin
          obtain ⟨x1, x2⟩ := hin
          have hb : Hid (bump (runsTo s k) = (runsTo s k).set ((runsTo s k).length - 1) (x + 1)) := by
            unfold Hid bump
            rw [List.getD_eq_getElem?_getD, List.getElem?_eq_getElem (by omega), Option.getD_some, hx]
          have hc0 := hx
          obtain ⟨g, cap, hv, hg⟩ := own_shape hown hpos
          subst hv
          have hc := hown.cellAt ((runsTo s k).length - 1) (by omega)
          rw [List.getElem?_map, List.getElem?_eq_getElem (by omega), Option.map_some, hx] at hc
          have hf := hown.frozenAt ((runsTo s k).length - 1)
          clear hk0 hd hx hc0 l2
          go_wp2
          go_quiet (fail)
          go_wp2
          go_roundw
          case rel =>
            refine ⟨k + 1, by omega, by go_num, ?_, (below_drewN hbel nq).setCell hg _⟩
            rw [HR.out, bump_length, hb.out, List.map_set]
            exact (hown.stored ((runsTo s k).length - 1) (.int .i64 (x + 1))).1
          case measure => simp [intOf]; omega
        · have HR : Hid (runsTo s (k + 1) = runsTo s k ++ [1]) := by
            show (if _ then _ else _) = _
            rw [if_pos (.inr hd)]
          have hcmp : (((s[k]'hlt).toNat : Int) != ((s[k - 1]'q4).toNat : Int)) = true := by
            rw [get_bt s k hlt, get_bt s (k - 1) q4]; simp [hd]
          clear hk0 hd l2
          go_wp2
          go_quiet (fail)
          have hown2 : (wr.drewN nq).ownsRow w.heap.size 2 1 _ _ _ := hown
          have hbel2 : Below w.heap.size w (wr.drewN nq) := below_drewN hbel nq
          clear hown hbel
          generalize wr.drewN nq = w2 at hown2 hbel2 ⊢
          go_wp2_with (at_builtin; refine wpList_append_own _ rfl _ _ 22 rfl w.heap.size 2 i0 (.int .i64 0) 1 8 Try.underlying22 hi hz0 hz1 hz2 rfl (by decide) _ _ _ rfl (hown2.alloc _) ⟨w2.heap.size, 0, none⟩ 1 1 [.int .i64 0] rfl rfl (cell_one_new _ _ _) (by intro u hu; simp at hu; subst hu; rfl) (by unfold maxLen; omega) (by omega) (by have := hbel2.size; simp; omega) ?_; intro v1 w1 hown1 hgrow _; have hb1 : Below w.heap.size w w1 := (hbel2.alloc hbel2.size _).grown hgrow (by have := hbel2.size; simp; omega) (own_block hown2); obtain ⟨g, cap, hv, hg⟩ := own_shape hown1 (by omega); rw [hv]; rw [hv] at hown1; have hc := hown1.cellAt (runsTo s k).length (by omega); rw [last_get] at hc; have hf := hown1.frozenAt (runsTo s k).length)
          go_roundw
          case rel =>
            refine ⟨k + 1, by omega, by go_num, ?_, hb1.setCell hg _⟩
            rw [HR.out, List.length_append, List.length_singleton, ← set_last]
            have := (hown1.stored (runsTo s k).length (.int .i64 1)).1
            simpa using this
          case measure => simp [intOf]; omega
    · obtain rfl : k = s.size := by omega
      go_wp2
      go_ret2
      exact ⟨_, rfl, hown, hbel⟩

theorem runs_no (s : ByteArray) (w : World) (hm : s.size ≤ maxLen) (h : ¬ BitsP s) :
    Calls Try.prog 52 #[.string s] w fun e w' => e = .returned (.tuple #[.slice none 0 0, .bool false]) ∧ Below w.heap.size w w' := by
  have HB := Lib.hid h
  clear h
  go_enter Try.func52, Try.ntmps52
  go_wp2_with (go_at_call 40; refine (isBits_no s _ hm HB.out).mono ?_; rintro e w0 ⟨rfl, hb0⟩)
  go_ret2
  exact ⟨rfl, hb0⟩

end Go.Proofs.Ytooohiaokjpoiab
