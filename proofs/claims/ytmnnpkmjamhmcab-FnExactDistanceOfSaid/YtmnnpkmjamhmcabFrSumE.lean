/- Slices of fractions compared and measured in the laws: laws.szFractionS, eqFractionS. -/
import Derived.Test.YtmnnpkmjamhmcabFrTo
namespace Go.Proofs.Ytmnnpkmjamhmcab
open Go.RowKit Go.PlainAid
set_option maxHeartbeats 800000

theorem szFrS_any (a : Option Addr) (n cap : Nat) (left : Int) (w : World) (h1 : 0 ≤ left) (h2 : left ≤ 1048576) (hn : n ≤ maxLen) :
    Calls Try.prog 39 #[.slice a n cap, .int .i64 left] w fun e w' => e = .returned (.int .i64 (if left - n < 0 then -1 else left - n)) ∧ w = w' := by
  unfold maxLen at hn
  have w1 : IntKind.i64.wrap (left - n) = left - n := IntWalk.i64_in _ (by omega)
  by_cases h : left - n < 0
  · rw [if_pos h]
    go_enter Try.func39, Try.ntmps39
    go_wp2
    go_ret
    exact ⟨rfl, rfl⟩
  · rw [if_neg h]
    go_enter Try.func39, Try.ntmps39
    go_wp2
    go_ret
    exact ⟨rfl, rfl⟩

theorem eqFrS_any (a a' : Option Addr) (n cap cap' : Nat) (xs : List (Int × Int)) (w : World) (hx : FIn w a n xs) (hx' : FIn w a' n xs) (hn : n ≤ 1048576) :
    Calls Try.prog 43 #[.slice a n cap, .slice a' n cap'] w fun e w' => e = .returned (.bool true) ∧ Below w.heap.size w w' := by
  have HX := Lib.hid hx
  have HX' := Lib.hid hx'
  clear hx hx'
  have HE : Hid (∀ (n d : Int) (W : World), Calls Try.prog 31 #[.agg #[.int .i64 n, .int .i64 d], .agg #[.int .i64 n, .int .i64 d]] W fun e w' => e = .returned (.bool true) ∧ Below W.heap.size W w') := fun n d W => eqFrac_yes n d W
  go_enter Try.func43, Try.ntmps43
  go_wp2
  go_loopw [5] (fun i wr => ∃ k : Nat, k ≤ n ∧ i = .int .i64 k ∧ Below w.heap.size w wr) (fun i _ => n - (intOf i).toNat)
  case atStart => exact ⟨0, Nat.zero_le _, rfl, Below.refl _ _⟩
  case round =>
    obtain ⟨k, hk, rfl, B⟩ := hrel
    by_cases hlt : k < n
    · obtain ⟨b', o, x, y, rfl, hxy, c0, c1, hadd⟩ := (HX.out.far B).at hlt
      obtain ⟨b2, o2, x2, y2, rfl, hxy2, c2, c3, hadd2⟩ := (HX'.out.far B).at hlt
      rw [hxy] at hxy2
      cases hxy2
      have q0 : ∀ q : GR wr.drew none, q.w.cell? ⟨b', o + k * 2, none⟩ = some (.int .i64 x) := fun q => gt_cell (W0 := wr.drew) c0 ⟨q.w, (Below.refl _ wr.drew).grown q.h (Nat.le_refl _) (by simp)⟩
      have q1 : ∀ q : GR wr.drew none, q.w.cell? ⟨b', o + k * 2 + 1, none⟩ = some (.int .i64 y) := fun q => gt_cell (W0 := wr.drew) c1 ⟨q.w, (Below.refl _ wr.drew).grown q.h (Nat.le_refl _) (by simp)⟩
      have q2 : ∀ q : GR wr.drew none, q.w.cell? ⟨b2, o2 + k * 2, none⟩ = some (.int .i64 x) := fun q => gt_cell (W0 := wr.drew) c2 ⟨q.w, (Below.refl _ wr.drew).grown q.h (Nat.le_refl _) (by simp)⟩
      have q3 : ∀ q : GR wr.drew none, q.w.cell? ⟨b2, o2 + k * 2 + 1, none⟩ = some (.int .i64 y) := fun q => gt_cell (W0 := wr.drew) c3 ⟨q.w, (Below.refl _ wr.drew).grown q.h (Nat.le_refl _) (by simp)⟩
      clear hxy c0 c1 c2 c3
      go_wp2
      refine wp_region_mix (none) [0, 1, 2, 3, 4, 5, 6, 7, 8, 9] [] (by kernel_rfl) (by kernel_rfl) ?_
      simp only [pickOps, List.filterMap_cons, List.filterMap_nil, List.getElem?_toArray, List.getElem?_cons_succ, List.getElem?_cons_zero]
      repeat (refine wpQuietG_step (fun K hK => ?_); go_simp; first | (refine hK _ ?_; clear hK K) | (apply Exists.intro; refine ⟨fun _ => ?_, hK _ ?_⟩; (first | (with_reducible exact HE.out _ _ _)); clear hK K))
      refine wpQuietG_nil ?_
      clear q0 q1 q2 q3
      intro W2 hW1 hW2
      replace hW1 := gr_undrew hW1
      replace B := B.grown hW1 B.size (by simp)
      clear hW1 hW2
      go_wp2
      go_roundw
      case rel => exact ⟨k + 1, by omega, by go_num, B⟩
      case measure => first | (simp [intOf]; done) | (simp [intOf]; omega)
    · obtain rfl : k = n := by omega
      go_wp2
      go_ret
      exact ⟨rfl, B⟩

end Go.Proofs.Ytmnnpkmjamhmcab
