/- Slices of fractions of one's own: marked, asked for the marks (laws.markFractionS, heldFractionS). -/
import Derived.Test.YtmnnpkmjamhmcaaFrSumE
import Derived.Test.YtmnnpkmjamhmcaaSSb
namespace Go.Proofs.Ytmnnpkmjamhmcaa
open Go.RowKit Go.PlainAid
set_option maxHeartbeats 1600000

def FS (lo top : Nat) (w : World) (v : Value) (ys : List (Int × Int)) : Prop :=
  (v = .slice none 0 0 ∧ ys = []) ∨ ∃ g cap, v = .slice (some ⟨g, 0, none⟩) ys.length cap ∧ ys.length ≤ cap ∧ lo ≤ g ∧ g < top ∧ FRow w g ys.length ys.length ys
theorem FRow.chg {w w1 : World} {g n k lo hi : Nat} {xs : List (Int × Int)} (h : FRow w g n k xs) (hc : Chg lo hi w w1) (hg : g < w.heap.size) (hne : g < lo ∨ hi ≤ g) : FRow w1 g n k xs := by
  have hb := hc.block g hg (by omega)
  refine ⟨fun i hi => ?_, fun j => (World.frozen?_of_block (a := ⟨g, j, none⟩) hb).trans (h.2 j)⟩
  obtain ⟨x, y, h1, h2, h3⟩ := h.1 i hi
  exact ⟨x, y, (World.cell?_of_block (a := ⟨g, i * 2, none⟩) hb).trans h1, (World.cell?_of_block (a := ⟨g, i * 2 + 1, none⟩) hb).trans h2, h3⟩
theorem FS.chg {lo top lo' hi : Nat} {w w1 : World} {v : Value} {ys : List (Int × Int)} (h : FS lo top w v ys) (hc : Chg lo' hi w w1) (ht : top ≤ w.heap.size) (hne : top ≤ lo' ∨ hi ≤ lo) : FS lo top w1 v ys := by
  rcases h with h | ⟨g, cap, rfl, h1, h2, h3, h4⟩
  · exact .inl h
  · exact .inr ⟨g, cap, rfl, h1, h2, h3, h4.chg hc (by omega) (by omega)⟩
theorem FS.fin {lo top : Nat} {w : World} {v : Value} {ys : List (Int × Int)} (h : FS lo top w v ys) : ∃ a c, v = .slice a ys.length c ∧ FIn w a ys.length ys := by
  rcases h with ⟨rfl, rfl⟩ | ⟨g, cap, rfl, h1, h2, h3, h4⟩
  · exact ⟨none, 0, rfl, rfl, .inl rfl⟩
  · exact ⟨_, cap, rfl, h4.full rfl⟩
/-- the marks from 1 on -/
def fmk (n : Nat) : List (Int × Int) := (List.range n).map fun (i : Nat) => ((1 : Int) + 2 * (i : Int), (2 : Int) + 2 * (i : Int))
theorem fmk_length (n : Nat) : (fmk n).length = n := by simp [fmk]
theorem fmk_at {n i : Nat} (h : i < n) : (fmk n)[i]? = some (1 + 2 * (i : Int), 2 + 2 * (i : Int)) := by simp [fmk, h]
theorem add_two (g k : Nat) : (⟨g, 0, none⟩ : Addr).add (k * 2) = ⟨g, k * 2, none⟩ := by
  unfold Addr.add
  split
  · next h => rw [h]
  · simp
theorem markFS_any (v : Value) (ys : List (Int × Int)) (lo top : Nat) (w : World) (h : FS lo top w v ys) (hn : ys.length ≤ 1000) :
    Calls Try.prog 45 #[v, .int .i64 1] w fun e w' => e = .returned (.int .i64 (1 + 2 * (ys.length : Int))) ∧ FS lo top w' v (fmk ys.length) ∧ Chg lo top w w' := by
  rcases h with ⟨rfl, rfl⟩ | ⟨g, cap, rfl, hcap, hg1, hg2, hc⟩
  · go_enter Try.func45, Try.ntmps45
    go_wp2
    refine wp_loop_rounds 1 ?_
    rw [rounds_succ]
    go_wp2
    go_ret
    exact ⟨by simp, .inl ⟨rfl, rfl⟩, Chg.refl _ _ _⟩
  · have HM : Hid (FRow w g ys.length 0 (fmk ys.length) ∧ w.grownBy w (some g)) := ⟨⟨fun i hi => by obtain ⟨x, y, h1, h2, _⟩ := hc.1 i hi; exact ⟨x, y, h1, h2, fun h => by omega⟩, hc.2⟩, World.grownBy.refl _ _⟩
    obtain ⟨n, hn2⟩ : ∃ n, ys.length = n := ⟨_, rfl⟩
    rw [hn2] at HM hn hcap ⊢
    clear hc hn2
    go_enter Try.func45, Try.ntmps45
    go_wp2
    go_loopw [1, 5] (fun kv iv wr => ∃ j : Nat, j ≤ n ∧ iv = .int .i64 j ∧ kv = .int .i64 (1 + 2 * (j : Int)) ∧ Hid (FRow wr g n j (fmk n) ∧ w.grownBy wr (some g))) (fun _ iv _ => n - (intOf iv).toNat)
    case atStart => exact ⟨0, Nat.zero_le _, rfl, rfl, HM⟩
    case round =>
      obtain ⟨j, hj, rfl, rfl, HJ⟩ := hrel
      clear HM
      by_cases hlt : j < n
      · obtain ⟨x, y, c0, c1, _⟩ := HJ.out.1.1 j hlt
        have f0 := HJ.out.1.2 (j * 2)
        have f1 := HJ.out.1.2 (j * 2 + 1)
        have hadd := add_two g j
        have hk : (1 : Int) + 2 * (j : Int) + 1 = 2 + 2 * (j : Int) := by omega
        have HN : Hid (FRow ((wr.setCell ⟨g, j * 2, none⟩ (.int .i64 (1 + 2 * (j : Int)))).setCell ⟨g, j * 2 + 1, none⟩ (.int .i64 (2 + 2 * (j : Int)))) g n (j + 1) (fmk n) ∧ w.grownBy ((wr.setCell ⟨g, j * 2, none⟩ (.int .i64 (1 + 2 * (j : Int)))).setCell ⟨g, j * 2 + 1, none⟩ (.int .i64 (2 + 2 * (j : Int)))) (some g)) :=
          ⟨HJ.out.1.step hlt (fmk_at hlt), grow_set (grow_set HJ.out.2 _ _) _ _⟩
        clear HJ
        go_wp2
        go_roundw
        case rel => exact ⟨j + 1, by omega, by go_num, by go_num, HN⟩
        case measure => simp [intOf]; omega
      · obtain rfl : j = n := by omega
        go_wp2
        go_ret
        exact ⟨rfl, .inr ⟨g, cap, by rw [fmk_length], by rw [fmk_length]; exact hcap, hg1, hg2, by rw [fmk_length]; exact HJ.out.1⟩, Chg.grown HJ.out.2 (fun q e => by cases e; exact ⟨hg1, hg2⟩)⟩
theorem heldFS_any (v : Value) (n lo top : Nat) (w : World) (h : FS lo top w v (fmk n)) (hn : n ≤ 1000) :
    Calls Try.prog 46 #[v, .int .i64 1] w fun e w' => e = .returned (.int .i64 (1 + 2 * (n : Int))) ∧ w = w' := by
  rcases h with ⟨rfl, h0⟩ | ⟨g, cap, rfl, hcap, hg1, hg2, hc⟩
  · have : n = 0 := by have := congrArg List.length h0; simpa [fmk_length] using this
    subst this
    go_enter Try.func46, Try.ntmps46
    go_wp2
    refine wp_loop_rounds 1 ?_
    rw [rounds_succ]
    go_wp2
    go_ret
    exact ⟨by simp, rfl⟩
  · rw [fmk_length] at hcap hc ⊢
    have HC := Lib.hid hc
    clear hc
    go_enter Try.func46, Try.ntmps46
    go_wp2
    go_loop [1, 5] (fun kv iv => ∃ j : Nat, j ≤ n ∧ iv = .int .i64 j ∧ kv = .int .i64 (1 + 2 * (j : Int))) (fun _ iv => n - (intOf iv).toNat)
    case atStart => exact ⟨0, Nat.zero_le _, rfl, rfl⟩
    case round =>
      obtain ⟨j, hj, rfl, rfl⟩ := hrel
      by_cases hlt : j < n
      · obtain ⟨x, y, c0, c1, hxy⟩ := HC.out.1 j hlt
        have hxy2 := hxy hlt
        rw [fmk_at hlt] at hxy2
        cases hxy2
        have hadd := add_two g j
        have hk : (1 : Int) + 2 * (j : Int) + 1 = 2 + 2 * (j : Int) := by omega
        have e1 : ((1 + 2 * (j : Int)) != (1 + 2 * (j : Int))) = false := by simp
        have e2 : ((2 + 2 * (j : Int)) != (2 + 2 * (j : Int))) = false := by simp
        clear hxy
        go_wp2
        go_round
        case rel => exact ⟨j + 1, by omega, by go_num, by go_num⟩
        case measure => simp [intOf]; omega
      · obtain rfl : j = n := by omega
        go_wp2
        go_ret
        exact ⟨rfl, rfl⟩
end Go.Proofs.Ytmnnpkmjamhmcaa
