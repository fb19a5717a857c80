/- A number as a text of bits in the laws: laws.r8Text. -/
import Derived.Test.YtamedggnkbhgeaaDigits
namespace Go.Proofs.Ytamedggnkbhgeaa
open Go.RowKit Go.PlainAid
set_option maxHeartbeats 400000
set_option maxRecDepth 10000

theorem r8Text_any (n : Int) (W : Nat) (w : World) (h0 : 0 ≤ n) (h1 : n ≤ 1000000) (hW : W ≤ 60) :
    Calls Try.prog 16 #[.int .i64 n, .int .i64 W] w fun e w' => e = .returned (.string (strOfNums (low n W))) ∧ Below w.heap.size w w' := by
  obtain ⟨i0, hi, hz0, hz1, hz2⟩ := info_parts Try.info5
  go_enter Try.func16, Try.ntmps16
  go_wp2
  go_loopw [5, 6] (fun v i wr => ∃ k : Nat, k ≤ W ∧ i = .int .i64 ((W : Int) - 1 - k) ∧ wr.ownsRow w.heap.size 5 1 v k ((top n W k).map (Value.int .u8)) ∧ Below w.heap.size w wr) (fun _ i _ => (intOf i + 1).toNat)
  case atStart => exact ⟨0, Nat.zero_le _, by simp, ownsRow_empty w _ _, (Below.refl _ _).alloc (Nat.le_refl _) _⟩
  case round =>
    obtain ⟨k, hk, rfl, hown, hbel⟩ := hrel
    by_cases hlt : k < W
    · obtain ⟨q, hq⟩ : ∃ q : Int, n / 2 ^ (W - 1 - k) = q := ⟨_, rfl⟩
      have hq2 : n / 2 ^ ((W : Int) - 1 - (k : Int)).toNat = q := by rw [← hq]; congr 2; omega
      have hq0 : 0 ≤ q := by rw [← hq]; exact Int.ediv_nonneg h0 (Int.le_of_lt (Int.pow_pos (by decide)))
      have hq1 : q ≤ 1000000 := by
        rw [← hq]
        exact Int.le_trans (Int.ediv_le_self _ h0) h1
      have hb := and_one_i64 q
      have HT : Hid (top n W (k + 1) = top n W k ++ [48 + q % 2]) := by
        unfold Hid
        rw [top_succ, ← hq]
        rfl
      go_wp2_with (at_builtin; refine wpList_append_own _ rfl _ _ 22 rfl w.heap.size 5 i0 (.int .u8 0) 1 1 Try.underlying22 hi hz0 hz1 hz2 rfl (by decide) _ _ _ rfl (hown.alloc _) ⟨wr.heap.size, 0, none⟩ 1 1 [.int .u8 (48 + q % 2)] rfl rfl (cell_one_new _ _ _) (by intro u hu; simp at hu; subst hu; rfl) (by unfold maxLen; omega) (by omega) (by have := hbel.size; simp; omega) ?_; intro v1 w1 hown1 hgrow _)
      have hb1 : Below w.heap.size w w1 := (hbel.alloc hbel.size _).grown hgrow (by have := hbel.size; simp; omega) (own_block hown)
      have HO : Hid (w1.ownsRow w.heap.size 5 1 v1 (k + 1) ((top n W (k + 1)).map (Value.int .u8))) := by
        unfold Hid
        rw [HT.out]
        simpa using hown1
      clear hown1 hgrow hown hbel hq hq2 hb hq0 hq1
      go_wp2
      go_roundw
      case rel => exact ⟨k + 1, by omega, by go_num, HO.out, hb1⟩
      case measure => simp [intOf]; omega
    · obtain rfl : k = W := by omega
      rw [top_all] at hown
      have hcv := conv_own (P := Try.prog) (dst := 9) Try.underlying22 Try.underlying5 Try.underlying9 hown
      clear hown
      go_wp2
      go_ret
      exact ⟨rfl, hbel⟩

end Go.Proofs.Ytamedggnkbhgeaa
