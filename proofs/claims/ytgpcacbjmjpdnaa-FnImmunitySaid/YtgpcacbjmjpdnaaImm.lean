/- The immunity: ImmunityOf in the code and in the specification, and the law. -/
import Derived.Test.YtgpcacbjmjpdnaaBal
import Derived.Test.YtgpcacbjmjpdnaaWgt
namespace Go.Proofs.Ytgpcacbjmjpdnaa
open Go.RowKit Go.PlainAid
open Wt (row imm)
set_option maxHeartbeats 800000

set_option maxRecDepth 8000 in
theorem immunityOf_any (n : Nat) (s : ByteArray) (h : TabP n s) : Gives Try.prog 26 #[.string s] (.tuple #[.int .i64 ((imm (Wh.tr (Wt.sv (tb s)) n) n s.size : Int) - 1), .bool true]) := fun w => by
  obtain ⟨f, hf⟩ : ∃ f, Wh.tr (Wt.sv (tb s)) n = f := ⟨_, rfl⟩
  obtain ⟨⟨h1, h2⟩, _, HF, HP⟩ := spec_pack n s h f hf
  have hn6 := h.2.1
  obtain ⟨U, hU⟩ : ∃ U, val s s.size = U := ⟨_, rfl⟩
  rw [hU] at HF HP
  rw [hf]
  obtain ⟨N, hN⟩ : ∃ N, s.size = N := ⟨_, rfl⟩
  rw [hN] at HP h1 h2 ⊢
  clear hU h hf hN
  go_enter Try.func26, Try.ntmps26
  go_wp2_with (go_at_call 46; refine (HF.out _).mono ?_; rintro e w1 ⟨rfl, hb1⟩)
  go_wp2_with fail
  refine (HP.out _).mono ?_
  rintro e w2 ⟨G, rfl, hown, hb2⟩
  have B1 := hb1.alloc hb1.size (.cells #[.int .i64 n, .int .u64 U] 57)
  have HBB := Lib.hid (B1.trans (hb2.mono B1.size))
  have HC : Hid (∀ i, i < N → w2.cell? ⟨G, i, none⟩ = some (.int .i64 (f i))) := fun i hi => (roww_at hown hi).1
  clear hown hb1 hb2 B1
  go_wp2
  go_loop [6, 21] (fun lv kv => ∃ k : Nat, k ≤ N ∧ kv = .int .i64 k ∧ lv = .int .i64 ((imm f n k : Nat) - 1 : Int)) (fun _ kv => N - (intOf kv).toNat)
  case atStart => exact ⟨0, by omega, rfl, by show _ = Value.int .i64 (((n + 1 : Nat) : Int) - 1); congr 1; omega⟩
  case round =>
    obtain ⟨k, hk, rfl, rfl⟩ := hrel
    have hil := Wt.imm_le f n k
    by_cases hlt : k < N
    · have c0 := HC.out k hlt
      have HY : Hid (¬ k = 0 → ¬ f k = 0 → imm f n (k + 1) = if Pop.pcF 64 k < imm f n k then Pop.pcF 64 k else imm f n k) := Wt.imm_yes
      have HX : Hid (k = 0 ∨ f k = 0 → imm f n (k + 1) = imm f n k) := fun e => Wt.imm_no e
      obtain ⟨u, hu2⟩ : ∃ u, f k = u := ⟨_, rfl⟩
      obtain ⟨d, hd⟩ : ∃ d, imm f n k = d := ⟨_, rfl⟩
      rw [hu2] at c0 HY HX
      rw [hd] at HY HX hil ⊢
      clear hu2 hd
      by_cases h0 : k = 0
      · have hc : ((k : Int) != 0) = false := by simp [h0]
        have HX := Lib.hid (HX.out (.inl h0))
        clear h0 HY
        go_wp2
        go_round
        case rel => exact ⟨k + 1, by omega, by go_num, by rw [HX.out]⟩
        case measure => simp [intOf]; omega
      · have hc0 : ((k : Int) != 0) = true := by simp [h0]
        by_cases hz : u = 0
        · have hc : (u != 0) = false := by simp [hz]
          have HX := Lib.hid (HX.out (.inr hz))
          clear hz HY h0
          go_wp2
          go_round
          case rel => exact ⟨k + 1, by omega, by go_num, by rw [HX.out]⟩
          case measure => simp [intOf]; omega
        · have hc : (u != 0) = true := by simp [hz]
          have HX := Lib.hid (HY.out h0 hz)
          have hpx := Pop.pcF_le 64 k
          have HW : Hid (∀ W : World, Calls Try.prog 50 #[.int .i64 k] W fun e w' => e = .returned (.int .i64 (Pop.pcF 64 k)) ∧ W = w') := fun W => weightOf_any k W (by omega)
          obtain ⟨q, hq⟩ : ∃ q, Pop.pcF 64 k = q := ⟨_, rfl⟩
          rw [hq] at HW HX hpx
          have HE : Hid (min ((d : Int) - 1) ((q : Int) - 1) = ((imm f n (k + 1) : Nat) : Int) - 1) := by
            unfold Hid
            rw [HX.out]
            split <;> omega
          clear hz HY hq h0
          go_wp2_with (go_at_call 50; refine (HW.out _).mono ?_; rintro e w3 ⟨rfl, rfl⟩)
          go_round
          case rel => exact ⟨k + 1, by omega, by go_num, by rw [← HE.out]⟩
          case measure => simp [intOf]; omega
    · obtain rfl : k = N := by omega
      go_wp2
      go_ret2
      exact ⟨rfl, HBB.out⟩
end Go.Proofs.Ytgpcacbjmjpdnaa
