/- The immunity: ImmunityOf in the code and in the specification, and the law. -/
import Derived.Test.YtgpcacbjmjpdnabBal
import Derived.Test.YtgpcacbjmjpdnabWgt
namespace Go.Proofs.Ytgpcacbjmjpdnab
open Go.RowKit Go.PlainAid
open Wt (row imm)
set_option maxHeartbeats 800000

set_option maxRecDepth 8000 in
theorem specImmunityOf_any (n : Nat) (s : ByteArray) (h : TabP n s) : Gives Try.prog 15 #[.string s] (.tuple #[.int .i64 ((imm (Wh.tr (Wt.sv (tb s)) n) n s.size : Int) - 1), .bool true]) := fun w => by
  obtain ⟨f, hf⟩ : ∃ f, Wh.tr (Wt.sv (tb s)) n = f := ⟨_, rfl⟩
  obtain ⟨⟨h1, h2⟩, _, _, _⟩ := spec_pack n s h f hf
  have hn6 := h.2.1
  have HF : Hid (∀ W : World, Calls Try.prog 41 #[.string s] W fun e w' => e = .returned (.bool true) ∧ W = w') := fun W => l04Table_yes n s W h
  have HI : Hid (∀ W : World, Calls Try.prog 45 #[.string s] W fun e w' => e = .returned (.int .i64 n) ∧ W = w') := fun W => inputs_yes n s W h
  have HN : Hid (∀ W : World, Calls Try.prog 42 #[.string s] W fun e w' => ∃ v, e = .returned v ∧ w'.ownsRow W.heap.size 2 1 v s.size ((row f s.size).map (Value.int .i64)) ∧ Below W.heap.size W w') := fun W => by
    have := l04Spectrum_any n s W h
    rwa [hf] at this
  rw [hf]
  obtain ⟨N, hN⟩ : ∃ N, s.size = N := ⟨_, rfl⟩
  rw [hN] at HN h1 h2 ⊢
  clear hf h hN
  go_enter Try.func15, Try.ntmps15
  go_wp2_with (go_at_call 41; refine (HF.out _).mono ?_; rintro e w1 ⟨rfl, rfl⟩)
  refine (HN.out _).mono ?_
  rintro e w2 ⟨v, rfl, hown, hb2⟩
  obtain ⟨G, cap, rfl, hcap⟩ := row_some hown (by omega)
  have HC : Hid (∀ i, i < N → w2.cell? ⟨G, i, none⟩ = some (.int .i64 (f i))) := fun i hi => (roww_at hown hi).1
  have HBB := Lib.hid hb2
  clear hown hb2
  go_wp2_with (go_at_call 45; refine (HI.out _).mono ?_; rintro e w3 ⟨rfl, rfl⟩)
  go_loop [5, 6] (fun lv kv => ∃ k : Nat, 1 ≤ k ∧ k ≤ N ∧ kv = .int .i64 k ∧ lv = .int .i64 (imm f n k : Nat)) (fun _ kv => N - (intOf kv).toNat)
  case atStart => exact ⟨1, by omega, by omega, rfl, by rw [Wt.imm_one]; rfl⟩
  case round =>
    obtain ⟨k, hk1, hk, rfl, rfl⟩ := hrel
    have hil := Wt.imm_le f n k
    by_cases hlt : k < N
    · have c0 := HC.out k hlt
      have HY : Hid (¬ f k = 0 → imm f n (k + 1) = if Pop.pcF 64 k < imm f n k then Pop.pcF 64 k else imm f n k) := Wt.imm_yes (by omega)
      have HX : Hid (f k = 0 → imm f n (k + 1) = imm f n k) := fun e => Wt.imm_no (.inr e)
      obtain ⟨u, hu2⟩ : ∃ u, f k = u := ⟨_, rfl⟩
      obtain ⟨d, hd⟩ : ∃ d, imm f n k = d := ⟨_, rfl⟩
      rw [hu2] at c0 HY HX
      rw [hd] at HY HX hil ⊢
      clear hu2 hd
      by_cases hz : u = 0
      · have hc : (u != 0) = false := by simp [hz]
        have HX := Lib.hid (HX.out hz)
        clear hz HY
        go_wp2
        go_round
        case rel => exact ⟨k + 1, by omega, by omega, by go_num, by rw [HX.out]⟩
        case measure => simp [intOf]; omega
      · have hc : (u != 0) = true := by simp [hz]
        have HX := Lib.hid (HY.out hz)
        have hpx := Pop.pcF_le 64 k
        have HW : Hid (∀ W : World, Calls Try.prog 47 #[.int .i64 k] W fun e w' => e = .returned (.int .i64 (Pop.pcF 64 k)) ∧ W = w') := fun W => l04Weight_any k W (by omega)
        obtain ⟨q, hq⟩ : ∃ q, Pop.pcF 64 k = q := ⟨_, rfl⟩
        rw [hq] at HW HX hpx
        have HM : Hid (∀ W : World, Calls Try.prog 46 #[.int .i64 d, .int .i64 q] W fun e w' => e = .returned (.int .i64 (imm f n (k + 1) : Nat)) ∧ W = w') := fun W => by
          have h0 := l00MinT_any d q W
          have e : (if (d : Int) < q then (d : Int) else q) = (imm f n (k + 1) : Nat) := by
            rw [HX.out]
            split <;> split <;> omega
          rwa [e] at h0
        clear hz HY hq
        go_wp2_with (first | (go_at_call 47; refine (HW.out _).mono ?_; rintro e w3 ⟨rfl, rfl⟩) | (go_at_call 46; refine (HM.out _).mono ?_; rintro e w3 ⟨rfl, rfl⟩))
        go_round
        case rel => exact ⟨k + 1, by omega, by omega, by go_num, rfl⟩
        case measure => simp [intOf]; omega
    · obtain rfl : k = N := by omega
      go_wp2
      go_ret2
      exact ⟨rfl, HBB.out⟩
set_option maxRecDepth 8000 in
theorem immunityOf_any (n : Nat) (s : ByteArray) (h : TabP n s) : Gives Try.prog 16 #[.string s] (.tuple #[.int .i64 ((imm (Wh.tr (Wt.sv (tb s)) n) n s.size : Int) - 1), .bool true]) := fun w => by
  obtain ⟨f, hf⟩ : ∃ f, Wh.tr (Wt.sv (tb s)) n = f := ⟨_, rfl⟩
  obtain ⟨⟨h1, h2⟩, _, HF, HP⟩ := spec_pack n s h f hf
  have hn6 := h.2.1
  obtain ⟨U, hU⟩ : ∃ U, val s s.size = U := ⟨_, rfl⟩
  rw [hU] at HF HP
  rw [hf]
  obtain ⟨N, hN⟩ : ∃ N, s.size = N := ⟨_, rfl⟩
  rw [hN] at HP h1 h2 ⊢
  clear hU h hf hN
  go_enter Try.func16, Try.ntmps16
  go_wp2_with (go_at_call 43; refine (HF.out _).mono ?_; rintro e w1 ⟨rfl, hb1⟩)
  go_wp2_with fail
  refine (HP.out _).mono ?_
  rintro e w2 ⟨G, rfl, hown, hb2⟩
  have B1 := hb1.alloc hb1.size (.cells #[.int .i64 n, .int .u64 U] 54)
  have HBB := Lib.hid (B1.trans (hb2.mono B1.size))
  have HC : Hid (∀ i, i < N → w2.cell? ⟨G, i, none⟩ = some (.int .i64 (f i))) := fun i hi => (roww_at hown hi).1
  clear hown hb1 hb2 B1
  go_wp2
  go_loop [6, 21] (fun lv kv => ∃ k : Nat, k ≤ N ∧ kv = .int .i64 k ∧ lv = .int .i64 ((imm f n k : Nat) - 1 : Int)) (fun _ kv => N - (intOf kv).toNat)
  case atStart => exact ⟨0, by omega, rfl, by show _ = Value.int .i64 (((n + 1 : Nat) : Int) - 1); congr 1; omega⟩
  case round =>
    obtain ⟨k, hk, rfl, rfl⟩ := hrel
    have hil := Wt.imm_le f n k
    by_cases hlt : k < N
    · have c0 := HC.out k hlt
      have HY : Hid (¬ k = 0 → ¬ f k = 0 → imm f n (k + 1) = if Pop.pcF 64 k < imm f n k then Pop.pcF 64 k else imm f n k) := Wt.imm_yes
      have HX : Hid (k = 0 ∨ f k = 0 → imm f n (k + 1) = imm f n k) := fun e => Wt.imm_no e
      obtain ⟨u, hu2⟩ : ∃ u, f k = u := ⟨_, rfl⟩
      obtain ⟨d, hd⟩ : ∃ d, imm f n k = d := ⟨_, rfl⟩
      rw [hu2] at c0 HY HX
      rw [hd] at HY HX hil ⊢
      clear hu2 hd
      by_cases h0 : k = 0
      · have hc : ((k : Int) != 0) = false := by simp [h0]
        have HX := Lib.hid (HX.out (.inl h0))
        clear h0 HY
        go_wp2
        go_round
        case rel => exact ⟨k + 1, by omega, by go_num, by rw [HX.out]⟩
        case measure => simp [intOf]; omega
      · have hc0 : ((k : Int) != 0) = true := by simp [h0]
        by_cases hz : u = 0
        · have hc : (u != 0) = false := by simp [hz]
          have HX := Lib.hid (HX.out (.inr hz))
          clear hz HY h0
          go_wp2
          go_round
          case rel => exact ⟨k + 1, by omega, by go_num, by rw [HX.out]⟩
          case measure => simp [intOf]; omega
        · have hc : (u != 0) = true := by simp [hz]
          have HX := Lib.hid (HY.out h0 hz)
          have hpx := Pop.pcF_le 64 k
          have HW : Hid (∀ W : World, Calls Try.prog 48 #[.int .i64 k] W fun e w' => e = .returned (.int .i64 (Pop.pcF 64 k)) ∧ W = w') := fun W => weightOf_any k W (by omega)
          obtain ⟨q, hq⟩ : ∃ q, Pop.pcF 64 k = q := ⟨_, rfl⟩
          rw [hq] at HW HX hpx
          have HE : Hid (min ((d : Int) - 1) ((q : Int) - 1) = ((imm f n (k + 1) : Nat) : Int) - 1) := by
            unfold Hid
            rw [HX.out]
            split <;> omega
          clear hz HY hq h0
          go_wp2_with (go_at_call 48; refine (HW.out _).mono ?_; rintro e w3 ⟨rfl, rfl⟩)
          go_round
          case rel => exact ⟨k + 1, by omega, by go_num, by rw [← HE.out]⟩
          case measure => simp [intOf]; omega
    · obtain rfl : k = N := by omega
      go_wp2
      go_ret2
      exact ⟨rfl, HBB.out⟩
theorem lawImmunityOf (s : ByteArray) (w : World) (hm : s.size ≤ maxLen) :
    Calls Try.prog 4 #[.string s] w fun e w' => e = .returned (.bool true) ∧ Below w.heap.size w w' := by
  apply lawImmunityOf_all s w hm
  by_cases h : ∃ n, TabP n s
  · obtain ⟨n, h⟩ := h
    exact ⟨_, true, specImmunityOf_any n s h, immunityOf_any n s h⟩
  · exact ⟨_, false, gives_noV fun w => specImmunityOf_no s w hm h, fun W => implImmunityOf_no s W hm h⟩
end Go.Proofs.Ytgpcacbjmjpdnab
