/- The states that agree best, where a register or the bits are none; the law FnExactBestStates. -/
import Derived.Test.YtgpcacbjmjpdnabBestS
import Derived.Test.YtgpcacbjmjpdnabReg
namespace Go.Proofs.Ytgpcacbjmjpdnab
open Go.RowKit Go.PlainAid
open Wt (row)
set_option maxHeartbeats 1000000

theorem specBest_no (x y : Int) (t : ByteArray) (hm : t.size ≤ maxLen) (h : ¬ (RegP x y ∧ x ≤ 10 ∧ BitsP t)) : GivesBest 38 #[.agg #[.int .i64 x, .int .i64 y], .string t] [] 0 false := fun w => by
  have A0 := P2.new w (.int .i64 x) (.int .i64 y) 48
  have B0 := (Below.refl w.heap.size w).alloc (Nat.le_refl _) (.cells #[.int .i64 x, .int .i64 y] 48)
  have HAB := Lib.hid (And.intro A0 B0)
  clear A0 B0
  obtain ⟨b, hb⟩ : ∃ b, decide (RegP x y) = b := ⟨_, rfl⟩
  have HIs : Hid (∀ V : World, P2 V w.heap.size (.int .i64 x) (.int .i64 y) → Calls Try.prog 67 #[.pointer (some ⟨w.heap.size, 0, none⟩)] V fun e w' => e = .returned (.bool b) ∧ ∃ m, w' = V.drewN m) := fun V h => l02Is_b _ _ _ b V h.1.1 h.1.2 hb
  cases b with
  | true =>
    have hR : RegP x y := of_decide_eq_true hb
    by_cases hx : x ≤ 10
    · have HB : Hid (∀ V : World, Calls Try.prog 56 #[.string t] V fun e w' => e = .returned (.bool false) ∧ V = w') := fun V => l01Bits_no t V hm (fun q => h ⟨hR, hx, q⟩)
      have hd : decide (10 < x) = false := decide_eq_false (by omega)
      clear h hR hb
      go_enter Try.func38, Try.ntmps38
      go_wp2_with fail
      refine (HIs.out _ HAB.out.1).mono ?_
      rintro e w1 ⟨rfl, m1, hw1⟩
      have A1 : P2 w1 w.heap.size (.int .i64 x) (.int .i64 y) := by rw [hw1]; exact HAB.out.1
      have HB1 : Hid (Below w.heap.size w w1) := by unfold Hid; rw [hw1]; exact below_drewN HAB.out.2 m1
      obtain ⟨⟨c0, c1⟩, _⟩ := A1
      clear hw1
      go_wp2_with fail
      refine (HB.out _).mono ?_
      rintro e w2 ⟨rfl, rfl⟩
      go_wp2
      go_ret3
      exact ⟨_, rfl, .inl ⟨rfl, rfl⟩, HB1.out⟩
    · have hd : decide (10 < x) = true := decide_eq_true (by omega)
      clear h hR hb
      go_enter Try.func38, Try.ntmps38
      go_wp2_with fail
      refine (HIs.out _ HAB.out.1).mono ?_
      rintro e w1 ⟨rfl, m1, hw1⟩
      have A1 : P2 w1 w.heap.size (.int .i64 x) (.int .i64 y) := by rw [hw1]; exact HAB.out.1
      have HB1 : Hid (Below w.heap.size w w1) := by unfold Hid; rw [hw1]; exact below_drewN HAB.out.2 m1
      obtain ⟨⟨c0, c1⟩, _⟩ := A1
      clear hw1
      go_wp2
      go_ret3
      exact ⟨_, rfl, .inl ⟨rfl, rfl⟩, HB1.out⟩
  | false =>
    clear h hb
    go_enter Try.func38, Try.ntmps38
    go_wp2_with fail
    refine (HIs.out _ HAB.out.1).mono ?_
    rintro e w1 ⟨rfl, m1, hw1⟩
    have HB1 : Hid (Below w.heap.size w w1) := by unfold Hid; rw [hw1]; exact below_drewN HAB.out.2 m1
    clear hw1
    go_wp2
    go_ret3
    exact ⟨_, rfl, .inl ⟨rfl, rfl⟩, HB1.out⟩
theorem lawBest_core (x y : Int) (t : ByteArray) (w : World) (hl : t.size ≤ 1048576) (xs : List Int) (m : Int) (ok : Bool) (hn : xs.length ≤ 1024) (HS : Hid (GivesBest 38 #[.agg #[.int .i64 x, .int .i64 y], .string t] xs m ok)) (HI : Hid (GivesBest 40 #[.agg #[.int .i64 x, .int .i64 y], .string t] xs m ok)) :
    Calls Try.prog 12 #[.agg #[.int .i64 x, .int .i64 y], .string t] w fun e w' => e = .returned (.bool true) ∧ Below w.heap.size w w' := by
  have hok : (ok != ok) = false := by simp
  have hmm : (m != m) = false := by simp
  have hq : (((1 : Int) + (xs.length : Int)) != ((1 : Int) + (xs.length : Int))) = false := by simp
  have HAB := Lib.hid (And.intro (P2.new w (.int .i64 x) (.int .i64 y) 45) ((Below.refl w.heap.size w).alloc (Nat.le_refl _) (.cells #[.int .i64 x, .int .i64 y] 45)))
  go_enter Try.func12, Try.ntmps12
  go_wp2_with fail
  refine (toReg_any _ _ _).mono ?_
  rintro e w1 ⟨rfl, hb⟩
  have HA := Lib.hid (And.intro (HAB.out.1.far hb) (HAB.out.2.trans (hb.mono HAB.out.2.size)))
  clear hb HAB
  go_wp2_with fail
  refine (HS.out _).mono ?_
  rintro e w2 ⟨a, rfl, ha, hb2⟩
  obtain ⟨⟨c0, c1⟩, _⟩ := HA.out.1.far hb2
  have H2 := Lib.hid (And.intro ha hb2)
  clear ha hb2
  go_wp2_with fail
  refine (toReg_any _ _ _).mono ?_
  rintro e w3 ⟨rfl, hb⟩
  have H3 : Hid (SL w1.heap.size w3.heap.size w3 a xs ∧ Below w1.heap.size w1 w3) := Lib.hid ⟨(H2.out.1.below hb).up hb.size, H2.out.2.trans (hb.mono H2.out.2.size)⟩
  clear hb c0 c1 H2
  go_wp2_with fail
  refine (HI.out _).mono ?_
  rintro e w4 ⟨b, rfl, hb, hb4⟩
  have H4 : Hid (SL w1.heap.size w3.heap.size w4 a xs ∧ SL w3.heap.size w4.heap.size w4 b xs ∧ Below w1.heap.size w1 w4) := Lib.hid ⟨H3.out.1.below hb4, hb, H3.out.2.trans (hb4.mono H3.out.2.size)⟩
  have z1 := H3.out.2.size
  have z2 := hb4.size
  clear hb hb4 H3
  go_wp2_with fail
  refine (eq64_yes _ _ xs _ _ _ _ _ H4.out.2.1 H4.out.1 (by omega)).mono ?_
  rintro e w5 ⟨rfl, n3, rfl⟩
  go_wp2_with fail
  refine (mark64_any _ xs _ _ 1 _ (H4.out.2.1.drewN n3) (by omega) (by omega) (by omega)).mono ?_
  rintro e w6 ⟨rfl, hm, hg⟩
  have K := Lib.hid (Kept.mk0 H4.out.2.2 z1 z2 H4.out.1 H4.out.2.1 hm hg)
  clear hm hg z2 H4
  go_wp2_with fail
  refine (held64_any _ _ _ _ 1 _ K.out.sb (by omega) (by omega) (by omega)).mono ?_
  rintro e w6 ⟨rfl, rfl⟩
  obtain ⟨⟨c0, c1⟩, _⟩ := HA.out.1.far K.out.bel
  go_wp2_with fail
  refine (toReg_any _ _ _).mono ?_
  rintro e w7 ⟨rfl, hb⟩
  have K2 := Lib.hid (K.out.next hb z1)
  clear K hb c0 c1
  go_wp2_with fail
  refine (HI.out _).mono ?_
  rintro e w8 ⟨c, rfl, hc, hb5⟩
  have K5 := Lib.hid (K2.out.next hb5 z1)
  have HC := Lib.hid hc
  clear K2 hb5 hc
  go_wp2_with fail
  refine (eq64_yes _ _ xs _ _ _ _ _ HC.out K5.out.sa (by omega)).mono ?_
  rintro e w9 ⟨rfl, n6, rfl⟩
  have K6 := Lib.hid (K5.out.drewN n6)
  clear K5 HC
  go_wp2_with fail
  refine (held64_any _ _ _ _ 1 _ K6.out.sb (by omega) (by omega) (by omega)).mono ?_
  rintro e w7 ⟨rfl, rfl⟩
  go_wp2
  go_ret
  exact ⟨rfl, HA.out.2.trans (K6.out.bel.mono HA.out.2.size)⟩
theorem lawBest_all (x y : Int) (t : ByteArray) (w : World) (hm : t.size ≤ maxLen) :
    Calls Try.prog 12 #[.agg #[.int .i64 x, .int .i64 y], .string t] w fun e w' => e = .returned (.bool true) ∧ Below w.heap.size w w' := by
  by_cases hl : t.size ≤ 1048576
  · by_cases h : RegP x y ∧ x ≤ 10 ∧ BitsP t
    · obtain ⟨hR, hx, ht⟩ := h
      obtain ⟨W, rfl, hW6⟩ := width_of hR.1
      obtain ⟨T, rfl, hT, _⟩ := state_of hW6 hR.2
      have hW : W ≤ 10 := by omega
      have hp := pow10 hW
      exact lawBest_core W T t w hl _ _ true (by have := best_length (agF W T t) (2 ^ W); omega) (specBest_yes W T t hW hT ht hR) (bestStates_yes W T t hW hT ht hR)
    · exact lawBest_core x y t w hl [] 0 false (by simp) (specBest_no x y t hm h) (bestStates_no x y t hm h)
  · unfold maxLen at hm
    go_enter Try.func12, Try.ntmps12
    go_wp2
    go_ret
    exact ⟨rfl, (Below.refl _ _).alloc (Nat.le_refl _) _⟩
end Go.Proofs.Ytgpcacbjmjpdnab
