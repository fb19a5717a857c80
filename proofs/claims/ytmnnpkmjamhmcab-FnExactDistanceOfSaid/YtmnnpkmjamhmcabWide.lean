/- Numbers of two words in two's complement: impl.sizeOf, impl.multiply, and the methods of impl.wide. -/
import Derived.Test.YtmnnpkmjamhmcabMul64
import Derived.Test.YtmnnpkmjamhmcabMake
import Derived.Laws.Externs
namespace Go.Proofs.Ytmnnpkmjamhmcab
open Go.RowKit Go.PlainAid
set_option maxHeartbeats 400000

theorem sizeOf_any (n : Int) (w : World) (h1 : -9223372036854775807 ≤ n) (h2 : n ≤ 9223372036854775807) :
    Calls Try.prog 200 #[.int .i64 n] w fun e w' => e = .returned (.int .u64 (n.natAbs : Nat)) ∧ w = w' := by
  by_cases h : n < 0
  · have HE : Hid (IntKind.u64.wrap (-IntKind.u64.wrap n) = (n.natAbs : Nat)) := by unfold Hid; rw [IntKind.wrap_u64, IntKind.wrap_u64]; omega
    go_enter Try.func200, Try.ntmps200
    go_wp2
    go_ret
    exact ⟨by rw [← HE.out]; rfl, rfl⟩
  · have HE : Hid (n = (n.natAbs : Nat)) := by unfold Hid; omega
    go_enter Try.func200, Try.ntmps200
    go_wp2
    go_ret
    exact ⟨by rw [← HE.out]; rfl, rfl⟩

theorem add64 (x y c : Int) (hx : 0 ≤ x) (hy : 0 ≤ y) (hc0 : 0 ≤ c) (hc : c ≤ 1) : ∃ s k : Int, (∀ w : World, (callFunc 192 #[.int .u64 x, .int .u64 y, .int .u64 c]).run Try.prog w = .ok (.value (.tuple #[.int .u64 s, .int .u64 k])) w) ∧ Hid (s = (x + y + c) % 18446744073709551616) ∧ Hid (k = (x + y + c) / 18446744073709551616) := by
  refine ⟨_, _, fun w => ?_, rfl, rfl⟩
  rw [run_callFunc_extern Try.func192 (by kernel_rfl) (by kernel_rfl) (by kernel_rfl) (e := add64Entry) (by kernel_rfl), run_add64 x y c hx hy hc0 hc]
  rfl

theorem plus_any (Y Z h1 l1 h2 l2 : Int) (w : World) (e1 : Hid (h1 = hiU Y)) (e2 : Hid (l1 = loU Y)) (e3 : Hid (h2 = hiU Z)) (e4 : Hid (l2 = loU Z)) :
    Calls Try.prog 148 #[.agg #[.int .u64 h1, .int .u64 l1], .agg #[.int .u64 h2, .int .u64 l2]] w fun e w' => e = .returned (.agg #[.int .u64 (hiU (Y + Z)), .int .u64 (loU (Y + Z))]) ∧ Below w.heap.size w w' := by
  have a1 : 0 ≤ h1 ∧ h1 ≤ 18446744073709551615 := by have := hiU_in Y; rw [e1.out]; exact this
  have a2 : 0 ≤ l1 ∧ l1 ≤ 18446744073709551615 := by have := loU_in Y; rw [e2.out]; exact this
  have a3 : 0 ≤ h2 ∧ h2 ≤ 18446744073709551615 := by have := hiU_in Z; rw [e3.out]; exact this
  have a4 : 0 ≤ l2 ∧ l2 ≤ 18446744073709551615 := by have := loU_in Z; rw [e4.out]; exact this
  obtain ⟨s, k, hrun, hs, hk⟩ := add64 l1 l2 0 a2.1 a4.1 (by omega) (by omega)
  have kb : 0 ≤ k ∧ k ≤ 1 := by have := hk.out; omega
  obtain ⟨s2, k2, hrun2, hs2, hk2⟩ := add64 h1 h2 k a1.1 a3.1 kb.1 kb.2
  have HH : Hid (hiU (Y + Z) = s2) := by
    have q1 := e1.out; have q2 := e2.out; have q3 := e3.out; have q4 := e4.out; have q5 := hs2.out; have q6 := hk.out
    unfold hiU at q1 q3; unfold loU at q2 q4; unfold Hid hiU; omega
  have HL : Hid (loU (Y + Z) = s) := by
    have q2 := e2.out; have q4 := e4.out; have q5 := hs.out
    unfold loU at q2 q4; unfold Hid loU; omega
  go_enter Try.func148, Try.ntmps148
  go_wp2
  go_returns
  exact ⟨by rw [HH.out, HL.out], by go_grown⟩

theorem not_u64 (x : Int) (h0 : 0 ≤ x) (h1 : x ≤ 18446744073709551615) : bits .xor .u64 IntKind.u64.max x = 18446744073709551615 - x := by
  obtain ⟨X, rfl⟩ := Int.eq_ofNat_of_zero_le h0
  have e : BitVec.ofInt 64 IntKind.u64.max = BitVec.allOnes 64 := by decide
  show IntKind.u64.wrap ((BitVec.ofInt 64 IntKind.u64.max ^^^ BitVec.ofInt 64 (X : Int)).toNat : Nat) = _
  rw [e, BitVec.allOnes_xor, BitVec.toNat_not, BitVec.ofInt_natCast, BitVec.toNat_ofNat, Nat.mod_eq_of_lt (by omega), IntKind.wrap_u64]
  omega

theorem negated_any (z h l : Int) (w : World) (e1 : Hid (h = hiU z)) (e2 : Hid (l = loU z)) :
    Calls Try.prog 201 #[.agg #[.int .u64 h, .int .u64 l]] w fun e w' => e = .returned (.agg #[.int .u64 (hiU (-z)), .int .u64 (loU (-z))]) ∧ Below w.heap.size w w' := by
  have a1 : 0 ≤ h ∧ h ≤ 18446744073709551615 := by have := hiU_in z; rw [e1.out]; exact this
  have a2 : 0 ≤ l ∧ l ≤ 18446744073709551615 := by have := loU_in z; rw [e2.out]; exact this
  have n1 : bits .xor .u64 IntKind.u64.max h = 18446744073709551615 - h := not_u64 h a1.1 a1.2
  have n2 : bits .xor .u64 IntKind.u64.max l = 18446744073709551615 - l := not_u64 l a2.1 a2.2
  have X1 : Hid (18446744073709551615 - h = hiU (-1 - z)) := by have := e1.out; unfold hiU at this; unfold Hid hiU; omega
  have X2 : Hid (18446744073709551615 - l = loU (-1 - z)) := by have := e2.out; unfold loU at this; unfold Hid loU; omega
  have Y1 : Hid (0 = hiU 1) := by unfold Hid; decide
  have Y2 : Hid (1 = loU 1) := by unfold Hid; decide
  have E : Hid (-1 - z + 1 = -z) := by unfold Hid; omega
  go_enter Try.func201, Try.ntmps201
  go_wp2_with fail
  refine (plus_any (-1 - z) 1 _ _ _ _ _ X1 X2 Y1 Y2).mono ?_
  rintro e w1 ⟨rfl, hb⟩
  rw [E.out]
  obtain ⟨bb, zz, c0, c1, f0, f1⟩ := keepW (b := w.heap.size + 1) (x := .int .u64 0) (y := .int .u64 0) (((Below.refl w.heap.size w).alloc (Nat.le_refl _) _).alloc (by simp) _) hb (by omega) (by simp) (by simp [go_sem]) (by simp [go_sem]) (by simp [go_sem]) (by simp [go_sem])
  clear hb
  go_wp2
  exact bodyPost_ret (v := .agg #[.int .u64 (hiU (-z)), .int .u64 (loU (-z))]) (by simp [results, Try.results201, go_sem, c0, c1]) rfl ⟨rfl, (bb.setCell (by simp) _).setCell (by simp) _⟩

theorem multiply_any (a b : Int) (w : World) (a1 : -9223372036854775807 ≤ a) (a2 : a ≤ 9223372036854775807) (b1 : -9223372036854775807 ≤ b) (b2 : b ≤ 9223372036854775807) :
    Calls Try.prog 147 #[.int .i64 a, .int .i64 b] w fun e w' => e = .returned (.agg #[.int .u64 (hiU (a * b)), .int .u64 (loU (a * b))]) ∧ Below w.heap.size w w' := by
  obtain ⟨A, hA⟩ : ∃ A : Int, (a.natAbs : Nat) = A := ⟨_, rfl⟩
  obtain ⟨B, hB⟩ : ∃ B : Int, (b.natAbs : Nat) = B := ⟨_, rfl⟩
  have hA2 : 0 ≤ A ∧ A ≤ 18446744073709551615 := by omega
  have hB2 : 0 ≤ B ∧ B ≤ 18446744073709551615 := by omega
  by_cases ha : a < 0
  · have da : decide (a < 0) = true := by simp [ha]
    by_cases hb : b < 0
    · have db : decide (b < 0) = true := by simp [hb]
      have E : Hid (a * b = A * B) := by
        have x1 : a = -A := by omega
        have x2 : b = -B := by omega
        unfold Hid
        rw [x1, x2, Int.neg_mul_neg]
      go_enter Try.func147, Try.ntmps147
      go_wp2_with (first | (go_at_call 200; refine (sizeOf_any _ _ (by omega) (by omega)).mono ?_; rintro e w' ⟨rfl, rfl⟩) | (go_at_call 196; refine (mul64_any A B _ hA2.1 hA2.2 hB2.1 hB2.2).mono ?_; rintro e w' ⟨rfl, rfl⟩))
      go_returns
      exact ⟨by rw [E.out], by go_grown⟩
    · have db : decide (b < 0) = false := by simp; omega
      have E : Hid (a * b = -(A * B)) := by
        have x1 : a = -A := by omega
        have x2 : b = B := by omega
        unfold Hid
        rw [x1, x2, Int.neg_mul]
      go_enter Try.func147, Try.ntmps147
      go_wp2_with (first | (go_at_call 200; refine (sizeOf_any _ _ (by omega) (by omega)).mono ?_; rintro e w' ⟨rfl, rfl⟩) | (go_at_call 196; refine (mul64_any A B _ hA2.1 hA2.2 hB2.1 hB2.2).mono ?_; rintro e w' ⟨rfl, rfl⟩) | (go_at_call 201; refine (negated_any (A * B) _ _ _ rfl rfl).mono ?_; rintro e w1 ⟨rfl, hb⟩; obtain ⟨bb, zz, c0, c1, f0, f1⟩ := keepW (b := w.heap.size) (x := .int .u64 0) (y := .int .u64 0) ((Below.refl w.heap.size w).alloc (Nat.le_refl _) _) hb (by omega) (by simp) (by simp [go_sem]) (by simp [go_sem]) (by simp [go_sem]) (by simp [go_sem]); clear hb))
      rw [E.out]
      exact bodyPost_ret (v := .agg #[.int .u64 (hiU (-(A * B))), .int .u64 (loU (-(A * B)))]) (by simp [results, Try.results147, go_sem, c0, c1]) rfl ⟨rfl, (bb.setCell (by simp) _).setCell (by simp) _⟩
  · have da : decide (a < 0) = false := by simp; omega
    by_cases hb : b < 0
    · have db : decide (b < 0) = true := by simp [hb]
      have E : Hid (a * b = -(A * B)) := by
        have x1 : a = A := by omega
        have x2 : b = -B := by omega
        unfold Hid
        rw [x1, x2, Int.mul_neg]
      go_enter Try.func147, Try.ntmps147
      go_wp2_with (first | (go_at_call 200; refine (sizeOf_any _ _ (by omega) (by omega)).mono ?_; rintro e w' ⟨rfl, rfl⟩) | (go_at_call 196; refine (mul64_any A B _ hA2.1 hA2.2 hB2.1 hB2.2).mono ?_; rintro e w' ⟨rfl, rfl⟩) | (go_at_call 201; refine (negated_any (A * B) _ _ _ rfl rfl).mono ?_; rintro e w1 ⟨rfl, hb⟩; obtain ⟨bb, zz, c0, c1, f0, f1⟩ := keepW (b := w.heap.size) (x := .int .u64 0) (y := .int .u64 0) ((Below.refl w.heap.size w).alloc (Nat.le_refl _) _) hb (by omega) (by simp) (by simp [go_sem]) (by simp [go_sem]) (by simp [go_sem]) (by simp [go_sem]); clear hb))
      rw [E.out]
      exact bodyPost_ret (v := .agg #[.int .u64 (hiU (-(A * B))), .int .u64 (loU (-(A * B)))]) (by simp [results, Try.results147, go_sem, c0, c1]) rfl ⟨rfl, (bb.setCell (by simp) _).setCell (by simp) _⟩
    · have db : decide (b < 0) = false := by simp; omega
      have E : Hid (a * b = A * B) := by
        have x1 : a = A := by omega
        have x2 : b = B := by omega
        unfold Hid
        rw [x1, x2]
      go_enter Try.func147, Try.ntmps147
      go_wp2_with (first | (go_at_call 200; refine (sizeOf_any _ _ (by omega) (by omega)).mono ?_; rintro e w' ⟨rfl, rfl⟩) | (go_at_call 196; refine (mul64_any A B _ hA2.1 hA2.2 hB2.1 hB2.2).mono ?_; rintro e w' ⟨rfl, rfl⟩))
      go_returns
      exact ⟨by rw [E.out], by go_grown⟩

theorem sign_neg (z h l : Int) (w : World) (e1 : Hid (h = hiU z)) (z0 : z < 0) (z1 : -170141183460469231731687303715884105728 ≤ z) :
    Calls Try.prog 149 #[.agg #[.int .u64 h, .int .u64 l]] w fun e w' => e = .returned (.int .i64 (-1)) ∧ Below w.heap.size w w' := by
  obtain ⟨c, hc⟩ : ∃ c, IntKind.i64.wrap h = c := ⟨_, rfl⟩
  have hcn : c < 0 := by have := e1.out; unfold hiU at this; rw [← hc, IntKind.wrap_i64]; omega
  have hc2 : wrap64 h = c := by rw [← i64_is]; exact hc
  clear z1
  go_enter Try.func149, Try.ntmps149
  go_wp2
  go_ret
  exact ⟨rfl, by go_grown⟩
theorem sign_zero (z h l : Int) (w : World) (e1 : Hid (h = hiU z)) (e2 : Hid (l = loU z)) (z0 : z = 0) :
    Calls Try.prog 149 #[.agg #[.int .u64 h, .int .u64 l]] w fun e w' => e = .returned (.int .i64 0) ∧ Below w.heap.size w w' := by
  subst z0
  have x1 : h = 0 := by rw [e1.out]; decide
  have x2 : l = 0 := by rw [e2.out]; decide
  subst x1; subst x2
  go_enter Try.func149, Try.ntmps149
  go_wp2
  go_ret
  exact ⟨rfl, by go_grown⟩
theorem sign_pos (z h l : Int) (w : World) (e1 : Hid (h = hiU z)) (e2 : Hid (l = loU z)) (z0 : 0 < z) (z1 : z < 170141183460469231731687303715884105728) :
    Calls Try.prog 149 #[.agg #[.int .u64 h, .int .u64 l]] w fun e w' => e = .returned (.int .i64 1) ∧ Below w.heap.size w w' := by
  have b1 : 0 ≤ h ∧ h ≤ 9223372036854775807 := by have := e1.out; unfold hiU at this; omega
  by_cases hh : h = 0
  · have hl : ¬ l = 0 := by have x1 := e1.out; have x2 := e2.out; unfold hiU at x1; unfold loU at x2; omega
    have f1 : (h == 0) = true := by simp [hh]
    have f2 : (l == 0) = false := by simp [hl]
    have f3 := Lib.hid hh
    clear z1 z0 hh hl
    go_enter Try.func149, Try.ntmps149
    go_wp2
    go_ret
    exact ⟨rfl, by go_grown⟩
  · have f1 : (h == 0) = false := by simp [hh]
    clear z1 z0 hh
    go_enter Try.func149, Try.ntmps149
    go_wp2
    go_ret
    exact ⟨rfl, by go_grown⟩

/-- what was there is read as before -/
theorem oldRead {W w1 : World} (hb : Below W.heap.size W w1) : (∀ b o, b < W.heap.size → w1.cell? ⟨b, o, none⟩ = W.cell? ⟨b, o, none⟩) ∧ (∀ b o, b < W.heap.size → w1.frozen? ⟨b, o, none⟩ = W.frozen? ⟨b, o, none⟩) :=
  ⟨fun b o h => hb.cell (p := ⟨b, o, none⟩) h, fun b o h => hb.frozen (p := ⟨b, o, none⟩) h⟩

theorem size_any (z h l : Int) (w : World) (e1 : Hid (h = hiU z)) (e2 : Hid (l = loU z)) (z0 : -170141183460469231731687303715884105728 < z) (z1 : z < 170141183460469231731687303715884105728) :
    Calls Try.prog 239 #[.agg #[.int .u64 h, .int .u64 l]] w fun e w' => e = .returned (.agg #[.int .u64 (hiU (z.natAbs : Nat)), .int .u64 (loU (z.natAbs : Nat))]) ∧ Below w.heap.size w w' := by
  by_cases hn : z < 0
  · have EA : Hid (((z.natAbs : Nat) : Int) = -z) := by unfold Hid; omega
    have C : Hid (∀ W : World, Calls Try.prog 149 #[.agg #[.int .u64 h, .int .u64 l]] W fun e w' => e = .returned (.int .i64 (-1)) ∧ Below W.heap.size W w') := fun W => sign_neg z h l W e1 hn (by omega)
    clear z0 z1 hn
    rw [EA.out]
    go_enter Try.func239, Try.ntmps239
    go_wp2_with fail
    refine (C.out _).mono ?_
    rintro e w1 ⟨rfl, hb⟩
    obtain ⟨hc, hf⟩ := oldRead hb
    have hz : w.heap.size + 1 < w1.heap.size := by have := hb.size; simp at this; omega
    have hb1 : Below w.heap.size w w1 := (((Below.refl w.heap.size w).alloc (Nat.le_refl _) _).alloc (by simp) _).trans (hb.mono (by simp; omega))
    clear hb
    go_wp2_with fail
    refine (negated_any z _ _ _ e1 e2).mono ?_
    rintro e w2 ⟨rfl, hb⟩
    obtain ⟨hc2, hf2⟩ := oldRead hb
    have hz2 : w.heap.size + 1 < w2.heap.size := by have := hb.size; omega
    have hb2 : Below w.heap.size w w2 := hb1.trans (hb.mono (by omega))
    clear hb hb1
    go_wp2
    exact bodyPost_ret (v := .agg #[.int .u64 (hiU (-z)), .int .u64 (loU (-z))]) (by simp [results, Try.results239, go_sem, hc, hc2, hz]) rfl ⟨rfl, (hb2.setCell (by simp) _).setCell (by simp) _⟩
  · have EA : Hid (((z.natAbs : Nat) : Int) = z) := by unfold Hid; omega
    have C : Hid (∃ s : Int, 0 ≤ s ∧ ∀ W : World, Calls Try.prog 149 #[.agg #[.int .u64 h, .int .u64 l]] W fun e w' => e = .returned (.int .i64 s) ∧ Below W.heap.size W w') := by
      by_cases h0 : z = 0
      · exact ⟨0, by omega, fun W => sign_zero z h l W e1 e2 h0⟩
      · exact ⟨1, by omega, fun W => sign_pos z h l W e1 e2 (by omega) z1⟩
    obtain ⟨s, hs, C⟩ := C.out
    have C := Lib.hid C
    clear z0 z1 hn
    rw [EA.out]
    go_enter Try.func239, Try.ntmps239
    go_wp2_with fail
    refine (C.out _).mono ?_
    rintro e w1 ⟨rfl, hb⟩
    obtain ⟨hc, hf⟩ := oldRead hb
    have hz : w.heap.size + 1 < w1.heap.size := by have := hb.size; simp at this; omega
    have hb1 : Below w.heap.size w w1 := (((Below.refl w.heap.size w).alloc (Nat.le_refl _) _).alloc (by simp) _).trans (hb.mono (by simp; omega))
    clear hb
    go_wp2
    rw [← e1.out, ← e2.out]
    exact bodyPost_ret (v := .agg #[.int .u64 h, .int .u64 l]) (by simp [results, Try.results239, go_sem, hc]) rfl ⟨rfl, (hb1.setCell (by simp) _).setCell (by simp) _⟩
end Go.Proofs.Ytmnnpkmjamhmcab
