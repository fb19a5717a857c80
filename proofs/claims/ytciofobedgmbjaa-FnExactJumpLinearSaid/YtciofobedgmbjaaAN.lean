/- Matrices: masks before a step, one step after another, powers: impl. -/
import Derived.Test.YtciofobedgmbjaaLinC
namespace Go.Proofs.Ytciofobedgmbjaa
open Go.RowKit Go.PlainAid
set_option maxHeartbeats 800000

theorem MA.c16 {W : World} {b : Nat} {f : Nat → Nat} (h : MA W b 0 16 f) : W.cell? ⟨b, 0, none⟩ = some (.int .i64 (f 0)) ∧ W.cell? ⟨b, 1, none⟩ = some (.int .i64 (f 1)) ∧ W.cell? ⟨b, 2, none⟩ = some (.int .i64 (f 2)) ∧ W.cell? ⟨b, 3, none⟩ = some (.int .i64 (f 3)) ∧ W.cell? ⟨b, 4, none⟩ = some (.int .i64 (f 4)) ∧ W.cell? ⟨b, 5, none⟩ = some (.int .i64 (f 5)) ∧ W.cell? ⟨b, 6, none⟩ = some (.int .i64 (f 6)) ∧ W.cell? ⟨b, 7, none⟩ = some (.int .i64 (f 7)) ∧ W.cell? ⟨b, 8, none⟩ = some (.int .i64 (f 8)) ∧ W.cell? ⟨b, 9, none⟩ = some (.int .i64 (f 9)) ∧ W.cell? ⟨b, 10, none⟩ = some (.int .i64 (f 10)) ∧ W.cell? ⟨b, 11, none⟩ = some (.int .i64 (f 11)) ∧ W.cell? ⟨b, 12, none⟩ = some (.int .i64 (f 12)) ∧ W.cell? ⟨b, 13, none⟩ = some (.int .i64 (f 13)) ∧ W.cell? ⟨b, 14, none⟩ = some (.int .i64 (f 14)) ∧ W.cell? ⟨b, 15, none⟩ = some (.int .i64 (f 15)) :=
  ⟨by have := (h 0 (by omega)).1; rwa [Nat.zero_add] at this, by have := (h 1 (by omega)).1; rwa [Nat.zero_add] at this, by have := (h 2 (by omega)).1; rwa [Nat.zero_add] at this, by have := (h 3 (by omega)).1; rwa [Nat.zero_add] at this, by have := (h 4 (by omega)).1; rwa [Nat.zero_add] at this, by have := (h 5 (by omega)).1; rwa [Nat.zero_add] at this, by have := (h 6 (by omega)).1; rwa [Nat.zero_add] at this, by have := (h 7 (by omega)).1; rwa [Nat.zero_add] at this, by have := (h 8 (by omega)).1; rwa [Nat.zero_add] at this, by have := (h 9 (by omega)).1; rwa [Nat.zero_add] at this, by have := (h 10 (by omega)).1; rwa [Nat.zero_add] at this, by have := (h 11 (by omega)).1; rwa [Nat.zero_add] at this, by have := (h 12 (by omega)).1; rwa [Nat.zero_add] at this, by have := (h 13 (by omega)).1; rwa [Nat.zero_add] at this, by have := (h 14 (by omega)).1; rwa [Nat.zero_add] at this, by have := (h 15 (by omega)).1; rwa [Nat.zero_add] at this⟩
theorem xr_and (m k : Nat) : bits .and .i64 ((m : Int) / 2 ^ k) 1 = (((m.testBit k).toNat : Nat) : Int) := by
  have e : (m : Int) / 2 ^ k = ((m / 2 ^ k : Nat) : Int) := by simp
  rw [e, and_one_i64', Nat.testBit_eq_decide_div_mod_eq]
  rcases (show m / 2 ^ k % 2 = 0 ∨ m / 2 ^ k % 2 = 1 by omega) with h | h
  · rw [h]; simp; omega
  · rw [h]; simp; omega
theorem maskB_any (f : Nat → Nat) (m : Nat) (w : World) (hf : ∀ i, i < 16 → f i < 65536) (_ : m < 65536) :
    Calls Try.prog 67 #[.agg (vs 16 f).toArray, .int .i64 m] w fun e w' => e = .returned (.int .i64 (G2.xrL f m 16)) ∧ Below w.heap.size w w' := by
  have HX : Hid (∀ (k : Nat) (W : World), k < 16 → (Instr.index 65 (.agg (vs 16 f).toArray) (.int .i64 (k : Int))).run Try.prog W = .ok (.int .i64 (f k)) W) := mat_index f
  have HB : Hid (Below w.heap.size w (w.alloc (.cells (vs 16 f).toArray 65))) := (Below.refl _ _).alloc (Nat.le_refl _) _
  have HM : Hid (MA (w.alloc (.cells (vs 16 f).toArray 65)) w.heap.size 0 16 f) := MA.new _ 0 fun j hj => vs_arr f hj
  go_enter Try.func67, Try.ntmps67
  go_upto_region 2 with fail
  generalize w.alloc (.cells (vs 16 f).toArray 65) = w0 at HB HM ⊢
  refine wp_region_lit ?_
  refine wpList_load_mid rfl 65 (Operand.tmp 2) rfl w.heap.size 0 rfl (vs 16 f) (.array 16 2) HM.out.range mat_under rfl (by rw [mat_info, vs_length]) ?_
  clear HM
  generalize (vs 16 f).toArray = A at HX ⊢
  go_wp2
  go_loopw [5, 9] (fun nv iv wr => ∃ k n : Nat, k ≤ 16 ∧ nv = .int .i64 n ∧ iv = .int .i64 k ∧ n < 65536 ∧ Hid (n = G2.xrL f m k) ∧ w0 = wr) (fun _ iv _ => 16 - (intOf iv).toNat)
  case atStart => exact ⟨0, 0, Nat.zero_le _, rfl, rfl, by omega, rfl, rfl⟩
  case round =>
    obtain ⟨k, n, hk, rfl, rfl, hn, HN, rfl⟩ := hrel
    by_cases hlt : k < 16
    · have hkI : (k : Int) < 16 := by omega
      have hx := HX.out k w0 hlt
      have hfk := hf k hlt
      have E := xr_and m k
      cases hb : m.testBit k with
      | true =>
        rw [hb] at E
        simp only [Bool.toNat_true] at E
        have HN2 : Hid (n ^^^ f k = G2.xrL f m (k + 1)) := by unfold Hid; rw [G2.xrL, hb, if_pos rfl, ← HN.out]
        have hl : n ^^^ f k < 65536 := Nat.xor_lt_two_pow (n := 16) hn hfk
        have E2 := i64_xorN n (f k) (by omega) (by omega)
        generalize n ^^^ f k = z at HN2 hl E2
        clear HN hb
        go_wp2
        go_roundw
        case rel => exact ⟨k + 1, z, by omega, by first | rfl | (rw [E2]), by go_num, hl, HN2, by first | trivial | rfl⟩
        case measure => first | (simp [intOf]; done) | (simp [intOf]; omega)
      | false =>
        rw [hb] at E
        simp only [Bool.toNat_false] at E
        have HN2 : Hid (n = G2.xrL f m (k + 1)) := by unfold Hid; rw [G2.xrL, hb, ← HN.out]; rfl
        clear HN hb
        go_wp2
        go_roundw
        case rel => exact ⟨k + 1, n, by omega, rfl, by go_num, hn, HN2, by first | trivial | rfl⟩
        case measure => first | (simp [intOf]; done) | (simp [intOf]; omega)
    · obtain rfl : k = 16 := by omega
      go_wp2
      go_ret
      exact ⟨by rw [← HN.out]; rfl, HB.out⟩
set_option maxRecDepth 10000 in
theorem then_any (f g : Nat → Nat) (w : World) (hf : ∀ i, i < 16 → f i < 65536) (hg : ∀ i, i < 16 → g i < 65536) :
    Calls Try.prog 61 #[.agg (vs 16 f).toArray, .agg (vs 16 g).toArray] w fun e w' => e = .returned (.agg (vs 16 (G2.thn 16 f g)).toArray) ∧ Below w.heap.size w w' := by
  have HX : Hid (∀ (k : Nat) (W : World), k < 16 → (Instr.index 65 (.agg (vs 16 g).toArray) (.int .i64 (k : Int))).run Try.prog W = .ok (.int .i64 (g k)) W) := mat_index g
  have HC : Hid (∀ (m : Nat) (W : World), m < 65536 → Calls Try.prog 67 #[.agg #[.int .i64 (f 0), .int .i64 (f 1), .int .i64 (f 2), .int .i64 (f 3), .int .i64 (f 4), .int .i64 (f 5), .int .i64 (f 6), .int .i64 (f 7), .int .i64 (f 8), .int .i64 (f 9), .int .i64 (f 10), .int .i64 (f 11), .int .i64 (f 12), .int .i64 (f 13), .int .i64 (f 14), .int .i64 (f 15)], .int .i64 m] W fun e w' => e = .returned (.int .i64 (G2.xrL f m 16)) ∧ Below W.heap.size W w') := fun m W hm => by
    have := maskB_any f m W hf hm
    rwa [vs_16] at this
  obtain ⟨w1, hw1⟩ : ∃ w1, w.alloc (.cells (vs 16 f).toArray 65) = w1 := ⟨_, rfl⟩
  have A0 : MA w1 w.heap.size 0 16 f := by rw [← hw1]; exact MA.new _ 0 fun j hj => vs_arr f hj
  have z1 : w1.heap.size = w.heap.size + 1 := by rw [← hw1]; simp
  have B1 : Below w.heap.size w w1 := by rw [← hw1]; exact (Below.refl _ _).alloc (Nat.le_refl _) _
  obtain ⟨w2, hw2⟩ : ∃ w2, w1.alloc (.cells (vs 16 g).toArray 65) = w2 := ⟨_, rfl⟩
  have A1 : MA w2 (w.heap.size + 1) 0 16 g := by rw [← hw2, ← z1]; exact MA.new _ 0 fun j hj => vs_arr g hj
  have z2 : w2.heap.size = w.heap.size + 1 + 1 := by rw [← hw2]; simp [z1]
  have B2 : Below w.heap.size w w2 := by rw [← hw2]; exact B1.alloc B1.size _
  replace A0 : MA w2 w.heap.size 0 16 f := by rw [← hw2]; exact A0.far (by omega) ((Below.refl _ _).alloc (Nat.le_refl _) _)
  obtain ⟨w3, hw3⟩ : ∃ w3, w2.alloc (.cells #[.int .i64 0, .int .i64 0, .int .i64 0, .int .i64 0, .int .i64 0, .int .i64 0, .int .i64 0, .int .i64 0, .int .i64 0, .int .i64 0, .int .i64 0, .int .i64 0, .int .i64 0, .int .i64 0, .int .i64 0, .int .i64 0] 65) = w3 := ⟨_, rfl⟩
  have A2 : MA w3 (w.heap.size + 1 + 1) 0 16 (fun _ => 0) := by rw [← hw3, ← z2]; exact MA.new _ 0 fun j hj => zero16 hj
  have B3 : Below w.heap.size w w3 := by rw [← hw3]; exact B2.alloc B2.size _
  replace A0 : MA w3 w.heap.size 0 16 f := by rw [← hw3]; exact A0.far (by omega) ((Below.refl _ _).alloc (Nat.le_refl _) _)
  replace A1 : MA w3 (w.heap.size + 1) 0 16 g := by rw [← hw3]; exact A1.far (by omega) ((Below.refl _ _).alloc (Nat.le_refl _) _)
  go_enter Try.func61, Try.ntmps61
  go_upto_region 1 with fail
  clear hw1 hw2 hw3 z1 z2 B1 B2
  have H0 := Lib.hid A0
  have H1 : Hid (MA w3 (w.heap.size + 1) 0 16 (fun j => if j < 0 then G2.xrL f (g j) 16 else g j)) := A1.congr fun j _ => by rw [if_neg (by omega)]
  have H2 := Lib.hid A2
  have HB := Lib.hid B3
  refine wp_region_lit ?_
  refine wpList_load_mid rfl 65 (Operand.tmp 3) rfl (w.heap.size + 1) 0 rfl (vs 16 g) (.array 16 2) A1.range mat_under rfl (by rw [mat_info, vs_length]) ?_
  clear A0 A1 A2 B3
  generalize (vs 16 g).toArray = G at HX ⊢
  go_wp2
  go_loopw [8] (fun iv wr => ∃ k : Nat, k ≤ 16 ∧ iv = .int .i64 k ∧ Hid (MA wr w.heap.size 0 16 f) ∧ Hid (MA wr (w.heap.size + 1) 0 16 (fun j => if j < k then G2.xrL f (g j) 16 else g j)) ∧ Hid (MA wr (w.heap.size + 1 + 1) 0 16 (fun _ => 0)) ∧ Hid (Below w.heap.size w wr)) (fun iv _ => 16 - (intOf iv).toNat)
  case atStart => exact ⟨0, Nat.zero_le _, rfl, H0, H1, H2, HB⟩
  case round =>
    obtain ⟨k, hk, rfl, K0, K1, K2, KB⟩ := hrel
    clear H0 H1 H2 HB
    by_cases hlt : k < 16
    · have hkI : (k : Int) < 16 := by omega
      have hx := HX.out k wr hlt
      have hgk := hg k hlt
      obtain ⟨r0, r1, r2, r3, r4, r5, r6, r7, r8, r9, r10, r11, r12, r13, r14, r15⟩ := K0.out.c16
      go_wp2_with fail
      refine (HC.out (g k) _ hgk).mono ?_
      rintro e w5 ⟨rfl, hb⟩
      have L0 := Lib.hid (K0.out.far (by omega) hb)
      have L1 := K1.out.far (by omega) hb
      have L2 := Lib.hid (K2.out.far (by omega) hb)
      have LB := KB.out.trans (hb.mono KB.out.size)
      have M1 : Hid (MA (w5.setCell ⟨w.heap.size + 1, 0 + k, none⟩ (.int .i64 (G2.xrL f (g k) 16))) (w.heap.size + 1) 0 16 (fun j => if j < k + 1 then G2.xrL f (g j) 16 else g j)) := L1.set _ fun j _ => by
        by_cases e : j = k
        · subst e; rw [if_pos rfl, if_pos (by omega)]
        · rw [if_neg e]
          by_cases e2 : j < k
          · rw [if_pos e2, if_pos (by omega)]
          · rw [if_neg e2, if_neg (by omega)]
      have M0 : Hid (MA (w5.setCell ⟨w.heap.size + 1, 0 + k, none⟩ (.int .i64 (G2.xrL f (g k) 16))) w.heap.size 0 16 f) := L0.out.other (.inl (by omega)) _
      have M2 : Hid (MA (w5.setCell ⟨w.heap.size + 1, 0 + k, none⟩ (.int .i64 (G2.xrL f (g k) 16))) (w.heap.size + 1 + 1) 0 16 (fun _ => 0)) := L2.out.other (.inl (by omega)) _
      have MB : Hid (Below w.heap.size w (w5.setCell ⟨w.heap.size + 1, 0 + k, none⟩ (.int .i64 (G2.xrL f (g k) 16)))) := LB.setCell (p := ⟨w.heap.size + 1, 0 + k, none⟩) (by simp) _
      rw [Nat.zero_add] at M0 M1 M2 MB
      obtain ⟨ck, fk⟩ := L1 k hlt
      rw [Nat.zero_add] at ck fk
      clear hb L0 L1 L2 LB K0 K1 K2 KB r0 r1 r2 r3 r4 r5 r6 r7 r8 r9 r10 r11 r12 r13 r14 r15 hx
      go_wp2
      go_roundw
      case rel => exact ⟨k + 1, by omega, by go_num, M0, M1, M2, MB⟩
      case measure => first | (simp [intOf]; done) | (simp [intOf]; omega)
    · obtain rfl : k = 16 := by omega
      have N1 : MA wr (w.heap.size + 1) 0 16 (G2.thn 16 f g) := K1.out.congr fun j hj => by rw [if_pos hj]; rfl
      have N2 := K2.out
      have NB := KB.out
      clear K0 K1 K2 KB HC HX
      go_upto_region 6 with fail
      refine wp_region_lit ?_
      refine wpList_load_mid rfl 65 (Operand.tmp 3) rfl (w.heap.size + 1) 0 rfl (vs 16 (G2.thn 16 f g)) (.array 16 2) N1.range mat_under rfl (by rw [mat_info, vs_length]) ?_
      refine wpList_store_mid rfl 65 (Operand.tmp 4) (Operand.tmp 18) rfl (w.heap.size + 1 + 1) 0 (vs 16 (G2.thn 16 f g)).toArray rfl rfl (by rw [vs_size]; exact N2.there) (by rw [mat_info, vs_size]) (vs_all 16 _) ?_
      refine wpList_nil ?_
      rw [List.toList_toArray]
      have K := run_vs_load (P := Try.prog) (N2.put (G2.thn 16 f g)) mat_under mat_info
      have KB : Below w.heap.size w (wr.setCells (w.heap.size + 1 + 1) 0 (vs 16 (G2.thn 16 f g))) := below_setCells (by omega) _ _ _ NB
      generalize wr.setCells (w.heap.size + 1 + 1) 0 (vs 16 (G2.thn 16 f g)) = W6 at K KB ⊢
      obtain ⟨A, hA⟩ : ∃ A, (vs 16 (G2.thn 16 f g)).toArray = A := ⟨_, rfl⟩
      have HA := Lib.hid hA
      rw [hA] at K ⊢
      clear N1 N2 NB hA
      go_wp2
      exact bodyPost_ret (v := .agg A) (by simp [results, Try.results61, asAddr, Act.put, K]) rfl ⟨by rw [HA.out], KB⟩
theorem pow_wrap {k : Nat} (hk : k < 16) : wrap64 ((2 : Int) ^ k) = ((2 ^ k : Nat) : Int) ∧ IntKind.i64.wrap ((2 : Int) ^ k) = ((2 ^ k : Nat) : Int) ∧ 2 ^ k < 65536 := by
  have h1 : 2 ^ k ≤ 2 ^ 15 := Nat.pow_le_pow_right (by omega) (by omega)
  have h2 : ((2 : Int) ^ k) = ((2 ^ k : Nat) : Int) := by simp
  rw [h2]
  generalize 2 ^ k = p at h1 ⊢
  exact ⟨wrap64_nat _ (by omega), IntWalk.i64_in _ (by omega), by omega⟩
theorem thn_lt16 {f g : Nat → Nat} (hf : ∀ i, i < 16 → f i < 65536) (i : Nat) : G2.thn 16 f g i < 65536 := G2.thn_lt (W := 16) hf i
set_option maxRecDepth 10000 in
theorem power_any (f : Nat → Nat) (N : Nat) (w : World) (hf : ∀ i, i < 16 → f i < 65536) (hN : N ≤ 1000000000000000000) :
    Calls Try.prog 46 #[.agg (vs 16 f).toArray, .int .i64 N] w fun e w' => e = .returned (.agg (vs 16 (G2.pwL 16 f N)).toArray) ∧ Below w.heap.size w w' := by
  have HT : Hid (∀ (o r : Nat → Nat) (W : World), (∀ i, i < 16 → o i < 65536) → (∀ i, i < 16 → r i < 65536) → Calls Try.prog 61 #[.agg (vs 16 o).toArray, .agg (vs 16 r).toArray] W fun e w' => e = .returned (.agg (vs 16 (G2.thn 16 o r)).toArray) ∧ Below W.heap.size W w') := fun o r W ho hr => then_any o r W ho hr
  obtain ⟨w1, hw1⟩ : ∃ w1, w.alloc (.cells (vs 16 f).toArray 65) = w1 := ⟨_, rfl⟩
  have A0 : MA w1 w.heap.size 0 16 f := by rw [← hw1]; exact MA.new _ 0 fun j hj => vs_arr f hj
  have z1 : w1.heap.size = w.heap.size + 1 := by rw [← hw1]; simp
  have B1 : Below w.heap.size w w1 := by rw [← hw1]; exact (Below.refl _ _).alloc (Nat.le_refl _) _
  obtain ⟨w2, hw2⟩ : ∃ w2, w1.alloc (.cells #[.int .i64 0, .int .i64 0, .int .i64 0, .int .i64 0, .int .i64 0, .int .i64 0, .int .i64 0, .int .i64 0, .int .i64 0, .int .i64 0, .int .i64 0, .int .i64 0, .int .i64 0, .int .i64 0, .int .i64 0, .int .i64 0] 65) = w2 := ⟨_, rfl⟩
  have A1 : MA w2 (w.heap.size + 1) 0 16 (fun _ => 0) := by rw [← hw2, ← z1]; exact MA.new _ 0 fun j hj => zero16 hj
  have z2 : w2.heap.size = w.heap.size + 1 + 1 := by rw [← hw2]; simp [z1]
  have B2 : Below w.heap.size w w2 := by rw [← hw2]; exact B1.alloc B1.size _
  replace A0 : MA w2 w.heap.size 0 16 f := by rw [← hw2]; exact A0.far (by omega) ((Below.refl _ _).alloc (Nat.le_refl _) _)
  obtain ⟨w3, hw3⟩ : ∃ w3, w2.alloc (.cells #[.int .i64 0, .int .i64 0, .int .i64 0, .int .i64 0, .int .i64 0, .int .i64 0, .int .i64 0, .int .i64 0, .int .i64 0, .int .i64 0, .int .i64 0, .int .i64 0, .int .i64 0, .int .i64 0, .int .i64 0, .int .i64 0] 65) = w3 := ⟨_, rfl⟩
  have A2 : MA w3 (w.heap.size + 1 + 1) 0 16 (fun _ => 0) := by rw [← hw3, ← z2]; exact MA.new _ 0 fun j hj => zero16 hj
  have B3 : Below w.heap.size w w3 := by rw [← hw3]; exact B2.alloc B2.size _
  replace A0 : MA w3 w.heap.size 0 16 f := by rw [← hw3]; exact A0.far (by omega) ((Below.refl _ _).alloc (Nat.le_refl _) _)
  replace A1 : MA w3 (w.heap.size + 1) 0 16 (fun _ => 0) := by rw [← hw3]; exact A1.far (by omega) ((Below.refl _ _).alloc (Nat.le_refl _) _)
  go_enter Try.func46, Try.ntmps46
  go_upto_region 2 with fail
  clear hw1 hw2 hw3 z1 z2 B1 B2
  have H0 := Lib.hid A0
  have H1 := Lib.hid A1
  have H2 : Hid (MA w3 (w.heap.size + 1 + 1) 0 16 (fun j => if j < 0 then 2 ^ j else 0)) := A2.congr fun j _ => by rw [if_neg (by omega)]
  have HB := Lib.hid B3
  have HF := Lib.hid hf
  clear A0 A1 A2 B3 hf
  go_wp2
  go_loopw [7] (fun iv wr => ∃ k : Nat, k ≤ 16 ∧ iv = .int .i64 k ∧ Hid (MA wr w.heap.size 0 16 f) ∧ Hid (MA wr (w.heap.size + 1) 0 16 (fun _ => 0)) ∧ Hid (MA wr (w.heap.size + 1 + 1) 0 16 (fun j => if j < k then 2 ^ j else 0)) ∧ Hid (Below w.heap.size w wr)) (fun iv _ => 16 - (intOf iv).toNat)
  case atStart => exact ⟨0, Nat.zero_le _, rfl, H0, H1, H2, HB⟩
  case round =>
    obtain ⟨k, hk, rfl, K0, K1, K2, KB⟩ := hrel
    clear H0 H1 H2 HB
    by_cases hlt : k < 16
    · have hkI : (k : Int) < 16 := by omega
      obtain ⟨p1, p2, _⟩ := pow_wrap hlt
      have M2 : Hid (MA (wr.setCell ⟨w.heap.size + 1 + 1, 0 + k, none⟩ (.int .i64 (2 ^ k : Nat))) (w.heap.size + 1 + 1) 0 16 (fun j => if j < k + 1 then 2 ^ j else 0)) := K2.out.set _ fun j _ => by
        by_cases e : j = k
        · subst e; rw [if_pos rfl, if_pos (by omega)]
        · rw [if_neg e]
          by_cases e2 : j < k
          · rw [if_pos e2, if_pos (by omega)]
          · rw [if_neg e2, if_neg (by omega)]
      have M0 : Hid (MA (wr.setCell ⟨w.heap.size + 1 + 1, 0 + k, none⟩ (.int .i64 (2 ^ k : Nat))) w.heap.size 0 16 f) := K0.out.other (.inl (by omega)) _
      have M1 : Hid (MA (wr.setCell ⟨w.heap.size + 1 + 1, 0 + k, none⟩ (.int .i64 (2 ^ k : Nat))) (w.heap.size + 1) 0 16 (fun _ => 0)) := K1.out.other (.inl (by omega)) _
      have MB : Hid (Below w.heap.size w (wr.setCell ⟨w.heap.size + 1 + 1, 0 + k, none⟩ (.int .i64 (2 ^ k : Nat)))) := KB.out.setCell (p := ⟨w.heap.size + 1 + 1, 0 + k, none⟩) (by simp; omega) _
      rw [Nat.zero_add] at M0 M1 M2 MB
      obtain ⟨ck, fk⟩ := K2.out k hlt
      rw [Nat.zero_add] at ck fk
      generalize 2 ^ k = p at p1 p2 M0 M1 M2 MB
      clear K0 K1 K2 KB
      go_wp2
      go_roundw
      case rel => exact ⟨k + 1, by omega, by go_num, M0, M1, M2, MB⟩
      case measure => first | (simp [intOf]; done) | (simp [intOf]; omega)
    · obtain rfl : k = 16 := by omega
      have L2 : Hid (MA wr (w.heap.size + 1 + 1) 0 16 (fun i => 2 ^ i)) := K2.out.congr fun j hj => by rw [if_pos hj]
      clear K2
      rw [show (((16 : Nat)) : Int) = 16 from rfl]
      go_wp2
      go_loopw [1] (fun nv wr => ∃ (n : Nat) (o r : Nat → Nat), n ≤ N ∧ nv = .int .i64 n ∧ Hid (MA wr w.heap.size 0 16 r) ∧ Hid (MA wr (w.heap.size + 1) 0 16 (fun _ => 0)) ∧ Hid (MA wr (w.heap.size + 1 + 1) 0 16 o) ∧ Hid (Below w.heap.size w wr) ∧ Hid (∀ i, i < 16 → o i < 65536) ∧ Hid (∀ i, i < 16 → r i < 65536) ∧ Hid (G2.pwG 16 64 o r n = G2.pwL 16 f N)) (fun nv _ => (intOf nv).toNat)
      case atStart => exact ⟨N, fun i => 2 ^ i, f, Nat.le_refl _, rfl, K0, K1, L2, KB, fun i hi => (pow_wrap hi).2.2, HF.out, rfl⟩
      case round =>
        obtain ⟨n, o, r, hn, rfl, J0, J1, J2, JB, HO, HR, HE⟩ := hrel
        clear K0 K1 L2 KB
        by_cases h0 : n = 0
        · subst h0
          have E0 : Hid (G2.pwL 16 f N = o) := by unfold Hid; rw [← HE.out]; rfl
          have N1 := J2.out
          have N2 := J1.out
          have NB := JB.out
          clear J0 J1 J2 JB HO HR HE HT
          go_upto_region 12 with fail
          refine wp_region_lit ?_
          refine wpList_load_mid rfl 65 (Operand.tmp 5) rfl (w.heap.size + 1 + 1) 0 rfl (vs 16 o) (.array 16 2) N1.range mat_under rfl (by rw [mat_info, vs_length]) ?_
          refine wpList_store_mid rfl 65 (Operand.tmp 4) (Operand.tmp 28) rfl (w.heap.size + 1) 0 (vs 16 o).toArray rfl rfl (by rw [vs_size]; exact N2.there) (by rw [mat_info, vs_size]) (vs_all 16 _) ?_
          refine wpList_nil ?_
          rw [List.toList_toArray]
          have K := run_vs_load (P := Try.prog) (N2.put o) mat_under mat_info
          have KB : Below w.heap.size w (wr.setCells (w.heap.size + 1) 0 (vs 16 o)) := below_setCells (by omega) _ _ _ NB
          generalize wr.setCells (w.heap.size + 1) 0 (vs 16 o) = W6 at K KB ⊢
          obtain ⟨A, hA⟩ : ∃ A, (vs 16 o).toArray = A := ⟨_, rfl⟩
          have HA := Lib.hid hA
          rw [hA] at K ⊢
          clear N1 N2 NB hA
          go_wp2
          exact bodyPost_ret (v := .agg A) (by simp [results, Try.results46, asAddr, Act.put, K]) rfl ⟨by rw [E0.out, HA.out], KB⟩
        · have hn0 : 0 < n := by omega
          have hnI : (0 : Int) < (n : Int) := by omega
          have HS := G2.pwG_step 16 64 o r n (by omega) h0
          rw [HE.out] at HS
          rcases (show n % 2 = 1 ∨ n % 2 = 0 by omega) with hp | hp
          · rw [if_pos hp] at HS
            have HE2 := Lib.hid HS
            have t1 : ((n : Int) % 2) = 1 := by omega
            clear HS HE
            go_upto_region 10 with fail
            refine wp_region_lit ?_
            refine wpList_load_mid rfl 65 (Operand.tmp 5) rfl (w.heap.size + 1 + 1) 0 rfl (vs 16 o) (.array 16 2) J2.out.range mat_under rfl (by rw [mat_info, vs_length]) ?_
            refine wpList_load_mid rfl 65 (Operand.tmp 2) rfl w.heap.size 0 rfl (vs 16 r) (.array 16 2) J0.out.range mat_under rfl (by rw [mat_info, vs_length]) ?_
            go_wp2_with fail
            rename_i hK
            refine (HT.out o r _ HO.out HR.out).mono ?_
            rintro e w5 ⟨rfl, hb⟩
            refine hK _ _ ?_
            clear hK
            have P0 := J0.out.far (by omega) hb
            have P1 := J1.out.far (by omega) hb
            have P2 := J2.out.far (by omega) hb
            have PB := JB.out.trans (hb.mono JB.out.size)
            refine wpList_store_mid rfl 65 (Operand.tmp 5) (Operand.tmp 24) rfl (w.heap.size + 1 + 1) 0 (vs 16 (G2.thn 16 o r)).toArray rfl rfl (by rw [vs_size]; exact P2.there) (by rw [mat_info, vs_size]) (vs_all 16 _) ?_
            refine wpList_nil ?_
            rw [List.toList_toArray]
            have Q2 : Hid (MA (w5.setCells (w.heap.size + 1 + 1) 0 (vs 16 (G2.thn 16 o r))) (w.heap.size + 1 + 1) 0 16 (G2.thn 16 o r)) := P2.put _
            have Q0 : Hid (MA (w5.setCells (w.heap.size + 1 + 1) 0 (vs 16 (G2.thn 16 o r))) w.heap.size 0 16 r) := P0.away _ (.inl (by omega))
            have Q1 : Hid (MA (w5.setCells (w.heap.size + 1 + 1) 0 (vs 16 (G2.thn 16 o r))) (w.heap.size + 1) 0 16 (fun _ => 0)) := P1.away _ (.inl (by omega))
            have QB : Hid (Below w.heap.size w (w5.setCells (w.heap.size + 1 + 1) 0 (vs 16 (G2.thn 16 o r)))) := below_setCells (by omega) _ _ _ PB
            have HO2 : Hid (∀ i, i < 16 → G2.thn 16 o r i < 65536) := fun i _ => thn_lt16 HO.out i
            clear hb P0 P1 P2 PB J0 J1 J2 JB
            generalize w5.setCells (w.heap.size + 1 + 1) 0 (vs 16 (G2.thn 16 o r)) = w6 at Q0 Q1 Q2 QB ⊢
            go_upto_region 11 with fail
            refine wp_region_lit ?_
            refine wpList_load_mid rfl 65 (Operand.tmp 2) rfl w.heap.size 0 rfl (vs 16 r) (.array 16 2) Q0.out.range mat_under rfl (by rw [mat_info, vs_length]) ?_
            refine wpList_load_mid rfl 65 (Operand.tmp 2) rfl w.heap.size 0 rfl (vs 16 r) (.array 16 2) Q0.out.range mat_under rfl (by rw [mat_info, vs_length]) ?_
            go_wp2_with fail
            rename_i hK
            refine (HT.out r r _ HR.out HR.out).mono ?_
            rintro e w7 ⟨rfl, hb⟩
            refine hK _ _ ?_
            clear hK
            have P0 := Q0.out.far (by omega) hb
            have P1 := Q1.out.far (by omega) hb
            have P2 := Q2.out.far (by omega) hb
            have PB := QB.out.trans (hb.mono QB.out.size)
            refine wpList_store_mid rfl 65 (Operand.tmp 2) (Operand.tmp 27) rfl w.heap.size 0 (vs 16 (G2.thn 16 r r)).toArray rfl rfl (by rw [vs_size]; exact P0.there) (by rw [mat_info, vs_size]) (vs_all 16 _) ?_
            refine wpList_nil ?_
            rw [List.toList_toArray]
            have S0 : Hid (MA (w7.setCells w.heap.size 0 (vs 16 (G2.thn 16 r r))) w.heap.size 0 16 (G2.thn 16 r r)) := P0.put _
            have S1 : Hid (MA (w7.setCells w.heap.size 0 (vs 16 (G2.thn 16 r r))) (w.heap.size + 1) 0 16 (fun _ => 0)) := P1.away _ (.inl (by omega))
            have S2 : Hid (MA (w7.setCells w.heap.size 0 (vs 16 (G2.thn 16 r r))) (w.heap.size + 1 + 1) 0 16 (G2.thn 16 o r)) := P2.away _ (.inl (by omega))
            have SB : Hid (Below w.heap.size w (w7.setCells w.heap.size 0 (vs 16 (G2.thn 16 r r)))) := below_setCells (Nat.le_refl _) _ _ _ PB
            have HR2 : Hid (∀ i, i < 16 → G2.thn 16 r r i < 65536) := fun i _ => thn_lt16 HR.out i
            clear hb P0 P1 P2 PB Q0 Q1 Q2 QB
            generalize w7.setCells w.heap.size 0 (vs 16 (G2.thn 16 r r)) = w8 at S0 S1 S2 SB ⊢
            go_wp2
            go_roundw
            case rel => exact ⟨n / 2, (G2.thn 16 o r), G2.thn 16 r r, by omega, by go_num, S0, S1, S2, SB, HO2, HR2, HE2⟩
            case measure => first | (simp [intOf]; done) | (simp [intOf]; omega)
          · rw [if_neg (by omega)] at HS
            have HE2 := Lib.hid HS
            have t1 : ((n : Int) % 2) = 0 := by omega
            have Q0 := J0
            have Q1 := J1
            have Q2 := J2
            have QB := JB
            clear HS HE J0 J1 J2 JB
            go_upto_region 11 with fail
            refine wp_region_lit ?_
            refine wpList_load_mid rfl 65 (Operand.tmp 2) rfl w.heap.size 0 rfl (vs 16 r) (.array 16 2) Q0.out.range mat_under rfl (by rw [mat_info, vs_length]) ?_
            refine wpList_load_mid rfl 65 (Operand.tmp 2) rfl w.heap.size 0 rfl (vs 16 r) (.array 16 2) Q0.out.range mat_under rfl (by rw [mat_info, vs_length]) ?_
            go_wp2_with fail
            rename_i hK
            refine (HT.out r r _ HR.out HR.out).mono ?_
            rintro e w7 ⟨rfl, hb⟩
            refine hK _ _ ?_
            clear hK
            have P0 := Q0.out.far (by omega) hb
            have P1 := Q1.out.far (by omega) hb
            have P2 := Q2.out.far (by omega) hb
            have PB := QB.out.trans (hb.mono QB.out.size)
            refine wpList_store_mid rfl 65 (Operand.tmp 2) (Operand.tmp 27) rfl w.heap.size 0 (vs 16 (G2.thn 16 r r)).toArray rfl rfl (by rw [vs_size]; exact P0.there) (by rw [mat_info, vs_size]) (vs_all 16 _) ?_
            refine wpList_nil ?_
            rw [List.toList_toArray]
            have S0 : Hid (MA (w7.setCells w.heap.size 0 (vs 16 (G2.thn 16 r r))) w.heap.size 0 16 (G2.thn 16 r r)) := P0.put _
            have S1 : Hid (MA (w7.setCells w.heap.size 0 (vs 16 (G2.thn 16 r r))) (w.heap.size + 1) 0 16 (fun _ => 0)) := P1.away _ (.inl (by omega))
            have S2 : Hid (MA (w7.setCells w.heap.size 0 (vs 16 (G2.thn 16 r r))) (w.heap.size + 1 + 1) 0 16 o) := P2.away _ (.inl (by omega))
            have SB : Hid (Below w.heap.size w (w7.setCells w.heap.size 0 (vs 16 (G2.thn 16 r r)))) := below_setCells (Nat.le_refl _) _ _ _ PB
            have HR2 : Hid (∀ i, i < 16 → G2.thn 16 r r i < 65536) := fun i _ => thn_lt16 HR.out i
            clear hb P0 P1 P2 PB Q0 Q1 Q2 QB
            generalize w7.setCells w.heap.size 0 (vs 16 (G2.thn 16 r r)) = w8 at S0 S1 S2 SB ⊢
            go_wp2
            go_roundw
            case rel => exact ⟨n / 2, o, G2.thn 16 r r, by omega, by go_num, S0, S1, S2, SB, HO, HR2, HE2⟩
            case measure => first | (simp [intOf]; done) | (simp [intOf]; omega)
end Go.Proofs.Ytciofobedgmbjaa
