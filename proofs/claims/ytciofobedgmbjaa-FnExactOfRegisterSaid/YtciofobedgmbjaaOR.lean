/- AN, AO, QX, QY, QL, QZ, XS, QR in one text (tools/merge.py). -/
import Derived.Test.YtciofobedgmbjaaLinC
import Derived.Test.YtciofobedgmbjaaLinD
import Derived.Test.YtciofobedgmbjaaS7P
import Derived.Test.YtciofobedgmbjaaTM
import Derived.Test.YtciofobedgmbjaaTmB
import Derived.Lib.SliceRun
import Derived.Test.YtciofobedgmbjaaLL8
import Derived.Test.YtciofobedgmbjaaBytes
import Derived.Test.YtciofobedgmbjaaReg
namespace Go.Proofs.Ytciofobedgmbjaa
open Go.RowKit Go.PlainAid
set_option maxHeartbeats 800000

theorem MA.c16 {W : World} {b : Nat} {f : Nat → Nat} (h : MA W b 0 16 f) : W.cell? ⟨b, 0, none⟩ = some (.int .i64 (f 0)) ∧ W.cell? ⟨b, 1, none⟩ = some (.int .i64 (f 1)) ∧ W.cell? ⟨b, 2, none⟩ = some (.int .i64 (f 2)) ∧ W.cell? ⟨b, 3, none⟩ = some (.int .i64 (f 3)) ∧ W.cell? ⟨b, 4, none⟩ = some (.int .i64 (f 4)) ∧ W.cell? ⟨b, 5, none⟩ = some (.int .i64 (f 5)) ∧ W.cell? ⟨b, 6, none⟩ = some (.int .i64 (f 6)) ∧ W.cell? ⟨b, 7, none⟩ = some (.int .i64 (f 7)) ∧ W.cell? ⟨b, 8, none⟩ = some (.int .i64 (f 8)) ∧ W.cell? ⟨b, 9, none⟩ = some (.int .i64 (f 9)) ∧ W.cell? ⟨b, 10, none⟩ = some (.int .i64 (f 10)) ∧ W.cell? ⟨b, 11, none⟩ = some (.int .i64 (f 11)) ∧ W.cell? ⟨b, 12, none⟩ = some (.int .i64 (f 12)) ∧ W.cell? ⟨b, 13, none⟩ = some (.int .i64 (f 13)) ∧ W.cell? ⟨b, 14, none⟩ = some (.int .i64 (f 14)) ∧ W.cell? ⟨b, 15, none⟩ = some (.int .i64 (f 15)) :=
  ⟨by have := (h 0 (by omega)).1; rwa [Nat.zero_add] at this, by have := (h 1 (by omega)).1; rwa [Nat.zero_add] at this, by have := (h 2 (by omega)).1; rwa [Nat.zero_add] at this, by have := (h 3 (by omega)).1; rwa [Nat.zero_add] at this, by have := (h 4 (by omega)).1; rwa [Nat.zero_add] at this, by have := (h 5 (by omega)).1; rwa [Nat.zero_add] at this, by have := (h 6 (by omega)).1; rwa [Nat.zero_add] at this, by have := (h 7 (by omega)).1; rwa [Nat.zero_add] at this, by have := (h 8 (by omega)).1; rwa [Nat.zero_add] at this, by have := (h 9 (by omega)).1; rwa [Nat.zero_add] at this, by have := (h 10 (by omega)).1; rwa [Nat.zero_add] at this, by have := (h 11 (by omega)).1; rwa [Nat.zero_add] at this, by have := (h 12 (by omega)).1; rwa [Nat.zero_add] at this, by have := (h 13 (by omega)).1; rwa [Nat.zero_add] at this, by have := (h 14 (by omega)).1; rwa [Nat.zero_add] at this, by have := (h 15 (by omega)).1; rwa [Nat.zero_add] at this⟩
theorem xr_and (m k : Nat) : bits .and .i64 ((m : Int) / 2 ^ k) 1 = (((m.testBit k).toNat : Nat) : Int) := by
  have e : (m : Int) / 2 ^ k = ((m / 2 ^ k : Nat) : Int) := by simp
  rw [e, and_one_i64', Nat.testBit_eq_decide_div_mod_eq]
  rcases (show m / 2 ^ k % 2 = 0 ∨ m / 2 ^ k % 2 = 1 by omega) with h | h
  · rw [h]; simp; omega
  · rw [h]; simp; omega
theorem maskB_any (f : Nat → Nat) (m : Nat) (w : World) (hf : ∀ i, i < 16 → f i < 65536) (_ : m < 65536) :
    Calls Try.prog 67 #[.agg (vs 16 f).toArray, .int .i64 m] w fun e w' => e = .returned (.int .i64 (G2.xrL f m 16)) ∧ Below w.heap.size w w' := by
  have HX : Hid (∀ (k : Nat) (W : World), k < 16 → (Instr.index 65 (.agg (vs 16 f).toArray) (.int .i64 (k : Int))).run Try.prog W = .ok (.int .i64 (f k)) W) := mat_index f
  have HB : Hid (Below w.heap.size w (w.alloc (.cells (vs 16 f).toArray 65))) := (Below.refl _ _).alloc (Nat.le_refl _) _
  have HM : Hid (MA (w.alloc (.cells (vs 16 f).toArray 65)) w.heap.size 0 16 f) := MA.new _ 0 fun j hj => vs_arr f hj
  go_enter Try.func67, Try.ntmps67
  go_upto_region 2 with fail
  generalize w.alloc (.cells (vs 16 f).toArray 65) = w0 at HB HM ⊢
  refine wp_region_lit ?_
  refine wpList_load_mid rfl 65 (Operand.tmp 2) rfl w.heap.size 0 rfl (vs 16 f) (.array 16 2) HM.out.range mat_under rfl (by rw [mat_info, vs_length]) ?_
  clear HM
  generalize (vs 16 f).toArray = A at HX ⊢
  go_wp2
  go_loopw [5, 9] (fun nv iv wr => ∃ k n : Nat, k ≤ 16 ∧ nv = .int .i64 n ∧ iv = .int .i64 k ∧ n < 65536 ∧ Hid (n = G2.xrL f m k) ∧ w0 = wr) (fun _ iv _ => 16 - (intOf iv).toNat)
  case atStart => exact ⟨0, 0, Nat.zero_le _, rfl, rfl, by omega, rfl, rfl⟩
  case round =>
    obtain ⟨k, n, hk, rfl, rfl, hn, HN, rfl⟩ := hrel
    by_cases hlt : k < 16
    · have hkI : (k : Int) < 16 := by omega
      have hx := HX.out k w0 hlt
      have hfk := hf k hlt
      have E := xr_and m k
      cases hb : m.testBit k with
      | true =>
        rw [hb] at E
        simp only [Bool.toNat_true] at E
        have HN2 : Hid (n ^^^ f k = G2.xrL f m (k + 1)) := by unfold Hid; rw [G2.xrL, hb, if_pos rfl, ← HN.out]
        have hl : n ^^^ f k < 65536 := Nat.xor_lt_two_pow (n := 16) hn hfk
        have E2 := i64_xorN n (f k) (by omega) (by omega)
        generalize n ^^^ f k = z at HN2 hl E2
        clear HN hb
        go_wp2
        go_roundw
        case rel => exact ⟨k + 1, z, by omega, by first | rfl | (rw [E2]), by go_num, hl, HN2, by first | trivial | rfl⟩
        case measure => first | (simp [intOf]; done) | (simp [intOf]; omega)
      | false =>
        rw [hb] at E
        simp only [Bool.toNat_false] at E
        have HN2 : Hid (n = G2.xrL f m (k + 1)) := by unfold Hid; rw [G2.xrL, hb, ← HN.out]; rfl
        clear HN hb
        go_wp2
        go_roundw
        case rel => exact ⟨k + 1, n, by omega, rfl, by go_num, hn, HN2, by first | trivial | rfl⟩
        case measure => first | (simp [intOf]; done) | (simp [intOf]; omega)
    · obtain rfl : k = 16 := by omega
      go_wp2
      go_ret
      exact ⟨by rw [← HN.out]; rfl, HB.out⟩
set_option maxRecDepth 10000 in
theorem then_any (f g : Nat → Nat) (w : World) (hf : ∀ i, i < 16 → f i < 65536) (hg : ∀ i, i < 16 → g i < 65536) :
    Calls Try.prog 61 #[.agg (vs 16 f).toArray, .agg (vs 16 g).toArray] w fun e w' => e = .returned (.agg (vs 16 (G2.thn 16 f g)).toArray) ∧ Below w.heap.size w w' := by
  have HX : Hid (∀ (k : Nat) (W : World), k < 16 → (Instr.index 65 (.agg (vs 16 g).toArray) (.int .i64 (k : Int))).run Try.prog W = .ok (.int .i64 (g k)) W) := mat_index g
  have HC : Hid (∀ (m : Nat) (W : World), m < 65536 → Calls Try.prog 67 #[.agg #[.int .i64 (f 0), .int .i64 (f 1), .int .i64 (f 2), .int .i64 (f 3), .int .i64 (f 4), .int .i64 (f 5), .int .i64 (f 6), .int .i64 (f 7), .int .i64 (f 8), .int .i64 (f 9), .int .i64 (f 10), .int .i64 (f 11), .int .i64 (f 12), .int .i64 (f 13), .int .i64 (f 14), .int .i64 (f 15)], .int .i64 m] W fun e w' => e = .returned (.int .i64 (G2.xrL f m 16)) ∧ Below W.heap.size W w') := fun m W hm => by
    have := maskB_any f m W hf hm
    rwa [vs_16] at this
  obtain ⟨w1, hw1⟩ : ∃ w1, w.alloc (.cells (vs 16 f).toArray 65) = w1 := ⟨_, rfl⟩
  have A0 : MA w1 w.heap.size 0 16 f := by rw [← hw1]; exact MA.new _ 0 fun j hj => vs_arr f hj
  have z1 : w1.heap.size = w.heap.size + 1 := by rw [← hw1]; simp
  have B1 : Below w.heap.size w w1 := by rw [← hw1]; exact (Below.refl _ _).alloc (Nat.le_refl _) _
  obtain ⟨w2, hw2⟩ : ∃ w2, w1.alloc (.cells (vs 16 g).toArray 65) = w2 := ⟨_, rfl⟩
  have A1 : MA w2 (w.heap.size + 1) 0 16 g := by rw [← hw2, ← z1]; exact MA.new _ 0 fun j hj => vs_arr g hj
  have z2 : w2.heap.size = w.heap.size + 1 + 1 := by rw [← hw2]; simp [z1]
  have B2 : Below w.heap.size w w2 := by rw [← hw2]; exact B1.alloc B1.size _
  replace A0 : MA w2 w.heap.size 0 16 f := by rw [← hw2]; exact A0.far (by omega) ((Below.refl _ _).alloc (Nat.le_refl _) _)
  obtain ⟨w3, hw3⟩ : ∃ w3, w2.alloc (.cells #[.int .i64 0, .int .i64 0, .int .i64 0, .int .i64 0, .int .i64 0, .int .i64 0, .int .i64 0, .int .i64 0, .int .i64 0, .int .i64 0, .int .i64 0, .int .i64 0, .int .i64 0, .int .i64 0, .int .i64 0, .int .i64 0] 65) = w3 := ⟨_, rfl⟩
  have A2 : MA w3 (w.heap.size + 1 + 1) 0 16 (fun _ => 0) := by rw [← hw3, ← z2]; exact MA.new _ 0 fun j hj => zero16 hj
  have B3 : Below w.heap.size w w3 := by rw [← hw3]; exact B2.alloc B2.size _
  replace A0 : MA w3 w.heap.size 0 16 f := by rw [← hw3]; exact A0.far (by omega) ((Below.refl _ _).alloc (Nat.le_refl _) _)
  replace A1 : MA w3 (w.heap.size + 1) 0 16 g := by rw [← hw3]; exact A1.far (by omega) ((Below.refl _ _).alloc (Nat.le_refl _) _)
  go_enter Try.func61, Try.ntmps61
  go_upto_region 1 with fail
  clear hw1 hw2 hw3 z1 z2 B1 B2
  have H0 := Lib.hid A0
  have H1 : Hid (MA w3 (w.heap.size + 1) 0 16 (fun j => if j < 0 then G2.xrL f (g j) 16 else g j)) := A1.congr fun j _ => by rw [if_neg (by omega)]
  have H2 := Lib.hid A2
  have HB := Lib.hid B3
  refine wp_region_lit ?_
  refine wpList_load_mid rfl 65 (Operand.tmp 3) rfl (w.heap.size + 1) 0 rfl (vs 16 g) (.array 16 2) A1.range mat_under rfl (by rw [mat_info, vs_length]) ?_
  clear A0 A1 A2 B3
  generalize (vs 16 g).toArray = G at HX ⊢
  go_wp2
  go_loopw [8] (fun iv wr => ∃ k : Nat, k ≤ 16 ∧ iv = .int .i64 k ∧ Hid (MA wr w.heap.size 0 16 f) ∧ Hid (MA wr (w.heap.size + 1) 0 16 (fun j => if j < k then G2.xrL f (g j) 16 else g j)) ∧ Hid (MA wr (w.heap.size + 1 + 1) 0 16 (fun _ => 0)) ∧ Hid (Below w.heap.size w wr)) (fun iv _ => 16 - (intOf iv).toNat)
  case atStart => exact ⟨0, Nat.zero_le _, rfl, H0, H1, H2, HB⟩
  case round =>
    obtain ⟨k, hk, rfl, K0, K1, K2, KB⟩ := hrel
    clear H0 H1 H2 HB
    by_cases hlt : k < 16
    · have hkI : (k : Int) < 16 := by omega
      have hx := HX.out k wr hlt
      have hgk := hg k hlt
      obtain ⟨r0, r1, r2, r3, r4, r5, r6, r7, r8, r9, r10, r11, r12, r13, r14, r15⟩ := K0.out.c16
      go_wp2_with fail
      refine (HC.out (g k) _ hgk).mono ?_
      rintro e w5 ⟨rfl, hb⟩
      have L0 := Lib.hid (K0.out.far (by omega) hb)
      have L1 := K1.out.far (by omega) hb
      have L2 := Lib.hid (K2.out.far (by omega) hb)
      have LB := KB.out.trans (hb.mono KB.out.size)
      have M1 : Hid (MA (w5.setCell ⟨w.heap.size + 1, 0 + k, none⟩ (.int .i64 (G2.xrL f (g k) 16))) (w.heap.size + 1) 0 16 (fun j => if j < k + 1 then G2.xrL f (g j) 16 else g j)) := L1.set _ fun j _ => by
        by_cases e : j = k
        · subst e; rw [if_pos rfl, if_pos (by omega)]
        · rw [if_neg e]
          by_cases e2 : j < k
          · rw [if_pos e2, if_pos (by omega)]
          · rw [if_neg e2, if_neg (by omega)]
      have M0 : Hid (MA (w5.setCell ⟨w.heap.size + 1, 0 + k, none⟩ (.int .i64 (G2.xrL f (g k) 16))) w.heap.size 0 16 f) := L0.out.other (.inl (by omega)) _
      have M2 : Hid (MA (w5.setCell ⟨w.heap.size + 1, 0 + k, none⟩ (.int .i64 (G2.xrL f (g k) 16))) (w.heap.size + 1 + 1) 0 16 (fun _ => 0)) := L2.out.other (.inl (by omega)) _
      have MB : Hid (Below w.heap.size w (w5.setCell ⟨w.heap.size + 1, 0 + k, none⟩ (.int .i64 (G2.xrL f (g k) 16)))) := LB.setCell (p := ⟨w.heap.size + 1, 0 + k, none⟩) (by simp) _
      rw [Nat.zero_add] at M0 M1 M2 MB
      obtain ⟨ck, fk⟩ := L1 k hlt
      rw [Nat.zero_add] at ck fk
      clear hb L0 L1 L2 LB K0 K1 K2 KB r0 r1 r2 r3 r4 r5 r6 r7 r8 r9 r10 r11 r12 r13 r14 r15 hx
      go_wp2
      go_roundw
      case rel => exact ⟨k + 1, by omega, by go_num, M0, M1, M2, MB⟩
      case measure => first | (simp [intOf]; done) | (simp [intOf]; omega)
    · obtain rfl : k = 16 := by omega
      have N1 : MA wr (w.heap.size + 1) 0 16 (G2.thn 16 f g) := K1.out.congr fun j hj => by rw [if_pos hj]; rfl
      have N2 := K2.out
      have NB := KB.out
      clear K0 K1 K2 KB HC HX
      go_upto_region 6 with fail
      refine wp_region_lit ?_
      refine wpList_load_mid rfl 65 (Operand.tmp 3) rfl (w.heap.size + 1) 0 rfl (vs 16 (G2.thn 16 f g)) (.array 16 2) N1.range mat_under rfl (by rw [mat_info, vs_length]) ?_
      refine wpList_store_mid rfl 65 (Operand.tmp 4) (Operand.tmp 18) rfl (w.heap.size + 1 + 1) 0 (vs 16 (G2.thn 16 f g)).toArray rfl rfl (by rw [vs_size]; exact N2.there) (by rw [mat_info, vs_size]) (vs_all 16 _) ?_
      refine wpList_nil ?_
      rw [List.toList_toArray]
      have K := run_vs_load (P := Try.prog) (N2.put (G2.thn 16 f g)) mat_under mat_info
      have KB : Below w.heap.size w (wr.setCells (w.heap.size + 1 + 1) 0 (vs 16 (G2.thn 16 f g))) := below_setCells (by omega) _ _ _ NB
      generalize wr.setCells (w.heap.size + 1 + 1) 0 (vs 16 (G2.thn 16 f g)) = W6 at K KB ⊢
      obtain ⟨A, hA⟩ : ∃ A, (vs 16 (G2.thn 16 f g)).toArray = A := ⟨_, rfl⟩
      have HA := Lib.hid hA
      rw [hA] at K ⊢
      clear N1 N2 NB hA
      go_wp2
      exact bodyPost_ret (v := .agg A) (by simp [results, Try.results61, asAddr, Act.put, K]) rfl ⟨by rw [HA.out], KB⟩
theorem pow_wrap {k : Nat} (hk : k < 16) : wrap64 ((2 : Int) ^ k) = ((2 ^ k : Nat) : Int) ∧ IntKind.i64.wrap ((2 : Int) ^ k) = ((2 ^ k : Nat) : Int) ∧ 2 ^ k < 65536 := by
  have h1 : 2 ^ k ≤ 2 ^ 15 := Nat.pow_le_pow_right (by omega) (by omega)
  have h2 : ((2 : Int) ^ k) = ((2 ^ k : Nat) : Int) := by simp
  rw [h2]
  generalize 2 ^ k = p at h1 ⊢
  exact ⟨wrap64_nat _ (by omega), IntWalk.i64_in _ (by omega), by omega⟩
theorem thn_lt16 {f g : Nat → Nat} (hf : ∀ i, i < 16 → f i < 65536) (i : Nat) : G2.thn 16 f g i < 65536 := G2.thn_lt (W := 16) hf i
set_option maxRecDepth 10000 in
theorem power_any (f : Nat → Nat) (N : Nat) (w : World) (hf : ∀ i, i < 16 → f i < 65536) (hN : N ≤ 1000000000000000000) :
    Calls Try.prog 46 #[.agg (vs 16 f).toArray, .int .i64 N] w fun e w' => e = .returned (.agg (vs 16 (G2.pwL 16 f N)).toArray) ∧ Below w.heap.size w w' := by
  have HT : Hid (∀ (o r : Nat → Nat) (W : World), (∀ i, i < 16 → o i < 65536) → (∀ i, i < 16 → r i < 65536) → Calls Try.prog 61 #[.agg (vs 16 o).toArray, .agg (vs 16 r).toArray] W fun e w' => e = .returned (.agg (vs 16 (G2.thn 16 o r)).toArray) ∧ Below W.heap.size W w') := fun o r W ho hr => then_any o r W ho hr
  obtain ⟨w1, hw1⟩ : ∃ w1, w.alloc (.cells (vs 16 f).toArray 65) = w1 := ⟨_, rfl⟩
  have A0 : MA w1 w.heap.size 0 16 f := by rw [← hw1]; exact MA.new _ 0 fun j hj => vs_arr f hj
  have z1 : w1.heap.size = w.heap.size + 1 := by rw [← hw1]; simp
  have B1 : Below w.heap.size w w1 := by rw [← hw1]; exact (Below.refl _ _).alloc (Nat.le_refl _) _
  obtain ⟨w2, hw2⟩ : ∃ w2, w1.alloc (.cells #[.int .i64 0, .int .i64 0, .int .i64 0, .int .i64 0, .int .i64 0, .int .i64 0, .int .i64 0, .int .i64 0, .int .i64 0, .int .i64 0, .int .i64 0, .int .i64 0, .int .i64 0, .int .i64 0, .int .i64 0, .int .i64 0] 65) = w2 := ⟨_, rfl⟩
  have A1 : MA w2 (w.heap.size + 1) 0 16 (fun _ => 0) := by rw [← hw2, ← z1]; exact MA.new _ 0 fun j hj => zero16 hj
  have z2 : w2.heap.size = w.heap.size + 1 + 1 := by rw [← hw2]; simp [z1]
  have B2 : Below w.heap.size w w2 := by rw [← hw2]; exact B1.alloc B1.size _
  replace A0 : MA w2 w.heap.size 0 16 f := by rw [← hw2]; exact A0.far (by omega) ((Below.refl _ _).alloc (Nat.le_refl _) _)
  obtain ⟨w3, hw3⟩ : ∃ w3, w2.alloc (.cells #[.int .i64 0, .int .i64 0, .int .i64 0, .int .i64 0, .int .i64 0, .int .i64 0, .int .i64 0, .int .i64 0, .int .i64 0, .int .i64 0, .int .i64 0, .int .i64 0, .int .i64 0, .int .i64 0, .int .i64 0, .int .i64 0] 65) = w3 := ⟨_, rfl⟩
  have A2 : MA w3 (w.heap.size + 1 + 1) 0 16 (fun _ => 0) := by rw [← hw3, ← z2]; exact MA.new _ 0 fun j hj => zero16 hj
  have B3 : Below w.heap.size w w3 := by rw [← hw3]; exact B2.alloc B2.size _
  replace A0 : MA w3 w.heap.size 0 16 f := by rw [← hw3]; exact A0.far (by omega) ((Below.refl _ _).alloc (Nat.le_refl _) _)
  replace A1 : MA w3 (w.heap.size + 1) 0 16 (fun _ => 0) := by rw [← hw3]; exact A1.far (by omega) ((Below.refl _ _).alloc (Nat.le_refl _) _)
  go_enter Try.func46, Try.ntmps46
  go_upto_region 2 with fail
  clear hw1 hw2 hw3 z1 z2 B1 B2
  have H0 := Lib.hid A0
  have H1 := Lib.hid A1
  have H2 : Hid (MA w3 (w.heap.size + 1 + 1) 0 16 (fun j => if j < 0 then 2 ^ j else 0)) := A2.congr fun j _ => by rw [if_neg (by omega)]
  have HB := Lib.hid B3
  have HF := Lib.hid hf
  clear A0 A1 A2 B3 hf
  go_wp2
  go_loopw [7] (fun iv wr => ∃ k : Nat, k ≤ 16 ∧ iv = .int .i64 k ∧ Hid (MA wr w.heap.size 0 16 f) ∧ Hid (MA wr (w.heap.size + 1) 0 16 (fun _ => 0)) ∧ Hid (MA wr (w.heap.size + 1 + 1) 0 16 (fun j => if j < k then 2 ^ j else 0)) ∧ Hid (Below w.heap.size w wr)) (fun iv _ => 16 - (intOf iv).toNat)
  case atStart => exact ⟨0, Nat.zero_le _, rfl, H0, H1, H2, HB⟩
  case round =>
    obtain ⟨k, hk, rfl, K0, K1, K2, KB⟩ := hrel
    clear H0 H1 H2 HB
    by_cases hlt : k < 16
    · have hkI : (k : Int) < 16 := by omega
      obtain ⟨p1, p2, _⟩ := pow_wrap hlt
      have M2 : Hid (MA (wr.setCell ⟨w.heap.size + 1 + 1, 0 + k, none⟩ (.int .i64 (2 ^ k : Nat))) (w.heap.size + 1 + 1) 0 16 (fun j => if j < k + 1 then 2 ^ j else 0)) := K2.out.set _ fun j _ => by
        by_cases e : j = k
        · subst e; rw [if_pos rfl, if_pos (by omega)]
        · rw [if_neg e]
          by_cases e2 : j < k
          · rw [if_pos e2, if_pos (by omega)]
          · rw [if_neg e2, if_neg (by omega)]
      have M0 : Hid (MA (wr.setCell ⟨w.heap.size + 1 + 1, 0 + k, none⟩ (.int .i64 (2 ^ k : Nat))) w.heap.size 0 16 f) := K0.out.other (.inl (by omega)) _
      have M1 : Hid (MA (wr.setCell ⟨w.heap.size + 1 + 1, 0 + k, none⟩ (.int .i64 (2 ^ k : Nat))) (w.heap.size + 1) 0 16 (fun _ => 0)) := K1.out.other (.inl (by omega)) _
      have MB : Hid (Below w.heap.size w (wr.setCell ⟨w.heap.size + 1 + 1, 0 + k, none⟩ (.int .i64 (2 ^ k : Nat)))) := KB.out.setCell (p := ⟨w.heap.size + 1 + 1, 0 + k, none⟩) (by simp; omega) _
      rw [Nat.zero_add] at M0 M1 M2 MB
      obtain ⟨ck, fk⟩ := K2.out k hlt
      rw [Nat.zero_add] at ck fk
      generalize 2 ^ k = p at p1 p2 M0 M1 M2 MB
      clear K0 K1 K2 KB
      go_wp2
      go_roundw
      case rel => exact ⟨k + 1, by omega, by go_num, M0, M1, M2, MB⟩
      case measure => first | (simp [intOf]; done) | (simp [intOf]; omega)
    · obtain rfl : k = 16 := by omega
      have L2 : Hid (MA wr (w.heap.size + 1 + 1) 0 16 (fun i => 2 ^ i)) := K2.out.congr fun j hj => by rw [if_pos hj]
      clear K2
      rw [show (((16 : Nat)) : Int) = 16 from rfl]
      go_wp2
      go_loopw [1] (fun nv wr => ∃ (n : Nat) (o r : Nat → Nat), n ≤ N ∧ nv = .int .i64 n ∧ Hid (MA wr w.heap.size 0 16 r) ∧ Hid (MA wr (w.heap.size + 1) 0 16 (fun _ => 0)) ∧ Hid (MA wr (w.heap.size + 1 + 1) 0 16 o) ∧ Hid (Below w.heap.size w wr) ∧ Hid (∀ i, i < 16 → o i < 65536) ∧ Hid (∀ i, i < 16 → r i < 65536) ∧ Hid (G2.pwG 16 64 o r n = G2.pwL 16 f N)) (fun nv _ => (intOf nv).toNat)
      case atStart => exact ⟨N, fun i => 2 ^ i, f, Nat.le_refl _, rfl, K0, K1, L2, KB, fun i hi => (pow_wrap hi).2.2, HF.out, rfl⟩
      case round =>
        obtain ⟨n, o, r, hn, rfl, J0, J1, J2, JB, HO, HR, HE⟩ := hrel
        clear K0 K1 L2 KB
        by_cases h0 : n = 0
        · subst h0
          have E0 : Hid (G2.pwL 16 f N = o) := by unfold Hid; rw [← HE.out]; rfl
          have N1 := J2.out
          have N2 := J1.out
          have NB := JB.out
          clear J0 J1 J2 JB HO HR HE HT
          go_upto_region 12 with fail
          refine wp_region_lit ?_
          refine wpList_load_mid rfl 65 (Operand.tmp 5) rfl (w.heap.size + 1 + 1) 0 rfl (vs 16 o) (.array 16 2) N1.range mat_under rfl (by rw [mat_info, vs_length]) ?_
          refine wpList_store_mid rfl 65 (Operand.tmp 4) (Operand.tmp 28) rfl (w.heap.size + 1) 0 (vs 16 o).toArray rfl rfl (by rw [vs_size]; exact N2.there) (by rw [mat_info, vs_size]) (vs_all 16 _) ?_
          refine wpList_nil ?_
          rw [List.toList_toArray]
          have K := run_vs_load (P := Try.prog) (N2.put o) mat_under mat_info
          have KB : Below w.heap.size w (wr.setCells (w.heap.size + 1) 0 (vs 16 o)) := below_setCells (by omega) _ _ _ NB
          generalize wr.setCells (w.heap.size + 1) 0 (vs 16 o) = W6 at K KB ⊢
          obtain ⟨A, hA⟩ : ∃ A, (vs 16 o).toArray = A := ⟨_, rfl⟩
          have HA := Lib.hid hA
          rw [hA] at K ⊢
          clear N1 N2 NB hA
          go_wp2
          exact bodyPost_ret (v := .agg A) (by simp [results, Try.results46, asAddr, Act.put, K]) rfl ⟨by rw [E0.out, HA.out], KB⟩
        · have hn0 : 0 < n := by omega
          have hnI : (0 : Int) < (n : Int) := by omega
          have HS := G2.pwG_step 16 64 o r n (by omega) h0
          rw [HE.out] at HS
          rcases (show n % 2 = 1 ∨ n % 2 = 0 by omega) with hp | hp
          · rw [if_pos hp] at HS
            have HE2 := Lib.hid HS
            have t1 : ((n : Int) % 2) = 1 := by omega
            clear HS HE
            go_upto_region 10 with fail
            refine wp_region_lit ?_
            refine wpList_load_mid rfl 65 (Operand.tmp 5) rfl (w.heap.size + 1 + 1) 0 rfl (vs 16 o) (.array 16 2) J2.out.range mat_under rfl (by rw [mat_info, vs_length]) ?_
            refine wpList_load_mid rfl 65 (Operand.tmp 2) rfl w.heap.size 0 rfl (vs 16 r) (.array 16 2) J0.out.range mat_under rfl (by rw [mat_info, vs_length]) ?_
            go_wp2_with fail
            rename_i hK
            refine (HT.out o r _ HO.out HR.out).mono ?_
            rintro e w5 ⟨rfl, hb⟩
            refine hK _ _ ?_
            clear hK
            have P0 := J0.out.far (by omega) hb
            have P1 := J1.out.far (by omega) hb
            have P2 := J2.out.far (by omega) hb
            have PB := JB.out.trans (hb.mono JB.out.size)
            refine wpList_store_mid rfl 65 (Operand.tmp 5) (Operand.tmp 24) rfl (w.heap.size + 1 + 1) 0 (vs 16 (G2.thn 16 o r)).toArray rfl rfl (by rw [vs_size]; exact P2.there) (by rw [mat_info, vs_size]) (vs_all 16 _) ?_
            refine wpList_nil ?_
            rw [List.toList_toArray]
            have Q2 : Hid (MA (w5.setCells (w.heap.size + 1 + 1) 0 (vs 16 (G2.thn 16 o r))) (w.heap.size + 1 + 1) 0 16 (G2.thn 16 o r)) := P2.put _
            have Q0 : Hid (MA (w5.setCells (w.heap.size + 1 + 1) 0 (vs 16 (G2.thn 16 o r))) w.heap.size 0 16 r) := P0.away _ (.inl (by omega))
            have Q1 : Hid (MA (w5.setCells (w.heap.size + 1 + 1) 0 (vs 16 (G2.thn 16 o r))) (w.heap.size + 1) 0 16 (fun _ => 0)) := P1.away _ (.inl (by omega))
            have QB : Hid (Below w.heap.size w (w5.setCells (w.heap.size + 1 + 1) 0 (vs 16 (G2.thn 16 o r)))) := below_setCells (by omega) _ _ _ PB
            have HO2 : Hid (∀ i, i < 16 → G2.thn 16 o r i < 65536) := fun i _ => thn_lt16 HO.out i
            clear hb P0 P1 P2 PB J0 J1 J2 JB
            generalize w5.setCells (w.heap.size + 1 + 1) 0 (vs 16 (G2.thn 16 o r)) = w6 at Q0 Q1 Q2 QB ⊢
            go_upto_region 11 with fail
            refine wp_region_lit ?_
            refine wpList_load_mid rfl 65 (Operand.tmp 2) rfl w.heap.size 0 rfl (vs 16 r) (.array 16 2) Q0.out.range mat_under rfl (by rw [mat_info, vs_length]) ?_
            refine wpList_load_mid rfl 65 (Operand.tmp 2) rfl w.heap.size 0 rfl (vs 16 r) (.array 16 2) Q0.out.range mat_under rfl (by rw [mat_info, vs_length]) ?_
            go_wp2_with fail
            rename_i hK
            refine (HT.out r r _ HR.out HR.out).mono ?_
            rintro e w7 ⟨rfl, hb⟩
            refine hK _ _ ?_
            clear hK
            have P0 := Q0.out.far (by omega) hb
            have P1 := Q1.out.far (by omega) hb
            have P2 := Q2.out.far (by omega) hb
            have PB := QB.out.trans (hb.mono QB.out.size)
            refine wpList_store_mid rfl 65 (Operand.tmp 2) (Operand.tmp 27) rfl w.heap.size 0 (vs 16 (G2.thn 16 r r)).toArray rfl rfl (by rw [vs_size]; exact P0.there) (by rw [mat_info, vs_size]) (vs_all 16 _) ?_
            refine wpList_nil ?_
            rw [List.toList_toArray]
            have S0 : Hid (MA (w7.setCells w.heap.size 0 (vs 16 (G2.thn 16 r r))) w.heap.size 0 16 (G2.thn 16 r r)) := P0.put _
            have S1 : Hid (MA (w7.setCells w.heap.size 0 (vs 16 (G2.thn 16 r r))) (w.heap.size + 1) 0 16 (fun _ => 0)) := P1.away _ (.inl (by omega))
            have S2 : Hid (MA (w7.setCells w.heap.size 0 (vs 16 (G2.thn 16 r r))) (w.heap.size + 1 + 1) 0 16 (G2.thn 16 o r)) := P2.away _ (.inl (by omega))
            have SB : Hid (Below w.heap.size w (w7.setCells w.heap.size 0 (vs 16 (G2.thn 16 r r)))) := below_setCells (Nat.le_refl _) _ _ _ PB
            have HR2 : Hid (∀ i, i < 16 → G2.thn 16 r r i < 65536) := fun i _ => thn_lt16 HR.out i
            clear hb P0 P1 P2 PB Q0 Q1 Q2 QB
            generalize w7.setCells w.heap.size 0 (vs 16 (G2.thn 16 r r)) = w8 at S0 S1 S2 SB ⊢
            go_wp2
            go_roundw
            case rel => exact ⟨n / 2, (G2.thn 16 o r), G2.thn 16 r r, by omega, by go_num, S0, S1, S2, SB, HO2, HR2, HE2⟩
            case measure => first | (simp [intOf]; done) | (simp [intOf]; omega)
          · rw [if_neg (by omega)] at HS
            have HE2 := Lib.hid HS
            have t1 : ((n : Int) % 2) = 0 := by omega
            have Q0 := J0
            have Q1 := J1
            have Q2 := J2
            have QB := JB
            clear HS HE J0 J1 J2 JB
            go_upto_region 11 with fail
            refine wp_region_lit ?_
            refine wpList_load_mid rfl 65 (Operand.tmp 2) rfl w.heap.size 0 rfl (vs 16 r) (.array 16 2) Q0.out.range mat_under rfl (by rw [mat_info, vs_length]) ?_
            refine wpList_load_mid rfl 65 (Operand.tmp 2) rfl w.heap.size 0 rfl (vs 16 r) (.array 16 2) Q0.out.range mat_under rfl (by rw [mat_info, vs_length]) ?_
            go_wp2_with fail
            rename_i hK
            refine (HT.out r r _ HR.out HR.out).mono ?_
            rintro e w7 ⟨rfl, hb⟩
            refine hK _ _ ?_
            clear hK
            have P0 := Q0.out.far (by omega) hb
            have P1 := Q1.out.far (by omega) hb
            have P2 := Q2.out.far (by omega) hb
            have PB := QB.out.trans (hb.mono QB.out.size)
            refine wpList_store_mid rfl 65 (Operand.tmp 2) (Operand.tmp 27) rfl w.heap.size 0 (vs 16 (G2.thn 16 r r)).toArray rfl rfl (by rw [vs_size]; exact P0.there) (by rw [mat_info, vs_size]) (vs_all 16 _) ?_
            refine wpList_nil ?_
            rw [List.toList_toArray]
            have S0 : Hid (MA (w7.setCells w.heap.size 0 (vs 16 (G2.thn 16 r r))) w.heap.size 0 16 (G2.thn 16 r r)) := P0.put _
            have S1 : Hid (MA (w7.setCells w.heap.size 0 (vs 16 (G2.thn 16 r r))) (w.heap.size + 1) 0 16 (fun _ => 0)) := P1.away _ (.inl (by omega))
            have S2 : Hid (MA (w7.setCells w.heap.size 0 (vs 16 (G2.thn 16 r r))) (w.heap.size + 1 + 1) 0 16 o) := P2.away _ (.inl (by omega))
            have SB : Hid (Below w.heap.size w (w7.setCells w.heap.size 0 (vs 16 (G2.thn 16 r r)))) := below_setCells (Nat.le_refl _) _ _ _ PB
            have HR2 : Hid (∀ i, i < 16 → G2.thn 16 r r i < 65536) := fun i _ => thn_lt16 HR.out i
            clear hb P0 P1 P2 PB Q0 Q1 Q2 QB
            generalize w7.setCells w.heap.size 0 (vs 16 (G2.thn 16 r r)) = w8 at S0 S1 S2 SB ⊢
            go_wp2
            go_roundw
            case rel => exact ⟨n / 2, o, G2.thn 16 r r, by omega, by go_num, S0, S1, S2, SB, HO, HR2, HE2⟩
            case measure => first | (simp [intOf]; done) | (simp [intOf]; omega)
end Go.Proofs.Ytciofobedgmbjaa

namespace Go.Proofs.Ytciofobedgmbjaa
open Go.RowKit Go.PlainAid
set_option maxHeartbeats 800000

/-- the numbers f 0 .. f (n-1) -/
def lsI (n : Nat) (f : Nat → Nat) : List Int := (List.range n).map fun i => ((f i : Nat) : Int)
theorem lsI_length (n : Nat) (f : Nat → Nat) : (lsI n f).length = n := by simp [lsI]
theorem lsI_get {n : Nat} (f : Nat → Nat) {k : Nat} (hk : k < n) : (lsI n f)[k]? = some ((f k : Nat) : Int) := by simp [lsI, hk]
theorem lsI_succ (n : Nat) (f : Nat → Nat) : lsI (n + 1) f = lsI n f ++ [((f n : Nat) : Int)] := by simp [lsI, List.range_succ]
theorem lsI_congr {n : Nat} {f g : Nat → Nat} (h : ∀ i, i < n → f i = g i) : lsI n f = lsI n g := by
  unfold lsI
  apply List.map_congr_left
  intro i hi
  rw [h i (List.mem_range.1 hi)]
theorem lsI_of {xs : List Int} {n : Nat} (hn : xs.length = n) (hy : ∀ (i : Nat) (y : Int), xs[i]? = some y → y = (rwF xs i : Nat)) : xs = lsI n (rwF xs) := by
  apply List.ext_getElem?
  intro i
  by_cases h : i < n
  · obtain ⟨y, e⟩ : ∃ y, xs[i]? = some y := ⟨_, List.getElem?_eq_getElem (by omega)⟩
    rw [lsI_get _ h, e, ← hy i y e]
  · rw [List.getElem?_eq_none (by omega), List.getElem?_eq_none (by rw [lsI_length]; omega)]
theorem l08Row_any (m : Nat) (a : Option Addr) (n c : Nat) (f : Nat → Nat) (w : World) (h : RO w.heap.size w a (lsI n f)) (hl : n ≤ 16) (hf : ∀ i, i < n → f i < 65536) :
    Calls Try.prog 66 #[.int .i64 m, .slice a n c] w fun e w' => e = .returned (.int .i64 (G2.xrL f m n)) ∧ w = w' := by
  have HR := Lib.hid h
  clear h
  go_enter Try.func66, Try.ntmps66
  go_wp2
  go_loopw [5, 6] (fun nv iv wr => ∃ k z : Nat, k ≤ n ∧ nv = .int .i64 z ∧ iv = .int .i64 k ∧ z < 65536 ∧ Hid (z = G2.xrL f m k) ∧ w = wr) (fun _ iv _ => n - (intOf iv).toNat)
  case atStart => exact ⟨0, 0, Nat.zero_le _, rfl, rfl, by omega, rfl, rfl⟩
  case round =>
    obtain ⟨k, z, hk, rfl, rfl, hz, HN, rfl⟩ := hrel
    by_cases hlt : k < n
    · have hk16 : k < 16 := by omega
      obtain ⟨g, off, rfl, hg, hc⟩ := HR.out k _ (lsI_get f hlt)
      have hfk := hf k hlt
      have E := xr_and m k
      cases hb : m.testBit k with
      | true =>
        rw [hb] at E
        simp only [Bool.toNat_true] at E
        have HN2 : Hid (z ^^^ f k = G2.xrL f m (k + 1)) := by unfold Hid; rw [G2.xrL, hb, if_pos rfl, ← HN.out]
        have hl2 : z ^^^ f k < 65536 := Nat.xor_lt_two_pow (n := 16) hz hfk
        have E2 := i64_xorN z (f k) (by omega) (by omega)
        generalize z ^^^ f k = y at HN2 hl2 E2
        clear HN hb hf
        go_wp2
        go_roundw
        case rel => exact ⟨k + 1, y, by omega, by first | rfl | (rw [E2]), by go_num, hl2, HN2, by first | trivial | rfl⟩
        case measure => first | (simp [intOf]; done) | (simp [intOf]; omega)
      | false =>
        rw [hb] at E
        simp only [Bool.toNat_false] at E
        have HN2 : Hid (z = G2.xrL f m (k + 1)) := by unfold Hid; rw [G2.xrL, hb, ← HN.out]; rfl
        clear HN hb hf
        go_wp2
        go_roundw
        case rel => exact ⟨k + 1, z, by omega, rfl, by go_num, hz, HN2, by first | trivial | rfl⟩
        case measure => first | (simp [intOf]; done) | (simp [intOf]; omega)
    · obtain rfl : k = n := by omega
      go_wp2
      go_ret
      exact ⟨by rw [← HN.out]; rfl, by first | trivial | rfl⟩
/-- a list of numbers that was made -/
def ListNew (w : World) (n : Nat) (f : Nat → Nat) (e : Ending) (w' : World) : Prop := ∃ g c, e = .returned (.slice (some ⟨g, 0, none⟩) n c) ∧ Rw w.heap.size g n c (lsI n f) w' ∧ Below w.heap.size w w'
theorem l08Then_any (a b : Option Addr) (n ca cb : Nat) (f s : Nat → Nat) (w : World) (h1 : RO w.heap.size w a (lsI n f)) (h2 : RO w.heap.size w b (lsI n s)) (hl : n ≤ 16) (hf : ∀ i, i < n → f i < 65536) :
    Calls Try.prog 60 #[.slice a n ca, .slice b n cb] w (ListNew w n (G2.thn n f s)) := by
  obtain ⟨i0, hi, hz0, hz1, hz2⟩ := info_parts Try.info2
  have H2 := Lib.hid h2
  have HC : Hid (∀ (m : Nat) (W : World), Below w.heap.size w W → Calls Try.prog 66 #[.int .i64 m, .slice a n ca] W fun e w' => e = .returned (.int .i64 (G2.xrL f m n)) ∧ W = w') := fun m W hW => l08Row_any m a n ca f W ((h1.below hW).up hW.size) hl hf
  have R0 : Hid (Rw w.heap.size w.heap.size 0 0 (lsI 0 (G2.thn n f s)) (w.alloc (.cells #[] 2))) := Rw.empty w
  have B0 : Hid (Below w.heap.size w (w.alloc (.cells #[] 2))) := (Below.refl _ _).alloc (Nat.le_refl _) _
  clear h1 h2 hf
  go_enter Try.func60, Try.ntmps60
  go_wp2
  go_loopw [5, 6] (fun sv iv wr => ∃ k g2 cap2 : Nat, k ≤ n ∧ sv = .slice (some ⟨g2, 0, none⟩) k cap2 ∧ iv = .int .i64 k ∧ Hid (Rw w.heap.size g2 k cap2 (lsI k (G2.thn n f s)) wr) ∧ Hid (Below w.heap.size w wr)) (fun _ iv _ => n - (intOf iv).toNat)
  case atStart => exact ⟨0, _, _, Nat.zero_le _, rfl, rfl, R0, B0⟩
  case round =>
    obtain ⟨k, g2, cap2, hk, rfl, rfl, HS, HB⟩ := hrel
    clear R0 B0
    by_cases hlt : k < n
    · obtain ⟨g, off, rfl, hg, hc0⟩ := H2.out k _ (lsI_get s hlt)
      have hc := (HB.out.cell (p := ⟨g, off + k, none⟩) hg).trans hc0
      have hzz := HB.out.size
      have HV : Hid (G2.xrL f (s k) n = G2.thn n f s k) := rfl
      clear hc0
      go_wp2_with fail
      refine (HC.out (s k) wr HB.out).mono ?_
      rintro e w3 ⟨rfl, rfl⟩
      rw [HV.out]
      go_wp2_with (at_builtin; refine wpList_append_own_at _ rfl _ _ 22 rfl w.heap.size 2 i0 (.int .i64 0) 1 8 Try.underlying22 hi hz0 hz1 hz2 rfl (by decide) _ _ _ rfl (World.ownsRow.alloc (HS.out) _) ⟨wr.heap.size, 0, none⟩ 1 1 [.int .i64 (G2.thn n f s k : Nat)] rfl rfl (cell_one_new _ _ _) (by intro u hu; simp at hu; subst hu; rfl) (by unfold maxLen; omega) (by omega) (by first | (simp; done) | (simp; omega)) ?_; intro v1 w1 hown1 hgrow1 hnil1 hat1)
      obtain ⟨g1, cap1, rfl, hr1, hg1, hgr⟩ := Rw.app HS.out hown1 hgrow1 hat1
      have HB1 : Hid (Below w.heap.size w w1) := HB.out.grown hgr hzz (fun q e => by cases e; exact HS.out.le)
      have HS5 : Hid (Rw w.heap.size g1 (k + 1) cap1 (lsI (k + 1) (G2.thn n f s)) w1) := by
        unfold Hid
        rw [lsI_succ]
        exact hr1
      clear hown1 hgrow1 hnil1 hat1 hr1 hg1 hgr HS HB hc
      go_wp2
      go_roundw
      case rel => exact ⟨k + 1, g1, cap1, by omega, by first | rfl | go_num, by go_num, HS5, HB1⟩
      case measure => first | (simp [intOf]; done) | (simp [intOf]; omega)
    · obtain rfl : k = n := by omega
      go_wp2
      go_ret
      exact ⟨_, _, rfl, HS.out, HB.out⟩
set_option maxRecDepth 10000 in
theorem l08Power_any (a : Option Addr) (n ca N : Nat) (f : Nat → Nat) (w : World) (h1 : RO w.heap.size w a (lsI n f)) (hl : n ≤ 16) (hf : ∀ i, i < n → f i < 2 ^ n) (hN : N ≤ 1000000000000000000) :
    Calls Try.prog 44 #[.slice a n ca, .int .i64 N] w (ListNew w n (G2.pwL n f N)) := by
  obtain ⟨i0, hi, hz0, hz1, hz2⟩ := info_parts Try.info2
  have hp16 : 2 ^ n ≤ 65536 := by have := Nat.pow_le_pow_right (show 0 < 2 by omega) hl; omega
  have HT : Hid (∀ (a b : Option Addr) (ca cb : Nat) (o r : Nat → Nat) (W : World), RO W.heap.size W a (lsI n o) → RO W.heap.size W b (lsI n r) → (∀ i, i < n → o i < 2 ^ n) → Calls Try.prog 60 #[.slice a n ca, .slice b n cb] W (ListNew W n (G2.thn n o r))) := fun a b ca cb o r W ho hr hb => l08Then_any a b n ca cb o r W ho hr hl fun i hi => by have := hb i hi; omega
  have H1 := Lib.hid h1
  have HF := Lib.hid hf
  have R0 : Hid (Rw w.heap.size w.heap.size 0 0 (lsI 0 fun i => 2 ^ i) (w.alloc (.cells #[] 2))) := Rw.empty w
  have B0 : Hid (Below w.heap.size w (w.alloc (.cells #[] 2))) := (Below.refl _ _).alloc (Nat.le_refl _) _
  clear h1 hf hp16
  go_enter Try.func44, Try.ntmps44
  go_wp2
  go_loopw [5, 6] (fun sv iv wr => ∃ k g2 cap2 : Nat, k ≤ n ∧ sv = .slice (some ⟨g2, 0, none⟩) k cap2 ∧ iv = .int .i64 k ∧ Hid (Rw w.heap.size g2 k cap2 (lsI k fun i => 2 ^ i) wr) ∧ Hid (Below w.heap.size w wr)) (fun _ iv _ => n - (intOf iv).toNat)
  case atStart => exact ⟨0, _, _, Nat.zero_le _, rfl, rfl, R0, B0⟩
  case round =>
    obtain ⟨k, g2, cap2, hk, rfl, rfl, HS, HB⟩ := hrel
    clear R0 B0
    by_cases hlt : k < n
    · obtain ⟨p1, p2, _⟩ := pow_wrap (k := k) (by omega)
      have hzz := HB.out.size
      obtain ⟨p, hp⟩ : ∃ p, 2 ^ k = p := ⟨_, rfl⟩
      have HP := Lib.hid hp
      rw [hp] at p1 p2
      clear hp
      go_wp2_with (at_builtin; refine wpList_append_own_at _ rfl _ _ 22 rfl w.heap.size 2 i0 (.int .i64 0) 1 8 Try.underlying22 hi hz0 hz1 hz2 rfl (by decide) _ _ _ rfl (World.ownsRow.alloc (HS.out) _) ⟨wr.heap.size, 0, none⟩ 1 1 [.int .i64 (p : Nat)] rfl rfl (cell_one_new _ _ _) (by intro u hu; simp at hu; subst hu; rfl) (by unfold maxLen; omega) (by omega) (by first | (simp; done) | (simp; omega)) ?_; intro v1 w1 hown1 hgrow1 hnil1 hat1)
      obtain ⟨g1, cap1, rfl, hr1, hg1, hgr⟩ := Rw.app HS.out hown1 hgrow1 hat1
      have HB1 : Hid (Below w.heap.size w w1) := HB.out.grown hgr hzz (fun q e => by cases e; exact HS.out.le)
      have HS5 : Hid (Rw w.heap.size g1 (k + 1) cap1 (lsI (k + 1) fun i => 2 ^ i) w1) := by
        unfold Hid
        rw [lsI_succ, HP.out]
        exact hr1
      clear hown1 hgrow1 hnil1 hat1 hr1 hg1 hgr HS HB
      go_wp2
      go_roundw
      case rel => exact ⟨k + 1, g1, cap1, by omega, by first | rfl | go_num, by go_num, HS5, HB1⟩
      case measure => first | (simp [intOf]; done) | (simp [intOf]; omega)
    · obtain rfl : k = n := by omega
      clear hlt
      go_wp2
      go_loopw [0, 1, 5] (fun rv nv sv wr => ∃ (m g2 cap2 c2 : Nat) (b : Option Addr) (o r : Nat → Nat), m ≤ N ∧ rv = .slice b k c2 ∧ nv = .int .i64 m ∧ sv = .slice (some ⟨g2, 0, none⟩) k cap2 ∧ Hid (RO wr.heap.size wr b (lsI k r)) ∧ Hid (Rw w.heap.size g2 k cap2 (lsI k o) wr) ∧ Hid (Below w.heap.size w wr) ∧ Hid (∀ i, i < k → o i < 2 ^ k) ∧ Hid (∀ i, i < k → r i < 2 ^ k) ∧ Hid (G2.pwG k 64 o r m = G2.pwL k f N)) (fun _ nv _ _ => (intOf nv).toNat)
      case atStart => exact ⟨N, g2, cap2, ca, a, fun i => 2 ^ i, f, Nat.le_refl _, rfl, rfl, rfl, (H1.out.below HB.out).up HB.out.size, HS, HB, fun i hi => Nat.pow_lt_pow_right (by omega) hi, HF.out, rfl⟩
      case round =>
        obtain ⟨m, g3, cap3, c3, b, o, r, hm, rfl, rfl, rfl, JR, JS, JB, HO, HR, HE⟩ := hrel
        clear HS HB
        by_cases h0 : m = 0
        · subst h0
          have E0 : Hid (G2.pwL k f N = o) := by unfold Hid; rw [← HE.out]; rfl
          have RES : Hid (ListNew w k (G2.pwL k f N) (.returned (.slice (some ⟨g3, 0, none⟩) k cap3)) wr) := ⟨g3, cap3, rfl, by rw [E0.out]; exact JS.out, JB.out⟩
          clear JR JS JB HO HR HE HT E0
          go_wp2
          go_ret
          exact RES.out
        · have hn0 : 0 < m := by omega
          have hnI : (0 : Int) < (m : Int) := by omega
          have HS := G2.pwG_step k 64 o r m (by omega) h0
          rw [HE.out] at HS
          have HR2 : Hid (∀ i, i < k → G2.thn k r r i < 2 ^ k) := fun i _ => G2.thn_lt HR.out i
          rcases (show m % 2 = 1 ∨ m % 2 = 0 by omega) with hp | hp
          · rw [if_pos hp] at HS
            have HE2 := Lib.hid HS
            have t1 : ((m : Int) % 2) = 1 := by omega
            have HO2 : Hid (∀ i, i < k → G2.thn k o r i < 2 ^ k) := fun i _ => G2.thn_lt HO.out i
            clear HS HE
            go_wp2_with fail
            refine (HT.out _ b cap3 c3 o r wr JS.out.ro JR.out HO.out).mono ?_
            rintro e w5 ⟨g5, c5, rfl, hr5, hb5⟩
            have PS : Hid (Rw w.heap.size g5 k c5 (lsI k (G2.thn k o r)) w5) := hr5.base JB.out.size
            have PR : Hid (RO w5.heap.size w5 b (lsI k r)) := (JR.out.below hb5).up hb5.size
            have PB : Hid (Below w.heap.size w w5) := JB.out.trans (hb5.mono JB.out.size)
            clear hr5 hb5 JS JR JB
            go_wp2_with fail
            refine (HT.out b b c3 c3 r r w5 PR.out PR.out HR.out).mono ?_
            rintro e w7 ⟨g7, c7, rfl, hr7, hb7⟩
            have QS : Hid (Rw w.heap.size g5 k c5 (lsI k (G2.thn k o r)) w7) := PS.out.far hb7
            have QR : Hid (RO w7.heap.size w7 (some ⟨g7, 0, none⟩) (lsI k (G2.thn k r r))) := hr7.ro
            have QB : Hid (Below w.heap.size w w7) := PB.out.trans (hb7.mono PB.out.size)
            clear hr7 hb7 PS PR PB
            go_wp2
            go_roundw
            case rel => exact ⟨m / 2, g5, c5, c7, _, G2.thn k o r, G2.thn k r r, by omega, rfl, by go_num, rfl, QR, QS, QB, HO2, HR2, HE2⟩
            case measure => first | (simp [intOf]; done) | (simp [intOf]; omega)
          · rw [if_neg (by omega)] at HS
            have HE2 := Lib.hid HS
            have t1 : ((m : Int) % 2) = 0 := by omega
            clear HS HE
            go_wp2_with fail
            refine (HT.out b b c3 c3 r r wr JR.out JR.out HR.out).mono ?_
            rintro e w7 ⟨g7, c7, rfl, hr7, hb7⟩
            have QS : Hid (Rw w.heap.size g3 k cap3 (lsI k o) w7) := JS.out.far hb7
            have QR : Hid (RO w7.heap.size w7 (some ⟨g7, 0, none⟩) (lsI k (G2.thn k r r))) := hr7.ro
            have QB : Hid (Below w.heap.size w w7) := JB.out.trans (hb7.mono JB.out.size)
            clear hr7 hb7 JS JR JB
            go_wp2
            go_roundw
            case rel => exact ⟨m / 2, g3, cap3, c7, _, o, G2.thn k r r, by omega, rfl, by go_num, rfl, QR, QS, QB, HO, HR2, HE2⟩
            case measure => first | (simp [intOf]; done) | (simp [intOf]; omega)
/-- a valid machine, a state of it and a number of steps -/
def LinJ (x : Int) (xs : List Int) (o s n : Int) : Prop := (LinP x xs o ∧ InP x s) ∧ 0 ≤ n ∧ n ≤ 1000000000000000000
theorem jumpL_yes (W : Nat) (a : Option Addr) (c : Nat) (xs : List Int) (o s N : Nat) (w : World) (h : RO w.heap.size w a xs) (hP : LinP W xs o) (hS : InP W s) (hN : N ≤ 1000000000000000000) :
    Calls Try.prog 19 #[.agg #[.int .i64 W, .slice a W c, .int .i64 o], .int .i64 s, .int .i64 N] w fun e w' => e = .returned (.tuple #[.int .i64 (G2.mpL (G2.pwL 16 (rwF xs) N) s 16), .bool true]) ∧ Below w.heap.size w w' := by
  obtain ⟨h1, hn, hs1, hs2, ho, hf, hfW, hy, hz⟩ := linN hP hS
  have h0 : ∀ (i : Nat) (y : Int), xs[i]? = some y → 0 ≤ y := fun i y hh => by rw [hy i y hh]; omega
  have A0 := D3.new w (.int .i64 W) (.slice a W c) (.int .i64 o) 27
  have B0 : Below w.heap.size w (w.alloc (.cells #[.int .i64 W, .slice a W c, .int .i64 o] 27)) := (Below.refl _ _).alloc (Nat.le_refl _) _
  have HS := Lib.hid (hasStL_any W a W c xs o s true _ ((h.below B0).up B0.size) hn (by omega) ⟨fun _ => ⟨hP, hS⟩, fun _ => rfl⟩)
  have HI : Hid (∀ W : World, Calls Try.prog 30 #[.int .i64 N, .int .i64 0, .int .i64 1000000000000000000] W fun e w' => e = .returned (.bool true) ∧ W = w') := fun W => btw64_yes _ _ _ W (by omega) (by omega)
  have HR := Lib.hid h
  have HM : Hid (∀ V : World, RO V.heap.size V a xs → Calls Try.prog 45 #[.agg #[.int .i64 W, .slice a W c, .int .i64 o]] V fun e w' => e = .returned (.agg (vs 16 (rwF xs)).toArray) ∧ Below V.heap.size V w') := fun V hV => matrix_any W a W c xs o V hV hn (by omega) (by omega) h0
  have HP : Hid (∀ V : World, Calls Try.prog 46 #[.agg (vs 16 (rwF xs)).toArray, .int .i64 N] V fun e w' => e = .returned (.agg (vs 16 (G2.pwL 16 (rwF xs) N)).toArray) ∧ Below V.heap.size V w') := fun V => power_any (rwF xs) N V (fun i _ => hf i) hN
  have HA : Hid (∀ V : World, Calls Try.prog 47 #[.agg (vs 16 (G2.pwL 16 (rwF xs) N)).toArray, .int .i64 s] V fun e w' => e = .returned (.int .i64 (G2.mpL (G2.pwL 16 (rwF xs) N) s 16)) ∧ Below V.heap.size V w') := fun V => after_any _ s V (fun i hi => G2.pwL_lt (W := 16) (fun j _ => hf j) N i hi) hs2
  generalize G2.mpL (G2.pwL 16 (rwF xs) N) s 16 = t at HA ⊢
  generalize (vs 16 (G2.pwL 16 (rwF xs) N)).toArray = A2 at HA HP
  generalize (vs 16 (rwF xs)).toArray = A1 at HP HM
  clear h hP hS hf hfW hy hz h0 hs1 hs2 ho
  go_enter Try.func19, Try.ntmps19
  go_wp2_with fail
  generalize w.alloc (.cells #[.int .i64 W, .slice a W c, .int .i64 o] 27) = w0 at A0 B0 HS ⊢
  refine (HS.out).mono ?_
  rintro e w1 ⟨rfl, hb⟩
  obtain ⟨⟨x0, x1, x2⟩, _⟩ := A0.far hb
  have B1 := B0.trans (hb.mono B0.size)
  clear hb HS A0 B0
  go_wp2_with (go_at_call 30; with_reducible refine (HI.out _).mono ?_; rintro e w2 ⟨rfl, rfl⟩)
  refine (HM.out w1 ((HR.out.below B1).up B1.size)).mono ?_
  rintro e w2 ⟨rfl, hb⟩
  have B2 := B1.trans (hb.mono B1.size)
  clear hb B1 x0 x1 x2
  go_wp2_with fail
  refine (HP.out w2).mono ?_
  rintro e w3 ⟨rfl, hb⟩
  have B3 := B2.trans (hb.mono B2.size)
  clear hb B2
  go_wp2_with fail
  refine (HA.out w3).mono ?_
  rintro e w4 ⟨rfl, hb⟩
  have B4 := Lib.hid (B3.trans (hb.mono B3.size))
  clear hb B3
  go_wp2
  go_ret2
  exact ⟨rfl, B4.out⟩
theorem jumpL_no (x : Int) (a : Option Addr) (n c : Nat) (xs : List Int) (o s N : Int) (w : World) (h : RO w.heap.size w a xs) (hn : xs.length = n) (hl : n ≤ 1048576) (hP : ¬ LinJ x xs o s N) :
    Calls Try.prog 19 #[.agg #[.int .i64 x, .slice a n c, .int .i64 o], .int .i64 s, .int .i64 N] w fun e w' => e = .returned (.tuple #[.int .i64 0, .bool false]) ∧ Below w.heap.size w w' := by
  have B0 : Below w.heap.size w (w.alloc (.cells #[.int .i64 x, .slice a n c, .int .i64 o] 27)) := (Below.refl _ _).alloc (Nat.le_refl _) _
  by_cases hp : LinP x xs o ∧ InP x s
  · have HS := Lib.hid (hasStL_any x a n c xs o s true _ ((h.below B0).up B0.size) hn hl ⟨fun _ => hp, fun _ => rfl⟩)
    have HI : Hid (∀ W : World, Calls Try.prog 30 #[.int .i64 N, .int .i64 0, .int .i64 1000000000000000000] W fun e w' => e = .returned (.bool false) ∧ W = w') := fun W => btw64_no _ _ _ W (fun k => hP ⟨hp, k⟩)
    clear h hn hP hp
    go_enter Try.func19, Try.ntmps19
    go_wp2_with fail
    refine (HS.out).mono ?_
    rintro e w1 ⟨rfl, hb⟩
    have HB := Lib.hid (B0.trans (hb.mono B0.size))
    clear hb B0 HS
    go_wp2_with (go_at_call 30; with_reducible refine (HI.out _).mono ?_; rintro e w2 ⟨rfl, rfl⟩)
    go_ret2
    exact ⟨rfl, HB.out⟩
  · have HS := Lib.hid (hasStL_any x a n c xs o s false _ ((h.below B0).up B0.size) hn hl ⟨fun e => absurd e (by simp), fun k => absurd k hp⟩)
    clear h hn hP hp
    go_enter Try.func19, Try.ntmps19
    go_wp2_with fail
    refine (HS.out).mono ?_
    rintro e w1 ⟨rfl, hb⟩
    have HB := Lib.hid (B0.trans (hb.mono B0.size))
    clear hb B0 HS
    go_wp2
    go_ret2
    exact ⟨rfl, HB.out⟩
theorem specJumpL_yes (W : Nat) (a : Option Addr) (c : Nat) (xs : List Int) (o s N : Nat) (w : World) (h : RO w.heap.size w a xs) (hP : LinP W xs o) (hS : InP W s) (hN : N ≤ 1000000000000000000) :
    Calls Try.prog 18 #[.agg #[.int .i64 W, .slice a W c, .int .i64 o], .int .i64 s, .int .i64 N] w fun e w' => e = .returned (.tuple #[.int .i64 (G2.mpL (G2.pwL W (rwF xs) N) s W), .bool true]) ∧ Below w.heap.size w w' := by
  obtain ⟨h1, hn, hs1, hs2, ho, hf, hfW, hy, hz⟩ := linN hP hS
  have A0 := D3.new w (.int .i64 W) (.slice a W c) (.int .i64 o) 27
  have B0 : Below w.heap.size w (w.alloc (.cells #[.int .i64 W, .slice a W c, .int .i64 o] 27)) := (Below.refl _ _).alloc (Nat.le_refl _) _
  have hr0 := (h.below B0).up B0.size
  have HB := Lib.hid (l08Both_any w.heap.size W a W c xs o s true _ A0.1 hr0 hn (by omega) ⟨fun _ => ⟨hP, hS⟩, fun _ => rfl⟩)
  have HI : Hid (∀ W : World, Calls Try.prog 40 #[.int .i64 N, .int .i64 0, .int .i64 1000000000000000000] W fun e w' => e = .returned (.bool true) ∧ W = w') := fun W => l00In_yes _ _ _ W (by omega) (by omega)
  have hxs := lsI_of hn hy
  have hpl : ∀ i, i < W → G2.pwL W (rwF xs) N i < 2 ^ W := fun i hi => G2.pwL_lt (fun j _ => hfW j) N i hi
  have hp16 : 2 ^ W ≤ 65536 := by have := Nat.pow_le_pow_right (show 0 < 2 by omega) h1.2; omega
  have HP : Hid (∀ V : World, RO V.heap.size V a xs → Calls Try.prog 44 #[.slice a W c, .int .i64 N] V (ListNew V W (G2.pwL W (rwF xs) N))) := fun V hV => l08Power_any a W c N (rwF xs) V (by rw [← hxs]; exact hV) h1.2 (fun i _ => hfW i) hN
  have HM : Hid (∀ (V : World) g cc, RO V.heap.size V (some ⟨g, 0, none⟩) (lsI W (G2.pwL W (rwF xs) N)) → Calls Try.prog 43 #[.slice (some ⟨g, 0, none⟩) W cc, .int .i64 s] V fun e w' => e = .returned (.int .i64 (G2.mpL (G2.pwL W (rwF xs) N) s W)) ∧ V = w') := fun V g cc hV => by
    have hrw : ∀ i, i < W → rwF (lsI W (G2.pwL W (rwF xs) N)) i = G2.pwL W (rwF xs) N i := fun i hi => by
      unfold rwF
      rw [List.getD_eq_getElem?_getD, lsI_get _ hi]; simp
    have hrz : ∀ i, W ≤ i → rwF (lsI W (G2.pwL W (rwF xs) N)) i = 0 := fun i hi => by
      unfold rwF
      rw [List.getD_eq_getElem?_getD, List.getElem?_eq_none (by rw [lsI_length]; exact hi)]; rfl
    have := l08Map_any (some ⟨g, 0, none⟩) W cc (lsI W (G2.pwL W (rwF xs) N)) s V hV (lsI_length _ _) h1.2 (fun i => by
      by_cases hi : i < W
      · rw [hrw i hi]; have := hpl i hi; omega
      · rw [hrz i (by omega)]; omega) (fun i y hh => by
      have hi : i < W := by have := (List.getElem?_eq_some_iff.1 hh).1; rwa [lsI_length] at this
      rw [lsI_get _ hi] at hh
      cases hh
      rw [hrw i hi]) hs2
    have e : G2.mpL (rwF (lsI W (G2.pwL W (rwF xs) N))) s W = G2.mpL (G2.pwL W (rwF xs) N) s W := by
      apply Nat.eq_of_testBit_eq
      intro j
      rw [G2.mpL_bit, G2.mpL_bit]
      by_cases hj : j < W
      · rw [hrw j hj]
      · simp [hj]
    rwa [e] at this
  have HR := Lib.hid h
  have HB0 := Lib.hid B0
  have HA0 := Lib.hid A0
  generalize G2.mpL (G2.pwL W (rwF xs) N) s W = t at HM ⊢
  clear h hP hS hf hfW hy hz hs1 hs2 ho hxs hpl hp16 hr0 A0 B0
  go_enter Try.func18, Try.ntmps18
  go_wp2_with fail
  generalize w.alloc (.cells #[.int .i64 W, .slice a W c, .int .i64 o] 27) = w0 at HA0 HB0 HB ⊢
  refine HB.out.mono ?_
  rintro e w1 ⟨rfl, m, rfl⟩
  obtain ⟨⟨x0, x1, x2⟩, _⟩ := HA0.out.drewN m
  have B1 := below_drewN HB0.out m
  generalize w0.drewN m = w1 at x0 x1 x2 B1 ⊢
  clear HB HA0 HB0
  go_wp2_with (go_at_call 40; with_reducible refine (HI.out _).mono ?_; rintro e w2 ⟨rfl, rfl⟩)
  refine (HP.out w1 ((HR.out.below B1).up B1.size)).mono ?_
  rintro e w3 ⟨g, cc, rfl, hr, hb⟩
  have B3 := B1.trans (hb.mono B1.size)
  have HRR := Lib.hid hr.ro
  clear hb B1 x0 x1 x2 hr
  go_wp2_with fail
  refine (HM.out w3 g cc HRR.out).mono ?_
  rintro e w4 ⟨rfl, rfl⟩
  have HB4 := Lib.hid B3
  clear B3
  go_wp2
  go_ret2
  exact ⟨rfl, HB4.out⟩
theorem specJumpL_no (x : Int) (a : Option Addr) (n c : Nat) (xs : List Int) (o s N : Int) (w : World) (h : RO w.heap.size w a xs) (hn : xs.length = n) (hl : n ≤ 1048576) (hP : ¬ LinJ x xs o s N) :
    Calls Try.prog 18 #[.agg #[.int .i64 x, .slice a n c, .int .i64 o], .int .i64 s, .int .i64 N] w fun e w' => e = .returned (.tuple #[.int .i64 0, .bool false]) ∧ Below w.heap.size w w' := by
  have A0 := D3.new w (.int .i64 x) (.slice a n c) (.int .i64 o) 27
  have B0 : Below w.heap.size w (w.alloc (.cells #[.int .i64 x, .slice a n c, .int .i64 o] 27)) := (Below.refl _ _).alloc (Nat.le_refl _) _
  have HB0 := Lib.hid B0
  by_cases hp : LinP x xs o ∧ InP x s
  · have HB := Lib.hid (l08Both_any w.heap.size x a n c xs o s true _ A0.1 ((h.below B0).up B0.size) hn hl ⟨fun _ => hp, fun _ => rfl⟩)
    have HI : Hid (∀ W : World, Calls Try.prog 40 #[.int .i64 N, .int .i64 0, .int .i64 1000000000000000000] W fun e w' => e = .returned (.bool false) ∧ W = w') := fun W => l00In_no _ _ _ W (fun k => hP ⟨hp, k⟩)
    clear h hn hP hp A0 B0
    go_enter Try.func18, Try.ntmps18
    go_wp2_with fail
    refine HB.out.mono ?_
    rintro e w1 ⟨rfl, m, rfl⟩
    go_wp2_with (go_at_call 40; with_reducible refine (HI.out _).mono ?_; rintro e w2 ⟨rfl, rfl⟩)
    go_ret2
    exact ⟨rfl, below_drewN HB0.out _⟩
  · have HB := Lib.hid (l08Both_any w.heap.size x a n c xs o s false _ A0.1 ((h.below B0).up B0.size) hn hl ⟨fun e => absurd e (by simp), fun k => absurd k hp⟩)
    clear h hn hP hp A0 B0
    go_enter Try.func18, Try.ntmps18
    go_wp2_with fail
    refine HB.out.mono ?_
    rintro e w1 ⟨rfl, m, rfl⟩
    go_wp2
    go_ret2
    exact ⟨rfl, below_drewN HB0.out _⟩
theorem lawJumpL (x : Int) (a : Option Addr) (n cap : Nat) (zs : List Int) (o s N : Int) (w : World) (h : RowIn .i64 w a n zs) :
    Calls Try.prog 6 #[.agg #[.int .i64 x, .slice a n cap, .int .i64 o], .int .i64 s, .int .i64 N] w fun e w' => e = .returned (.bool true) ∧ Below w.heap.size w w' :=
  lawJumpLinear_any x a n cap zs o s N w h fun xs hn hl hr => by
    by_cases hP : LinJ x xs o s N
    · obtain ⟨W, O, S, rfl, rfl, rfl⟩ := linI hP.1
      obtain ⟨M, rfl⟩ := Int.eq_ofNat_of_zero_le hP.2.1
      have hM : M ≤ 1000000000000000000 := by have := hP.2.2; omega
      obtain ⟨h1, hn2, hs1, hs2, ho, hf, hfW, hy, hz⟩ := linN hP.1.1 hP.1.2
      obtain rfl : n = W := by omega
      have e := G2.mpL_same h1.2 (fun i _ => hfW i) hz M S hs1
      refine lawJumpLinear_core n a n cap xs O S M (G2.mpL (G2.pwL n (rwF xs) M) S n : Nat) true w hr hn hl (fun W' b' c hr' _ => specJumpL_yes n b' c xs O S M W' hr' hP.1.1 hP.1.2 hM) (fun W' b' c hr' _ => ?_)
      have := jumpL_yes n b' c xs O S M W' hr' hP.1.1 hP.1.2 hM
      rwa [e] at this
    · exact lawJumpLinear_core x a n cap xs o s N 0 false w hr hn hl (fun W b' c hr' _ => specJumpL_no x b' n c xs o s N W hr' hn hl hP) (fun W b' c hr' _ => jumpL_no x b' n c xs o s N W hr' hn hl hP)
end Go.Proofs.Ytciofobedgmbjaa

namespace Go.Proofs.Ytciofobedgmbjaa
open Go.RowKit Go.PlainAid
set_option maxHeartbeats 800000

/-- the bits of row k -/
def bM (f : Nat → Nat) (k : Nat) : Nat → Bool := fun j => (f (2 ^ j)).testBit k
/-- the rows when j columns are done, and i rows of the next one -/
def mT (f : Nat → Nat) (W j i k : Nat) : Nat := if k < W then (if k < i then G2.nb (bM f k) (j + 1) else G2.nb (bM f k) j) else 0
/-- the rows of a map -/
def mF (f : Nat → Nat) (W i : Nat) : Nat := if i < W then G2.rwM f W i else 0
theorem mT_next (f : Nat → Nat) (W j k : Nat) : mT f W j W k = mT f W (j + 1) 0 k := by
  unfold mT
  by_cases h : k < W
  · rw [if_pos h, if_pos h, if_pos h, if_neg (by omega)]
  · rw [if_neg h, if_neg h]
theorem mT_end (f : Nat → Nat) (W k : Nat) : mT f W W 0 k = mF f W k := by
  unfold mT mF
  by_cases h : k < W
  · rw [if_pos h, if_pos h, if_neg (by omega)]; rfl
  · rw [if_neg h, if_neg h]
theorem mT_zero (f : Nat → Nat) (W k : Nat) : mT f W 0 0 k = 0 := by
  unfold mT
  split
  · rw [if_neg (by omega)]; rfl
  · rfl
theorem mT_lt (f : Nat → Nat) {W j : Nat} (i k : Nat) (hj : j < 16) : mT f W j i k < 65536 := by
  unfold mT
  have h1 := G2.nb_lt (bM f k) (j + 1)
  have h2 := G2.nb_lt (bM f k) j
  have h3 : 2 ^ (j + 1) ≤ 2 ^ 16 := Nat.pow_le_pow_right (by omega) (by omega)
  have h4 : 2 ^ j ≤ 2 ^ 16 := Nat.pow_le_pow_right (by omega) (by omega)
  split
  · split <;> omega
  · omega
theorem mT_step (f : Nat → Nat) {W j i : Nat} (hi : i < W) (k : Nat) : mT f W j (i + 1) k = if k = i then mT f W j i i ||| (bM f i j).toNat * 2 ^ j else mT f W j i k := by
  unfold mT
  by_cases e : k = i
  · subst e
    rw [if_pos rfl, if_pos hi, if_pos (by omega), if_pos hi, if_neg (by omega)]
    rfl
  · rw [if_neg e]
    by_cases h : k < W
    · rw [if_pos h, if_pos h]
      by_cases h2 : k < i
      · rw [if_pos h2, if_pos (by omega)]
      · rw [if_neg h2, if_neg (by omega)]
    · rw [if_neg h, if_neg h]
theorem or_col (f : Nat → Nat) {W j i : Nat} (hj : j < 16) : bits .or .i64 (mT f W j i i : Int) (IntKind.i64.wrap (((bM f i j).toNat : Int) * 2 ^ j)) = ((mT f W j i i ||| (bM f i j).toNat * 2 ^ j : Nat) : Int) := by
  have h1 := mT_lt f (W := W) i i hj
  have h2 := shl_in (a := (bM f i j).toNat) (k := j) (A := 1) (by cases bM f i j <;> simp) (by omega)
  rw [cast_shl, IntWalk.i64_in _ (by omega), i64_orN _ _ (by omega) h2]
set_option maxRecDepth 10000 in
theorem matF_any (K : FuncId) (first : Value) (f : Nat → Nat) (W : Nat) (w : World) (hW : W ≤ 16) (hf : ∀ x, x < 2 ^ W → f x < 2 ^ W) (hK : ∀ (args : Array Value) (V : World), (callFunc K args).run Try.prog V = .ok (.enter K args) V) (HC : Hid (∀ (x : Nat) (V : World), x < 2 ^ W → Calls Try.prog K #[first, .int .i64 x] V fun e w' => e = .returned (.int .i64 (f x)) ∧ Below V.heap.size V w')) :
    Calls Try.prog 63 #[.agg #[.int .i64 W, .func (.func K) #[first] #[]]] w fun e w' => e = .returned (.agg (vs 16 (mF f W)).toArray) ∧ Below w.heap.size w w' := by
  have hmx : Try.prog.follows .mixedOrders = true := by kernel_rfl
  obtain ⟨w1, hw1⟩ : ∃ w1, w.alloc (.cells #[.int .i64 W, .func (.func K) #[first] #[]] 79) = w1 := ⟨_, rfl⟩
  have A0 : D2 w1 w.heap.size (.int .i64 W) (.func (.func K) #[first] #[]) := by rw [← hw1]; exact D2.new w _ _ _
  have z1 : w1.heap.size = w.heap.size + 1 := by rw [← hw1]; simp
  have B1 : Below w.heap.size w w1 := by rw [← hw1]; exact (Below.refl _ _).alloc (Nat.le_refl _) _
  obtain ⟨w2, hw2⟩ : ∃ w2, w1.alloc (.cells #[.int .i64 0, .int .i64 0, .int .i64 0, .int .i64 0, .int .i64 0, .int .i64 0, .int .i64 0, .int .i64 0, .int .i64 0, .int .i64 0, .int .i64 0, .int .i64 0, .int .i64 0, .int .i64 0, .int .i64 0, .int .i64 0] 65) = w2 := ⟨_, rfl⟩
  have A1 : MA w2 (w.heap.size + 1) 0 16 (fun _ => 0) := by rw [← hw2, ← z1]; exact MA.new _ 0 fun j hj => zero16 hj
  have z2 : w2.heap.size = w.heap.size + 1 + 1 := by rw [← hw2]; simp [z1]
  have B2 : Below w.heap.size w w2 := by rw [← hw2]; exact B1.alloc B1.size _
  replace A0 : D2 w2 w.heap.size (.int .i64 W) (.func (.func K) #[first] #[]) := by rw [← hw2]; exact A0.alloc _
  obtain ⟨w3, hw3⟩ : ∃ w3, w2.alloc (.cells #[.int .i64 0, .int .i64 0, .int .i64 0, .int .i64 0, .int .i64 0, .int .i64 0, .int .i64 0, .int .i64 0, .int .i64 0, .int .i64 0, .int .i64 0, .int .i64 0, .int .i64 0, .int .i64 0, .int .i64 0, .int .i64 0] 65) = w3 := ⟨_, rfl⟩
  have A2 : MA w3 (w.heap.size + 1 + 1) 0 16 (fun _ => 0) := by rw [← hw3, ← z2]; exact MA.new _ 0 fun j hj => zero16 hj
  have B3 : Below w.heap.size w w3 := by rw [← hw3]; exact B2.alloc B2.size _
  replace A0 : D2 w3 w.heap.size (.int .i64 W) (.func (.func K) #[first] #[]) := by rw [← hw3]; exact A0.alloc _
  replace A1 : MA w3 (w.heap.size + 1) 0 16 (fun _ => 0) := by rw [← hw3]; exact A1.far (by omega) ((Below.refl _ _).alloc (Nat.le_refl _) _)
  go_enter Try.func63, Try.ntmps63
  go_upto_region 2 with fail
  clear hw1 hw2 hw3 z1 z2 B1 B2
  have H0 := Lib.hid A0
  have H1 := Lib.hid A1
  have H2 : Hid (MA w3 (w.heap.size + 1 + 1) 0 16 (mT f W 0 0)) := A2.congr fun j _ => (mT_zero f W j).symm
  have HB := Lib.hid B3
  obtain ⟨x0, x1⟩ := A0.1
  clear A0 A1 A2 B3
  go_wp2
  clear x0 x1
  go_loopw [9] (fun iv wr => ∃ j : Nat, j ≤ W ∧ iv = .int .i64 j ∧ Hid (D2 wr w.heap.size (.int .i64 W) (.func (.func K) #[first] #[])) ∧ Hid (MA wr (w.heap.size + 1) 0 16 (fun _ => 0)) ∧ Hid (MA wr (w.heap.size + 1 + 1) 0 16 (mT f W j 0)) ∧ Hid (Below w.heap.size w wr)) (fun iv _ => W - (intOf iv).toNat)
  case atStart => exact ⟨0, Nat.zero_le _, rfl, H0, H1, H2, HB⟩
  case round =>
    obtain ⟨j, hj, rfl, K0, K1, K2, KB⟩ := hrel
    clear H0 H1 H2 HB
    by_cases hlt : j < W
    · have hj16 : j < 16 := by omega
      obtain ⟨p1, p2, p3⟩ := pow_wrap hj16
      have hpW : 2 ^ j < 2 ^ W := Nat.pow_lt_pow_right (by omega) hlt
      have HCC : Hid (∀ q : GR wr.drew none, Calls Try.prog K #[first, .int .i64 (2 ^ j : Nat)] q.w fun e w' => e = .returned (.int .i64 (f (2 ^ j))) ∧ Below q.w.heap.size q.w w') := fun q => HC.out (2 ^ j) q.w hpW
      have hfj : f (2 ^ j) < 65536 := by
        have h1 := hf (2 ^ j) hpW
        have h2 : 2 ^ W ≤ 2 ^ 16 := Nat.pow_le_pow_right (by omega) hW
        omega
      obtain ⟨F, hF⟩ : ∃ F, f (2 ^ j) = F := ⟨_, rfl⟩
      have HFF := Lib.hid hF
      rw [hF] at HCC hfj
      generalize 2 ^ j = p at p1 p2 HCC
      obtain ⟨q0, q1⟩ := (K0.out.drew).gr (rw := none) (by simp)
      clear hpW hF
      go_wp2_with fail
      refine wp_region_mix (none) [0, 1, 2, 3, 4, 5] [] (by kernel_rfl) (by kernel_rfl) ?_
      simp only [pickOps, List.filterMap_cons, List.filterMap_nil, List.getElem?_toArray, List.getElem?_cons_succ, List.getElem?_cons_zero]
      repeat (refine wpQuietG_step (fun K hK => ?_); go_simp; first | (refine hK _ ?_; clear hK K) | (apply Exists.intro; refine ⟨fun _ => ?_, hK _ ?_⟩; (first | (with_reducible exact HCC.out _)); clear hK K))
      refine wpQuietG_nil ?_
      clear q0 q1
      intro V hV1 hV2
      have L0 : D2 V w.heap.size (.int .i64 W) (.func (.func K) #[first] #[]) := (K0.out.drew).grow hV1 (by simp)
      have L1 : Hid (MA V (w.heap.size + 1) 0 16 (fun _ => 0)) := (K1.out.drew).grow (by omega) hV1 (by simp)
      have L2 : Hid (MA V (w.heap.size + 1 + 1) 0 16 (mT f W j 0)) := (K2.out.drew).grow (by omega) hV1 (by simp)
      have LB : Hid (Below w.heap.size w V) := KB.out.trans ((grb hV1).mono KB.out.size)
      have HL0 := Lib.hid L0
      obtain ⟨x0, x1⟩ := L0.1
      clear hV1 hV2 K0 K1 K2 KB L0
      go_wp2
      clear x0 x1
      go_loopw [19] (fun iv wr => ∃ i : Nat, i ≤ W ∧ iv = .int .i64 i ∧ Hid (D2 wr w.heap.size (.int .i64 W) (.func (.func K) #[first] #[])) ∧ Hid (MA wr (w.heap.size + 1) 0 16 (fun _ => 0)) ∧ Hid (MA wr (w.heap.size + 1 + 1) 0 16 (mT f W j i)) ∧ Hid (Below w.heap.size w wr)) (fun iv _ => W - (intOf iv).toNat)
      case atStart => exact ⟨0, Nat.zero_le _, rfl, HL0, L1, L2, LB⟩
      case round =>
        obtain ⟨i, hi, rfl, M0, M1, M2, MB⟩ := hrel
        clear HL0 L1 L2 LB
        by_cases hil : i < W
        · have hi16 : i < 16 := by omega
          have hiI : (i : Int) < 16 := by omega
          have E1 := xr_and F i
          have hbit : F.testBit i = bM f i j := by unfold bM; rw [HFF.out]
          have E2 := or_col f (W := W) (i := i) hj16
          rw [hbit] at E1
          obtain ⟨ck, fk⟩ := M2.out i hi16
          rw [Nat.zero_add] at ck fk
          obtain ⟨z, hz⟩ : ∃ z, mT f W j i i = z := ⟨_, rfl⟩
          have HST : Hid (∀ k, k < 16 → mT f W j (i + 1) k = if k = i then z ||| (bM f i j).toNat * 2 ^ j else mT f W j i k) := fun k _ => by rw [← hz]; exact mT_step f hil k
          rw [hz] at ck E2
          have hb1 : (bM f i j).toNat ≤ 1 := by cases bM f i j <;> simp
          generalize (bM f i j).toNat = d at E1 E2 HST hb1
          obtain ⟨y, hy⟩ : ∃ y, z ||| d * 2 ^ j = y := ⟨_, rfl⟩
          rw [hy] at E2 HST
          have c0 : ∀ q : GT wr, q.w.cell? ⟨w.heap.size + 1 + 1, i, none⟩ = some (.int .i64 z) := gt_cell ck
          clear hz hy hbit ck
          go_wp2_with fail
          refine wp_region_quiet_tail (C := fun w' => ∃ q : GT wr, w' = q.w) 11 hmx (by kernel_rfl) ⟨⟨wr.drew, (Below.refl _ _).drew⟩, rfl⟩ ?_
          simp only [List.take_succ_cons, List.take_zero, List.drop_succ_cons, List.drop_zero]
          repeat (quiet_step (fail))
          refine wpQuiet_nil ?_
          rintro V2 ⟨⟨_, hV2⟩, rfl⟩
          have N0 := M0.out.far hV2
          have N1 := M1.out.far (by omega) hV2
          have N2 := M2.out.far (by omega) hV2
          have NB := MB.out.trans (hV2.mono MB.out.size)
          obtain ⟨ck, fk2⟩ := N2 i hi16
          have S2 : Hid (MA (V2.setCell ⟨w.heap.size + 1 + 1, 0 + i, none⟩ (.int .i64 y)) (w.heap.size + 1 + 1) 0 16 (mT f W j (i + 1))) := N2.set y HST.out
          have S0 : Hid (D2 (V2.setCell ⟨w.heap.size + 1 + 1, 0 + i, none⟩ (.int .i64 y)) w.heap.size (.int .i64 W) (.func (.func K) #[first] #[])) := N0.other (by omega) _ _
          have S1 : Hid (MA (V2.setCell ⟨w.heap.size + 1 + 1, 0 + i, none⟩ (.int .i64 y)) (w.heap.size + 1) 0 16 (fun _ => 0)) := N1.other (.inl (by omega)) _
          have SB : Hid (Below w.heap.size w (V2.setCell ⟨w.heap.size + 1 + 1, 0 + i, none⟩ (.int .i64 y))) := NB.setCell (p := ⟨w.heap.size + 1 + 1, 0 + i, none⟩) (by simp; omega) _
          rw [Nat.zero_add] at ck fk2 S0 S1 S2 SB
          clear N0 N1 N2 NB M0 M1 M2 MB hV2 c0 fk HST
          go_wp2
          go_roundw
          case rel => exact ⟨i + 1, by omega, by go_num, S0, S1, S2, SB⟩
          case measure => first | (simp [intOf]; done) | (simp [intOf]; omega)
        · obtain rfl : i = W := by omega
          have M3 : Hid (MA wr (w.heap.size + 1 + 1) 0 16 (mT f i (j + 1) 0)) := M2.out.congr fun k _ => mT_next f i j k
          clear M2 HFF
          go_wp2
          go_roundw
          case rel => exact ⟨j + 1, by omega, by go_num, M0, M1, M3, MB⟩
          case measure => first | (simp [intOf]; done) | (simp [intOf]; omega)
    · obtain rfl : j = W := by omega
      have N2 : MA wr (w.heap.size + 1 + 1) 0 16 (mF f j) := K2.out.congr fun k _ => mT_end f j k
      have N1 := K1.out
      have NB := KB.out
      clear K0 K1 K2 KB HC hf hlt
      go_upto_region 12 with fail
      refine wp_region_lit ?_
      refine wpList_load_mid rfl 65 (Operand.tmp 3) rfl (w.heap.size + 1 + 1) 0 rfl (vs 16 (mF f j)) (.array 16 2) N2.range mat_under rfl (by rw [mat_info, vs_length]) ?_
      refine wpList_store_mid rfl 65 (Operand.tmp 2) (Operand.tmp 35) rfl (w.heap.size + 1) 0 (vs 16 (mF f j)).toArray rfl rfl (by rw [vs_size]; exact N1.there) (by rw [mat_info, vs_size]) (vs_all 16 _) ?_
      refine wpList_nil ?_
      rw [List.toList_toArray]
      have Q := run_vs_load (P := Try.prog) (N1.put (mF f j)) mat_under mat_info
      have QB : Below w.heap.size w (wr.setCells (w.heap.size + 1) 0 (vs 16 (mF f j))) := below_setCells (by omega) _ _ _ NB
      generalize wr.setCells (w.heap.size + 1) 0 (vs 16 (mF f j)) = W6 at Q QB ⊢
      obtain ⟨A, hA⟩ : ∃ A, (vs 16 (mF f j)).toArray = A := ⟨_, rfl⟩
      have HA := Lib.hid hA
      rw [hA] at Q ⊢
      clear N1 N2 NB hA
      go_wp2
      exact bodyPost_ret (v := .agg A) (by simp [results, Try.results63, asAddr, Act.put, Q]) rfl ⟨by rw [HA.out], QB⟩
end Go.Proofs.Ytciofobedgmbjaa

namespace Go.Proofs.Ytciofobedgmbjaa
open Go.RowKit Go.PlainAid
set_option maxHeartbeats 800000

theorem Rw.appsQ {B g n m k cap : Nat} {xs ys zs : List Int} {wr w1 : World} {v1 : Value} (hk : n + m = k) (hzs : xs ++ ys = zs) (hown : w1.ownsRow B 2 1 v1 (n + m) (xs.map (Value.int .i64) ++ ys.map (Value.int .i64))) (hg : wr.grownBy w1 (Value.slice (some ⟨g, 0, none⟩) n cap).ownBlock) (hnil : v1 = .slice none 0 0 ↔ Value.slice (some ⟨g, 0, none⟩) n cap = .slice none 0 0 ∧ m = 0) (hat : v1.ownBlock = (Value.slice (some ⟨g, 0, none⟩) n cap).ownBlock ∨ v1.ownBlock = some wr.heap.size) :
    ∃ g1 cap1, v1 = .slice (some ⟨g1, 0, none⟩) k cap1 ∧ Rw B g1 k cap1 zs w1 ∧ (g1 = g ∨ g1 = wr.heap.size) ∧ wr.grownBy w1 (some g) := by
  subst hk hzs
  have hk := hown
  obtain ⟨hlen, ⟨h, _⟩ | ⟨g', cap', cur, rfl, hr⟩⟩ := hown
  · have := (hnil.1 h).1
    cases this
  · refine ⟨g', cap', rfl, ?_, ?_, hg⟩
    · unfold Rw
      rw [List.map_append]
      exact hk
    · simpa [Value.ownBlock] using hat
theorem ints_oneQ (l : List Int) : ∀ u ∈ l.map (Value.int .i64), u.oneCell' = true := by
  intro u hu
  obtain ⟨x, _, rfl⟩ := List.mem_map.1 hu
  rfl
theorem RO.news {top : Nat} {W : World} {g : Nat} {xs : List Int} (h : RO top W (some ⟨g, 0, none⟩) xs) : ∀ j u, (xs.map (Value.int .i64))[j]? = some u → W.cell? ((⟨g, 0, none⟩ : Addr).add j) = some u := by
  intro j u hj
  rw [List.getElem?_map] at hj
  obtain ⟨x, hx, rfl⟩ := Option.map_eq_some_iff.1 hj
  obtain ⟨g', off, e, _, hc⟩ := h j x hx
  cases e
  rw [Addr.add_mid]
  exact hc
theorem clone_any (g n c : Nat) (xs : List Int) (w : World) (h : RO w.heap.size w (some ⟨g, 0, none⟩) xs) (hn : xs.length = n) (hl : n ≤ 1048576) :
    Calls Try.prog 64 #[.slice (some ⟨g, 0, none⟩) n c] w fun e w' => ∃ g1 c1, e = .returned (.slice (some ⟨g1, 0, none⟩) n c1) ∧ Rw w.heap.size g1 n c1 xs w' ∧ Below w.heap.size w w' := by
  obtain ⟨i0, hi, hz0, hz1, hz2⟩ := info_parts Try.info2
  have HN : Hid (∀ j u, (xs.map (Value.int .i64))[j]? = some u → (w.alloc (.cells #[] 2)).cell? ((⟨g, 0, none⟩ : Addr).add j) = some u) := RO.news ((h.below ((Below.refl _ _).alloc (Nat.le_refl _) _)).up (Nat.le_refl _))
  have HL : Hid ((xs.map (Value.int .i64)).length = n * 1) := by unfold Hid; rw [List.length_map]; omega
  have hnl := fun W => Go.Lib.run_eql_slice_nil (P := Try.prog) W 22 2 (some ⟨g, 0, none⟩) n c 0 0 (by kernel_rfl)
  clear h
  go_enter Try.func64, Try.ntmps64
  go_wp2_with (at_builtin; refine wpList_append_own_at _ rfl _ _ 22 rfl w.heap.size 2 i0 (.int .i64 0) 1 8 Try.underlying22 hi hz0 hz1 hz2 rfl (by decide) _ _ _ rfl (Rw.empty w) ⟨g, 0, none⟩ n c (xs.map (Value.int .i64)) rfl HL.out HN.out (ints_oneQ _) (by unfold maxLen; omega) (by omega) (by simp) ?_; intro v1 w1 hown1 hgrow1 hnil1 hat1)
  obtain ⟨g1, cap1, rfl, hr1, hg1, hgr⟩ := Rw.appsQ (Nat.zero_add n) (List.nil_append _) hown1 hgrow1 hnil1 hat1
  have HR := Lib.hid hr1
  have HB : Hid (Below w.heap.size w w1) := ((Below.refl w.heap.size w).alloc (Nat.le_refl _) _).grown hgr (by simp) (fun q e => by cases e; exact Nat.le_refl _)
  clear hown1 hgrow1 hnil1 hat1 hr1 hgr hg1
  go_wp2
  go_ret
  exact ⟨_, _, rfl, HR.out, HB.out⟩
set_option maxRecDepth 10000 in
theorem machF_any (K : FuncId) (first : Value) (f : Nat → Nat) (W : Nat) (w : World) (hW : W ≤ 16) (hf : ∀ x, x < 2 ^ W → f x < 2 ^ W) (hK : ∀ (args : Array Value) (V : World), (callFunc K args).run Try.prog V = .ok (.enter K args) V) (HC : Hid (∀ (x : Nat) (V : World), x < 2 ^ W → Calls Try.prog K #[first, .int .i64 x] V fun e w' => e = .returned (.int .i64 (f x)) ∧ Below V.heap.size V w')) :
    Calls Try.prog 51 #[.agg #[.int .i64 W, .func (.func K) #[first] #[]]] w fun e w' => ∃ g c, e = .returned (.agg #[.int .i64 W, .slice (some ⟨g, 0, none⟩) W c, .int .i64 1]) ∧ Rw w.heap.size g W c (lsI W (mF f W)) w' ∧ Below w.heap.size w w' := by
  have HM : Hid (∀ V : World, Calls Try.prog 63 #[.agg #[.int .i64 W, .func (.func K) #[first] #[]]] V fun e w' => e = .returned (.agg (vs 16 (mF f W)).toArray) ∧ Below V.heap.size V w') := fun V => matF_any K first f W V hW hf hK HC
  have HCL : Hid (∀ (V : World) g c, RO V.heap.size V (some ⟨g, 0, none⟩) (lsI W (mF f W)) → Calls Try.prog 64 #[.slice (some ⟨g, 0, none⟩) W c] V fun e w' => ∃ g1 c1, e = .returned (.slice (some ⟨g1, 0, none⟩) W c1) ∧ Rw V.heap.size g1 W c1 (lsI W (mF f W)) w' ∧ Below V.heap.size V w') := fun V g c hr => clone_any g W c _ V hr (lsI_length _ _) (by omega)
  rw [vs_16] at HM
  obtain ⟨w1, hw1⟩ : ∃ w1, w.alloc (.cells #[.int .i64 W, .func (.func K) #[first] #[]] 79) = w1 := ⟨_, rfl⟩
  have A0 : D2 w1 w.heap.size (.int .i64 W) (.func (.func K) #[first] #[]) := by rw [← hw1]; exact D2.new w _ _ _
  have z1 : w1.heap.size = w.heap.size + 1 := by rw [← hw1]; simp
  have B1 : Below w.heap.size w w1 := by rw [← hw1]; exact (Below.refl _ _).alloc (Nat.le_refl _) _
  obtain ⟨w2, hw2⟩ : ∃ w2, w1.alloc (.cells #[.int .i64 0, .slice none 0 0, .int .i64 0] 27) = w2 := ⟨_, rfl⟩
  have A1 : D3 w2 (w.heap.size + 1) (.int .i64 0) (.slice none 0 0) (.int .i64 0) := by rw [← hw2, ← z1]; exact D3.new w1 _ _ _ _
  have z2 : w2.heap.size = w.heap.size + 1 + 1 := by rw [← hw2]; simp [z1]
  have B2 : Below w.heap.size w w2 := by rw [← hw2]; exact B1.alloc B1.size _
  replace A0 : D2 w2 w.heap.size (.int .i64 W) (.func (.func K) #[first] #[]) := by rw [← hw2]; exact A0.alloc _
  obtain ⟨x0, x1⟩ := A0.1
  clear hf HC hK
  go_enter Try.func51, Try.ntmps51
  go_wp2_with fail
  clear hw1 hw2 z1 B1
  refine (HM.out w2).mono ?_
  rintro e w3 ⟨rfl, hb⟩
  replace A0 := A0.far hb
  replace A1 := A1.far hb
  have B3 := B2.trans (hb.mono B2.size)
  have z3 : w.heap.size + 1 + 1 ≤ w3.heap.size := by have := hb.size; omega
  clear hb x0 x1 B2 z2
  have MM : MA (w3.alloc (.cells #[.int .i64 (mF f W 0), .int .i64 (mF f W 1), .int .i64 (mF f W 2), .int .i64 (mF f W 3), .int .i64 (mF f W 4), .int .i64 (mF f W 5), .int .i64 (mF f W 6), .int .i64 (mF f W 7), .int .i64 (mF f W 8), .int .i64 (mF f W 9), .int .i64 (mF f W 10), .int .i64 (mF f W 11), .int .i64 (mF f W 12), .int .i64 (mF f W 13), .int .i64 (mF f W 14), .int .i64 (mF f W 15)] 65)) w3.heap.size 0 16 (mF f W) := by
    have := MA.new (w := w3) (A := (vs 16 (mF f W)).toArray) 65 0 (fun j hj => vs_arr (mF f W) hj)
    rwa [vs_16] at this
  have C3 : Below w3.heap.size w3 (w3.alloc (.cells #[.int .i64 (mF f W 0), .int .i64 (mF f W 1), .int .i64 (mF f W 2), .int .i64 (mF f W 3), .int .i64 (mF f W 4), .int .i64 (mF f W 5), .int .i64 (mF f W 6), .int .i64 (mF f W 7), .int .i64 (mF f W 8), .int .i64 (mF f W 9), .int .i64 (mF f W 10), .int .i64 (mF f W 11), .int .i64 (mF f W 12), .int .i64 (mF f W 13), .int .i64 (mF f W 14), .int .i64 (mF f W 15)] 65)) := (Below.refl _ _).alloc (Nat.le_refl _) _
  replace A0 := A0.far C3
  replace A1 := A1.far C3
  have B4 := B3.trans (C3.mono B3.size)
  have z4 : w3.heap.size < (w3.alloc (.cells #[.int .i64 (mF f W 0), .int .i64 (mF f W 1), .int .i64 (mF f W 2), .int .i64 (mF f W 3), .int .i64 (mF f W 4), .int .i64 (mF f W 5), .int .i64 (mF f W 6), .int .i64 (mF f W 7), .int .i64 (mF f W 8), .int .i64 (mF f W 9), .int .i64 (mF f W 10), .int .i64 (mF f W 11), .int .i64 (mF f W 12), .int .i64 (mF f W 13), .int .i64 (mF f W 14), .int .i64 (mF f W 15)] 65)).heap.size := by simp
  obtain ⟨c3, hc3⟩ : ∃ c3, w3.heap.size = c3 := ⟨_, rfl⟩
  go_upto_region 2 with fail
  rw [hc3] at MM z3 z4
  have HA0 := Lib.hid A0
  have HA1 := Lib.hid A1
  have HB4 := Lib.hid B4
  have HMM := Lib.hid MM
  clear A0 A1 B4 MM B3 C3
  generalize w3.alloc (.cells #[.int .i64 (mF f W 0), .int .i64 (mF f W 1), .int .i64 (mF f W 2), .int .i64 (mF f W 3), .int .i64 (mF f W 4), .int .i64 (mF f W 5), .int .i64 (mF f W 6), .int .i64 (mF f W 7), .int .i64 (mF f W 8), .int .i64 (mF f W 9), .int .i64 (mF f W 10), .int .i64 (mF f W 11), .int .i64 (mF f W 12), .int .i64 (mF f W 13), .int .i64 (mF f W 14), .int .i64 (mF f W 15)] 65) = w4 at HA0 HA1 HB4 HMM z4 ⊢
  obtain ⟨q0, q1⟩ := (HA0.out.drew).gr (rw := some (w.heap.size + 1)) (by simp)
  have hWI : (W : Int) ≤ 16 := by omega
  clear hc3 HM
  refine wp_region_mix (some (w.heap.size + 1)) [0, 1, 2, 3, 4] [5, 6, 7] (by kernel_rfl) (by kernel_rfl) ?_
  simp only [pickOps, List.filterMap_cons, List.filterMap_nil, List.getElem?_toArray, List.getElem?_cons_succ, List.getElem?_cons_zero]
  repeat (refine wpQuietG_step (fun K hK => ?_); go_simp; first | (refine hK _ ?_; clear hK K) | (apply Exists.intro; refine ⟨fun _ => ?_, hK _ ?_⟩; (fail); clear hK K))
  refine wpQuietG_nil ?_
  clear q0 q1
  intro V hV1 hV2
  replace hV2 := of_drew hV2
  have hro : RO V.heap.size V (some ⟨c3, 0, none⟩) (lsI W (mF f W)) := fun i y hy => by
    have hiW : i < W := by have := (List.getElem?_eq_some_iff.1 hy).1; rwa [lsI_length] at this
    rw [lsI_get _ hiW] at hy
    cases hy
    have hm := HMM.out.below hV2 (show c3 < w4.heap.size by omega)
    exact ⟨c3, 0, rfl, by have := hV2.size; omega, (hm i (by omega)).1⟩
  have hA1 : D3 V (w.heap.size + 1) (.int .i64 0) (.slice none 0 0) (.int .i64 0) := HA1.out.far hV2
  have hBV := HB4.out.trans (hV2.mono HB4.out.size)
  have hzV := hBV.size
  go_wp2_with fail
  refine (HCL.out V c3 16 hro).mono ?_
  rintro e V2 ⟨g, cc, rfl, hr, hb⟩
  have g2 := gr_step hV1 hb
  have hA2 := hA1.far hb
  have hB2 := hBV.trans (hb.mono hzV)
  have hr2 := hr.base hzV
  have hA2l := hA1.lt
  have hgl := hr.le
  clear hr hb hV1 hV2 hro hA1 hBV
  go_wp2
  try refine ⟨g2, ?_⟩
  intro V3 hV3 hV4
  have hA3 := hA2.far hV4
  have hB3 := hB2.trans (hV4.mono hB2.size)
  have hr3 := hr2.far hV4
  clear hA2 hB2 hr2 hV4 g2
  go_wp2
  try refine ⟨hV3, ?_⟩
  intro V4 hV5 hV6
  have hA4 := hA3.far hV6
  have hB4 := hB3.trans (hV6.mono hB3.size)
  have hr4 := hr3.far hV6
  clear hA3 hB3 hr3 hV6 hV3
  have hP := hA4.put (.int .i64 W) (.slice (some ⟨g, 0, none⟩) W cc) (.int .i64 1)
  have hPB := Lib.hid (below_putT hB4 (show w.heap.size ≤ w.heap.size + 1 by omega) (.int .i64 W) (.slice (some ⟨g, 0, none⟩) W cc) (.int .i64 1))
  have hPR : Hid (Rw w.heap.size g W cc (lsI W (mF f W)) (putT V4 (w.heap.size + 1) (.int .i64 W) (.slice (some ⟨g, 0, none⟩) W cc) (.int .i64 1))) := by
    have e : ∀ (X : World) j u, Rw w.heap.size g W cc (lsI W (mF f W)) X → Rw w.heap.size g W cc (lsI W (mF f W)) (X.setCell ⟨w.heap.size + 1, j, none⟩ u) := fun X j u hX => by
      refine World.ownsRow.kept hX (gr_set (gr_refl X (some (w.heap.size + 1))) (p := ⟨w.heap.size + 1, j, none⟩) (.inl rfl) u) (.inr ?_)
      simp [Value.ownBlock]
      have := hr4.le
      omega
    exact e _ _ _ (e _ _ _ (e _ _ _ hr4))
  have hG : w4.drew.grownBy (putT V4 (w.heap.size + 1) (.int .i64 W) (.slice (some ⟨g, 0, none⟩) W cc) (.int .i64 1)) (some (w.heap.size + 1)) := gr_set (gr_set (gr_set hV5 (p := ⟨_, 0, none⟩) (.inl rfl) _) (p := ⟨_, 1, none⟩) (.inl rfl) _) (p := ⟨_, 2, none⟩) (.inl rfl) _
  obtain ⟨⟨x0, x1, x2⟩, xf⟩ := id hA4
  have f0 := xf 0
  have f1 := xf 1
  have f2 := xf 2
  clear hA4 hB4 hr4 hV5 xf HA0 HA1 HB4 HMM HCL
  unfold putT at hP hPB hPR hG
  go_wp2
  try refine ⟨hG, ?_⟩
  clear x0 x1 x2 f0 f1 f2 hG
  generalize ((V4.setCell ⟨w.heap.size + 1, 0, none⟩ (.int .i64 W)).setCell ⟨w.heap.size + 1, 1, none⟩ (.slice (some ⟨g, 0, none⟩) W cc)).setCell ⟨w.heap.size + 1, 2, none⟩ (.int .i64 1) = W5 at hP hPB hPR ⊢
  intro W6 hW7 hW8
  obtain ⟨p0, p1, p2⟩ := (hP.far hW8).1
  have hB6 : Below w.heap.size w W6 := hPB.out.trans (hW8.mono hPB.out.size)
  have hR6 : Rw w.heap.size g W cc (lsI W (mF f W)) W6 := hPR.out.far hW8
  clear hP hPB hPR hW7 hW8
  go_wp2
  exact bodyPost_ret (v := .agg #[.int .i64 W, .slice (some ⟨g, 0, none⟩) W cc, .int .i64 1]) (by simp [results, Try.results51, go_sem, p0, p1, p2]) rfl ⟨g, cc, rfl, hR6, hB6⟩
/-- three shifts -/
def xsF (W a b c x : Nat) : Nat := (fun y => y ^^^ G2.upG c (2 ^ W - 1) y) ((fun y => y ^^^ G2.dnG b y) (x ^^^ G2.upG a (2 ^ W - 1) x))
theorem and_ones_lt {W m : Nat} : m &&& (2 ^ W - 1) < 2 ^ W := by
  have : 0 < 2 ^ W := Nat.pow_pos (by omega)
  exact Nat.lt_of_le_of_lt Nat.and_le_right (by omega)
theorem xs_up_lt {W s y : Nat} (h : y < 2 ^ W) : y ^^^ G2.upG s (2 ^ W - 1) y < 2 ^ W := Nat.xor_lt_two_pow h and_ones_lt
theorem xs_dn_lt {W s y : Nat} (h : y < 2 ^ W) : y ^^^ G2.dnG s y < 2 ^ W := Nat.xor_lt_two_pow h (Nat.lt_of_le_of_lt (Nat.div_le_self _ _) h)
theorem xsF_lt {W a b c x : Nat} (h : x < 2 ^ W) : xsF W a b c x < 2 ^ W := xs_up_lt (xs_dn_lt (xs_up_lt h))
theorem xs_up_int (W s y : Nat) (hW : W ≤ 16) (hs : s ≤ 16) (hy : y < 2 ^ W) : ∃ p q : Nat, p < 9223372036854775808 ∧ q < 65536 ∧ wrap64 ((y : Int) * 2 ^ s) = (p : Int) ∧ IntKind.i64.wrap ((y : Int) * 2 ^ s) = (p : Int) ∧ bits .and .i64 (p : Int) ((2 ^ W : Nat) - 1 : Int) = (q : Int) ∧ bits .xor .i64 (y : Int) (q : Int) = ((y ^^^ G2.upG s (2 ^ W - 1) y : Nat) : Int) := by
  have hp : 2 ^ W ≤ 2 ^ 16 := Nat.pow_le_pow_right (by omega) hW
  have hp0 : 0 < 2 ^ W := Nat.pow_pos (by omega)
  obtain ⟨h1, h2⟩ := up_wrap y s (by omega) hs
  have h3 : G2.upG s (2 ^ W - 1) y < 2 ^ W := and_ones_lt
  have e : ((2 ^ W : Nat) : Int) - 1 = ((2 ^ W - 1 : Nat) : Int) := by omega
  refine ⟨_, G2.upG s (2 ^ W - 1) y, h2, by omega, h1, ?_, ?_, i64_xorN _ _ (by omega) (by omega)⟩
  · rw [cast_shl]; exact IntWalk.i64_in _ (by omega)
  · rw [e, i64_andN _ _ h2 (by omega)]; rfl
theorem xs_next (W a b c x : Nat) (w : World) (hW : W ≤ 16) (ha : a ≤ 16) (hb : b ≤ 16) (hc : c ≤ 16) (hx : x < 2 ^ W) :
    Calls Try.prog 55 #[.agg #[.int .i64 W, .int .i64 a, .int .i64 b, .int .i64 c], .int .i64 x] w fun e w' => e = .returned (.int .i64 (xsF W a b c x)) ∧ Below w.heap.size w w' := by
  have h1 := xs_up_lt (s := a) hx
  have h2 := xs_dn_lt (s := b) h1
  have h3 := xs_up_lt (s := c) h2
  have hp : 2 ^ W ≤ 2 ^ 16 := Nat.pow_le_pow_right (by omega) hW
  obtain ⟨p, q, lp, lq, e1, e2, e3, e4⟩ := xs_up_int W a x hW ha hx
  have e5 := dn_int (x ^^^ G2.upG a (2 ^ W - 1) x) b (by omega)
  obtain ⟨r, s, lr, ls, e6, e7, e8, e9⟩ := xs_up_int W c _ hW hc h2
  have HV : Hid (xsF W a b c x = ((x ^^^ G2.upG a (2 ^ W - 1) x) ^^^ G2.dnG b (x ^^^ G2.upG a (2 ^ W - 1) x)) ^^^ G2.upG c (2 ^ W - 1) ((x ^^^ G2.upG a (2 ^ W - 1) x) ^^^ G2.dnG b (x ^^^ G2.upG a (2 ^ W - 1) x))) := rfl
  rw [HV.out]
  have l3 : (((x ^^^ G2.upG a (2 ^ W - 1) x) ^^^ G2.dnG b (x ^^^ G2.upG a (2 ^ W - 1) x)) ^^^ G2.upG c (2 ^ W - 1) ((x ^^^ G2.upG a (2 ^ W - 1) x) ^^^ G2.dnG b (x ^^^ G2.upG a (2 ^ W - 1) x))) < 65536 := by omega
  have l2 : ((x ^^^ G2.upG a (2 ^ W - 1) x) ^^^ G2.dnG b (x ^^^ G2.upG a (2 ^ W - 1) x)) < 65536 := by omega
  have l1 : (x ^^^ G2.upG a (2 ^ W - 1) x) < 65536 := by omega
  have l0 : x < 65536 := by omega
  generalize (((x ^^^ G2.upG a (2 ^ W - 1) x) ^^^ G2.dnG b (x ^^^ G2.upG a (2 ^ W - 1) x)) ^^^ G2.upG c (2 ^ W - 1) ((x ^^^ G2.upG a (2 ^ W - 1) x) ^^^ G2.dnG b (x ^^^ G2.upG a (2 ^ W - 1) x))) = y3 at *
  generalize ((x ^^^ G2.upG a (2 ^ W - 1) x) ^^^ G2.dnG b (x ^^^ G2.upG a (2 ^ W - 1) x)) = y2 at *
  generalize (x ^^^ G2.upG a (2 ^ W - 1) x) = y1 at *
  have HO : Hid (∀ V : World, Calls Try.prog 32 #[.int .i64 W] V fun e w' => e = .returned (.int .i64 ((2 ^ W : Nat) - 1 : Int)) ∧ V = w') := fun V => ones_any W ((2 ^ W : Nat) : Int) V (by omega) (by simp)
  generalize ((2 ^ W : Nat) : Int) - 1 = M at *
  have KA := Lib.hid ((Below.refl w.heap.size w).alloc (Nat.le_refl _) (.cells #[.int .i64 W, .int .i64 a, .int .i64 b, .int .i64 c] 83))
  clear HV h1 h2 h3 hp hx
  go_enter Try.func55, Try.ntmps55
  have x0 : (w.alloc (.cells #[.int .i64 W, .int .i64 a, .int .i64 b, .int .i64 c] 83)).cell? ⟨w.heap.size, 0, none⟩ = some (.int .i64 W) := by simp [go_sem]
  have x1 : (w.alloc (.cells #[.int .i64 W, .int .i64 a, .int .i64 b, .int .i64 c] 83)).cell? ⟨w.heap.size, 1, none⟩ = some (.int .i64 a) := by simp [go_sem]
  have x2 : (w.alloc (.cells #[.int .i64 W, .int .i64 a, .int .i64 b, .int .i64 c] 83)).cell? ⟨w.heap.size, 2, none⟩ = some (.int .i64 b) := by simp [go_sem]
  have x3 : (w.alloc (.cells #[.int .i64 W, .int .i64 a, .int .i64 b, .int .i64 c] 83)).cell? ⟨w.heap.size, 3, none⟩ = some (.int .i64 c) := by simp [go_sem]
  go_upto_region 1 with fail
  generalize w.alloc (.cells #[.int .i64 W, .int .i64 a, .int .i64 b, .int .i64 c] 83) = w0 at KA x0 x1 x2 x3 ⊢
  go_quiet ((go_at_call 32; with_reducible exact quietG (HO.out _)))
  go_wp2
  have y0 : (w0.drewN nq).cell? ⟨w.heap.size, 0, none⟩ = some (.int .i64 W) := x0
  have y3' : (w0.drewN nq).cell? ⟨w.heap.size, 3, none⟩ = some (.int .i64 c) := x3
  have KB := Lib.hid (below_drewN KA.out nq)
  generalize w0.drewN nq = w1 at y0 y3' KB ⊢
  clear x0 x1 x2 x3 KA
  go_quiet ((go_at_call 32; with_reducible exact quietG (HO.out _)))
  go_wp2
  go_ret
  exact ⟨rfl, below_drewN KB.out _⟩
end Go.Proofs.Ytciofobedgmbjaa

namespace Go.Proofs.Ytciofobedgmbjaa
open Go.RowKit Go.PlainAid
set_option maxHeartbeats 800000

/-- two machines that were made, each in a block of its own -/
def JM (w : World) (n2 n4 : Nat) (x o : Int) (va vb : Value) (xs ms : List Int) (W : World) : Prop :=
  (Below w.heap.size w W ∧ SL w.heap.size n2 W va xs ∧ SL (n2 + 1) n4 W vb ms) ∧ (D3 W n2 (.int .i64 x) va (.int .i64 o) ∧ D3 W n4 (.int .i64 x) vb (.int .i64 o)) ∧ w.heap.size ≤ n2 ∧ n2 + 1 ≤ n4 ∧ n4 < W.heap.size
theorem JM.next {w W W' : World} {n2 n4 : Nat} {x o : Int} {va vb : Value} {xs ms : List Int} (h : JM w n2 n4 x o va vb xs ms W) (hb : Below W.heap.size W W') : JM w n2 n4 x o va vb xs ms W' := by
  obtain ⟨⟨h1, h2, h3⟩, ⟨h4, h5⟩, h6, h7, h8⟩ := h
  have := hb.size
  exact ⟨⟨h1.trans (hb.mono h1.size), h2.below (hb.mono (by omega)), h3.below (hb.mono (by omega))⟩, ⟨h4.far hb, h5.far hb⟩, h6, h7, by omega⟩
theorem JM.mark {w W W' : World} {n2 n4 : Nat} {x o : Int} {va vb : Value} {xs ms ks : List Int} (h : JM w n2 n4 x o va vb xs ms W) (hg : W.grownBy W' vb.ownBlock) (hm : SL (n2 + 1) n4 W' vb ks) : JM w n2 n4 x o va vb xs ks W' := by
  obtain ⟨⟨h1, h2, h3⟩, ⟨h4, h5⟩, h6, h7, h8⟩ := h
  have hz := hg.size
  have hge : ∀ g, vb.ownBlock = some g → n2 + 1 ≤ g := fun g e => h3.block g e
  have hlt : ∀ g, vb.ownBlock = some g → g < n4 := fun g e => h3.block_lt7 g e
  refine ⟨⟨h1.grown hg h1.size (fun g e => by have := hge g e; omega), h2.other hg (by omega) (fun g e => by have := hge g e; omega), hm⟩, ⟨h4.grow hg (fun e => by have := hge n2 e; omega), h5.grow hg (fun e => by have := hlt n4 e; omega)⟩, h6, h7, by omega⟩
theorem growA8 (w : World) (o : Obj) (row : Option Nat) : w.grownBy (w.alloc o) row := by
  have hb := (Below.refl w.heap.size w).alloc (Nat.le_refl _) o
  exact ⟨hb.os, hb.tape, hb.output, hb.size, fun k hk _ => hb.block k hk⟩
theorem markLin_any (x o : Int) (u : Value) (xs : List Int) (base top : Nat) (w : World) (hu : SL base top w u xs) (ht : top ≤ w.heap.size) (hn : xs.length ≤ 400) :
    Calls Try.prog 23 #[.agg #[.int .i64 x, u, .int .i64 o], .int .i64 1] w fun e w' => e = .returned (.int .i64 (1 + xs.length)) ∧ SL base top w' u (marks 1 xs.length) ∧ w.grownBy w' u.ownBlock := by
  have B0 : Below w.heap.size w (w.alloc (.cells #[.int .i64 x, u, .int .i64 o] 27)) := (Below.refl _ _).alloc (Nat.le_refl _) _
  have HM := Lib.hid (mark64_any u xs base top 1 _ (hu.below (B0.mono ht)) (by omega) (by omega) (by omega))
  have HG : Hid (∀ W', (w.alloc (.cells #[.int .i64 x, u, .int .i64 o] 27)).grownBy W' u.ownBlock → w.grownBy W' u.ownBlock) := fun W' hg => grow_trans (growA8 w _ _) hg
  clear B0 hu
  go_enter Try.func23, Try.ntmps23
  go_wp2_with fail
  refine HM.out.mono ?_
  rintro e w2 ⟨rfl, hm, hg⟩
  have HK := Lib.hid (And.intro hm (HG.out _ hg))
  clear hm hg HM HG
  go_wp2
  go_ret
  exact ⟨rfl, HK.out⟩
theorem heldLin_any (x o : Int) (u : Value) (n base top : Nat) (w : World) (hu : SL base top w u (marks 1 n)) (ht : top ≤ w.heap.size) (hn : n ≤ 400) :
    Calls Try.prog 24 #[.agg #[.int .i64 x, u, .int .i64 o], .int .i64 1] w fun e w' => e = .returned (.int .i64 (1 + n)) ∧ Below w.heap.size w w' := by
  have B0 : Below w.heap.size w (w.alloc (.cells #[.int .i64 x, u, .int .i64 o] 27)) := (Below.refl _ _).alloc (Nat.le_refl _) _
  have HM := Lib.hid (held64_any u n base top 1 _ (hu.below (B0.mono ht)) (by omega) (by omega) (by omega))
  have HB := Lib.hid B0
  have t0 : decide ((1 : Int) + (n : Int) < 0) = false := by simp; omega
  clear B0 hu
  go_enter Try.func24, Try.ntmps24
  go_wp2_with fail
  refine HM.out.mono ?_
  rintro e w2 ⟨rfl, rfl⟩
  clear HM
  go_wp2
  go_ret
  exact ⟨rfl, HB.out⟩
theorem eqLinM_any (x : Int) (u v : Value) (xs : List Int) (o : Int) (b1 t1 b2 t2 : Nat) (w : World) (h1 : SL b1 t1 w u xs) (h2 : SL b2 t2 w v xs) (ht1 : t1 ≤ w.heap.size) (ht2 : t2 ≤ w.heap.size) (hn : xs.length ≤ 400) :
    Calls Try.prog 13 #[.agg #[.int .i64 x, u, .int .i64 o], .agg #[.int .i64 x, v, .int .i64 o]] w fun e w' => e = .returned (.bool true) ∧ Below w.heap.size w w' := by
  rcases h1.ro with ⟨a, ca, rfl, _⟩
  rcases h2.ro with ⟨b, cb, rfl, _⟩
  exact eqLin_any x a b xs.length ca cb xs o b1 t1 b2 t2 w h1 h2 ht1 ht2 (by omega)
def GivesOfXorshift (f : FuncId) (p0 p1 p2 p3 : Int) (x : Int) (xs : List Int) (o : Int) (ok : Bool) : Prop := ∀ (W : World), Calls Try.prog f #[.int .i64 p0, .int .i64 p1, .int .i64 p2, .int .i64 p3] W fun e w' => ∃ v, e = .returned (.tuple #[.agg #[.int .i64 x, v, .int .i64 o], .bool ok]) ∧ SL W.heap.size w'.heap.size w' v xs ∧ Below W.heap.size W w'
theorem lawOfXorshift_core (p0 p1 p2 p3 : Int) (x : Int) (xs : List Int) (o : Int) (ok : Bool) (w : World) (hx : xs.length ≤ 400) (HS : Hid (GivesOfXorshift 25 p0 p1 p2 p3 x xs o ok)) (HI : Hid (GivesOfXorshift 26 p0 p1 p2 p3 x xs o ok)) :
    Calls Try.prog 8 #[.int .i64 p0, .int .i64 p1, .int .i64 p2, .int .i64 p3] w fun e w' => e = .returned (.bool true) ∧ Below w.heap.size w w' := by
  have hok : (ok != ok) = false := by simp
  have hq : (((1 : Int) + (xs.length : Int)) != ((1 : Int) + (xs.length : Int))) = false := by simp
  go_enter Try.func8, Try.ntmps8
  go_wp2_with fail
  refine (HS.out w).mono ?_
  rintro e w2 ⟨_, rfl, ha, hb2⟩
  obtain ⟨aa, ca, rfl, _⟩ := ha.ro
  have HB2 := hb2
  have z1 := HB2.size
  have A0 := D3.new w2 (.int .i64 x) (.slice aa xs.length ca) (.int .i64 o) 27
  have C0 : Below w2.heap.size w2 (w2.alloc (.cells #[.int .i64 x, .slice aa xs.length ca, .int .i64 o] 27)) := (Below.refl _ _).alloc (Nat.le_refl _) _
  have sz : (w2.alloc (.cells #[.int .i64 x, .slice aa xs.length ca, .int .i64 o] 27)).heap.size = w2.heap.size + 1 := by simp
  have HA := Lib.hid (And.intro A0 (And.intro (HB2.trans (C0.mono z1)) (ha.below C0)))
  clear A0 HB2 ha hb2
  go_upto_region 2 with fail
  generalize w2.alloc (.cells #[.int .i64 x, .slice aa xs.length ca, .int .i64 o] 27) = w3 at HA C0 sz ⊢
  clear C0
  go_wp2_with fail
  refine (HI.out w3).mono ?_
  rintro e w4 ⟨_, rfl, hvb, hb4⟩
  obtain ⟨ab, cb, rfl, _⟩ := hvb.ro
  have HB4 := hb4
  have D4 : Below w4.heap.size w4 (w4.alloc (.cells #[.int .i64 x, .slice ab xs.length cb, .int .i64 o] 27)) := (Below.refl _ _).alloc (Nat.le_refl _) _
  have HJ : Hid (JM w w2.heap.size w4.heap.size x o (.slice aa xs.length ca) (.slice ab xs.length cb) xs xs (w4.alloc (.cells #[.int .i64 x, .slice ab xs.length cb, .int .i64 o] 27))) := by
    obtain ⟨k0, k1, k2⟩ := HA.out
    have zz := HB4.size
    have k3 := k0.far HB4
    refine ⟨⟨(k1.trans (HB4.mono k1.size)).trans (D4.mono (by have := k1.size; omega)), (k2.below (HB4.mono (by omega))).below (D4.mono (by omega)), (by rw [← sz]; exact hvb : SL (w2.heap.size + 1) w4.heap.size w4 (.slice ab xs.length cb) xs).below D4⟩, ⟨k3.far D4, D3.new w4 _ _ _ _⟩, z1, by omega, by simp⟩
  clear HA hvb hb4 HB4 D4
  go_upto_region 3 with fail
  generalize w4.alloc (.cells #[.int .i64 x, .slice ab xs.length cb, .int .i64 o] 27) = w5 at HJ ⊢
  generalize w2.heap.size = n2 at HJ ⊢
  generalize w4.heap.size = n4 at HJ ⊢
  obtain ⟨⟨x0, x1, x2⟩, _⟩ := HJ.out.2.1.1
  obtain ⟨⟨y0, y1, y2⟩, _⟩ := HJ.out.2.1.2
  go_wp2_with fail
  refine (eqLinM_any x (.slice ab xs.length cb) (.slice aa xs.length ca) xs o _ _ _ _ w5 HJ.out.1.2.2 HJ.out.1.2.1 (by have := HJ.out.2.2; omega) (by have := HJ.out.2.2; omega) hx).mono ?_
  rintro e w6 ⟨rfl, hb⟩
  have HJ6 := Lib.hid (HJ.out.next hb)
  clear hb HJ x0 x1 x2 y0 y1 y2
  obtain ⟨⟨x0, x1, x2⟩, _⟩ := HJ6.out.2.1.1
  obtain ⟨⟨y0, y1, y2⟩, _⟩ := HJ6.out.2.1.2
  go_wp2_with fail
  refine (markLin_any x o (.slice ab xs.length cb) xs _ _ w6 HJ6.out.1.2.2 (by have := HJ6.out.2.2; omega) hx).mono ?_
  rintro e w7 ⟨rfl, hm, hg⟩
  have HJ7 := Lib.hid (HJ6.out.mark hg hm)
  clear hm hg HJ6 x0 x1 x2 y0 y1 y2
  obtain ⟨⟨y0, y1, y2⟩, _⟩ := HJ7.out.2.1.2
  go_wp2_with fail
  refine (heldLin_any x o (.slice ab xs.length cb) _ _ _ w7 HJ7.out.1.2.2 (by have := HJ7.out.2.2; omega) hx).mono ?_
  rintro e w8 ⟨rfl, hb⟩
  have HJ8 := Lib.hid (HJ7.out.next hb)
  clear hb HJ7 y0 y1 y2
  have t9 : decide ((1 : Int) + (xs.length : Int) < 0) = false := by simp; omega
  go_wp2_with fail
  refine (HI.out w8).mono ?_
  rintro e w9 ⟨_, rfl, hvc, hb⟩
  obtain ⟨ac, cc, rfl, _⟩ := hvc.ro
  have HB9 := hb
  have E9 : Below w9.heap.size w9 (w9.alloc (.cells #[.int .i64 x, .slice ac xs.length cc, .int .i64 o] 27)) := (Below.refl _ _).alloc (Nat.le_refl _) _
  have HJ9 := Lib.hid ((HJ8.out.next HB9).next E9)
  have HD9 := Lib.hid (D3.new w9 (.int .i64 x) (.slice ac xs.length cc) (.int .i64 o) 27)
  have HC9 := Lib.hid (hvc.below E9)
  have z9 : w9.heap.size < (w9.alloc (.cells #[.int .i64 x, .slice ac xs.length cc, .int .i64 o] 27)).heap.size := by simp
  clear hvc hb HB9 HJ8 E9
  go_upto_region 14 with fail
  generalize w9.alloc (.cells #[.int .i64 x, .slice ac xs.length cc, .int .i64 o] 27) = w10 at HJ9 HD9 HC9 z9 ⊢
  obtain ⟨⟨x0, x1, x2⟩, _⟩ := HJ9.out.2.1.1
  obtain ⟨⟨y0, y1, y2⟩, _⟩ := HD9.out
  go_wp2_with fail
  refine (eqLinM_any x (.slice ac xs.length cc) (.slice aa xs.length ca) xs o _ _ _ _ w10 HC9.out HJ9.out.1.2.1 (by omega) (by have := HJ9.out.2.2; omega) hx).mono ?_
  rintro e w11 ⟨rfl, hb⟩
  have HJ11 := Lib.hid (HJ9.out.next hb)
  clear hb HJ9 HD9 HC9 x0 x1 x2 y0 y1 y2
  obtain ⟨⟨y0, y1, y2⟩, _⟩ := HJ11.out.2.1.2
  go_wp2_with fail
  refine (heldLin_any x o (.slice ab xs.length cb) _ _ _ w11 HJ11.out.1.2.2 (by have := HJ11.out.2.2; omega) hx).mono ?_
  rintro e w12 ⟨rfl, hb⟩
  have HJ12 := Lib.hid (HJ11.out.next hb)
  clear hb HJ11 y0 y1 y2
  go_wp2
  go_ret
  exact ⟨rfl, HJ12.out.1.1⟩
end Go.Proofs.Ytciofobedgmbjaa

namespace Go.Proofs.Ytciofobedgmbjaa
open Go.RowKit Go.PlainAid
set_option maxHeartbeats 800000

/-- a width and three moves -/
def XsP (x a b c : Int) : Prop := (1 ≤ x ∧ x ≤ 16) ∧ (0 ≤ a ∧ a ≤ x) ∧ (0 ≤ b ∧ b ≤ x) ∧ (0 ≤ c ∧ c ≤ x)
theorem three_all (x a b c : Int) : (∀ (i : Nat) (y : Int), [a, b, c][i]? = some y → 0 ≤ y ∧ y ≤ x) ↔ ((0 ≤ a ∧ a ≤ x) ∧ (0 ≤ b ∧ b ≤ x) ∧ (0 ≤ c ∧ c ≤ x)) := by
  constructor
  · intro h
    exact ⟨h 0 a rfl, h 1 b rfl, h 2 c rfl⟩
  · rintro ⟨h0, h1, h2⟩ i y hy
    match i, hy with
    | 0, hy => cases hy; exact h0
    | 1, hy => cases hy; exact h1
    | 2, hy => cases hy; exact h2
    | i + 3, hy => simp at hy
theorem ro_three {top : Nat} {W : World} {g : Nat} {a b c : Int} (hg : g < top) (h0 : W.cell? ⟨g, 0, none⟩ = some (.int .i64 a)) (h1 : W.cell? ⟨g, 1, none⟩ = some (.int .i64 b)) (h2 : W.cell? ⟨g, 2, none⟩ = some (.int .i64 c)) : RO top W (some ⟨g, 0, none⟩) [a, b, c] := by
  intro i x hx
  refine ⟨g, 0, rfl, hg, ?_⟩
  rw [Nat.zero_add]
  match i, hx with
  | 0, hx => cases hx; exact h0
  | 1, hx => cases hx; exact h1
  | 2, hx => cases hx; exact h2
  | i + 3, hx => simp at hx
theorem ofXs_no (x a b c : Int) (w : World) (h : ¬ XsP x a b c) :
    Calls Try.prog 26 #[.int .i64 x, .int .i64 a, .int .i64 b, .int .i64 c] w fun e w' => e = .returned (.tuple #[.agg #[.int .i64 0, .slice none 0 0, .int .i64 0], .bool false]) ∧ Below w.heap.size w w' := by
  by_cases hx : 1 ≤ x ∧ x ≤ 16
  · have HI : Hid (∀ W : World, Calls Try.prog 30 #[.int .i64 x, .int .i64 1, .int .i64 16] W fun e w' => e = .returned (.bool true) ∧ W = w') := fun W => btw64_yes _ _ _ W hx.1 hx.2
    have HA : Hid (∀ (W : World) g, RO W.heap.size W (some ⟨g, 0, none⟩) [a, b, c] → Calls Try.prog 31 #[.slice (some ⟨g, 0, none⟩) 3 3, .int .i64 0, .int .i64 x] W fun e w' => e = .returned (.bool false) ∧ W = w') := fun W g hr =>
      areB_any _ 3 3 _ 0 x W hr rfl (by omega) false (by rw [three_all]; exact ⟨fun e => absurd e (by simp), fun k => absurd ⟨hx, k⟩ h⟩)
    clear h hx
    go_enter Try.func26, Try.ntmps26
    have B1 := Lib.hid (((Below.refl w.heap.size w).alloc (Nat.le_refl _) (.cells #[.int .i64 0, .slice none 0 0, .int .i64 0] 27)).alloc (by simp) (.cells #[.int .i64 a, .int .i64 b, .int .i64 c] 2))
    have A1 := Lib.hid ((D3.new w (.int .i64 0) (.slice none 0 0) (.int .i64 0) 27).alloc (.cells #[.int .i64 a, .int .i64 b, .int .i64 c] 2))
    go_wp2_with (first | (go_at_call 30; with_reducible refine (HI.out _).mono ?_; rintro e w1 ⟨rfl, rfl⟩) | (go_at_call 31; refine (HA.out _ _ (ro_three (by simp) (by simp [go_sem]) (by simp [go_sem]) (by simp [go_sem]))).mono ?_; rintro e w1 ⟨rfl, rfl⟩))
    obtain ⟨⟨x0, x1, x2⟩, _⟩ := A1.out
    exact bodyPost_ret (v := .tuple #[.agg #[.int .i64 0, .slice none 0 0, .int .i64 0], .bool false]) (by simp [results, Try.results26, go_sem, x0, x1, x2]) rfl ⟨rfl, B1.out⟩
  · have HI : Hid (∀ W : World, Calls Try.prog 30 #[.int .i64 x, .int .i64 1, .int .i64 16] W fun e w' => e = .returned (.bool false) ∧ W = w') := fun W => btw64_no _ _ _ W hx
    clear h hx
    go_enter Try.func26, Try.ntmps26
    go_wp2_with (go_at_call 30; with_reducible refine (HI.out _).mono ?_; rintro e w1 ⟨rfl, rfl⟩)
    exact bodyPost_ret (v := .tuple #[.agg #[.int .i64 0, .slice none 0 0, .int .i64 0], .bool false]) (by simp [results, Try.results26, go_sem]) rfl ⟨rfl, (Below.refl _ _).alloc (Nat.le_refl _) _⟩
theorem ofXs_yes (W a b c : Nat) (w : World) (h : XsP W a b c) :
    Calls Try.prog 26 #[.int .i64 W, .int .i64 a, .int .i64 b, .int .i64 c] w fun e w' => ∃ g cc, e = .returned (.tuple #[.agg #[.int .i64 W, .slice (some ⟨g, 0, none⟩) W cc, .int .i64 1], .bool true]) ∧ Rw w.heap.size g W cc (lsI W (mF (xsF W a b c) W)) w' ∧ Below w.heap.size w w' := by
  obtain ⟨hx, ha, hb, hc⟩ := h
  have HI : Hid (∀ V : World, Calls Try.prog 30 #[.int .i64 W, .int .i64 1, .int .i64 16] V fun e w' => e = .returned (.bool true) ∧ V = w') := fun V => btw64_yes _ _ _ V hx.1 hx.2
  have HA : Hid (∀ (V : World) g, RO V.heap.size V (some ⟨g, 0, none⟩) [(a : Int), b, c] → Calls Try.prog 31 #[.slice (some ⟨g, 0, none⟩) 3 3, .int .i64 0, .int .i64 W] V fun e w' => e = .returned (.bool true) ∧ V = w') := fun V g hr =>
    areB_any _ 3 3 _ 0 W V hr rfl (by omega) true (by rw [three_all]; exact ⟨fun _ => ⟨ha, hb, hc⟩, fun _ => rfl⟩)
  have HM : Hid (∀ V : World, Calls Try.prog 51 #[.agg #[.int .i64 W, .func (.func 55) #[.agg #[.int .i64 W, .int .i64 a, .int .i64 b, .int .i64 c]] #[]]] V fun e w' => ∃ g cc, e = .returned (.agg #[.int .i64 W, .slice (some ⟨g, 0, none⟩) W cc, .int .i64 1]) ∧ Rw V.heap.size g W cc (lsI W (mF (xsF W a b c) W)) w' ∧ Below V.heap.size V w') := fun V =>
    machF_any 55 _ (xsF W a b c) W V (by omega) (fun y hy => xsF_lt hy) (fun args V => by simp [go_sem]) (fun y V hy => xs_next W a b c y V (by omega) (by omega) (by omega) (by omega) hy)
  have hmf : ∀ (fn : Fn) (first cap : Array Value) (w : World), (Instr.makeFunc fn first cap).run Try.prog w = .ok (.func fn first cap) w := fun _ _ _ _ => rfl
  have B1 : Below w.heap.size w ((w.alloc (.cells #[.int .i64 0, .slice none 0 0, .int .i64 0] 27)).alloc (.cells #[.int .i64 a, .int .i64 b, .int .i64 c] 2)) := ((Below.refl w.heap.size w).alloc (Nat.le_refl _) _).alloc (by simp) _
  have A1 := (D3.new w (.int .i64 0) (.slice none 0 0) (.int .i64 0) 27).alloc (.cells #[.int .i64 a, .int .i64 b, .int .i64 c] 2)
  have HB1 := Lib.hid B1
  have HA1 := Lib.hid A1
  have hzz : w.heap.size + 1 ≤ ((w.alloc (.cells #[.int .i64 0, .slice none 0 0, .int .i64 0] 27)).alloc (.cells #[.int .i64 a, .int .i64 b, .int .i64 c] 2)).heap.size := by simp
  clear A1 B1 hx ha hb hc
  go_enter Try.func26, Try.ntmps26
  go_wp2_with (first | (go_at_call 30; with_reducible refine (HI.out _).mono ?_; rintro e w1 ⟨rfl, rfl⟩) | (go_at_call 31; refine (HA.out _ _ (ro_three (by simp) (by simp [go_sem]) (by simp [go_sem]) (by simp [go_sem]))).mono ?_; rintro e w1 ⟨rfl, rfl⟩))
  clear HI HA
  generalize ((w.alloc (.cells #[.int .i64 0, .slice none 0 0, .int .i64 0] 27)).alloc (.cells #[.int .i64 a, .int .i64 b, .int .i64 c] 2)) = w1 at HA1 HB1 hzz ⊢
  refine (HM.out w1).mono ?_
  rintro e w2 ⟨g, cc, rfl, hr, hb⟩
  have hA2 := HA1.out.far hb
  have hB2 := HB1.out.trans (hb.mono HB1.out.size)
  have hP := hA2.put (.int .i64 W) (.slice (some ⟨g, 0, none⟩) W cc) (.int .i64 1)
  have hPB := below_putT hB2 (Nat.le_refl w.heap.size) (.int .i64 W) (.slice (some ⟨g, 0, none⟩) W cc) (.int .i64 1)
  have hgl := hr.le
  have hPR : Rw w.heap.size g W cc (lsI W (mF (xsF W a b c) W)) (putT w2 w.heap.size (.int .i64 W) (.slice (some ⟨g, 0, none⟩) W cc) (.int .i64 1)) := by
    have e : ∀ (X : World) j u, Rw w.heap.size g W cc (lsI W (mF (xsF W a b c) W)) X → Rw w.heap.size g W cc (lsI W (mF (xsF W a b c) W)) (X.setCell ⟨w.heap.size, j, none⟩ u) := fun X j u hX => by
      refine World.ownsRow.kept hX (gr_set (gr_refl X (some w.heap.size)) (p := ⟨w.heap.size, j, none⟩) (.inl rfl) u) (.inr ?_)
      simp [Value.ownBlock]
      omega
    exact e _ _ _ (e _ _ _ (e _ _ _ (hr.base (by omega))))
  obtain ⟨⟨x0, x1, x2⟩, xf⟩ := id hA2
  have f0 := xf 0
  have f1 := xf 1
  have f2 := xf 2
  obtain ⟨p0, p1, p2⟩ := hP.1
  have HPB := Lib.hid hPB
  have HPR := Lib.hid hPR
  clear hA2 hB2 hP hPB hPR hr hb xf HA1 HB1 HM
  unfold putT at p0 p1 p2 HPB HPR
  go_wp2
  exact bodyPost_ret (v := .tuple #[.agg #[.int .i64 W, .slice (some ⟨g, 0, none⟩) W cc, .int .i64 1], .bool true]) (by simp [results, Try.results26, go_sem, p0, p1, p2]) rfl ⟨g, cc, rfl, HPR.out, HPB.out⟩
theorem shiftU_any (y s W : Nat) (w : World) (hW : W ≤ 16) (hs : s ≤ 16) (hy : y < 2 ^ W) :
    Calls Try.prog 54 #[.int .i64 y, .int .i64 s, .int .i64 W] w fun e w' => e = .returned (.int .i64 (G2.upG s (2 ^ W - 1) y : Nat)) ∧ w = w' := by
  obtain ⟨p, q, lp, lq, e1, e2, e3, e4⟩ := xs_up_int W s y hW hs hy
  have HQ : Hid (q = G2.upG s (2 ^ W - 1) y) := by
    have h3 : G2.upG s (2 ^ W - 1) y < 2 ^ W := and_ones_lt
    have hp : 2 ^ W ≤ 2 ^ 16 := Nat.pow_le_pow_right (by omega) hW
    have h5 := (up_wrap y s (by omega) hs).2
    have e : ((2 ^ W : Nat) : Int) - 1 = ((2 ^ W - 1 : Nat) : Int) := by have : 0 < 2 ^ W := Nat.pow_pos (by omega); omega
    have hpp : (p : Int) = ((y * 2 ^ s : Nat) : Int) := by rw [← e1, (up_wrap y s (by omega) hs).1]
    have h6 : p = y * 2 ^ s := by omega
    rw [h6, e, i64_andN _ _ h5 (by omega)] at e3
    have h7 : ((G2.upG s (2 ^ W - 1) y : Nat) : Int) = q := e3
    unfold Hid
    omega
  rw [← HQ.out]
  obtain ⟨P, hP⟩ : ∃ P : Nat, 2 ^ W = P := ⟨_, rfl⟩
  have hPb : P ≤ 65536 := by have : 2 ^ W ≤ 2 ^ 16 := Nat.pow_le_pow_right (by omega) hW; omega
  have p1 : wrap64 ((2 : Int) ^ W) = (P : Int) := by rw [show ((2 : Int) ^ W) = ((2 ^ W : Nat) : Int) by simp, hP]; exact wrap64_nat _ (by omega)
  rw [hP] at e3
  clear e4 HQ hP hy
  go_enter Try.func54, Try.ntmps54
  go_wp2
  go_ret
  exact ⟨rfl, rfl⟩
theorem shiftD_any (y s W : Nat) (w : World) (hs : s ≤ 16) (hW : W ≤ 16) (hyW : y < 2 ^ W) :
    Calls Try.prog 54 #[.int .i64 y, .int .i64 (-(s : Int)), .int .i64 W] w fun e w' => e = .returned (.int .i64 (G2.dnG s y : Nat)) ∧ w = w' := by
  by_cases h0 : s = 0
  · subst h0
    have := shiftU_any y 0 W w hW (by omega) hyW
    have e : G2.upG 0 (2 ^ W - 1) y = G2.dnG 0 y := by
      unfold G2.upG G2.dnG
      rw [Nat.pow_zero, Nat.mul_one, Nat.div_one, Nat.and_two_pow_sub_one_eq_mod, Nat.mod_eq_of_lt hyW]
    rw [e] at this
    exact this
  · have hn : -(s : Int) < 0 := by omega
    have e : (y : Int) / 2 ^ s = ((G2.dnG s y : Nat) : Int) := by unfold G2.dnG; simp
    have HV := Lib.hid e
    have w1 : IntKind.i64.wrap (- -(s : Int)) = (s : Int) := by rw [Int.neg_neg]; exact IntWalk.i64_in _ (by omega)
    clear e hyW
    go_enter Try.func54, Try.ntmps54
    go_wp2
    go_ret
    exact ⟨by rw [← HV.out]; rfl, rfl⟩
end Go.Proofs.Ytciofobedgmbjaa

namespace Go.Proofs.Ytciofobedgmbjaa
open Go.RowKit Go.PlainAid
set_option maxHeartbeats 800000

theorem lsI_set {n : Nat} {f g : Nat → Nat} {i y : Nat} (h : ∀ k, k < n → g k = if k = i then y else f k) : (lsI n f).set i (y : Int) = lsI n g := by
  apply List.ext_getElem?
  intro k
  rw [List.getElem?_set]
  by_cases hk : k < n
  · rw [lsI_get _ hk, lsI_get _ hk, h k hk, lsI_length]
    by_cases e : i = k
    · subst e
      rw [if_pos rfl, if_pos rfl, if_pos hk]
    · rw [if_neg e, if_neg (fun q => e q.symm)]
  · have h1 : (lsI n g)[k]? = none := List.getElem?_eq_none (by rw [lsI_length]; omega)
    have h2 : (lsI n f)[k]? = none := List.getElem?_eq_none (by rw [lsI_length]; omega)
    rw [h1, h2, lsI_length]
    by_cases e : i = k
    · subst e
      rw [if_pos rfl, if_neg hk]
    · rw [if_neg e]
theorem lsI_getD {n : Nat} (f : Nat → Nat) {k : Nat} (hk : k < n) : (lsI n f).getD k 0 = ((f k : Nat) : Int) := by rw [List.getD_eq_getElem?_getD, lsI_get f hk]; rfl
theorem lsI_zero (n : Nat) : lsI n (fun _ => 0) = (pad [] n : List Int) := by
  unfold lsI
  simp [pad, List.map_const']
/-- the struct's block, the rows' block and what lies below -/
def XJ (w : World) (W g c : Nat) (f : Nat → Nat) (wr : World) : Prop :=
  (D3 wr w.heap.size (.int .i64 0) (.slice none 0 0) (.int .i64 0) ∧ D3 wr c (.int .i64 W) (.slice (some ⟨g, 0, none⟩) W W) (.int .i64 1)) ∧ Rw (w.heap.size + 1) g W W (lsI W f) wr ∧ Below w.heap.size w wr ∧ g < c ∧ w.heap.size < g
theorem XJ.next {w wr : World} {W g c i y : Nat} {f f' : Nat → Nat} (h : XJ w W g c f wr) (hf : ∀ k, k < W → f' k = if k = i then y else f k) : XJ w W g c f' (wr.setCell ⟨g, i, none⟩ (.int .i64 y)) := by
  obtain ⟨⟨h1, h2⟩, h3, h4, h5, h6⟩ := h
  refine ⟨⟨h1.other (by omega) _ _, h2.other (by omega) _ _⟩, ?_, h4.setCell (p := ⟨g, i, none⟩) (by simp; omega) _, h5, h6⟩
  have := h3.set i y
  rwa [lsI_set hf] at this
theorem XJ.congr {w wr : World} {W g c : Nat} {f f' : Nat → Nat} (h : XJ w W g c f wr) (hf : ∀ k, f k = f' k) : XJ w W g c f' wr := by
  have : f = f' := funext hf
  rwa [← this]
theorem wrap_bit (d : Bool) {k : Nat} (hk : k < 16) : wrap64 ((d.toNat : Int) * 2 ^ k) = IntKind.i64.wrap ((d.toNat : Int) * 2 ^ k) := by
  have h2 := shl_in (a := d.toNat) (k := k) (A := 1) (by cases d <;> simp) (by omega)
  rw [cast_shl, IntWalk.i64_in _ (by omega), wrap64_nat _ h2]
theorem sXs_no (x a b c : Int) (w : World) (h : ¬ XsP x a b c) :
    Calls Try.prog 25 #[.int .i64 x, .int .i64 a, .int .i64 b, .int .i64 c] w fun e w' => e = .returned (.tuple #[.agg #[.int .i64 0, .slice none 0 0, .int .i64 0], .bool false]) ∧ Below w.heap.size w w' := by
  obtain ⟨b0, e0⟩ : ∃ b0, decide (1 ≤ x ∧ x ≤ 16) = b0 := ⟨_, rfl⟩
  obtain ⟨b1, e1⟩ : ∃ b0, decide (0 ≤ a ∧ a ≤ x) = b0 := ⟨_, rfl⟩
  obtain ⟨b2, e2⟩ : ∃ b0, decide (0 ≤ b ∧ b ≤ x) = b0 := ⟨_, rfl⟩
  obtain ⟨b3, e3⟩ : ∃ b0, decide (0 ≤ c ∧ c ≤ x) = b0 := ⟨_, rfl⟩
  have hb : (b0 && (b1 && (b2 && b3))) = false := by
    rw [Bool.eq_false_iff]
    intro q
    simp only [Bool.and_eq_true] at q
    obtain ⟨q0, q1, q2, q3⟩ := q
    rw [q0] at e0; rw [q1] at e1; rw [q2] at e2; rw [q3] at e3
    exact h ⟨of_decide_eq_true e0, of_decide_eq_true e1, of_decide_eq_true e2, of_decide_eq_true e3⟩
  have H0 : Hid (∀ V : World, Calls Try.prog 40 #[.int .i64 x, .int .i64 1, .int .i64 16] V fun e w' => e = .returned (.bool b0) ∧ V = w') := fun V => l00In_b _ _ _ _ e0 V
  have H1 : Hid (∀ V : World, Calls Try.prog 40 #[.int .i64 a, .int .i64 0, .int .i64 x] V fun e w' => e = .returned (.bool b1) ∧ V = w') := fun V => l00In_b _ _ _ _ e1 V
  have H2 : Hid (∀ V : World, Calls Try.prog 40 #[.int .i64 b, .int .i64 0, .int .i64 x] V fun e w' => e = .returned (.bool b2) ∧ V = w') := fun V => l00In_b _ _ _ _ e2 V
  have H3 : Hid (∀ V : World, Calls Try.prog 40 #[.int .i64 c, .int .i64 0, .int .i64 x] V fun e w' => e = .returned (.bool b3) ∧ V = w') := fun V => l00In_b _ _ _ _ e3 V
  have B1 := Lib.hid ((Below.refl w.heap.size w).alloc (Nat.le_refl _) (.cells #[.int .i64 0, .slice none 0 0, .int .i64 0] 27))
  have A1 := Lib.hid (D3.new w (.int .i64 0) (.slice none 0 0) (.int .i64 0) 27)
  clear h e0 e1 e2 e3
  rcases (show (b0 = false) ∨ (b0 = true ∧ b1 = false) ∨ (b0 = true ∧ b1 = true ∧ b2 = false) ∨ (b0 = true ∧ b1 = true ∧ b2 = true ∧ b3 = false) by cases b0 <;> cases b1 <;> cases b2 <;> cases b3 <;> simp_all) with rfl | ⟨rfl, rfl⟩ | ⟨rfl, rfl, rfl⟩ | ⟨rfl, rfl, rfl, rfl⟩
  all_goals
    clear hb
    go_enter Try.func25, Try.ntmps25
    go_wp2_with (go_at_call 40; with_reducible first | (refine (H0.out _).mono ?_; rintro e w1 ⟨rfl, rfl⟩) | (refine (H1.out _).mono ?_; rintro e w1 ⟨rfl, rfl⟩) | (refine (H2.out _).mono ?_; rintro e w1 ⟨rfl, rfl⟩) | (refine (H3.out _).mono ?_; rintro e w1 ⟨rfl, rfl⟩))
    obtain ⟨⟨x0, x1, x2⟩, _⟩ := A1.out
    exact bodyPost_ret (v := .tuple #[.agg #[.int .i64 0, .slice none 0 0, .int .i64 0], .bool false]) (by simp [results, Try.results25, go_sem, x0, x1, x2]) rfl ⟨rfl, B1.out⟩
set_option maxRecDepth 10000 in
theorem sXs_yes (W a b c : Nat) (w : World) (h : XsP W a b c) :
    Calls Try.prog 25 #[.int .i64 W, .int .i64 a, .int .i64 b, .int .i64 c] w fun e w' => ∃ g cc, e = .returned (.tuple #[.agg #[.int .i64 W, .slice (some ⟨g, 0, none⟩) W cc, .int .i64 1], .bool true]) ∧ Rw w.heap.size g W cc (lsI W (mF (xsF W a b c) W)) w' ∧ Below w.heap.size w w' := by
  obtain ⟨i0, hi, hz0, hz1, hz2⟩ := info_parts Try.info2
  obtain ⟨hx, ha, hb, hc⟩ := h
  have hW : W ≤ 16 := by omega
  have H0 : Hid (∀ V : World, Calls Try.prog 40 #[.int .i64 W, .int .i64 1, .int .i64 16] V fun e w' => e = .returned (.bool true) ∧ V = w') := fun V => l00In_b _ _ _ _ (decide_eq_true hx) V
  have H1 : Hid (∀ V : World, Calls Try.prog 40 #[.int .i64 a, .int .i64 0, .int .i64 W] V fun e w' => e = .returned (.bool true) ∧ V = w') := fun V => l00In_b _ _ _ _ (decide_eq_true ha) V
  have H2 : Hid (∀ V : World, Calls Try.prog 40 #[.int .i64 b, .int .i64 0, .int .i64 W] V fun e w' => e = .returned (.bool true) ∧ V = w') := fun V => l00In_b _ _ _ _ (decide_eq_true hb) V
  have H3 : Hid (∀ V : World, Calls Try.prog 40 #[.int .i64 c, .int .i64 0, .int .i64 W] V fun e w' => e = .returned (.bool true) ∧ V = w') := fun V => l00In_b _ _ _ _ (decide_eq_true hc) V
  have hbI : IntKind.i64.wrap (-(b : Int)) = -(b : Int) := IntWalk.i64_in _ (by omega)
  have hbW : wrap64 (-(b : Int)) = -(b : Int) := by unfold wrap64; omega
  have HU : Hid (∀ (y s : Nat) (V : World), s ≤ 16 → y < 2 ^ W → Calls Try.prog 54 #[.int .i64 y, .int .i64 s, .int .i64 W] V fun e w' => e = .returned (.int .i64 (G2.upG s (2 ^ W - 1) y : Nat)) ∧ V = w') := fun y s V hs hy => shiftU_any y s W V hW hs hy
  have HD : Hid (∀ (y : Nat) (V : World), y < 2 ^ W → Calls Try.prog 54 #[.int .i64 y, .int .i64 (-(b : Int)), .int .i64 W] V fun e w' => e = .returned (.int .i64 (G2.dnG b y : Nat)) ∧ V = w') := fun y V hy => shiftD_any y b W V (by omega) hW hy
  have Z1 : Hid (D3 (w.alloc (.cells #[.int .i64 0, .slice none 0 0, .int .i64 0] 27)) w.heap.size (.int .i64 0) (.slice none 0 0) (.int .i64 0) ∧ Below w.heap.size w (w.alloc (.cells #[.int .i64 0, .slice none 0 0, .int .i64 0] 27)) ∧ (w.alloc (.cells #[.int .i64 0, .slice none 0 0, .int .i64 0] 27)).heap.size = w.heap.size + 1) := ⟨D3.new w _ _ _ _, (Below.refl _ _).alloc (Nat.le_refl _) _, by simp⟩
  clear hx hb
  go_enter Try.func25, Try.ntmps25
  go_wp2_with (first | (go_at_call 40; with_reducible first | (refine (H0.out _).mono ?_; rintro e w1 ⟨rfl, rfl⟩) | (refine (H1.out _).mono ?_; rintro e w1 ⟨rfl, rfl⟩) | (refine (H2.out _).mono ?_; rintro e w1 ⟨rfl, rfl⟩) | (refine (H3.out _).mono ?_; rintro e w1 ⟨rfl, rfl⟩)) | (at_make; refine wpList_make_full _ rfl _ _ 22 rfl (w.heap.size + 1) 2 i0 _ 1 Try.underlying22 hi hz0 hz1 _ _ _ _ W rfl rfl rfl rfl (by rw [hz2]; omega) (by unfold maxLen; omega) (by simp) ?_; intro w3 hown hgrow))
  have HJ0 : Hid (XJ w W (w.heap.size + 1) w3.heap.size (mT (xsF W a b c) W 0 0) (w3.alloc (.cells #[.int .i64 W, .slice (some ⟨w.heap.size + 1, 0, none⟩) W W, .int .i64 1] 27))) := by
    obtain ⟨z1, z2, z3⟩ := Z1.out
    have k1 := z1.grow hgrow (by simp)
    have hb : Below w.heap.size w w3 := z2.grown hgrow z2.size (by simp)
    have hr : Rw (w.heap.size + 1) (w.heap.size + 1) W W (lsI W (mT (xsF W a b c) W 0 0)) w3 := by
      have e : (fun k => mT (xsF W a b c) W 0 0 k) = fun _ => 0 := funext fun k => mT_zero _ _ k
      rw [show mT (xsF W a b c) W 0 0 = fun _ => 0 from e, lsI_zero]
      rw [pad_made, z3] at hown
      exact hown
    exact ⟨⟨k1.alloc _, D3.new _ _ _ _ _⟩, hr.far ((Below.refl _ _).alloc (Nat.le_refl _) _), hb.alloc hb.size _, hr.lt, by omega⟩
  clear hown hgrow Z1 H0 H1 H2 H3
  generalize w.heap.size + 1 = g at HJ0 ⊢
  generalize w3.alloc (.cells #[.int .i64 W, .slice (some ⟨g, 0, none⟩) W W, .int .i64 1] 27) = w4 at HJ0 ⊢
  generalize w3.heap.size = cc at HJ0 ⊢
  clear w3
  go_loopw [11] (fun iv wr => ∃ k : Nat, k ≤ W ∧ iv = .int .i64 k ∧ Hid (XJ w W g cc (mT (xsF W a b c) W k 0) wr)) (fun iv _ => W - (intOf iv).toNat)
  case atStart => exact ⟨0, Nat.zero_le _, rfl, HJ0⟩
  case round =>
    obtain ⟨k, hk, rfl, KJ⟩ := hrel
    clear HJ0
    by_cases hlt : k < W
    · have hk16 : k < 16 := by omega
      obtain ⟨p1, p2, p3⟩ := pow_wrap hk16
      have l0 : 2 ^ k < 2 ^ W := Nat.pow_lt_pow_right (by omega) hlt
      have l1 := xs_up_lt (s := a) l0
      have l2 := xs_dn_lt (s := b) l1
      have l3 := xs_up_lt (s := c) l2
      have hp : 2 ^ W ≤ 2 ^ 16 := Nat.pow_le_pow_right (by omega) hW
      have u1 : G2.upG a (2 ^ W - 1) (2 ^ k) < 2 ^ W := and_ones_lt
      have u2 : G2.dnG b (2 ^ k ^^^ G2.upG a (2 ^ W - 1) (2 ^ k)) < 2 ^ W := Nat.lt_of_le_of_lt (Nat.div_le_self _ _) l1
      have u3 : G2.upG c (2 ^ W - 1) ((2 ^ k ^^^ G2.upG a (2 ^ W - 1) (2 ^ k)) ^^^ G2.dnG b (2 ^ k ^^^ G2.upG a (2 ^ W - 1) (2 ^ k))) < 2 ^ W := and_ones_lt
      have X1 := i64_xorN (2 ^ k) (G2.upG a (2 ^ W - 1) (2 ^ k)) (by omega) (by omega)
      have X2 := i64_xorN (2 ^ k ^^^ G2.upG a (2 ^ W - 1) (2 ^ k)) (G2.dnG b (2 ^ k ^^^ G2.upG a (2 ^ W - 1) (2 ^ k))) (by omega) (by omega)
      have X3 := i64_xorN ((2 ^ k ^^^ G2.upG a (2 ^ W - 1) (2 ^ k)) ^^^ G2.dnG b (2 ^ k ^^^ G2.upG a (2 ^ W - 1) (2 ^ k))) (G2.upG c (2 ^ W - 1) ((2 ^ k ^^^ G2.upG a (2 ^ W - 1) (2 ^ k)) ^^^ G2.dnG b (2 ^ k ^^^ G2.upG a (2 ^ W - 1) (2 ^ k)))) (by omega) (by omega)
      have hF : (2 ^ k ^^^ G2.upG a (2 ^ W - 1) (2 ^ k)) ^^^ G2.dnG b (2 ^ k ^^^ G2.upG a (2 ^ W - 1) (2 ^ k)) ^^^ G2.upG c (2 ^ W - 1) ((2 ^ k ^^^ G2.upG a (2 ^ W - 1) (2 ^ k)) ^^^ G2.dnG b (2 ^ k ^^^ G2.upG a (2 ^ W - 1) (2 ^ k))) = xsF W a b c (2 ^ k) := rfl
      have hF2 : xsF W a b c (2 ^ k) < 65536 := by rw [← hF]; omega
      rw [hF] at X3
      have S1 : Hid (∀ V : World, Calls Try.prog 54 #[.int .i64 (2 ^ k : Nat), .int .i64 a, .int .i64 W] V fun e w' => e = .returned (.int .i64 (G2.upG a (2 ^ W - 1) (2 ^ k) : Nat)) ∧ V = w') := fun V => HU.out _ _ V (by omega) l0
      have S2 := Lib.hid fun V => HD.out (2 ^ k ^^^ G2.upG a (2 ^ W - 1) (2 ^ k)) V l1
      have S3 := Lib.hid fun V => HU.out ((2 ^ k ^^^ G2.upG a (2 ^ W - 1) (2 ^ k)) ^^^ G2.dnG b (2 ^ k ^^^ G2.upG a (2 ^ W - 1) (2 ^ k))) c V (by omega) l2
      obtain ⟨F, hFF⟩ : ∃ F, xsF W a b c (2 ^ k) = F := ⟨_, rfl⟩
      have HFF := Lib.hid hFF
      rw [hFF] at X3 hF2
      clear hF hFF u1 u2 u3 l0 l1 l2 l3 hp
      generalize G2.upG c (2 ^ W - 1) ((2 ^ k ^^^ G2.upG a (2 ^ W - 1) (2 ^ k)) ^^^ G2.dnG b (2 ^ k ^^^ G2.upG a (2 ^ W - 1) (2 ^ k))) = v3 at X3 S3
      generalize (2 ^ k ^^^ G2.upG a (2 ^ W - 1) (2 ^ k)) ^^^ G2.dnG b (2 ^ k ^^^ G2.upG a (2 ^ W - 1) (2 ^ k)) = y2 at X2 X3 S3
      generalize G2.dnG b (2 ^ k ^^^ G2.upG a (2 ^ W - 1) (2 ^ k)) = v2 at X2 S2
      generalize 2 ^ k ^^^ G2.upG a (2 ^ W - 1) (2 ^ k) = y1 at X1 X2 S2
      generalize G2.upG a (2 ^ W - 1) (2 ^ k) = v1 at X1 S1
      generalize 2 ^ k = p at p1 p2 p3 X1 S1
      go_wp2_with (go_at_call 54; with_reducible first | (refine (S1.out _).mono ?_; rintro e w1 ⟨rfl, rfl⟩) | (refine (S2.out _).mono ?_; rintro e w1 ⟨rfl, rfl⟩) | (refine (S3.out _).mono ?_; rintro e w1 ⟨rfl, rfl⟩))
      clear S1 S2 S3 X1 X2 X3
      go_loopw [13] (fun iv wr => ∃ i : Nat, i ≤ W ∧ iv = .int .i64 i ∧ Hid (XJ w W g cc (mT (xsF W a b c) W k i) wr)) (fun iv _ => W - (intOf iv).toNat)
      case atStart => exact ⟨0, Nat.zero_le _, rfl, KJ⟩
      case round =>
        obtain ⟨i, hi, rfl, MJ⟩ := hrel
        clear KJ
        by_cases hil : i < W
        · have hi16 : i < 16 := by omega
          have E1 := xr_and F i
          have hbit : F.testBit i = bM (xsF W a b c) i k := by unfold bM; rw [HFF.out]
          have E2 := or_col (xsF W a b c) (W := W) (i := i) hk16
          rw [← wrap_bit _ hk16] at E2
          rw [hbit] at E1
          obtain ⟨⟨_, ⟨d0, d1, d2⟩, _⟩, hr, _⟩ := MJ.out
          have ck := hr.cell hil
          have fk := hr.frz i
          rw [lsI_getD _ hil] at ck
          obtain ⟨z, hz⟩ : ∃ z, mT (xsF W a b c) W k i i = z := ⟨_, rfl⟩
          have HST : Hid (∀ j, j < W → mT (xsF W a b c) W k (i + 1) j = if j = i then z ||| (bM (xsF W a b c) i k).toNat * 2 ^ k else mT (xsF W a b c) W k i j) := fun j _ => by rw [← hz]; exact mT_step _ hil j
          rw [hz] at ck E2
          generalize (bM (xsF W a b c) i k).toNat = d at E1 E2 HST
          obtain ⟨y, hy⟩ : ∃ y, z ||| d * 2 ^ k = y := ⟨_, rfl⟩
          rw [hy] at E2 HST
          have HN := Lib.hid (MJ.out.next HST.out)
          clear hz hy hbit MJ HST hr
          go_wp2
          go_roundw
          case rel => exact ⟨i + 1, by omega, by go_num, HN⟩
          case measure => first | (simp [intOf]; done) | (simp [intOf]; omega)
        · obtain rfl : i = W := by omega
          have HN := Lib.hid (MJ.out.congr fun j => mT_next _ i k j)
          clear MJ HFF
          go_wp2
          go_roundw
          case rel => exact ⟨k + 1, by omega, by go_num, HN⟩
          case measure => first | (simp [intOf]; done) | (simp [intOf]; omega)
    · obtain rfl : k = W := by omega
      obtain ⟨⟨hA2, hC2⟩, hr, hB2, h5, h6⟩ := KJ.out.congr fun j => mT_end (xsF k a b c) k j
      have hP := hA2.put (.int .i64 k) (.slice (some ⟨g, 0, none⟩) k k) (.int .i64 1)
      have hPB := below_putT hB2 (Nat.le_refl w.heap.size) (.int .i64 k) (.slice (some ⟨g, 0, none⟩) k k) (.int .i64 1)
      have hPR : Rw w.heap.size g k k (lsI k (mF (xsF k a b c) k)) (putT wr w.heap.size (.int .i64 k) (.slice (some ⟨g, 0, none⟩) k k) (.int .i64 1)) := by
        have e : ∀ (X : World) j u, Rw w.heap.size g k k (lsI k (mF (xsF k a b c) k)) X → Rw w.heap.size g k k (lsI k (mF (xsF k a b c) k)) (X.setCell ⟨w.heap.size, j, none⟩ u) := fun X j u hX => by
          refine World.ownsRow.kept hX (gr_set (gr_refl X (some w.heap.size)) (p := ⟨w.heap.size, j, none⟩) (.inl rfl) u) (.inr ?_)
          simp [Value.ownBlock]
          omega
        exact e _ _ _ (e _ _ _ (e _ _ _ (hr.base (by omega))))
      obtain ⟨⟨x0, x1, x2⟩, xf⟩ := id hA2
      obtain ⟨⟨y0, y1, y2⟩, _⟩ := id hC2
      have f0 := xf 0
      have f1 := xf 1
      have f2 := xf 2
      obtain ⟨p0, p1, p2⟩ := hP.1
      have HPB := Lib.hid hPB
      have HPR := Lib.hid hPR
      clear hA2 hC2 hB2 hP hPB hPR hr xf KJ HU HD hbI hbW
      unfold putT at p0 p1 p2 HPB HPR
      go_wp2
      exact bodyPost_ret (v := .tuple #[.agg #[.int .i64 k, .slice (some ⟨g, 0, none⟩) k k, .int .i64 1], .bool true]) (by simp [results, Try.results25, go_sem, p0, p1, p2]) rfl ⟨g, k, rfl, HPR.out, HPB.out⟩
theorem SL.nil8 (w : World) (n : Nat) : SL n w.heap.size w (.slice none 0 0) [] := .inl ⟨rfl, rfl⟩
theorem lawX (p0 p1 p2 p3 : Int) (w : World) :
    Calls Try.prog 8 #[.int .i64 p0, .int .i64 p1, .int .i64 p2, .int .i64 p3] w fun e w' => e = .returned (.bool true) ∧ Below w.heap.size w w' := by
  by_cases h : XsP p0 p1 p2 p3
  · obtain ⟨W, rfl⟩ := Int.eq_ofNat_of_zero_le (show 0 ≤ p0 by have := h.1; omega)
    obtain ⟨a, rfl⟩ := Int.eq_ofNat_of_zero_le h.2.1.1
    obtain ⟨b, rfl⟩ := Int.eq_ofNat_of_zero_le h.2.2.1.1
    obtain ⟨c, rfl⟩ := Int.eq_ofNat_of_zero_le h.2.2.2.1
    have hW : W ≤ 16 := by have := h.1; omega
    exact lawOfXorshift_core W a b c W (lsI W (mF (xsF W a b c) W)) 1 true w (by rw [lsI_length]; omega)
      (fun V => (sXs_yes W a b c V h).mono fun e w' ⟨g, cc, h1, h2, h3⟩ => ⟨_, h1, h2.sl, h3⟩)
      (fun V => (ofXs_yes W a b c V h).mono fun e w' ⟨g, cc, h1, h2, h3⟩ => ⟨_, h1, h2.sl, h3⟩)
  · exact lawOfXorshift_core p0 p1 p2 p3 0 [] 0 false w (by simp)
      (fun V => (sXs_no p0 p1 p2 p3 V h).mono fun e w' ⟨h1, h2⟩ => ⟨_, h1, SL.nil8 _ _, h2⟩)
      (fun V => (ofXs_no p0 p1 p2 p3 V h).mono fun e w' ⟨h1, h2⟩ => ⟨_, h1, SL.nil8 _ _, h2⟩)
end Go.Proofs.Ytciofobedgmbjaa

namespace Go.Proofs.Ytciofobedgmbjaa
open Go.RowKit Go.PlainAid
set_option maxHeartbeats 800000

/-- the rows of a register's machine -/
def rgR (W t i : Nat) : Nat := if i + 1 < W then 2 ^ (i + 1) else t
theorem pc_pow : ∀ j, j < 16 → Pop.pcF 64 (2 ^ j) = 1 := by decide +kernel
theorem and_pow_bit (t j : Nat) : t &&& 2 ^ j = (t.testBit j).toNat * 2 ^ j := by
  apply Nat.eq_of_testBit_eq
  intro k
  rw [Nat.testBit_and, Nat.testBit_two_pow]
  by_cases e : j = k
  · subst e
    cases h : t.testBit j with
    | false => simp
    | true => simp
  · cases h : t.testBit j with
    | false => simp [e]
    | true => simp [e]
theorem pc_and (t : Nat) {j : Nat} (hj : j < 16) : Pop.pcF 64 (t &&& 2 ^ j) % 2 = (t.testBit j).toNat := by
  rw [and_pow_bit]
  cases t.testBit j with
  | false => simp [pc_zero]
  | true => simp [pc_pow j hj]
theorem nxt_bit {V t i j : Nat} (hV : V < 16) (hi : i < V + 1) (hj : j < V + 1) : (nxt (V + 1) t (2 ^ j)).testBit i = if i < V then decide (j = i + 1) else t.testBit j := by
  unfold nxt
  rw [pc_and t (by omega), Nat.add_sub_cancel]
  have hu : 2 ^ j / 2 < 2 ^ V := by
    have : 2 ^ j ≤ 2 ^ V := Nat.pow_le_pow_right (by omega) (by omega)
    have : 0 < 2 ^ V := Nat.pow_pos (by omega)
    omega
  rw [Nat.add_comm, Nat.mul_comm, Nat.testBit_two_pow_mul_add _ hu]
  by_cases h : i < V
  · rw [if_pos h, if_pos h, Nat.testBit_div_two, Nat.testBit_two_pow]
  · rw [if_neg h, if_neg h]
    obtain rfl : i = V := by omega
    rw [Nat.sub_self]
    cases t.testBit j <;> rfl
theorem mF_reg {W t i : Nat} (hW : 1 ≤ W) (h16 : W ≤ 16) (ht : t < 2 ^ W) (hi : i < W) : mF (nxt W t) W i = rgR W t i := by
  obtain ⟨V, rfl⟩ : ∃ V, W = V + 1 := ⟨W - 1, by omega⟩
  unfold mF rgR
  rw [if_pos hi]
  apply Nat.eq_of_testBit_eq
  intro k
  unfold G2.rwM
  rw [G2.nb_bit]
  by_cases hk : k < V + 1
  · rw [nxt_bit (by omega) hi hk]
    simp only [hk, decide_true, Bool.true_and]
    by_cases h : i < V
    · rw [if_pos h, if_pos (by omega), Nat.testBit_two_pow]
      congr 1
      exact propext ⟨fun e => e.symm, fun e => e.symm⟩
    · rw [if_neg h, if_neg (by omega)]
  · simp only [hk, decide_false, Bool.false_and]
    symm
    by_cases h : i + 1 < V + 1
    · rw [if_pos h, Nat.testBit_two_pow]
      simp
      omega
    · rw [if_neg h]
      exact Nat.testBit_lt_two_pow (Nat.lt_of_lt_of_le ht (Nat.pow_le_pow_right (by omega) (by omega)))
theorem lsI_reg {W t : Nat} (hW : 1 ≤ W) (h16 : W ≤ 16) (ht : t < 2 ^ W) : lsI W (mF (nxt W t) W) = lsI W (rgR W t) := lsI_congr fun _ hi => mF_reg hW h16 ht hi
theorem ofReg_no (x t : Int) (w : World) (h : ¬ (RegP x t ∧ x ≠ 0)) :
    Calls Try.prog 22 #[.agg #[.int .i64 x, .int .i64 t]] w fun e w' => e = .returned (.tuple #[.agg #[.int .i64 0, .slice none 0 0, .int .i64 0], .bool false]) ∧ Below w.heap.size w w' := by
  obtain ⟨b, hb⟩ : ∃ b, decide (RegP x t) = b := ⟨_, rfl⟩
  have hx : b = true → x = 0 := fun e => by
    rw [e] at hb
    by_cases hx0 : x = 0
    · exact hx0
    · exact absurd ⟨of_decide_eq_true hb, hx0⟩ h
  have HV : Hid (∀ W : World, Calls Try.prog 49 #[.agg #[.int .i64 x, .int .i64 t]] W fun e w' => e = .returned (.bool b) ∧ Below W.heap.size W w') := fun W => valid_b x t b W hb
  have A0 : P2 ((w.alloc (.cells #[.int .i64 x, .int .i64 t] 43)).alloc (.cells #[.int .i64 0, .slice none 0 0, .int .i64 0] 27)) w.heap.size (.int .i64 x) (.int .i64 t) := (P2.new w _ _ _).alloc _
  have A1 : D3 ((w.alloc (.cells #[.int .i64 x, .int .i64 t] 43)).alloc (.cells #[.int .i64 0, .slice none 0 0, .int .i64 0] 27)) (w.heap.size + 1) (.int .i64 0) (.slice none 0 0) (.int .i64 0) := by
    have := D3.new (w.alloc (.cells #[.int .i64 x, .int .i64 t] 43)) (.int .i64 0) (.slice none 0 0) (.int .i64 0) 27
    rwa [show (w.alloc (.cells #[.int .i64 x, .int .i64 t] 43)).heap.size = w.heap.size + 1 by simp] at this
  have B1 : Below w.heap.size w ((w.alloc (.cells #[.int .i64 x, .int .i64 t] 43)).alloc (.cells #[.int .i64 0, .slice none 0 0, .int .i64 0] 27)) := ((Below.refl w.heap.size w).alloc (Nat.le_refl _) _).alloc (by simp) _
  clear h hb
  go_enter Try.func22, Try.ntmps22
  go_wp2_with fail
  generalize ((w.alloc (.cells #[.int .i64 x, .int .i64 t] 43)).alloc (.cells #[.int .i64 0, .slice none 0 0, .int .i64 0] 27)) = w2 at A0 A1 B1 ⊢
  refine (HV.out w2).mono ?_
  rintro e w3 ⟨rfl, hb3⟩
  obtain ⟨⟨c0, c1⟩, _⟩ := A0.far hb3
  have HA := Lib.hid (And.intro (A1.far hb3) (B1.trans (hb3.mono B1.size)))
  obtain ⟨⟨x0, x1, x2⟩, xf⟩ := HA.out.1
  clear A0 A1 B1 hb3 HV
  have f0 := xf 0
  have f1 := xf 1
  have f2 := xf 2
  have hP := HA.out.1.put (.int .i64 0) (.slice none 0 0) (.int .i64 0)
  have hPB := Lib.hid (below_putT HA.out.2 (show w.heap.size ≤ w.heap.size + 1 by omega) (.int .i64 0) (.slice none 0 0) (.int .i64 0))
  obtain ⟨p0, p1, p2⟩ := hP.1
  clear hP xf
  unfold putT at p0 p1 p2 hPB
  cases b with
  | true =>
    obtain rfl := hx rfl
    clear hx
    go_wp2
    exact bodyPost_ret (v := .tuple #[.agg #[.int .i64 0, .slice none 0 0, .int .i64 0], .bool false]) (by simp [results, Try.results22, go_sem, p0, p1, p2]) rfl ⟨rfl, hPB.out⟩
  | false =>
    clear hx
    go_wp2
    exact bodyPost_ret (v := .tuple #[.agg #[.int .i64 0, .slice none 0 0, .int .i64 0], .bool false]) (by simp [results, Try.results22, go_sem, p0, p1, p2]) rfl ⟨rfl, hPB.out⟩
theorem ofReg_yes (W t : Nat) (w : World) (hW : 1 ≤ W) (h16 : W ≤ 16) (ht : t < 2 ^ W) :
    Calls Try.prog 22 #[.agg #[.int .i64 W, .int .i64 t]] w fun e w' => ∃ g cc, e = .returned (.tuple #[.agg #[.int .i64 W, .slice (some ⟨g, 0, none⟩) W cc, .int .i64 1], .bool true]) ∧ Rw w.heap.size g W cc (lsI W (rgR W t)) w' ∧ Below w.heap.size w w' := by
  have hR : RegP W t := ⟨⟨by omega, by omega⟩, by
    unfold InP
    rw [Int.toNat_natCast]
    have e : ((2 ^ W : Nat) : Int) = (2 : Int) ^ W := by simp
    exact ⟨by omega, by omega⟩⟩
  have HV : Hid (∀ V : World, Calls Try.prog 49 #[.agg #[.int .i64 W, .int .i64 t]] V fun e w' => e = .returned (.bool true) ∧ Below V.heap.size V w') := fun V => valid_b W t true V (decide_eq_true hR)
  have HM : Hid (∀ V : World, Calls Try.prog 51 #[.agg #[.int .i64 W, .func (.func 50) #[.agg #[.int .i64 W, .int .i64 t]] #[]]] V fun e w' => ∃ g cc, e = .returned (.agg #[.int .i64 W, .slice (some ⟨g, 0, none⟩) W cc, .int .i64 1]) ∧ Rw V.heap.size g W cc (lsI W (rgR W t)) w' ∧ Below V.heap.size V w') := fun V => by
    rw [← lsI_reg hW h16 ht]
    exact machF_any 50 _ (nxt W t) W V h16 (fun y hy => nxt_lt hy) (fun args V => by simp [go_sem]) (fun y V hy => regNext_any W t y V h16 ht hy)
  have hmf : ∀ (fn : Fn) (first cap : Array Value) (w : World), (Instr.makeFunc fn first cap).run Try.prog w = .ok (.func fn first cap) w := fun _ _ _ _ => rfl
  have hz : ((W : Int) == 0) = false := by simp; omega
  have A0 : P2 ((w.alloc (.cells #[.int .i64 W, .int .i64 t] 43)).alloc (.cells #[.int .i64 0, .slice none 0 0, .int .i64 0] 27)) w.heap.size (.int .i64 W) (.int .i64 t) := (P2.new w _ _ _).alloc _
  have A1 : D3 ((w.alloc (.cells #[.int .i64 W, .int .i64 t] 43)).alloc (.cells #[.int .i64 0, .slice none 0 0, .int .i64 0] 27)) (w.heap.size + 1) (.int .i64 0) (.slice none 0 0) (.int .i64 0) := by
    have := D3.new (w.alloc (.cells #[.int .i64 W, .int .i64 t] 43)) (.int .i64 0) (.slice none 0 0) (.int .i64 0) 27
    rwa [show (w.alloc (.cells #[.int .i64 W, .int .i64 t] 43)).heap.size = w.heap.size + 1 by simp] at this
  have B1 : Below w.heap.size w ((w.alloc (.cells #[.int .i64 W, .int .i64 t] 43)).alloc (.cells #[.int .i64 0, .slice none 0 0, .int .i64 0] 27)) := ((Below.refl w.heap.size w).alloc (Nat.le_refl _) _).alloc (by simp) _
  clear hR hW h16 ht
  go_enter Try.func22, Try.ntmps22
  go_wp2_with fail
  generalize ((w.alloc (.cells #[.int .i64 W, .int .i64 t] 43)).alloc (.cells #[.int .i64 0, .slice none 0 0, .int .i64 0] 27)) = w2 at A0 A1 B1 ⊢
  refine (HV.out w2).mono ?_
  rintro e w3 ⟨rfl, hb3⟩
  obtain ⟨⟨c0, c1⟩, _⟩ := A0.far hb3
  have A3 := A1.far hb3
  have B3 := B1.trans (hb3.mono B1.size)
  have z3 := A3.lt
  clear A0 A1 B1 hb3 HV
  go_wp2_with fail
  refine (HM.out w3).mono ?_
  rintro e w4 ⟨g, cc, rfl, hr, hb⟩
  have A4 := A3.far hb
  have B4 := B3.trans (hb.mono B3.size)
  have hgl := hr.le
  have hP := A4.put (.int .i64 W) (.slice (some ⟨g, 0, none⟩) W cc) (.int .i64 1)
  have hPB := below_putT B4 (show w.heap.size ≤ w.heap.size + 1 by omega) (.int .i64 W) (.slice (some ⟨g, 0, none⟩) W cc) (.int .i64 1)
  have hPR : Rw w.heap.size g W cc (lsI W (rgR W t)) (putT w4 (w.heap.size + 1) (.int .i64 W) (.slice (some ⟨g, 0, none⟩) W cc) (.int .i64 1)) := by
    have e : ∀ (X : World) j u, Rw w.heap.size g W cc (lsI W (rgR W t)) X → Rw w.heap.size g W cc (lsI W (rgR W t)) (X.setCell ⟨w.heap.size + 1, j, none⟩ u) := fun X j u hX => by
      refine World.ownsRow.kept hX (gr_set (gr_refl X (some (w.heap.size + 1))) (p := ⟨w.heap.size + 1, j, none⟩) (.inl rfl) u) (.inr ?_)
      simp [Value.ownBlock]
      omega
    exact e _ _ _ (e _ _ _ (e _ _ _ (hr.base (by omega))))
  obtain ⟨⟨x0, x1, x2⟩, xf⟩ := id A4
  have f0 := xf 0
  have f1 := xf 1
  have f2 := xf 2
  obtain ⟨p0, p1, p2⟩ := hP.1
  have HPB := Lib.hid hPB
  have HPR := Lib.hid hPR
  clear A3 B3 A4 B4 hP hPB hPR hr hb xf HM c0 c1
  unfold putT at p0 p1 p2 HPB HPR
  go_wp2
  exact bodyPost_ret (v := .tuple #[.agg #[.int .i64 W, .slice (some ⟨g, 0, none⟩) W cc, .int .i64 1], .bool true]) (by simp [results, Try.results22, go_sem, p0, p1, p2]) rfl ⟨g, cc, rfl, HPR.out, HPB.out⟩
theorem sReg_no (x t : Int) (w : World) (h : ¬ (RegP x t ∧ x ≠ 0)) :
    Calls Try.prog 20 #[.agg #[.int .i64 x, .int .i64 t]] w fun e w' => e = .returned (.tuple #[.agg #[.int .i64 0, .slice none 0 0, .int .i64 0], .bool false]) ∧ Below w.heap.size w w' := by
  obtain ⟨b, hb⟩ : ∃ b, decide (RegP x t) = b := ⟨_, rfl⟩
  have hx : b = true → x = 0 := fun e => by
    rw [e] at hb
    by_cases hx0 : x = 0
    · exact hx0
    · exact absurd ⟨of_decide_eq_true hb, hx0⟩ h
  have HIs : Hid (∀ V : World, P2 V w.heap.size (.int .i64 x) (.int .i64 t) → Calls Try.prog 48 #[.pointer (some ⟨w.heap.size, 0, none⟩)] V fun e w' => e = .returned (.bool b) ∧ ∃ m, w' = V.drewN m) := fun V h => l02Is_b _ _ _ b V h.1.1 h.1.2 hb
  have A0 : P2 ((w.alloc (.cells #[.int .i64 x, .int .i64 t] 43)).alloc (.cells #[.int .i64 0, .slice none 0 0, .int .i64 0] 27)) w.heap.size (.int .i64 x) (.int .i64 t) := (P2.new w _ _ _).alloc _
  have A1 : D3 ((w.alloc (.cells #[.int .i64 x, .int .i64 t] 43)).alloc (.cells #[.int .i64 0, .slice none 0 0, .int .i64 0] 27)) (w.heap.size + 1) (.int .i64 0) (.slice none 0 0) (.int .i64 0) := by
    have := D3.new (w.alloc (.cells #[.int .i64 x, .int .i64 t] 43)) (.int .i64 0) (.slice none 0 0) (.int .i64 0) 27
    rwa [show (w.alloc (.cells #[.int .i64 x, .int .i64 t] 43)).heap.size = w.heap.size + 1 by simp] at this
  have B1 : Below w.heap.size w ((w.alloc (.cells #[.int .i64 x, .int .i64 t] 43)).alloc (.cells #[.int .i64 0, .slice none 0 0, .int .i64 0] 27)) := ((Below.refl w.heap.size w).alloc (Nat.le_refl _) _).alloc (by simp) _
  clear h hb
  go_enter Try.func20, Try.ntmps20
  go_wp2_with fail
  generalize ((w.alloc (.cells #[.int .i64 x, .int .i64 t] 43)).alloc (.cells #[.int .i64 0, .slice none 0 0, .int .i64 0] 27)) = w2 at A0 A1 B1 ⊢
  refine (HIs.out w2 A0).mono ?_
  rintro e w3 ⟨rfl, m3, hw3⟩
  have A0' : P2 w3 w.heap.size (.int .i64 x) (.int .i64 t) := by rw [hw3]; exact A0
  have A1' : D3 w3 (w.heap.size + 1) (.int .i64 0) (.slice none 0 0) (.int .i64 0) := by rw [hw3]; exact A1
  have HB : Hid (Below w.heap.size w w3) := by unfold Hid; rw [hw3]; exact below_drewN B1 m3
  obtain ⟨⟨c0, c1⟩, _⟩ := A0'
  clear A0 A1 B1 HIs hw3
  have hP := A1'.put (.int .i64 0) (.slice none 0 0) (.int .i64 0)
  have hPB := Lib.hid (below_putT HB.out (show w.heap.size ≤ w.heap.size + 1 by omega) (.int .i64 0) (.slice none 0 0) (.int .i64 0))
  obtain ⟨⟨x0, x1, x2⟩, xf⟩ := A1'
  have f0 := xf 0
  have f1 := xf 1
  have f2 := xf 2
  obtain ⟨p0, p1, p2⟩ := hP.1
  clear hP xf
  unfold putT at p0 p1 p2 hPB
  cases b with
  | true =>
    obtain rfl := hx rfl
    clear hx
    go_wp2
    exact bodyPost_ret (v := .tuple #[.agg #[.int .i64 0, .slice none 0 0, .int .i64 0], .bool false]) (by simp [results, Try.results20, go_sem, p0, p1, p2]) rfl ⟨rfl, hPB.out⟩
  | false =>
    clear hx
    go_wp2
    exact bodyPost_ret (v := .tuple #[.agg #[.int .i64 0, .slice none 0 0, .int .i64 0], .bool false]) (by simp [results, Try.results20, go_sem, p0, p1, p2]) rfl ⟨rfl, hPB.out⟩
/-- the register, the result's cell, the machine in the making and its rows -/
def GJ (w : World) (W t : Nat) (c k g cap : Nat) (f : Nat → Nat) (wr : World) : Prop :=
  (P2 wr w.heap.size (.int .i64 W) (.int .i64 t) ∧ D3 wr (w.heap.size + 1) (.int .i64 0) (.slice none 0 0) (.int .i64 0) ∧ D3 wr c (.int .i64 W) (.slice (some ⟨g, 0, none⟩) k cap) (.int .i64 1)) ∧ Rw (w.heap.size + 1 + 1) g k cap (lsI k f) wr ∧ Below w.heap.size w wr ∧ g ≠ c ∧ w.heap.size + 1 < c
theorem GJ.next {w wr w1 : World} {W t c k g cap : Nat} {f : Nat → Nat} {v1 : Value} {o : Obj} {y j : Nat} (h : GJ w W t c k g cap f wr) (hj : j = k + 1) (hy : y = f k) (hown : w1.ownsRow (w.heap.size + 1 + 1) 2 1 v1 (k + 1) ((lsI k f).map (Value.int .i64) ++ [.int .i64 y])) (hg : (wr.alloc o).grownBy w1 (Value.slice (some ⟨g, 0, none⟩) k cap).ownBlock) (hat : v1.ownBlock = (Value.slice (some ⟨g, 0, none⟩) k cap).ownBlock ∨ v1.ownBlock = some (wr.alloc o).heap.size) :
    ∃ g1 cap1, v1 = .slice (some ⟨g1, 0, none⟩) j cap1 ∧ GJ w W t c j g1 cap1 f (w1.setCell ⟨c, 1, none⟩ v1) ∧ D3 w1 c (.int .i64 W) (.slice (some ⟨g, 0, none⟩) k cap) (.int .i64 1) := by
  subst hy
  subst hj
  obtain ⟨⟨h1, h2, h3⟩, h4, h5, h6, h7⟩ := h
  obtain ⟨g1, cap1, rfl, hr1, hg1, hgr⟩ := Rw.app h4 hown hg hat
  have hge := h4.le
  have hlt := h3.lt
  have hne : g1 ≠ c := by rcases hg1 with e | e <;> omega
  have k1 : P2 w1 w.heap.size (.int .i64 W) (.int .i64 t) := by
    have hb : Below (w.heap.size + 1) wr w1 := (Below.refl (w.heap.size + 1) wr).grown hgr (by have := h2.lt; omega) (fun q e => by cases e; omega)
    exact h1.below hb (by omega)
  have k2 := h2.grow hgr (by simp; omega)
  have k3 := h3.grow hgr (by simp; omega)
  refine ⟨g1, cap1, rfl, ⟨⟨k1.away (by omega) _ _, k2.other (by omega) _ _, k3.set1 _⟩, ?_, ?_, hne, h7⟩, k3⟩
  · rw [lsI_succ]
    refine World.ownsRow.kept hr1 (gr_set (gr_refl w1 (some c)) (p := ⟨c, 1, none⟩) (.inl rfl) _) (.inr ?_)
    simp [Value.ownBlock]
    omega
  · exact (h5.grown hgr h5.size (fun q e => by cases e; omega)).setCell (p := ⟨c, 1, none⟩) (by simp; omega) _
set_option maxRecDepth 10000 in
theorem sReg_yes (W t : Nat) (w : World) (hW : 1 ≤ W) (h16 : W ≤ 16) (ht : t < 2 ^ W) :
    Calls Try.prog 20 #[.agg #[.int .i64 W, .int .i64 t]] w fun e w' => ∃ g cc, e = .returned (.tuple #[.agg #[.int .i64 W, .slice (some ⟨g, 0, none⟩) W cc, .int .i64 1], .bool true]) ∧ Rw w.heap.size g W cc (lsI W (rgR W t)) w' ∧ Below w.heap.size w w' := by
  obtain ⟨i0, hi, hz0, hz1, hz2⟩ := info_parts Try.info2
  have hR : RegP W t := ⟨⟨by omega, by omega⟩, by
    unfold InP
    rw [Int.toNat_natCast]
    have e : ((2 ^ W : Nat) : Int) = (2 : Int) ^ W := by simp
    exact ⟨by omega, by omega⟩⟩
  have HIs : Hid (∀ V : World, P2 V w.heap.size (.int .i64 W) (.int .i64 t) → Calls Try.prog 48 #[.pointer (some ⟨w.heap.size, 0, none⟩)] V fun e w' => e = .returned (.bool true) ∧ ∃ m, w' = V.drewN m) := fun V h => l02Is_b _ _ _ true V h.1.1 h.1.2 (decide_eq_true hR)
  have hz : ((W : Int) == 0) = false := by simp; omega
  have A0 : P2 ((w.alloc (.cells #[.int .i64 W, .int .i64 t] 43)).alloc (.cells #[.int .i64 0, .slice none 0 0, .int .i64 0] 27)) w.heap.size (.int .i64 W) (.int .i64 t) := (P2.new w _ _ _).alloc _
  have A1 : D3 ((w.alloc (.cells #[.int .i64 W, .int .i64 t] 43)).alloc (.cells #[.int .i64 0, .slice none 0 0, .int .i64 0] 27)) (w.heap.size + 1) (.int .i64 0) (.slice none 0 0) (.int .i64 0) := by
    have := D3.new (w.alloc (.cells #[.int .i64 W, .int .i64 t] 43)) (.int .i64 0) (.slice none 0 0) (.int .i64 0) 27
    rwa [show (w.alloc (.cells #[.int .i64 W, .int .i64 t] 43)).heap.size = w.heap.size + 1 by simp] at this
  have B1 : Below w.heap.size w ((w.alloc (.cells #[.int .i64 W, .int .i64 t] 43)).alloc (.cells #[.int .i64 0, .slice none 0 0, .int .i64 0] 27)) := ((Below.refl w.heap.size w).alloc (Nat.le_refl _) _).alloc (by simp) _
  clear hR
  go_enter Try.func20, Try.ntmps20
  go_wp2_with fail
  generalize ((w.alloc (.cells #[.int .i64 W, .int .i64 t] 43)).alloc (.cells #[.int .i64 0, .slice none 0 0, .int .i64 0] 27)) = w2 at A0 A1 B1 ⊢
  refine (HIs.out w2 A0).mono ?_
  rintro e w3 ⟨rfl, m3, hw3⟩
  have A0' : P2 w3 w.heap.size (.int .i64 W) (.int .i64 t) := by rw [hw3]; exact A0
  have A1' : D3 w3 (w.heap.size + 1) (.int .i64 0) (.slice none 0 0) (.int .i64 0) := by rw [hw3]; exact A1
  have HB : Hid (Below w.heap.size w w3) := by unfold Hid; rw [hw3]; exact below_drewN B1 m3
  obtain ⟨⟨c0, c1⟩, _⟩ := id A0'
  have z3 := A1'.lt
  clear A0 A1 B1 HIs hw3
  go_wp2
  have HJ0 : Hid (GJ w W t (w3.heap.size + 1) 0 w3.heap.size 0 (rgR W t) ((w3.alloc (.cells #[] 2)).alloc (.cells #[.int .i64 W, .slice (some ⟨w3.heap.size, 0, none⟩) 0 0, .int .i64 1] 27))) := by
    have hd := D3.new (w3.alloc (.cells #[] 2)) (.int .i64 W) (.slice (some ⟨w3.heap.size, 0, none⟩) 0 0) (.int .i64 1) 27
    rw [show (w3.alloc (.cells #[] 2)).heap.size = w3.heap.size + 1 by simp] at hd
    have hr : Rw (w.heap.size + 1 + 1) w3.heap.size 0 0 (lsI 0 (rgR W t)) (w3.alloc (.cells #[] 2)) := (Rw.empty w3).base (by omega)
    exact ⟨⟨(A0'.alloc _).alloc _, (A1'.alloc _).alloc _, hd⟩, hr.far ((Below.refl _ _).alloc (Nat.le_refl _) _), (HB.out.alloc HB.out.size _).alloc (by have := HB.out.size; simp; omega) _, by omega, by omega⟩
  clear A0' A1' HB c0 c1
  generalize ((w3.alloc (.cells #[] 2)).alloc (.cells #[.int .i64 W, .slice (some ⟨w3.heap.size, 0, none⟩) 0 0, .int .i64 1] 27)) = w4 at HJ0 ⊢
  generalize w3.heap.size = g0 at HJ0 ⊢
  generalize g0 + 1 = c at HJ0 ⊢
  go_loopw [5] (fun iv wr => ∃ j k g cap : Nat, j = k + 1 ∧ j ≤ W ∧ iv = .int .i64 j ∧ Hid (GJ w W t c k g cap (rgR W t) wr)) (fun iv _ => W - (intOf iv).toNat)
  case atStart => exact ⟨1, 0, g0, 0, rfl, hW, rfl, HJ0⟩
  case round =>
    obtain ⟨j, k, g, cap, hj, hk, rfl, KJ⟩ := hrel
    clear HJ0
    obtain ⟨⟨⟨⟨c0, c1⟩, _⟩, ⟨⟨y0, y1, y2⟩, yf⟩, ⟨d0, d1, d2⟩, df⟩, hr, hbel, _, _⟩ := KJ.out
    have hzz := hbel.size
    have hrl := hr.le
    have hrt := hr.lt
    by_cases hlt : j < W
    · obtain ⟨p1, p2, p3⟩ := pow_wrap (show j < 16 by omega)
      have hf : 2 ^ j = rgR W t k := by unfold rgR; rw [if_pos (by omega), hj]
      obtain ⟨p, hp⟩ : ∃ p, 2 ^ j = p := ⟨_, rfl⟩
      rw [hp] at p1 p2 hf
      have df1 := df 1
      have HJJ := Lib.hid hj
      have HFF := Lib.hid hf
      have hk16 : k < 16 := by omega
      clear hp p3 df yf hj hf
      have hw2 : w.heap.size + 1 + 1 ≤ wr.heap.size := by omega
      go_wp2_with (at_builtin; refine wpList_append_own_at _ rfl _ _ 22 rfl (w.heap.size+1+1) 2 i0 (.int .i64 0) 1 8 Try.underlying22 hi hz0 hz1 hz2 rfl (by decide) _ _ _ rfl (World.ownsRow.alloc (hr) _) ⟨wr.heap.size, 0, none⟩ 1 1 [.int .i64 p] rfl rfl (cell_one_new _ _ _) (by intro u hu; simp at hu; subst hu; rfl) (by unfold maxLen; omega) (by omega) (by first | (simp; done) | (simp; omega)) ?_; intro v1 w1 hown1 hgrow1 hnil1 hat1; obtain ⟨g1, cap1, rfl, KN, ⟨⟨e0, e1, e2⟩, ef⟩⟩ := KJ.out.next HJJ.out HFF.out hown1 hgrow1 hat1; have ef1 := ef 1)
      have HN := Lib.hid KN
      clear hown1 hgrow1 hnil1 hat1 KN KJ hr ef hbel
      try go_wp2
      go_roundw
      case rel => exact ⟨j + 1, j, g1, cap1, rfl, by omega, by go_num, HN⟩
      case measure => first | (simp [intOf]; done) | (simp [intOf]; omega)
    · obtain rfl : j = W := by omega
      have HFF : Hid (t = rgR j t k) := by unfold Hid rgR; rw [if_neg (by omega)]
      have HJJ := Lib.hid hj
      have hk16 : k < 16 := by omega
      have df1 := df 1
      have hw2 : w.heap.size + 1 + 1 ≤ wr.heap.size := by omega
      clear df hj hlt
      go_upto_region 9 with (at_builtin; refine wpList_append_own_at _ rfl _ _ 22 rfl (w.heap.size+1+1) 2 i0 (.int .i64 0) 1 8 Try.underlying22 hi hz0 hz1 hz2 rfl (by decide) _ _ _ rfl (World.ownsRow.alloc (hr) _) ⟨wr.heap.size, 0, none⟩ 1 1 [.int .i64 t] rfl rfl (cell_one_new _ _ _) (by intro u hu; simp at hu; subst hu; rfl) (by unfold maxLen; omega) (by omega) (by first | (simp; done) | (simp; omega)) ?_; intro v1 w1 hown1 hgrow1 hnil1 hat1; obtain ⟨g1, cap1, rfl, KN, ⟨⟨e0, e1, e2⟩, ef⟩⟩ := KJ.out.next HJJ.out HFF.out hown1 hgrow1 hat1; have ef1 := ef 1)
      generalize w1.setCell ⟨c, 1, none⟩ (.slice (some ⟨g1, 0, none⟩) j cap1) = w5 at KN ⊢
      clear hown1 hgrow1 hnil1 hat1 KJ hr ef ef1 hbel c0 c1 d0 d1 d2 df1 e0 e1 e2 y0 y1 y2 yf
      obtain ⟨⟨_, hA2, hC2⟩, hr, hB2, h5, h6⟩ := KN
      have hrl := hr.le
      have hP := hA2.put (.int .i64 j) (.slice (some ⟨g1, 0, none⟩) j cap1) (.int .i64 1)
      have hPB := below_putT hB2 (show w.heap.size ≤ w.heap.size + 1 by omega) (.int .i64 j) (.slice (some ⟨g1, 0, none⟩) j cap1) (.int .i64 1)
      have hPR : Rw w.heap.size g1 j cap1 (lsI j (rgR j t)) (putT w5 (w.heap.size + 1) (.int .i64 j) (.slice (some ⟨g1, 0, none⟩) j cap1) (.int .i64 1)) := by
        have e : ∀ (X : World) q u, Rw w.heap.size g1 j cap1 (lsI j (rgR j t)) X → Rw w.heap.size g1 j cap1 (lsI j (rgR j t)) (X.setCell ⟨w.heap.size + 1, q, none⟩ u) := fun X q u hX => by
          refine World.ownsRow.kept hX (gr_set (gr_refl X (some (w.heap.size + 1))) (p := ⟨w.heap.size + 1, q, none⟩) (.inl rfl) u) (.inr ?_)
          simp [Value.ownBlock]
          omega
        exact e _ _ _ (e _ _ _ (e _ _ _ (hr.base (by omega))))
      obtain ⟨⟨x0, x1, x2⟩, xf⟩ := id hA2
      obtain ⟨⟨y0, y1, y2⟩, _⟩ := id hC2
      have f0 := xf 0
      have f1 := xf 1
      have f2 := xf 2
      obtain ⟨p0, p1, p2⟩ := hP.1
      have HPB := Lib.hid hPB
      have HPR := Lib.hid hPR
      clear hA2 hC2 hB2 hP hPB hPR hr xf
      unfold putT at p0 p1 p2 HPB HPR
      go_wp2
      exact bodyPost_ret (v := .tuple #[.agg #[.int .i64 j, .slice (some ⟨g1, 0, none⟩) j cap1, .int .i64 1], .bool true]) (by simp [results, Try.results20, go_sem, p0, p1, p2]) rfl ⟨g1, cap1, rfl, HPR.out, HPB.out⟩
def GivesOfRegister (f : FuncId) (p0 p1 : Int) (x : Int) (xs : List Int) (o : Int) (ok : Bool) : Prop := ∀ (W : World), Calls Try.prog f #[.agg #[.int .i64 p0, .int .i64 p1]] W fun e w' => ∃ v, e = .returned (.tuple #[.agg #[.int .i64 x, v, .int .i64 o], .bool ok]) ∧ SL W.heap.size w'.heap.size w' v xs ∧ Below W.heap.size W w'
theorem lawOfRegister_core (p0 p1 : Int) (x : Int) (xs : List Int) (o : Int) (ok : Bool) (w : World) (hx : xs.length ≤ 400) (HS : Hid (GivesOfRegister 20 p0 p1 x xs o ok)) (HI : Hid (GivesOfRegister 22 p0 p1 x xs o ok)) :
    Calls Try.prog 7 #[.agg #[.int .i64 p0, .int .i64 p1]] w fun e w' => e = .returned (.bool true) ∧ Below w.heap.size w w' := by
  have hok : (ok != ok) = false := by simp
  have hq : (((1 : Int) + (xs.length : Int)) != ((1 : Int) + (xs.length : Int))) = false := by simp
  have HAB := Lib.hid (And.intro (P2.new w (.int .i64 p0) (.int .i64 p1) 40) ((Below.refl w.heap.size w).alloc (Nat.le_refl _) (.cells #[.int .i64 p0, .int .i64 p1] 40)))
  obtain ⟨⟨c0, c1⟩, _⟩ := HAB.out.1
  go_enter Try.func7, Try.ntmps7
  go_upto_region 1 with fail
  generalize w.alloc (.cells #[.int .i64 p0, .int .i64 p1] 40) = v at HAB c0 c1 ⊢
  go_wp2_with fail
  refine (toReg_any _ _ _).mono ?_
  rintro e v1 ⟨rfl, hbv⟩
  clear c0 c1
  go_wp2_with fail
  refine (HS.out v1).mono ?_
  rintro e w2 ⟨_, rfl, ha, hb2⟩
  obtain ⟨aa, ca, rfl, _⟩ := ha.ro
  replace ha : SL v.heap.size w2.heap.size w2 (.slice aa xs.length ca) xs := SL.lower7 ha hbv.size
  have HB2 := hbv.trans (hb2.mono hbv.size)
  have z1 := HB2.size
  have A0 := D3.new w2 (.int .i64 x) (.slice aa xs.length ca) (.int .i64 o) 27
  have C0 : Below w2.heap.size w2 (w2.alloc (.cells #[.int .i64 x, .slice aa xs.length ca, .int .i64 o] 27)) := (Below.refl _ _).alloc (Nat.le_refl _) _
  have sz : (w2.alloc (.cells #[.int .i64 x, .slice aa xs.length ca, .int .i64 o] 27)).heap.size = w2.heap.size + 1 := by simp
  have HA := Lib.hid (And.intro A0 (And.intro (HB2.trans (C0.mono z1)) (ha.below C0)))
  clear A0 HB2 ha hb2 hbv
  go_upto_region 2 with fail
  generalize w2.alloc (.cells #[.int .i64 x, .slice aa xs.length ca, .int .i64 o] 27) = w3 at HA C0 sz ⊢
  clear C0
  obtain ⟨⟨c0, c1⟩, _⟩ := HAB.out.1.far HA.out.2.1
  go_wp2_with fail
  refine (toReg_any _ _ _).mono ?_
  rintro e u3 ⟨rfl, hbu⟩
  clear c0 c1
  go_wp2_with fail
  refine (HI.out u3).mono ?_
  rintro e w4 ⟨_, rfl, hvb, hb4⟩
  obtain ⟨ab, cb, rfl, _⟩ := hvb.ro
  replace hvb : SL w3.heap.size w4.heap.size w4 (.slice ab xs.length cb) xs := SL.lower7 hvb hbu.size
  have HB4 := hbu.trans (hb4.mono hbu.size)
  have D4 : Below w4.heap.size w4 (w4.alloc (.cells #[.int .i64 x, .slice ab xs.length cb, .int .i64 o] 27)) := (Below.refl _ _).alloc (Nat.le_refl _) _
  have HJ : Hid (JM v w2.heap.size w4.heap.size x o (.slice aa xs.length ca) (.slice ab xs.length cb) xs xs (w4.alloc (.cells #[.int .i64 x, .slice ab xs.length cb, .int .i64 o] 27))) := by
    obtain ⟨k0, k1, k2⟩ := HA.out
    have zz := HB4.size
    have k3 := k0.far HB4
    refine ⟨⟨(k1.trans (HB4.mono k1.size)).trans (D4.mono (by have := k1.size; omega)), (k2.below (HB4.mono (by omega))).below (D4.mono (by omega)), (by rw [← sz]; exact hvb : SL (w2.heap.size + 1) w4.heap.size w4 (.slice ab xs.length cb) xs).below D4⟩, ⟨k3.far D4, D3.new w4 _ _ _ _⟩, z1, by omega, by simp⟩
  clear HA hvb hb4 HB4 D4 hbu
  go_upto_region 3 with fail
  generalize w4.alloc (.cells #[.int .i64 x, .slice ab xs.length cb, .int .i64 o] 27) = w5 at HJ ⊢
  generalize w2.heap.size = n2 at HJ ⊢
  generalize w4.heap.size = n4 at HJ ⊢
  obtain ⟨⟨x0, x1, x2⟩, _⟩ := HJ.out.2.1.1
  obtain ⟨⟨y0, y1, y2⟩, _⟩ := HJ.out.2.1.2
  go_wp2_with fail
  refine (eqLinM_any x (.slice ab xs.length cb) (.slice aa xs.length ca) xs o _ _ _ _ w5 HJ.out.1.2.2 HJ.out.1.2.1 (by have := HJ.out.2.2; omega) (by have := HJ.out.2.2; omega) hx).mono ?_
  rintro e w6 ⟨rfl, hb⟩
  have HJ6 := Lib.hid (HJ.out.next hb)
  clear hb HJ x0 x1 x2 y0 y1 y2
  obtain ⟨⟨x0, x1, x2⟩, _⟩ := HJ6.out.2.1.1
  obtain ⟨⟨y0, y1, y2⟩, _⟩ := HJ6.out.2.1.2
  go_wp2_with fail
  refine (markLin_any x o (.slice ab xs.length cb) xs _ _ w6 HJ6.out.1.2.2 (by have := HJ6.out.2.2; omega) hx).mono ?_
  rintro e w7 ⟨rfl, hm, hg⟩
  have HJ7 := Lib.hid (HJ6.out.mark hg hm)
  clear hm hg HJ6 x0 x1 x2 y0 y1 y2
  obtain ⟨⟨y0, y1, y2⟩, _⟩ := HJ7.out.2.1.2
  go_wp2_with fail
  refine (heldLin_any x o (.slice ab xs.length cb) _ _ _ w7 HJ7.out.1.2.2 (by have := HJ7.out.2.2; omega) hx).mono ?_
  rintro e w8 ⟨rfl, hb⟩
  have HJ8 := Lib.hid (HJ7.out.next hb)
  clear hb HJ7 y0 y1 y2
  obtain ⟨⟨c0, c1⟩, _⟩ := HAB.out.1.far HJ8.out.1.1
  have t9 : decide ((1 : Int) + (xs.length : Int) < 0) = false := by simp; omega
  go_wp2_with fail
  refine (toReg_any _ _ _).mono ?_
  rintro e u8 ⟨rfl, hbu⟩
  clear c0 c1
  go_wp2_with fail
  refine (HI.out u8).mono ?_
  rintro e w9 ⟨_, rfl, hvc, hb⟩
  obtain ⟨ac, cc, rfl, _⟩ := hvc.ro
  have HB9 := hbu.trans (hb.mono hbu.size)
  have E9 : Below w9.heap.size w9 (w9.alloc (.cells #[.int .i64 x, .slice ac xs.length cc, .int .i64 o] 27)) := (Below.refl _ _).alloc (Nat.le_refl _) _
  have HJ9 := Lib.hid ((HJ8.out.next HB9).next E9)
  have HD9 := Lib.hid (D3.new w9 (.int .i64 x) (.slice ac xs.length cc) (.int .i64 o) 27)
  have HC9 := Lib.hid (hvc.below E9)
  have z9 : w9.heap.size < (w9.alloc (.cells #[.int .i64 x, .slice ac xs.length cc, .int .i64 o] 27)).heap.size := by simp
  clear hvc hb HB9 HJ8 E9 hbu
  go_upto_region 14 with fail
  generalize w9.alloc (.cells #[.int .i64 x, .slice ac xs.length cc, .int .i64 o] 27) = w10 at HJ9 HD9 HC9 z9 ⊢
  obtain ⟨⟨x0, x1, x2⟩, _⟩ := HJ9.out.2.1.1
  obtain ⟨⟨y0, y1, y2⟩, _⟩ := HD9.out
  go_wp2_with fail
  refine (eqLinM_any x (.slice ac xs.length cc) (.slice aa xs.length ca) xs o _ _ _ _ w10 HC9.out HJ9.out.1.2.1 (by omega) (by have := HJ9.out.2.2; omega) hx).mono ?_
  rintro e w11 ⟨rfl, hb⟩
  have HJ11 := Lib.hid (HJ9.out.next hb)
  clear hb HJ9 HD9 HC9 x0 x1 x2 y0 y1 y2
  obtain ⟨⟨y0, y1, y2⟩, _⟩ := HJ11.out.2.1.2
  go_wp2_with fail
  refine (heldLin_any x o (.slice ab xs.length cb) _ _ _ w11 HJ11.out.1.2.2 (by have := HJ11.out.2.2; omega) hx).mono ?_
  rintro e w12 ⟨rfl, hb⟩
  have HJ12 := Lib.hid (HJ11.out.next hb)
  clear hb HJ11 y0 y1 y2
  go_wp2
  go_ret
  exact ⟨rfl, HAB.out.2.trans (HJ12.out.1.1.mono HAB.out.2.size)⟩
theorem lawReg (p0 p1 : Int) (w : World) :
    Calls Try.prog 7 #[.agg #[.int .i64 p0, .int .i64 p1]] w fun e w' => e = .returned (.bool true) ∧ Below w.heap.size w w' := by
  by_cases h : RegP p0 p1 ∧ p0 ≠ 0
  · obtain ⟨⟨hx, ht⟩, h0⟩ := h
    obtain ⟨W, rfl, hW⟩ := width_of hx
    obtain ⟨t, rfl, t1, _⟩ := state_of hW ht
    exact lawOfRegister_core W t W (lsI W (rgR W t)) 1 true w (by rw [lsI_length]; omega)
      (fun V => (sReg_yes W t V (by omega) hW t1).mono fun e w' ⟨g, cc, h1, h2, h3⟩ => ⟨_, h1, h2.sl, h3⟩)
      (fun V => (ofReg_yes W t V (by omega) hW t1).mono fun e w' ⟨g, cc, h1, h2, h3⟩ => ⟨_, h1, h2.sl, h3⟩)
  · exact lawOfRegister_core p0 p1 0 [] 0 false w (by simp)
      (fun V => (sReg_no p0 p1 V h).mono fun e w' ⟨h1, h2⟩ => ⟨_, h1, SL.nil8 _ _, h2⟩)
      (fun V => (ofReg_no p0 p1 V h).mono fun e w' ⟨h1, h2⟩ => ⟨_, h1, SL.nil8 _ _, h2⟩)
end Go.Proofs.Ytciofobedgmbjaa
