/- The matrix of a map of states: impl. -/
import Derived.Test.YtciofobedgmbjabDoorAN
import Derived.Test.YtciofobedgmbjabDoorTM
namespace Go.Proofs.YtciofobedgmbjabDoor
open Go.RowKit Go.PlainAid
set_option maxHeartbeats 800000

/-- the bits of row k -/
def bM (f : Nat → Nat) (k : Nat) : Nat → Bool := fun j => (f (2 ^ j)).testBit k
/-- the rows when j columns are done, and i rows of the next one -/
def mT (f : Nat → Nat) (W j i k : Nat) : Nat := if k < W then (if k < i then G2.nb (bM f k) (j + 1) else G2.nb (bM f k) j) else 0
/-- the rows of a map -/
def mF (f : Nat → Nat) (W i : Nat) : Nat := if i < W then G2.rwM f W i else 0
theorem mT_next (f : Nat → Nat) (W j k : Nat) : mT f W j W k = mT f W (j + 1) 0 k := by
  unfold mT
  by_cases h : k < W
  · rw [if_pos h, if_pos h, if_pos h, if_neg (by omega)]
  · rw [if_neg h, if_neg h]
theorem mT_end (f : Nat → Nat) (W k : Nat) : mT f W W 0 k = mF f W k := by
  unfold mT mF
  by_cases h : k < W
  · rw [if_pos h, if_pos h, if_neg (by omega)]; rfl
  · rw [if_neg h, if_neg h]
theorem mT_zero (f : Nat → Nat) (W k : Nat) : mT f W 0 0 k = 0 := by
  unfold mT
  split
  · rw [if_neg (by omega)]; rfl
  · rfl
theorem mT_lt (f : Nat → Nat) {W j : Nat} (i k : Nat) (hj : j < 16) : mT f W j i k < 65536 := by
  unfold mT
  have h1 := G2.nb_lt (bM f k) (j + 1)
  have h2 := G2.nb_lt (bM f k) j
  have h3 : 2 ^ (j + 1) ≤ 2 ^ 16 := Nat.pow_le_pow_right (by omega) (by omega)
  have h4 : 2 ^ j ≤ 2 ^ 16 := Nat.pow_le_pow_right (by omega) (by omega)
  split
  · split <;> omega
  · omega
theorem mT_step (f : Nat → Nat) {W j i : Nat} (hi : i < W) (k : Nat) : mT f W j (i + 1) k = if k = i then mT f W j i i ||| (bM f i j).toNat * 2 ^ j else mT f W j i k := by
  unfold mT
  by_cases e : k = i
  · subst e
    rw [if_pos rfl, if_pos hi, if_pos (by omega), if_pos hi, if_neg (by omega)]
    rfl
  · rw [if_neg e]
    by_cases h : k < W
    · rw [if_pos h, if_pos h]
      by_cases h2 : k < i
      · rw [if_pos h2, if_pos (by omega)]
      · rw [if_neg h2, if_neg (by omega)]
    · rw [if_neg h, if_neg h]
theorem or_col (f : Nat → Nat) {W j i : Nat} (hj : j < 16) : bits .or .i64 (mT f W j i i : Int) (IntKind.i64.wrap (((bM f i j).toNat : Int) * 2 ^ j)) = ((mT f W j i i ||| (bM f i j).toNat * 2 ^ j : Nat) : Int) := by
  have h1 := mT_lt f (W := W) i i hj
  have h2 := shl_in (a := (bM f i j).toNat) (k := j) (A := 1) (by cases bM f i j <;> simp) (by omega)
  rw [cast_shl, IntWalk.i64_in _ (by omega), i64_orN _ _ (by omega) h2]
set_option maxRecDepth 10000 in
theorem matF_any (K : FuncId) (first : Value) (f : Nat → Nat) (W : Nat) (w : World) (hW : W ≤ 16) (hf : ∀ x, x < 2 ^ W → f x < 2 ^ W) (hK : ∀ (args : Array Value) (V : World), (callFunc K args).run Tryd.prog V = .ok (.enter K args) V) (HC : Hid (∀ (x : Nat) (V : World), x < 2 ^ W → Calls Tryd.prog K #[first, .int .i64 x] V fun e w' => e = .returned (.int .i64 (f x)) ∧ Below V.heap.size V w')) :
    Calls Tryd.prog 19 #[.agg #[.int .i64 W, .func (.func K) #[first] #[]]] w fun e w' => e = .returned (.agg (vs 16 (mF f W)).toArray) ∧ Below w.heap.size w w' := by
  have hmx : Tryd.prog.follows .mixedOrders = true := by kernel_rfl
  obtain ⟨w1, hw1⟩ : ∃ w1, w.alloc (.cells #[.int .i64 W, .func (.func K) #[first] #[]] 43) = w1 := ⟨_, rfl⟩
  have A0 : D2 w1 w.heap.size (.int .i64 W) (.func (.func K) #[first] #[]) := by rw [← hw1]; exact D2.new w _ _ _
  have z1 : w1.heap.size = w.heap.size + 1 := by rw [← hw1]; simp
  have B1 : Below w.heap.size w w1 := by rw [← hw1]; exact (Below.refl _ _).alloc (Nat.le_refl _) _
  obtain ⟨w2, hw2⟩ : ∃ w2, w1.alloc (.cells #[.int .i64 0, .int .i64 0, .int .i64 0, .int .i64 0, .int .i64 0, .int .i64 0, .int .i64 0, .int .i64 0, .int .i64 0, .int .i64 0, .int .i64 0, .int .i64 0, .int .i64 0, .int .i64 0, .int .i64 0, .int .i64 0] 40) = w2 := ⟨_, rfl⟩
  have A1 : MA w2 (w.heap.size + 1) 0 16 (fun _ => 0) := by rw [← hw2, ← z1]; exact MA.new _ 0 fun j hj => zero16 hj
  have z2 : w2.heap.size = w.heap.size + 1 + 1 := by rw [← hw2]; simp [z1]
  have B2 : Below w.heap.size w w2 := by rw [← hw2]; exact B1.alloc B1.size _
  replace A0 : D2 w2 w.heap.size (.int .i64 W) (.func (.func K) #[first] #[]) := by rw [← hw2]; exact A0.alloc _
  obtain ⟨w3, hw3⟩ : ∃ w3, w2.alloc (.cells #[.int .i64 0, .int .i64 0, .int .i64 0, .int .i64 0, .int .i64 0, .int .i64 0, .int .i64 0, .int .i64 0, .int .i64 0, .int .i64 0, .int .i64 0, .int .i64 0, .int .i64 0, .int .i64 0, .int .i64 0, .int .i64 0] 40) = w3 := ⟨_, rfl⟩
  have A2 : MA w3 (w.heap.size + 1 + 1) 0 16 (fun _ => 0) := by rw [← hw3, ← z2]; exact MA.new _ 0 fun j hj => zero16 hj
  have B3 : Below w.heap.size w w3 := by rw [← hw3]; exact B2.alloc B2.size _
  replace A0 : D2 w3 w.heap.size (.int .i64 W) (.func (.func K) #[first] #[]) := by rw [← hw3]; exact A0.alloc _
  replace A1 : MA w3 (w.heap.size + 1) 0 16 (fun _ => 0) := by rw [← hw3]; exact A1.far (by omega) ((Below.refl _ _).alloc (Nat.le_refl _) _)
  go_enter Tryd.func19, Tryd.ntmps19
  go_upto_region 2 with fail
  clear hw1 hw2 hw3 z1 z2 B1 B2
  have H0 := Lib.hid A0
  have H1 := Lib.hid A1
  have H2 : Hid (MA w3 (w.heap.size + 1 + 1) 0 16 (mT f W 0 0)) := A2.congr fun j _ => (mT_zero f W j).symm
  have HB := Lib.hid B3
  obtain ⟨x0, x1⟩ := A0.1
  clear A0 A1 A2 B3
  go_wp2
  clear x0 x1
  go_loopw [9] (fun iv wr => ∃ j : Nat, j ≤ W ∧ iv = .int .i64 j ∧ Hid (D2 wr w.heap.size (.int .i64 W) (.func (.func K) #[first] #[])) ∧ Hid (MA wr (w.heap.size + 1) 0 16 (fun _ => 0)) ∧ Hid (MA wr (w.heap.size + 1 + 1) 0 16 (mT f W j 0)) ∧ Hid (Below w.heap.size w wr)) (fun iv _ => W - (intOf iv).toNat)
  case atStart => exact ⟨0, Nat.zero_le _, rfl, H0, H1, H2, HB⟩
  case round =>
    obtain ⟨j, hj, rfl, K0, K1, K2, KB⟩ := hrel
    clear H0 H1 H2 HB
    by_cases hlt : j < W
    · have hj16 : j < 16 := by omega
      obtain ⟨p1, p2, p3⟩ := pow_wrap hj16
      have hpW : 2 ^ j < 2 ^ W := Nat.pow_lt_pow_right (by omega) hlt
      have HCC : Hid (∀ q : GR wr.drew none, Calls Tryd.prog K #[first, .int .i64 (2 ^ j : Nat)] q.w fun e w' => e = .returned (.int .i64 (f (2 ^ j))) ∧ Below q.w.heap.size q.w w') := fun q => HC.out (2 ^ j) q.w hpW
      have hfj : f (2 ^ j) < 65536 := by
        have h1 := hf (2 ^ j) hpW
        have h2 : 2 ^ W ≤ 2 ^ 16 := Nat.pow_le_pow_right (by omega) hW
        omega
      obtain ⟨F, hF⟩ : ∃ F, f (2 ^ j) = F := ⟨_, rfl⟩
      have HFF := Lib.hid hF
      rw [hF] at HCC hfj
      generalize 2 ^ j = p at p1 p2 HCC
      obtain ⟨q0, q1⟩ := (K0.out.drew).gr (rw := none) (by simp)
      clear hpW hF
      go_wp2_with fail
      refine wp_region_mix (none) [0, 1, 2, 3, 4, 5] [] (by kernel_rfl) (by kernel_rfl) ?_
      simp only [pickOps, List.filterMap_cons, List.filterMap_nil, List.getElem?_toArray, List.getElem?_cons_succ, List.getElem?_cons_zero]
      repeat (refine wpQuietG_step (fun K hK => ?_); go_simp; first | (refine hK _ ?_; clear hK K) | (apply Exists.intro; refine ⟨fun _ => ?_, hK _ ?_⟩; (first | (with_reducible exact HCC.out _)); clear hK K))
      refine wpQuietG_nil ?_
      clear q0 q1
      intro V hV1 hV2
      have L0 : D2 V w.heap.size (.int .i64 W) (.func (.func K) #[first] #[]) := (K0.out.drew).grow hV1 (by simp)
      have L1 : Hid (MA V (w.heap.size + 1) 0 16 (fun _ => 0)) := (K1.out.drew).grow (by omega) hV1 (by simp)
      have L2 : Hid (MA V (w.heap.size + 1 + 1) 0 16 (mT f W j 0)) := (K2.out.drew).grow (by omega) hV1 (by simp)
      have LB : Hid (Below w.heap.size w V) := KB.out.trans ((grb hV1).mono KB.out.size)
      have HL0 := Lib.hid L0
      obtain ⟨x0, x1⟩ := L0.1
      clear hV1 hV2 K0 K1 K2 KB L0
      go_wp2
      clear x0 x1
      go_loopw [19] (fun iv wr => ∃ i : Nat, i ≤ W ∧ iv = .int .i64 i ∧ Hid (D2 wr w.heap.size (.int .i64 W) (.func (.func K) #[first] #[])) ∧ Hid (MA wr (w.heap.size + 1) 0 16 (fun _ => 0)) ∧ Hid (MA wr (w.heap.size + 1 + 1) 0 16 (mT f W j i)) ∧ Hid (Below w.heap.size w wr)) (fun iv _ => W - (intOf iv).toNat)
      case atStart => exact ⟨0, Nat.zero_le _, rfl, HL0, L1, L2, LB⟩
      case round =>
        obtain ⟨i, hi, rfl, M0, M1, M2, MB⟩ := hrel
        clear HL0 L1 L2 LB
        by_cases hil : i < W
        · have hi16 : i < 16 := by omega
          have hiI : (i : Int) < 16 := by omega
          have E1 := xr_and F i
          have hbit : F.testBit i = bM f i j := by unfold bM; rw [HFF.out]
          have E2 := or_col f (W := W) (i := i) hj16
          rw [hbit] at E1
          obtain ⟨ck, fk⟩ := M2.out i hi16
          rw [Nat.zero_add] at ck fk
          obtain ⟨z, hz⟩ : ∃ z, mT f W j i i = z := ⟨_, rfl⟩
          have HST : Hid (∀ k, k < 16 → mT f W j (i + 1) k = if k = i then z ||| (bM f i j).toNat * 2 ^ j else mT f W j i k) := fun k _ => by rw [← hz]; exact mT_step f hil k
          rw [hz] at ck E2
          have hb1 : (bM f i j).toNat ≤ 1 := by cases bM f i j <;> simp
          generalize (bM f i j).toNat = d at E1 E2 HST hb1
          obtain ⟨y, hy⟩ : ∃ y, z ||| d * 2 ^ j = y := ⟨_, rfl⟩
          rw [hy] at E2 HST
          have c0 : ∀ q : GT wr, q.w.cell? ⟨w.heap.size + 1 + 1, i, none⟩ = some (.int .i64 z) := gt_cell ck
          clear hz hy hbit ck
          go_wp2_with fail
          refine wp_region_quiet_tail (C := fun w' => ∃ q : GT wr, w' = q.w) 11 hmx (by kernel_rfl) ⟨⟨wr.drew, (Below.refl _ _).drew⟩, rfl⟩ ?_
          simp only [List.take_succ_cons, List.take_zero, List.drop_succ_cons, List.drop_zero]
          repeat (quiet_step (fail))
          refine wpQuiet_nil ?_
          rintro V2 ⟨⟨_, hV2⟩, rfl⟩
          have N0 := M0.out.far hV2
          have N1 := M1.out.far (by omega) hV2
          have N2 := M2.out.far (by omega) hV2
          have NB := MB.out.trans (hV2.mono MB.out.size)
          obtain ⟨ck, fk2⟩ := N2 i hi16
          have S2 : Hid (MA (V2.setCell ⟨w.heap.size + 1 + 1, 0 + i, none⟩ (.int .i64 y)) (w.heap.size + 1 + 1) 0 16 (mT f W j (i + 1))) := N2.set y HST.out
          have S0 : Hid (D2 (V2.setCell ⟨w.heap.size + 1 + 1, 0 + i, none⟩ (.int .i64 y)) w.heap.size (.int .i64 W) (.func (.func K) #[first] #[])) := N0.other (by omega) _ _
          have S1 : Hid (MA (V2.setCell ⟨w.heap.size + 1 + 1, 0 + i, none⟩ (.int .i64 y)) (w.heap.size + 1) 0 16 (fun _ => 0)) := N1.other (.inl (by omega)) _
          have SB : Hid (Below w.heap.size w (V2.setCell ⟨w.heap.size + 1 + 1, 0 + i, none⟩ (.int .i64 y))) := NB.setCell (p := ⟨w.heap.size + 1 + 1, 0 + i, none⟩) (by simp; omega) _
          rw [Nat.zero_add] at ck fk2 S0 S1 S2 SB
          clear N0 N1 N2 NB M0 M1 M2 MB hV2 c0 fk HST
          go_wp2
          go_roundw
          case rel => exact ⟨i + 1, by omega, by go_num, S0, S1, S2, SB⟩
          case measure => first | (simp [intOf]; done) | (simp [intOf]; omega)
        · obtain rfl : i = W := by omega
          have M3 : Hid (MA wr (w.heap.size + 1 + 1) 0 16 (mT f i (j + 1) 0)) := M2.out.congr fun k _ => mT_next f i j k
          clear M2 HFF
          go_wp2
          go_roundw
          case rel => exact ⟨j + 1, by omega, by go_num, M0, M1, M3, MB⟩
          case measure => first | (simp [intOf]; done) | (simp [intOf]; omega)
    · obtain rfl : j = W := by omega
      have N2 : MA wr (w.heap.size + 1 + 1) 0 16 (mF f j) := K2.out.congr fun k _ => mT_end f j k
      have N1 := K1.out
      have NB := KB.out
      clear K0 K1 K2 KB HC hf hlt
      go_upto_region 12 with fail
      refine wp_region_lit ?_
      refine wpList_load_mid rfl 40 (Operand.tmp 3) rfl (w.heap.size + 1 + 1) 0 rfl (vs 16 (mF f j)) (.array 16 2) N2.range mat_under rfl (by rw [mat_info, vs_length]) ?_
      refine wpList_store_mid rfl 40 (Operand.tmp 2) (Operand.tmp 35) rfl (w.heap.size + 1) 0 (vs 16 (mF f j)).toArray rfl rfl (by rw [vs_size]; exact N1.there) (by rw [mat_info, vs_size]) (vs_all 16 _) ?_
      refine wpList_nil ?_
      rw [List.toList_toArray]
      have Q := run_vs_load (P := Tryd.prog) (N1.put (mF f j)) mat_under mat_info
      have QB : Below w.heap.size w (wr.setCells (w.heap.size + 1) 0 (vs 16 (mF f j))) := below_setCells (by omega) _ _ _ NB
      generalize wr.setCells (w.heap.size + 1) 0 (vs 16 (mF f j)) = W6 at Q QB ⊢
      obtain ⟨A, hA⟩ : ∃ A, (vs 16 (mF f j)).toArray = A := ⟨_, rfl⟩
      have HA := Lib.hid hA
      rw [hA] at Q ⊢
      clear N1 N2 NB hA
      go_wp2
      exact bodyPost_ret (v := .agg A) (by simp [results, Tryd.results19, asAddr, Act.put, Q]) rfl ⟨by rw [HA.out], QB⟩
end Go.Proofs.YtciofobedgmbjabDoor
