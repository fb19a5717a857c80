/- Matrices: sixteen numbers as one value; what they make of a state. -/
import Derived.Test.YtciofobedgmbjaaLinA
import Derived.Test.YtciofobedgmbjaaLM
import Derived.Test.YtciofobedgmbjaaPolyMul
import Derived.Test.YtciofobedgmbjaaVA
import Derived.Deep.CutBlock
import Derived.Deep.Cut
namespace Go.Proofs.Ytciofobedgmbjaa
open Go.RowKit Go.PlainAid
set_option maxHeartbeats 800000

theorem mp_or (f : Nat → Nat) (s k c : Nat) (hk : k < 16) (hc : G2.pv (f k) s = c) : bits .or .i64 (G2.mpL f s k : Int) (wrap64 ((c : Int) * 2 ^ k)) = (G2.mpL f s (k + 1) : Int) := by
  have h0 := G2.pv_le (f k) s
  have h1 := G2.mpL_lt f s k
  have h2 := shl_in (a := c) (k := k) (A := 1) (by omega) (by omega)
  have h3 : 2 ^ k ≤ 2 ^ 16 := Nat.pow_le_pow_right (by omega) (by omega)
  rw [cast_shl, wrap64_nat _ h2, i64_orN _ _ (by omega) h2, G2.mpL_succ, hc]
theorem mat_info : (Try.prog.info? 65).map (·.size) = some 16 := by kernel_rfl
theorem mat_under : Try.prog.underlying 65 = some (.array 16 2) := by kernel_rfl
theorem mat_index (f : Nat → Nat) (k : Nat) (W : World) (hk : k < 16) : (Instr.index 65 (.agg (vs 16 f).toArray) (.int .i64 (k : Int))).run Try.prog W = .ok (.int .i64 (f k)) W :=
  run_vs_index f hk mat_under (by kernel_rfl) (by kernel_rfl) W
theorem lt16 {j : Nat} (h : j < 16) : j = 0 ∨ j = 1 ∨ j = 2 ∨ j = 3 ∨ j = 4 ∨ j = 5 ∨ j = 6 ∨ j = 7 ∨ j = 8 ∨ j = 9 ∨ j = 10 ∨ j = 11 ∨ j = 12 ∨ j = 13 ∨ j = 14 ∨ j = 15 := by omega
theorem zero16 {j : Nat} (h : j < 16) : (#[.int .i64 0, .int .i64 0, .int .i64 0, .int .i64 0, .int .i64 0, .int .i64 0, .int .i64 0, .int .i64 0, .int .i64 0, .int .i64 0, .int .i64 0, .int .i64 0, .int .i64 0, .int .i64 0, .int .i64 0, .int .i64 0] : Array Value)[0 + j]? = some (.int .i64 ((0 : Nat) : Int)) := by
  rcases lt16 h with rfl | rfl | rfl | rfl | rfl | rfl | rfl | rfl | rfl | rfl | rfl | rfl | rfl | rfl | rfl | rfl <;> rfl
theorem after_any (f : Nat → Nat) (s : Nat) (w : World) (hf : ∀ i, i < 16 → f i < 65536) (hs : s < 65536) :
    Calls Try.prog 47 #[.agg (vs 16 f).toArray, .int .i64 s] w fun e w' => e = .returned (.int .i64 (G2.mpL f s 16)) ∧ Below w.heap.size w w' := by
  have HX : Hid (∀ (k : Nat) (W : World), k < 16 → (Instr.index 65 (.agg (vs 16 f).toArray) (.int .i64 (k : Int))).run Try.prog W = .ok (.int .i64 (f k)) W) := mat_index f
  have HB : Hid (Below w.heap.size w (w.alloc (.cells (vs 16 f).toArray 65))) := (Below.refl _ _).alloc (Nat.le_refl _) _
  have HM : Hid (MA (w.alloc (.cells (vs 16 f).toArray 65)) w.heap.size 0 16 f) := MA.new _ 0 fun j hj => vs_arr f hj
  go_enter Try.func47, Try.ntmps47
  go_upto_region 2 with fail
  generalize w.alloc (.cells (vs 16 f).toArray 65) = w0 at HB HM ⊢
  refine wp_region_lit ?_
  refine wpList_load_mid rfl 65 (Operand.tmp 2) rfl w.heap.size 0 rfl (vs 16 f) (.array 16 2) HM.out.range mat_under rfl (by rw [mat_info, vs_length]) ?_
  clear HM
  generalize (vs 16 f).toArray = A at HX ⊢
  go_wp2
  go_loopw [5, 9] (fun nv iv wr => ∃ k n : Nat, k ≤ 16 ∧ nv = .int .i64 n ∧ iv = .int .i64 k ∧ Hid (n = G2.mpL f s k) ∧ w0 = wr) (fun _ iv _ => 16 - (intOf iv).toNat)
  case atStart => exact ⟨0, 0, Nat.zero_le _, rfl, rfl, rfl, rfl⟩
  case round =>
    obtain ⟨k, n, hk, rfl, rfl, HN, rfl⟩ := hrel
    by_cases hlt : k < 16
    · have hkI : (k : Int) < 16 := by omega
      have hx := HX.out k w0 hlt
      have hfk := hf k hlt
      obtain ⟨q, hq⟩ : ∃ q, f k &&& s = q := ⟨_, rfl⟩
      have hq1 : q ≤ f k := by rw [← hq]; exact Nat.and_le_left
      have E := i64_andI (f k : Int) (s : Int) (f k) s q rfl rfl hq (by omega) (by omega)
      obtain ⟨c, hc⟩ : ∃ c, Pop.pcF 64 q % 2 = c := ⟨_, rfl⟩
      have HP : Hid (∀ W : World, Calls Try.prog 59 #[.int .i64 q] W fun e w' => e = .returned (.int .i64 c) ∧ W = w') := fun W => by rw [← hc]; exact parity_any q W (by omega)
      have HM := mp_or f s k c hlt (by unfold G2.pv; rw [hq]; exact hc)
      rw [← HN.out] at HM
      obtain ⟨n2, hn2⟩ : ∃ n2, G2.mpL f s (k + 1) = n2 := ⟨_, rfl⟩
      rw [hn2] at HM
      have HN2 : Hid (n2 = G2.mpL f s (k + 1)) := hn2.symm
      clear hq hc hn2 HN
      go_wp2_with (go_at_call 59; with_reducible refine (HP.out _).mono ?_; rintro e w1 ⟨rfl, rfl⟩)
      go_roundw
      case rel => exact ⟨k + 1, n2, by omega, by first | rfl | (rw [HM]), by go_num, HN2, by first | trivial | rfl⟩
      case measure => first | (simp [intOf]; done) | (simp [intOf]; omega)
    · obtain rfl : k = 16 := by omega
      go_wp2
      go_ret
      exact ⟨by rw [← HN.out]; rfl, HB.out⟩
/-- the rows of a list, and zeros -/
def rwF (xs : List Int) (i : Nat) : Nat := (xs.getD i 0).toNat
theorem matrix_any (x : Int) (a : Option Addr) (n c : Nat) (xs : List Int) (o : Int) (w : World) (h : RO w.heap.size w a xs) (hn : xs.length = n) (hl : n ≤ 16) (hl1 : 1 ≤ n) (h0 : ∀ (i : Nat) (y : Int), xs[i]? = some y → 0 ≤ y) :
    Calls Try.prog 45 #[.agg #[.int .i64 x, .slice a n c, .int .i64 o]] w fun e w' => e = .returned (.agg (vs 16 (rwF xs)).toArray) ∧ Below w.heap.size w w' := by
  obtain ⟨w1, hw1⟩ : ∃ w1, w.alloc (.cells #[.int .i64 x, .slice a n c, .int .i64 o] 27) = w1 := ⟨_, rfl⟩
  have A0 : D3 w1 w.heap.size (.int .i64 x) (.slice a n c) (.int .i64 o) := by rw [← hw1]; exact D3.new w _ _ _ _
  have z1 : w1.heap.size = w.heap.size + 1 := by rw [← hw1]; simp
  have B1 : Below w.heap.size w w1 := by rw [← hw1]; exact (Below.refl _ _).alloc (Nat.le_refl _) _
  obtain ⟨w2, hw2⟩ : ∃ w2, w1.alloc (.cells #[.int .i64 0, .int .i64 0, .int .i64 0, .int .i64 0, .int .i64 0, .int .i64 0, .int .i64 0, .int .i64 0, .int .i64 0, .int .i64 0, .int .i64 0, .int .i64 0, .int .i64 0, .int .i64 0, .int .i64 0, .int .i64 0] 65) = w2 := ⟨_, rfl⟩
  have A1 : MA w2 (w.heap.size + 1) 0 16 (fun _ => 0) := by rw [← hw2, ← z1]; exact MA.new _ 0 fun j hj => zero16 hj
  have z2 : w2.heap.size = w.heap.size + 1 + 1 := by rw [← hw2]; simp [z1]
  have B2 : Below w.heap.size w w2 := by rw [← hw2]; exact B1.alloc B1.size _
  replace A0 : D3 w2 w.heap.size (.int .i64 x) (.slice a n c) (.int .i64 o) := by rw [← hw2]; exact A0.alloc _
  obtain ⟨w3, hw3⟩ : ∃ w3, w2.alloc (.cells #[.int .i64 0, .int .i64 0, .int .i64 0, .int .i64 0, .int .i64 0, .int .i64 0, .int .i64 0, .int .i64 0, .int .i64 0, .int .i64 0, .int .i64 0, .int .i64 0, .int .i64 0, .int .i64 0, .int .i64 0, .int .i64 0] 65) = w3 := ⟨_, rfl⟩
  have A2 : MA w3 (w.heap.size + 1 + 1) 0 16 (fun _ => 0) := by rw [← hw3, ← z2]; exact MA.new _ 0 fun j hj => zero16 hj
  have z3 : w3.heap.size = w.heap.size + 1 + 1 + 1 := by rw [← hw3]; simp [z2]
  have B3 : Below w.heap.size w w3 := by rw [← hw3]; exact B2.alloc B2.size _
  replace A0 : D3 w3 w.heap.size (.int .i64 x) (.slice a n c) (.int .i64 o) := by rw [← hw3]; exact A0.alloc _
  replace A1 : MA w3 (w.heap.size + 1) 0 16 (fun _ => 0) := by rw [← hw3]; exact A1.far (by omega) ((Below.refl _ _).alloc (Nat.le_refl _) _)
  go_enter Try.func45, Try.ntmps45
  go_upto_region 2 with fail
  clear hw1 hw2 hw3 z1 z2
  have HRO := Lib.hid ((h.below B3).up B3.size)
  have HA1 := Lib.hid A1
  have HA2 := Lib.hid A2
  have HB3 := Lib.hid B3
  have HN := Lib.hid hn
  have H0 := Lib.hid h0
  obtain ⟨q0, q1, q2⟩ := (A0.drew).gr (rw := some (w.heap.size + 1 + 1)) (by simp; omega)
  clear h hn h0 A0 A1 A2 B1 B2 B3
  refine wp_region_mix (some (w.heap.size + 1 + 1)) [0, 1, 2] [3] (by kernel_rfl) (by kernel_rfl) ?_
  simp only [pickOps, List.filterMap_cons, List.filterMap_nil, List.getElem?_toArray, List.getElem?_cons_succ, List.getElem?_cons_zero]
  repeat (refine wpQuietG_step (fun K hK => ?_); go_simp; first | (refine hK _ ?_; clear hK K) | (apply Exists.intro; refine ⟨fun _ => ?_, hK _ ?_⟩; (fail); clear hK K))
  refine wpQuietG_nil ?_
  clear q0 q1 q2
  intro W hW1 hW2
  replace hW2 := of_drew hW2
  have m2 : MA W (w.heap.size + 1 + 1) 0 16 (fun _ => 0) := HA2.out.below hW2 (by omega)
  have m1 : MA W (w.heap.size + 1) 0 16 (fun _ => 0) := HA1.out.below hW2 (by omega)
  have hro : RO W.heap.size W a xs := (HRO.out.below hW2).up hW2.size
  have BW : Below w.heap.size w W := HB3.out.trans (hW2.mono (by omega))
  have hcp := run_copy_into (P := Try.prog) (ty := 3) (sT := 22) (c := c) (el := 2) m2 hro HN.out hl hl1 (by kernel_rfl) (by kernel_rfl)
  have M2 : MA (W.setCells (w.heap.size + 1 + 1) 0 (xs.map (Value.int .i64))) (w.heap.size + 1 + 1) 0 16 (rwF xs) := m2.copy xs (by have := HN.out; omega) H0.out (fun j _ => by
    unfold rwF
    by_cases e : j < xs.length
    · rw [if_pos e]
    · rw [if_neg e, List.getD_eq_getElem?_getD, List.getElem?_eq_none (by omega)]; rfl)
  have M1 : MA (W.setCells (w.heap.size + 1 + 1) 0 (xs.map (Value.int .i64))) (w.heap.size + 1) 0 16 (fun _ => 0) := m1.away _ (by omega)
  have BM : Below w.heap.size w (W.setCells (w.heap.size + 1 + 1) 0 (xs.map (Value.int .i64))) := below_setCells (by omega) _ _ _ BW
  have hg := gr_setCells (W0 := w3.drew) (b := w.heap.size + 1 + 1) (.inl rfl) (xs.map (Value.int .i64)) 0 W hW1
  go_wp2
  try refine ⟨hg, ?_⟩
  clear hcp m1 m2 hro BW hW1 hW2 hg HRO HA1 HA2 HB3
  generalize W.setCells (w.heap.size + 1 + 1) 0 (xs.map (Value.int .i64)) = W4 at M1 M2 BM ⊢
  intro W5 hW5 hW6
  have N1 : MA W5 (w.heap.size + 1) 0 16 (fun _ => 0) := M1.far (by omega) hW6
  have N2 : MA W5 (w.heap.size + 1 + 1) 0 16 (rwF xs) := M2.far (by omega) hW6
  have NB : Below w.heap.size w W5 := BM.trans (hW6.mono BM.size)
  clear M1 M2 BM hW5 hW6
  go_upto_region 3 with fail
  refine wp_region_lit ?_
  refine wpList_load_mid rfl 65 (Operand.tmp 3) rfl (w.heap.size + 1 + 1) 0 rfl (vs 16 (rwF xs)) (.array 16 2) N2.range mat_under rfl (by rw [mat_info, vs_length]) ?_
  refine wpList_store_mid rfl 65 (Operand.tmp 2) (Operand.tmp 8) rfl (w.heap.size + 1) 0 (vs 16 (rwF xs)).toArray rfl rfl (by rw [vs_size]; exact N1.there) (by rw [mat_info, vs_size]) (vs_all 16 (rwF xs)) ?_
  refine wpList_nil ?_
  rw [List.toList_toArray]
  have K := run_vs_load (P := Try.prog) (N1.put (rwF xs)) mat_under mat_info
  have KB : Below w.heap.size w (W5.setCells (w.heap.size + 1) 0 (vs 16 (rwF xs))) := below_setCells (by omega) _ _ _ NB
  generalize W5.setCells (w.heap.size + 1) 0 (vs 16 (rwF xs)) = W6 at K KB ⊢
  obtain ⟨A, hA⟩ : ∃ A, (vs 16 (rwF xs)).toArray = A := ⟨_, rfl⟩
  have HA := Lib.hid hA
  rw [hA] at K ⊢
  clear N1 N2 NB H0 HN hA
  go_wp2
  exact bodyPost_ret (v := .agg A) (by simp [results, Try.results45, asAddr, Act.put, K]) rfl ⟨by rw [HA.out], KB⟩
end Go.Proofs.Ytciofobedgmbjaa
