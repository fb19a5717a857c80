/- The cycles of a register with a table: impl.TableCycles. -/
import Derived.Test.YtapccbplmbbnnacCycT
import Derived.Test.YtapccbplmbbnnacTabNext
import Derived.Test.YtapccbplmbbnnacTabMath
import Derived.Test.YtapccbplmbbnnacAllWords
namespace Go.Proofs.Ytapccbplmbbnnac
open Go.RowKit Go.PlainAid
set_option maxHeartbeats 800000

def TabIn (w wr : World) (g W : Nat) (tb : ByteArray) : Prop := wr.cell? ⟨g, 0, none⟩ = some (.int .i64 W) ∧ wr.cell? ⟨g, 1, none⟩ = some (.string tb) ∧ Below w.heap.size w wr ∧ w.heap.size ≤ g
open Classical in
/-- the row of the first loop: for each length the states below j on cycles of this length -/
noncomputable def rowC (f : Nat → Nat) (N j : Nat) : List Int := (List.range (N + 1)).map fun L => ((cntN (fun x => decide (OnC f L x)) j : Nat) : Int)
theorem rowC_length (f : Nat → Nat) (N j : Nat) : (rowC f N j).length = N + 1 := by simp [rowC]
theorem cntN_succ (P : Nat → Bool) (n : Nat) : cntN P (n + 1) = cntN P n + one (P n) := rfl
theorem OnC.unique {f : Nat → Nat} {c d x : Nat} (h : OnC f c x) (g : OnC f d x) : c = d := (CycP.unique h g).2
theorem rowC_zero (f : Nat → Nat) (N : Nat) : rowC f N 0 = List.replicate (N + 1) 0 := by
  unfold rowC
  rw [List.eq_replicate_iff]
  refine ⟨by simp, fun b hb => ?_⟩
  obtain ⟨L, _, e⟩ := List.mem_map.1 hb
  rw [← e]
  rfl
theorem rowC_none {f : Nat → Nat} {N j : Nat} (h : ∀ L, ¬ OnC f L j) : rowC f N (j + 1) = rowC f N j := by
  unfold rowC
  refine List.map_congr_left fun L _ => ?_
  simp [cntN_succ, h L, one]
theorem rowC_on {f : Nat → Nat} {N j c : Nat} (h : OnC f c j) (hc : c ≤ N) : ∃ v : Int, 0 ≤ v ∧ v ≤ j ∧ (rowC f N j)[c]? = some v ∧ rowC f N (j + 1) = (rowC f N j).set c (v + 1) := by
  classical
  have hle : ∀ (P : Nat → Bool) n, cntN P n ≤ n := by
    intro P n
    induction n with
    | zero => exact Nat.le_refl _
    | succ n ih =>
      rw [cntN_succ]
      have : one (P n) ≤ 1 := by cases P n <;> simp [one]
      omega
  refine ⟨((cntN (fun x => decide (OnC f c x)) j : Nat) : Int), by omega, by have := hle (fun x => decide (OnC f c x)) j; omega, ?_, ?_⟩
  · unfold rowC
    simp [show c < N + 1 by omega]
  · apply List.ext_getElem?
    intro i
    by_cases hi : i = c
    · subst hi
      rw [List.getElem?_set_self (by rw [rowC_length]; omega)]
      unfold rowC
      simp [show i < N + 1 by omega, cntN_succ, h, one]
    · rw [List.getElem?_set_ne (Ne.symm hi)]
      unfold rowC
      by_cases hN : i < N + 1
      · have hno : ¬ OnC f i j := fun x => hi (x.unique h)
        simp [hN, cntN_succ, hno, one]
      · simp [hN]
/-- the lengths of all cycles, those up to k -/
noncomputable def resL (f : Nat → Nat) (N : Nat) : Nat → List Int
  | 0 => []
  | k + 1 => resL f N k ++ List.replicate (cntN (fun x => @decide _ (Classical.propDecidable (Least f (k + 1) x))) N) ((k + 1 : Nat) : Int)
theorem quo_is {f : Nat → Nat} {N L : Nat} (hf : ∀ y, y < N → f y < N) (hL : 0 < L) (hLN : L ≤ N) : ∃ v : Nat, (rowC f N N)[L]? = some (v : Int) ∧ v / L = cntN (fun x => @decide _ (Classical.propDecidable (Least f L x))) N ∧ v ≤ N := by
  classical
  have hle : ∀ (P : Nat → Bool) n, cntN P n ≤ n := by
    intro P n
    induction n with
    | zero => exact Nat.le_refl _
    | succ n ih =>
      rw [cntN_succ]
      have : one (P n) ≤ 1 := by cases P n <;> simp [one]
      omega
  refine ⟨cntN (fun x => decide (OnC f L x)) N, ?_, ?_, hle _ _⟩
  · unfold rowC
    simp [show L < N + 1 by omega]
  · rw [cycles_counted hf L, Nat.mul_div_cancel_left _ hL]

theorem tab_at {w : World} {base : Nat} {e : TypeId} {g n cap x : Nat} {l : List Int} {v : Int} (h : w.ownsRow base e 1 (.slice (some ⟨g, 0, none⟩) n cap) n (l.map (Value.int .i64))) (hx : x < n) (hv : l[x]? = some v) :
    w.cell? ⟨g, x, none⟩ = some (.int .i64 v) ∧ w.frozen? ⟨g, x, none⟩ = false := by
  refine ⟨?_, h.frozenAt _⟩
  rw [h.cellAt x (by omega)]
  simp [hv]
theorem tab_put {w : World} {base : Nat} {e : TypeId} {g n cap x : Nat} {l : List Int} (h : w.ownsRow base e 1 (.slice (some ⟨g, 0, none⟩) n cap) n (l.map (Value.int .i64))) (y : Int) :
    (w.setCell ⟨g, x, none⟩ (.int .i64 y)).ownsRow base e 1 (.slice (some ⟨g, 0, none⟩) n cap) n ((l.set x y).map (Value.int .i64)) := by
  rw [List.map_set]
  exact (h.stored x (.int .i64 y)).1
theorem cntN_le (P : Nat → Bool) : ∀ n, cntN P n ≤ n := by
  intro n
  induction n with
  | zero => exact Nat.le_refl _
  | succ n ih =>
    rw [cntN_succ]
    have : one (P n) ≤ 1 := by cases P n <;> simp [one]
    omega
theorem resL_length (f : Nat → Nat) (N : Nat) : ∀ k, (resL f N k).length ≤ k * N := by
  intro k
  induction k with
  | zero => simp [resL]
  | succ k ih =>
    simp only [resL, List.length_append, List.length_replicate]
    have := cntN_le (fun x => @decide _ (Classical.propDecidable (Least f (k + 1) x))) N
    rw [Nat.succ_mul]
    omega
theorem tabCycles_yes (W : Nat) (tb : ByteArray) (w : World) (hW : W ≤ 6) (ht : TabP W tb) (hbits : BitsP tb) :
    Calls Try.prog 7 #[.int .i64 W, .string tb] w fun e w' => ∃ v, e = .returned (.tuple #[v, .bool true]) ∧ w'.ownsRow w.heap.size 2 1 v (resL (tnx W tb) (2 ^ W) (2 ^ W)).length ((resL (tnx W tb) (2 ^ W) (2 ^ W)).map (Value.int .i64)) ∧ Below w.heap.size w w' := by
  obtain ⟨i0, hi, hz0, hz1, hz2⟩ := info_parts Try.info2
  obtain ⟨N, hN⟩ : ∃ N, 2 ^ W = N := ⟨_, rfl⟩
  have hN1 : N ≤ 64 := by
    have : 2 ^ W ≤ 2 ^ 6 := Nat.pow_le_pow_right (by omega) hW
    omega
  have hN0 : 1 ≤ N := by have : 0 < 2 ^ W := Nat.pow_pos (by omega); omega
  have hP : (2 : Int) ^ W = (N : Int) := by rw [← hN]; simp
  have hsz : (tb.size : Int) = (N : Int) := by rw [ht.1, hN]
  have HF : Hid (∀ y, y < N → tnx W tb y < N) := fun y hy => by rw [← hN]; exact tnx_lt ht (by rw [hN]; exact hy)
  have HNX : Hid (∀ (y : Nat) (V : World), y < N → Calls Try.prog 27 #[.agg #[.int .i64 W, .string tb], .int .i64 y] V fun e w' => e = .returned (.int .i64 (tnx W tb y)) ∧ Below V.heap.size V w') := fun y V hy => tabNext_any W y tb V (by omega) ht (by rw [hN]; exact hy)
  have HI : Hid (∀ w : World, Calls Try.prog 24 #[.int .i64 W, .int .i64 0, .int .i64 6] w fun e w' => e = .returned (.bool true) ∧ w = w') := fun w => btw64_b _ _ _ _ (decide_eq_true (by omega)) w
  have HB : Hid (∀ w : World, Calls Try.prog 25 #[.string tb, .int .i64 N] w fun e w' => e = .returned (.bool true) ∧ Below w.heap.size w w') := fun w => isBitsOf_yes tb N w hsz hbits
  rw [hN]
  clear ht hbits hN
  obtain ⟨f, hf⟩ : ∃ f, tnx W tb = f := ⟨_, rfl⟩
  rw [hf] at HF HNX ⊢
  clear hf
  go_enter Try.func7, Try.ntmps7
  go_wp2_with (go_at_call 24; with_reducible refine (HI.out _).mono ?_; rintro e w1 ⟨rfl, rfl⟩)
  refine (HB.out _).mono ?_
  rintro e w1 ⟨rfl, hb1⟩
  have HB1 := Lib.hid hb1
  clear hb1
  have R2 : Hid (TabIn w (w1.alloc (.cells #[.int .i64 W, .string tb] 49)) w1.heap.size W tb) := ⟨by simp [go_sem], by simp [go_sem], HB1.out.alloc HB1.out.size _, HB1.out.size⟩
  have hgl : w1.heap.size < (w1.alloc (.cells #[.int .i64 W, .string tb] 49)).heap.size := by simp
  go_wp2_with (at_make; refine wpList_make_full _ rfl _ _ 22 rfl (w1.alloc (.cells #[.int .i64 W, .string tb] 49)).heap.size 2 i0 _ 1 Try.underlying22 hi hz0 hz1 _ _ _ _ (N + 1) rfl rfl rfl rfl (by rw [hz2]; omega) (by unfold maxLen; omega) (Nat.le_refl _) ?_; intro w3 hown hgrow)
  have hz2 : (w1.alloc (.cells #[.int .i64 W, .string tb] 49)).heap.size = w1.heap.size + 1 := by simp
  obtain ⟨g, hg⟩ : ∃ g, w1.heap.size = g := ⟨_, rfl⟩
  rw [hg] at R2 hgl hz2 ⊢
  generalize w1.alloc (.cells #[.int .i64 W, .string tb] 49) = w2 at R2 hgl hown hgrow hz2 ⊢
  clear hg HB1
  have hown3 : w3.ownsRow w2.heap.size 2 1 (.slice (some ⟨w2.heap.size, 0, none⟩) (N + 1) (N + 1)) (N + 1) ((rowC f N 0).map (Value.int .i64)) := by
    rw [rowC_zero]
    rw [pad_made] at hown
    simpa [pad] using hown
  rw [hz2] at hown3
  have hb3 : Below w2.heap.size w2 w3 := (Below.refl w2.heap.size w2).grown hgrow (Nat.le_refl _) (by simp)
  have R3 : Hid (TabIn w w3 g W tb) := ⟨(hb3.cell (p := ⟨g, 0, none⟩) hgl).trans R2.out.1, (hb3.cell (p := ⟨g, 1, none⟩) hgl).trans R2.out.2.1, R2.out.2.2.1.trans (hb3.mono R2.out.2.2.1.size), R2.out.2.2.2⟩
  clear hown hgrow hb3 R2 hz2 hgl
  go_loopw [9, 10, 11, 33] (fun _ _ _ iv wr => ∃ j : Nat, j ≤ N ∧ iv = .int .i64 j ∧ wr.ownsRow (g + 1) 2 1 (.slice (some ⟨g + 1, 0, none⟩) (N + 1) (N + 1)) (N + 1) ((rowC f N j).map (Value.int .i64)) ∧ Hid (TabIn w wr g W tb)) (fun _ _ _ iv _ => N - (intOf iv).toNat)
  case atStart => exact ⟨0, Nat.zero_le _, rfl, hown3, R3⟩
  case round =>
    obtain ⟨j, hj, rfl, hown, R4⟩ := hrel
    clear hown3 R3
    by_cases hlt : j < N
    · obtain ⟨b0, c0, hc⟩ := cyc_exists (orb_steps f j) (N := N) (fun i => orb_lt HF.out hlt i)
      have hfit := hc.fits (N := N) (fun i => orb_lt HF.out hlt i)
      have HCY : Hid (∀ V : World, Calls Try.prog 26 #[.func (.func 27) #[] #[], .agg #[.int .i64 W, .string tb], .int .i64 j] V fun e w' => e = .returned (.tuple #[.int .i64 b0, .int .i64 c0]) ∧ Below V.heap.size V w') := fun V => by
        obtain ⟨b, c, h0, h1, h2⟩ := comes_again (s := orb f j) (N := N) (fun i => orb_lt HF.out hlt i)
        refine (cycleT_any (orb f j) W tb V 65536 b c (orb_steps f j) h0 (by omega) h2 (Nat.le_refl _) (fun k V => HNX.out (orb f j k) V (orb_lt HF.out hlt k))).mono ?_
        rintro e w' ⟨⟨b', c', he, hc'⟩, hb⟩
        exact ⟨by rw [he, (hc'.unique hc).1, (hc'.unique hc).2], hb⟩
      have HC := Lib.hid hc
      clear hc
      obtain ⟨r0, r1, _, _⟩ := R4.out
      go_wp2_with fail
      refine (HCY.out _).mono ?_
      rintro e w4 ⟨rfl, hb⟩
      have own4 := hown.kept (grown_below hb) (.inr (by simp [Value.ownBlock]))
      have R5 : Hid (TabIn w w4 g W tb) := ⟨cell_below r0 hb, cell_below r1 hb, R4.out.2.2.1.trans (hb.mono R4.out.2.2.1.size), R4.out.2.2.2⟩
      clear hown R4 r0 r1 hb HCY
      by_cases hb0 : b0 = 0
      · have hon : OnC f c0 j := by have := HC.out; rwa [hb0] at this
        obtain ⟨v, v0, v1, hv, hset⟩ := rowC_on (N := N) hon (by omega)
        obtain ⟨hcell, hfr⟩ := tab_at own4 (show c0 < N + 1 by omega) hv
        have hput := tab_put own4 (x := c0) (v + 1)
        rw [← hset] at hput
        have HO := Lib.hid hput
        have R6 : Hid (TabIn w (w4.setCell ⟨g + 1, c0, none⟩ (.int .i64 (v + 1))) g W tb) := by
          have hq : Below (g + 1) w4 (w4.setCell ⟨g + 1, c0, none⟩ (.int .i64 (v + 1))) := (Below.refl _ w4).setCell (p := ⟨g + 1, c0, none⟩) (Nat.le_refl _) _
          exact ⟨(hq.cell (p := ⟨g, 0, none⟩) (by show g < g + 1; omega)).trans R5.out.1, (hq.cell (p := ⟨g, 1, none⟩) (by show g < g + 1; omega)).trans R5.out.2.1, R5.out.2.2.1.setCell (p := ⟨g + 1, c0, none⟩) (by have := R5.out.2.2.2; show w.heap.size ≤ g + 1; omega) _, R5.out.2.2.2⟩
        have bz : (b0 : Int) = 0 := by omega
        have ci : (c0 : Int) < (N : Int) + 1 := by omega
        have ci2 : c0 < N + 1 := by omega
        clear own4 hv hset hput hon R5 hb0
        go_wp2
        go_roundw
        case rel => exact ⟨j + 1, hlt, by go_num, HO.out, R6⟩
        case measure => simp [intOf]; omega
      · have hno : rowC f N (j + 1) = rowC f N j := rowC_none fun L x => hb0 (CycP.unique HC.out x).1
        rw [← hno] at own4
        have HO := Lib.hid own4
        clear own4 hno
        go_wp2
        go_roundw
        case rel => exact ⟨j + 1, hlt, by go_num, HO.out, R5⟩
        case measure => simp [intOf]; omega
    · obtain rfl : j = N := by omega
      have HQ : Hid (∀ L, 0 < L → L ≤ j → ∃ v : Nat, wr.cell? ⟨g + 1, L, none⟩ = some (.int .i64 v) ∧ v / L = cntN (fun x => @decide _ (Classical.propDecidable (Least f L x))) j ∧ v ≤ j) := fun L hL hLN => by
        obtain ⟨v, hv, h1, h2⟩ := quo_is HF.out hL hLN
        exact ⟨v, (tab_at hown (by omega) hv).1, h1, h2⟩
      have hgl : g + 1 < wr.heap.size := by
        obtain ⟨v, hv, _⟩ := HQ.out 1 (by omega) hN0
        exact World.block_lt_of_cell? wr _ hv
      have HBW := Lib.hid R4.out.2.2.1
      have HO := Lib.hid (ownsRow_empty wr 2 1)
      have hb5 : Hid (Below wr.heap.size wr (wr.alloc (.cells #[] 2))) := (Below.refl _ _).alloc (Nat.le_refl _) _
      clear hown R4 HNX HI HB
      go_wp2
      obtain ⟨w5, hw5⟩ : ∃ x, wr = x := ⟨_, rfl⟩
      rw [hw5] at HO hb5 HQ HBW hgl ⊢
      clear hw5
      go_loopw [12, 13] (fun lv kv wy => ∃ k : Nat, k ≤ j ∧ kv = .int .i64 ((k : Int) + 1) ∧ wy.ownsRow w5.heap.size 2 1 lv (resL f j k).length ((resL f j k).map (Value.int .i64)) ∧ Hid (Below w5.heap.size w5 wy)) (fun _ kv _ => j + 1 - (intOf kv).toNat)
      case atStart => exact ⟨0, Nat.zero_le _, rfl, HO.out, hb5⟩
      case round =>
        obtain ⟨k, hk, rfl, hown, hb6⟩ := hrel
        clear HO hb5
        by_cases hlt2 : k < j
        · obtain ⟨q, hq, hq1, hq2⟩ := HQ.out (k + 1) (by omega) (by omega)
          have hq0 : wr.cell? ⟨g + 1, k + 1, none⟩ = some (.int .i64 q) := (hb6.out.cell (p := ⟨g + 1, k + 1, none⟩) hgl).trans hq
          obtain ⟨m, hm⟩ : ∃ m, cntN (fun x => @decide _ (Classical.propDecidable (Least f (k + 1) x))) j = m := ⟨_, rfl⟩
          have HR : Hid (resL f j (k + 1) = resL f j k ++ List.replicate m ((k : Int) + 1)) := by
            unfold Hid
            rw [← hm]
            rfl
          have hm1 : m ≤ j := by rw [← hm]; exact cntN_le _ _
          rw [hm] at hq1
          have hlen := resL_length f j k
          have hlen2 : k * j ≤ 64 * 64 := Nat.mul_le_mul (by omega) hN1
          obtain ⟨R, hRl⟩ : ∃ R, resL f j k = R := ⟨_, rfl⟩
          rw [hRl] at hown HR hlen
          have htn : ((k : Int) + 1).toNat = k + 1 := by omega
          have hdv : Int.tdiv (q : Int) ((k : Int) + 1) = (m : Int) := by
            rw [Int.tdiv_eq_ediv_of_nonneg (by omega), ← hq1]
            rw [show ((k : Int) + 1) = ((k + 1 : Nat) : Int) by omega]
            rfl
          have k0 : ¬ (k : Int) + 1 = 0 := by omega
          have k1 : (k : Int) + 1 < (j : Int) + 1 := by omega
          have k2 : (0 : Int) ≤ (k : Int) + 1 := by omega
          have k3 : (k : Int) + 1 ≤ (j : Int) := by omega
          have own0 : wr.ownsRow w5.heap.size 2 1 u12 (R.length + 0) ((R ++ List.replicate 0 ((k : Int) + 1)).map (Value.int .i64)) := by simpa using hown
          have HO0 := Lib.hid own0
          clear hq hq1 hm hRl hown own0
          go_wp2
          obtain ⟨w6, hw6⟩ : ∃ x, wr = x := ⟨_, rfl⟩
          rw [hw6] at HO0 hb6 hq0 ⊢
          clear hw6
          go_loopw [12, 63] (fun lv iv wi => ∃ i : Nat, i ≤ m ∧ iv = .int .i64 i ∧ wi.ownsRow w5.heap.size 2 1 lv (R.length + i) ((R ++ List.replicate i ((k : Int) + 1)).map (Value.int .i64)) ∧ Hid (Below w5.heap.size w5 wi)) (fun _ iv _ => m - (intOf iv).toNat)
          case atStart => exact ⟨0, Nat.zero_le _, rfl, HO0.out, hb6⟩
          case round =>
            obtain ⟨i, hi2, rfl, hown, hb7⟩ := hrel
            clear HO0 hb6 hq0
            have hz7 := hb7.out.size
            by_cases hlt3 : i < m
            · obtain ⟨w7, hw7⟩ : ∃ x, wr = x := ⟨_, rfl⟩
              rw [hw7] at hown hb7 hz7 ⊢
              clear hw7
              go_wp2_with (at_builtin; refine wpList_append_own _ rfl _ _ 22 rfl w5.heap.size 2 i0 (.int .i64 0) 1 8 Try.underlying22 hi hz0 hz1 hz2 rfl (by decide) _ _ _ rfl (hown.alloc _) ⟨w7.heap.size, 0, none⟩ 1 1 [.int .i64 ((k : Int) + 1)] rfl rfl (cell_one_new _ _ _) (by intro u hu; simp at hu; subst hu; rfl) (by unfold maxLen; omega) (by omega) (by simp; omega) ?_; intro v1 w1 hown1 hgrow _)
              have hb8 : Hid (Below w5.heap.size w5 w1) := (hb7.out.alloc hz7 _).grown hgrow (by simp; omega) (own_block hown)
              have HO1 : Hid (w1.ownsRow w5.heap.size 2 1 v1 (R.length + (i + 1)) ((R ++ List.replicate (i + 1) ((k : Int) + 1)).map (Value.int .i64))) := by
                unfold Hid
                rw [List.replicate_succ', ← List.append_assoc, ← Nat.add_assoc]
                simpa using hown1
              clear hown hown1 hgrow hb7
              go_wp2
              go_roundw
              case rel => exact ⟨i + 1, hlt3, by go_num, HO1.out, hb8⟩
              case measure => simp [intOf]; omega
            · obtain rfl : i = m := by omega
              have HO1 : Hid (wr.ownsRow w5.heap.size 2 1 u12 (resL f j (k + 1)).length ((resL f j (k + 1)).map (Value.int .i64))) := by
                unfold Hid
                rw [HR.out]
                simpa using hown
              clear hown
              go_wp2
              go_roundw
              case rel => exact ⟨k + 1, by omega, by go_num, HO1.out, hb7⟩
              case measure => simp [intOf]; omega
        · obtain rfl : k = j := by omega
          have HO1 := Lib.hid (own_base hown HBW.out.size)
          have hbr : Hid (Below w.heap.size w wr) := HBW.out.trans (hb6.out.mono HBW.out.size)
          clear hown
          go_wp2
          go_ret2
          exact ⟨_, rfl, HO1.out, hbr.out⟩
theorem tabCycles_no (x : Int) (tb : ByteArray) (w : World) (hm : tb.size ≤ maxLen) (h : ¬ (0 ≤ x ∧ x ≤ 6 ∧ (tb.size : Int) = 2 ^ x.toNat ∧ BitsP tb)) :
    Calls Try.prog 7 #[.int .i64 x, .string tb] w fun e w' => e = .returned (.tuple #[.slice none 0 0, .bool false]) ∧ Below w.heap.size w w' := by
  by_cases hr : 0 ≤ x ∧ x ≤ 6
  · obtain ⟨W, rfl⟩ := Int.eq_ofNat_of_zero_le hr.1
    have hW : W ≤ 6 := by omega
    obtain ⟨N, hN⟩ : ∃ N, 2 ^ W = N := ⟨_, rfl⟩
    have hP : (2 : Int) ^ W = (N : Int) := by rw [← hN]; simp
    have hN1 : N ≤ 64 := by
      have : 2 ^ W ≤ 2 ^ 6 := Nat.pow_le_pow_right (by omega) hW
      omega
    have HI : Hid (∀ w : World, Calls Try.prog 24 #[.int .i64 W, .int .i64 0, .int .i64 6] w fun e w' => e = .returned (.bool true) ∧ w = w') := fun w => btw64_b _ _ _ _ (decide_eq_true hr) w
    have HB : Hid (∀ w : World, Calls Try.prog 25 #[.string tb, .int .i64 N] w fun e w' => e = .returned (.bool false) ∧ Below w.heap.size w w') := fun w => isBitsOf_no tb N w hm fun ⟨a, b⟩ => h ⟨hr.1, hr.2, by rw [a, Int.toNat_natCast, hP], b⟩
    clear h hr hN hm
    go_enter Try.func7, Try.ntmps7
    go_wp2_with (go_at_call 24; with_reducible refine (HI.out _).mono ?_; rintro e w1 ⟨rfl, rfl⟩)
    refine (HB.out _).mono ?_
    rintro e w1 ⟨rfl, hb1⟩
    go_wp2
    go_ret2
    exact ⟨rfl, hb1⟩
  · have HI : Hid (∀ w : World, Calls Try.prog 24 #[.int .i64 x, .int .i64 0, .int .i64 6] w fun e w' => e = .returned (.bool false) ∧ w = w') := fun w => btw64_b _ _ _ _ (decide_eq_false hr) w
    clear h hr hm
    go_enter Try.func7, Try.ntmps7
    go_wp2_with (go_at_call 24; with_reducible refine (HI.out _).mono ?_; rintro e w1 ⟨rfl, rfl⟩)
    go_ret2
    exact ⟨rfl, Below.refl _ _⟩
end Go.Proofs.Ytapccbplmbbnnac
