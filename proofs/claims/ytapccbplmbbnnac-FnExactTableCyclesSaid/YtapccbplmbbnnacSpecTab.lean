/- The cycles of a register with a table: spec.TableCycles. -/
import Derived.Test.YtapccbplmbbnnacTabCyc
import Derived.Test.YtapccbplmbbnnacTabStop
namespace Go.Proofs.Ytapccbplmbbnnac
open Go.RowKit Go.PlainAid
set_option maxHeartbeats 800000

/-- a row of one's own, as a walk reads it -/
theorem own_read {w : World} {base : Nat} {e : TypeId} {n : Nat} {v : Value} {l : List Int} (h : w.ownsRow base e 1 v n (l.map (Value.int .i64))) : ∃ a cap, v = .slice a n cap ∧ ∀ i (x : Int), i < n → l[i]? = some x → ∃ g, a = some ⟨g, 0, none⟩ ∧ w.cell? ⟨g, i, none⟩ = some (.int .i64 x) ∧ g < w.heap.size := by
  by_cases h0 : n = 0
  · subst h0
    obtain ⟨_, ⟨hv, _⟩ | ⟨g, cap, cur, hv, _⟩⟩ := h
    · exact ⟨none, 0, hv, fun i x hi => by omega⟩
    · exact ⟨_, _, hv, fun i x hi => by omega⟩
  · obtain ⟨g, cap, rfl, hg⟩ := own_shape h (by omega)
    refine ⟨_, _, rfl, fun i x hi hx => ?_⟩
    obtain ⟨hc, _⟩ := tab_at h hi hx
    exact ⟨g, rfl, hc, World.block_lt_of_cell? w _ hc⟩
/-- how often a size comes among the first ones -/
def cntI (l : List Int) (s : Int) (i : Nat) : Nat := (l.take i).countP (fun y => y == s)
theorem cntI_succ {l : List Int} {s x : Int} {i : Nat} (h : l[i]? = some x) : cntI l s (i + 1) = cntI l s i + (if (x == s) = true then 1 else 0) := by
  unfold cntI
  rw [List.take_add_one, h, List.countP_append]
  simp [List.countP_cons]
theorem cntI_le (l : List Int) (s : Int) (i : Nat) : cntI l s i ≤ l.length := by
  unfold cntI
  exact Nat.le_trans List.countP_le_length (by simp; omega)
theorem specTab_yes (W : Nat) (tb : ByteArray) (w : World) (hW : W ≤ 6) (ht : TabP W tb) (hT : ∀ w : World, Calls Try.prog 22 #[.int .i64 W, .string tb] w fun e w' => e = .returned (.bool true) ∧ Below w.heap.size w w') :
    Calls Try.prog 6 #[.int .i64 W, .string tb] w fun e w' => ∃ v, e = .returned (.tuple #[v, .bool true]) ∧ w'.ownsRow w.heap.size 2 1 v (resL (tnx W tb) (2 ^ W) (2 ^ W)).length ((resL (tnx W tb) (2 ^ W) (2 ^ W)).map (Value.int .i64)) ∧ Below w.heap.size w w' := by
  obtain ⟨i0, hi, hz0, hz1, hz2⟩ := info_parts Try.info2
  obtain ⟨N, hN⟩ : ∃ N, 2 ^ W = N := ⟨_, rfl⟩
  have hN1 : N ≤ 64 := by
    have : 2 ^ W ≤ 2 ^ 6 := Nat.pow_le_pow_right (by omega) hW
    omega
  have hsz : (tb.size : Int) = (N : Int) := by rw [ht.1, hN]
  have HF : Hid (∀ y, y < N → tnx W tb y < N) := fun y hy => by rw [← hN]; exact tnx_lt ht (by rw [hN]; exact hy)
  have HNX : Hid (∀ (y : Nat) (V : World), y < N → Calls Try.prog 23 #[.int .i64 W, .string tb, .int .i64 y] V fun e w' => e = .returned (.int .i64 (tnx W tb y)) ∧ V = w') := fun y V hy => l02Move_any W y tb V (by omega) ht (by rw [hN]; exact hy)
  have HT := Lib.hid hT
  rw [hN]
  clear ht hN hT
  obtain ⟨f, hf⟩ : ∃ f, tnx W tb = f := ⟨_, rfl⟩
  rw [hf] at HF HNX ⊢
  clear hf
  go_enter Try.func6, Try.ntmps6
  go_wp2_with fail
  refine (HT.out _).mono ?_
  rintro e w1 ⟨rfl, hb1⟩
  have HO := Lib.hid (own_base (ownsRow_empty w1 2 1) hb1.size)
  have hb2 : Hid (Below w.heap.size w (w1.alloc (.cells #[] 2))) := hb1.alloc hb1.size _
  clear hb1
  go_wp2
  go_loopw [6, 8, 9, 10] (fun ov xv _ _ wr => ∃ x : Nat, x ≤ N ∧ xv = .int .i64 x ∧ wr.ownsRow w.heap.size 2 1 ov (outL f x).length ((outL f x).map (Value.int .i64)) ∧ Hid (Below w.heap.size w wr)) (fun _ xv _ _ _ => N - (intOf xv).toNat)
  case atStart => exact ⟨0, Nat.zero_le _, rfl, HO.out, hb2⟩
  case round =>
    obtain ⟨x, hx, rfl, hown, hb3⟩ := hrel
    clear HO hb2
    by_cases hlt : x < N
    · have HL : Hid (∀ i, orb f x i < N) := fun i => orb_lt HF.out hlt i
      obtain ⟨w3, hw3⟩ : ∃ y, wr = y := ⟨_, rfl⟩
      rw [hw3] at hown hb3 ⊢
      clear hw3
      have HO3 := Lib.hid hown
      clear hown
      have HN0 := Lib.hid (HNX.out x · hlt)
      go_wp2_with (go_at_call 23; with_reducible refine (HN0.out _).mono ?_; rintro e w4 ⟨rfl, rfl⟩)
      go_loopw [9, 10] (fun nv av wi => ∃ n : Nat, 0 < n ∧ n ≤ N ∧ nv = .int .i64 n ∧ av = .int .i64 (orb f x n) ∧ wi = w3 ∧ Hid (∀ i, 0 < i → i < n → x < orb f x i)) (fun nv _ _ => N - (intOf nv).toNat)
      case atStart => exact ⟨1, by omega, by omega, rfl, rfl, rfl, fun i h0 h1 => by omega⟩
      case round =>
        obtain ⟨n, hn0, hn1, rfl, rfl, rfl, HG⟩ := hrel
        obtain ⟨y, hy⟩ : ∃ y, orb f x n = y := ⟨_, rfl⟩
        have HY := Lib.hid hy
        have hyl := HL.out n
        rw [hy] at hyl ⊢
        clear hy
        by_cases hgo : x < y ∧ n < N
        · obtain ⟨h1, h2⟩ := hgo
          have HN1 := Lib.hid (HNX.out y · hyl)
          have HS : Hid (orb f x (n + 1) = f y) := by unfold Hid; rw [← HY.out]; rfl
          have HG2 : Hid (∀ i, 0 < i → i < n + 1 → x < orb f x i) := fun i h0 hi => by
            by_cases e : i = n
            · rw [e, HY.out]; exact h1
            · exact HG.out i h0 (by omega)
          clear HN0 HG
          go_wp2_with (go_at_call 23; with_reducible refine (HN1.out _).mono ?_; rintro e w4 ⟨rfl, rfl⟩)
          go_roundw
          case rel => exact ⟨n + 1, by omega, h2, by go_num, by rw [HS.out], by first | rfl | trivial, HG2⟩
          case measure => simp [intOf]; omega
        · have hend : y ≤ x ∨ n = N := by omega
          by_cases heq : y = x
          · subst heq
            have hLe := stop_least hn0 HG.out HY.out
            have HO4 := Lib.hid HO3.out
            have hLen := outL_length f y
            have HOn : Hid (outL f (y + 1) = outL f y ++ [(n : Int)]) := outL_on hLe
            have nlt : ¬ y < y := by omega
            have eyy : ((y : Int) == (y : Int)) = true := by simp
            obtain ⟨R, hR⟩ : ∃ R, outL f y = R := ⟨_, rfl⟩
            rw [hR] at HO4 hLen HOn
            have hown := HO4.out
            have hz7 := hb3.out.size
            clear HO3 HO4 hR hLe HG HN0 hgo hend
            go_wp2_with (at_builtin; refine wpList_append_own _ rfl _ _ 22 rfl w.heap.size 2 i0 (.int .i64 0) 1 8 Try.underlying22 hi hz0 hz1 hz2 rfl (by decide) _ _ _ rfl (hown.alloc _) ⟨wr.heap.size, 0, none⟩ 1 1 [.int .i64 (n : Int)] rfl rfl (cell_one_new _ _ _) (by intro u hu; simp at hu; subst hu; rfl) (by unfold maxLen; omega) (by omega) (by simp; omega) ?_; intro v1 w5 hown1 hgrow _)
            have hb8 : Hid (Below w.heap.size w w5) := (hb3.out.alloc hz7 _).grown hgrow (by simp; omega) (own_block hown)
            have HO1 : Hid (w5.ownsRow w.heap.size 2 1 v1 (outL f (y + 1)).length ((outL f (y + 1)).map (Value.int .i64))) := by
              unfold Hid
              rw [HOn.out]
              simpa using hown1
            clear hown hown1 hgrow hb3
            go_wp2
            go_roundw
            case rel => exact ⟨y + 1, hlt, by go_num, HO1.out, hb8⟩
            case measure => simp [intOf]; omega
          · have hno : ¬ ∃ c, Least f c x := by
              rintro ⟨c, hc⟩
              have hcN : c ≤ N := by
                have := hc.1.fits (N := N) HL.out
                omega
              have e := least_stop hc hcN hn0 HG.out (by rw [HY.out]; exact hend)
              subst e
              have := hc.1.2.1
              rw [Nat.zero_add, HY.out] at this
              exact heq this
            have hown := HO3.out
            rw [← outL_off hno] at hown
            have HO1 := Lib.hid hown
            have e1 : ((y : Int) == (x : Int)) = false := by rw [beq_eq_false_iff_ne]; omega
            clear hown hno HO3 HG HN0 hend heq
            by_cases h1 : x < y
            · have h2 : ¬ n < N := fun g => hgo ⟨h1, g⟩
              clear hgo
              go_wp2
              go_roundw
              case rel => exact ⟨x + 1, hlt, by go_num, HO1.out, hb3⟩
              case measure => simp [intOf]; omega
            · clear hgo
              go_wp2
              go_roundw
              case rel => exact ⟨x + 1, hlt, by go_num, HO1.out, hb3⟩
              case measure => simp [intOf]; omega
    · obtain rfl : x = N := by omega
      obtain ⟨ar, cap, hv, hread⟩ := own_read hown
      subst hv
      have HRd := Lib.hid hread
      have HBW := Lib.hid hb3.out
      have HO5 := Lib.hid (ownsRow_empty wr 2 1)
      have hb5 : Hid (Below wr.heap.size wr (wr.alloc (.cells #[] 2))) := (Below.refl _ _).alloc (Nat.le_refl _) _
      have HCn : Hid (∀ L, cntI (outL f x) (L : Nat) (outL f x).length = cntN (fun y => @decide _ (Classical.propDecidable (Least f L y))) x) := fun L => by
        unfold cntI
        rw [List.take_length]
        exact outL_count f L x
      have hol := outL_length f x
      obtain ⟨l, hl⟩ : ∃ l, outL f x = l := ⟨_, rfl⟩
      rw [hl] at HRd HCn hol ⊢
      clear hown hread hb3 HNX hl
      go_wp2
      obtain ⟨w5, hw5⟩ : ∃ y, wr = y := ⟨_, rfl⟩
      rw [hw5] at HO5 hb5 HRd HBW ⊢
      clear hw5
      go_loopw [11, 12, 13] (fun lv kv _ wy => ∃ k : Nat, k ≤ x ∧ kv = .int .i64 ((k : Int) + 1) ∧ wy.ownsRow w5.heap.size 2 1 lv (resL f x k).length ((resL f x k).map (Value.int .i64)) ∧ Hid (Below w5.heap.size w5 wy)) (fun _ kv _ _ => x + 1 - (intOf kv).toNat)
      case atStart => exact ⟨0, Nat.zero_le _, rfl, HO5.out, hb5⟩
      case round =>
        obtain ⟨k, hk, rfl, hown, hb6⟩ := hrel
        clear HO5 hb5
        by_cases hlt2 : k < x
        · have hlen := resL_length f x k
          have hlen2 : k * x ≤ 64 * 64 := Nat.mul_le_mul (by omega) hN1
          have HR : Hid (resL f x (k + 1) = resL f x k ++ List.replicate (cntI l ((k : Int) + 1) l.length) ((k : Int) + 1)) := by
            unfold Hid
            have := HCn.out (k + 1)
            rw [show ((k + 1 : Nat) : Int) = (k : Int) + 1 by omega] at this
            rw [this]
            rfl
          obtain ⟨R, hRl⟩ : ∃ R, resL f x k = R := ⟨_, rfl⟩
          rw [hRl] at hown HR hlen
          have k3 : (k : Int) + 1 ≤ (x : Int) := by omega
          have own0 : wr.ownsRow w5.heap.size 2 1 u11 (R.length + cntI l ((k : Int) + 1) 0) ((R ++ List.replicate (cntI l ((k : Int) + 1) 0) ((k : Int) + 1)).map (Value.int .i64)) := by simpa [cntI] using hown
          have HO0 := Lib.hid own0
          clear hRl hown own0
          go_wp2
          obtain ⟨w6, hw6⟩ : ∃ y, wr = y := ⟨_, rfl⟩
          rw [hw6] at HO0 hb6 ⊢
          clear hw6
          go_loopw [11, 13] (fun lv iv wi => ∃ i : Nat, i ≤ l.length ∧ iv = .int .i64 i ∧ wi.ownsRow w5.heap.size 2 1 lv (R.length + cntI l ((k : Int) + 1) i) ((R ++ List.replicate (cntI l ((k : Int) + 1) i) ((k : Int) + 1)).map (Value.int .i64)) ∧ Hid (Below w5.heap.size w5 wi)) (fun _ iv _ => l.length - (intOf iv).toNat)
          case atStart => exact ⟨0, Nat.zero_le _, rfl, HO0.out, hb6⟩
          case round =>
            obtain ⟨i, hi2, rfl, hown, hb7⟩ := hrel
            clear HO0 hb6
            have hz7 := hb7.out.size
            obtain ⟨w7, hw7⟩ : ∃ y, wr = y := ⟨_, rfl⟩
            rw [hw7] at hown hb7 hz7 ⊢
            clear hw7
            by_cases hlt3 : i < l.length
            · obtain ⟨y, hy⟩ : ∃ y, l[i]? = some y := ⟨l[i], List.getElem?_eq_getElem hlt3⟩
              obtain ⟨g, rfl, hcell, hgl⟩ := HRd.out i y hlt3 hy
              have hc7 : w7.cell? ⟨g, i, none⟩ = some (.int .i64 y) := (hb7.out.cell (p := ⟨g, i, none⟩) hgl).trans hcell
              have hsu := cntI_succ (s := (k : Int) + 1) hy
              have hcl := cntI_le l ((k : Int) + 1) i
              obtain ⟨m, hm⟩ : ∃ m, cntI l ((k : Int) + 1) i = m := ⟨_, rfl⟩
              rw [hm] at hsu hcl hown
              by_cases he : y = (k : Int) + 1
              · have e1 : (y == (k : Int) + 1) = true := by rw [beq_iff_eq]; exact he
                rw [if_pos e1] at hsu
                have HS := Lib.hid hsu
                clear hy hsu hm hcell he
                go_wp2_with (at_builtin; refine wpList_append_own _ rfl _ _ 22 rfl w5.heap.size 2 i0 (.int .i64 0) 1 8 Try.underlying22 hi hz0 hz1 hz2 rfl (by decide) _ _ _ rfl (hown.alloc _) ⟨w7.heap.size, 0, none⟩ 1 1 [.int .i64 ((k : Int) + 1)] rfl rfl (cell_one_new _ _ _) (by intro u hu; simp at hu; subst hu; rfl) (by unfold maxLen; omega) (by omega) (by simp; omega) ?_; intro v1 w1 hown1 hgrow _)
                have hb8 : Hid (Below w5.heap.size w5 w1) := (hb7.out.alloc hz7 _).grown hgrow (by simp; omega) (own_block hown)
                have HO1 : Hid (w1.ownsRow w5.heap.size 2 1 v1 (R.length + cntI l ((k : Int) + 1) (i + 1)) ((R ++ List.replicate (cntI l ((k : Int) + 1) (i + 1)) ((k : Int) + 1)).map (Value.int .i64))) := by
                  unfold Hid
                  rw [HS.out, List.replicate_succ', ← List.append_assoc, ← Nat.add_assoc]
                  simpa using hown1
                clear hown hown1 hgrow hb7 hc7
                go_wp2
                go_roundw
                case rel => exact ⟨i + 1, hlt3, by go_num, HO1.out, hb8⟩
                case measure => simp [intOf]; omega
              · have e1 : (y == (k : Int) + 1) = false := by rw [beq_eq_false_iff_ne]; exact he
                have hs2 : cntI l ((k : Int) + 1) (i + 1) = m := by rw [hsu, if_neg (by rw [e1]; simp)]; rfl
                rw [← hs2] at hown
                have HO1 := Lib.hid hown
                clear hy hsu hs2 hm hcell he hown hcl
                go_wp2
                go_roundw
                case rel => exact ⟨i + 1, hlt3, by go_num, HO1.out, hb7⟩
                case measure => simp [intOf]; omega
            · obtain rfl : i = l.length := by omega
              have HO1 : Hid (w7.ownsRow w5.heap.size 2 1 u11 (resL f x (k + 1)).length ((resL f x (k + 1)).map (Value.int .i64))) := by
                unfold Hid
                rw [HR.out]
                simpa using hown
              clear hown
              go_wp2
              go_roundw
              case rel => exact ⟨k + 1, by omega, by go_num, HO1.out, hb7⟩
              case measure => simp [intOf]; omega
        · obtain rfl : k = x := by omega
          have HO1 := Lib.hid (own_base hown HBW.out.size)
          have hbr : Hid (Below w.heap.size w wr) := HBW.out.trans (hb6.out.mono HBW.out.size)
          clear hown
          go_wp2
          go_ret2
          exact ⟨_, rfl, HO1.out, hbr.out⟩
end Go.Proofs.Ytapccbplmbbnnac
