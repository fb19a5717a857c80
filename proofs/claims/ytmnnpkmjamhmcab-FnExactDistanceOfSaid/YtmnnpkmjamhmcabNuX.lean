/- NuI, NuC, NuA, NuB, NuS, NuT in one text (tools/merge.py). -/
import Derived.Test.YtmnnpkmjamhmcabNu
import Derived.Test.YtmnnpkmjamhmcabWide
import Derived.Shelf.Spec.BitsCarry
import Derived.Test.YtmnnpkmjamhmcabDiv64
import Derived.Test.YtmnnpkmjamhmcabDL
namespace Go.Proofs.Ytmnnpkmjamhmcab
open Go.RowKit Go.PlainAid
set_option maxHeartbeats 800000

theorem word_any (a : Option Addr) (l c N i : Nat) (w : World) (h : Na .u64 18446744073709551616 w a l c N) :
    Calls Try.prog 193 #[.slice a l c, .int .i64 i] w fun e w' => e = .returned (.int .u64 (dig 18446744073709551616 N i)) ∧ w = w' := by
  by_cases hlt : i < l
  · obtain ⟨g, rfl, hg, hc⟩ := h.2.2 i hlt
    clear h
    go_enter Try.func193, Try.ntmps193
    go_wp2
    go_ret
    exact ⟨rfl, rfl⟩
  · have hz : dig 18446744073709551616 N i = 0 := dig_hi (by omega) h.2.1.1 (by omega)
    rw [hz]
    clear h hz
    go_enter Try.func193, Try.ntmps193
    go_wp2
    go_ret
    exact ⟨rfl, rfl⟩
theorem trimmed_any (g L c N : Nat) (w : World) (h : Nr .u64 18446744073709551616 w g L N) (hc : L ≤ c) (hl : L ≤ 2000002) :
    Calls Try.prog 194 #[.slice (some ⟨g, 0, none⟩) L c] w fun e w' => ∃ l, e = .returned (.slice (some ⟨g, 0, none⟩) l c) ∧ Na .u64 18446744073709551616 w' (some ⟨g, 0, none⟩) l c N ∧ w = w' := by
  have u0 : ∀ W, (underlying 123).run Try.prog W = .ok (.slice 151) W := run_underlying Try.underlying123
  have H := Lib.hid h
  clear h
  go_enter Try.func194, Try.ntmps194
  go_wp2
  go_loopw [0] (fun v wr => ∃ l : Nat, v = .slice (some ⟨g, 0, none⟩) l c ∧ l ≤ L ∧ Hid (Nr .u64 18446744073709551616 wr g l N) ∧ w = wr) (fun v _ => match v with | .slice _ l _ => l | _ => 0)
  case atStart => exact ⟨L, rfl, Nat.le_refl _, H, rfl⟩
  case round =>
    obtain ⟨l, rfl, hlL, HN, rfl⟩ := hrel
    clear H
    rcases l with _ | m
    · have HF := Lib.hid (HN.out.na (c := c) (Nat.zero_le _) (.inl rfl))
      clear HN
      go_wp2
      go_ret
      exact ⟨0, rfl, HF.out, rfl⟩
    · have hcell := HN.out.2 m (by omega)
      obtain ⟨d, hd⟩ : ∃ d, dig 18446744073709551616 N m = d := ⟨_, rfl⟩
      rw [hd] at hcell
      have hz : m + 1 ≤ c := by omega
      by_cases h0 : d = 0
      · subst h0
        have HN2 := Lib.hid (HN.out.less hd)
        have hs : ∀ W, (Instr.slice 123 (.slice (some ⟨g, 0, none⟩) (m + 1) c) none (some (.int .i64 (m : Int))) none).run Try.prog W = .ok (.slice (some ⟨g, 0, none⟩) m c) W := by
          intro W
          have k1 : (0 : Int) ≤ (m : Int) := by omega
          have k2 : m ≤ c := by omega
          simp [go_sem, Instr.slice, Instr.sliceBounds, Instr.sliceBound, u0, k1, k2, Addr.add]
        clear HN hd
        go_wp2
        go_roundw
        case rel => exact ⟨m, rfl, by omega, HN2, by first | rfl | trivial⟩
        case measure => simp
      · have HF := Lib.hid (HN.out.na (c := c) hz (.inr (by rw [Nat.add_sub_cancel, hd]; exact h0)))
        have h1 : ¬ (d : Int) = 0 := by omega
        clear HN hd
        go_wp2
        go_ret
        exact ⟨m + 1, rfl, HF.out, rfl⟩
theorem natOf_any (n : Nat) (w : World) (hn : n ≤ 9223372036854775807) :
    Calls Try.prog 142 #[.int .i64 n] w fun e w' => ∃ a l c, e = .returned (.slice a l c) ∧ Na .u64 18446744073709551616 w' a l c n ∧ Below w.heap.size w w' := by
  have hw : IntKind.u64.wrap (n : Int) = n := by rw [IntKind.wrap_u64]; omega
  have HT : Hid (∀ t, Calls Try.prog 194 #[.slice (some ⟨w.heap.size, 0, none⟩) 1 1] (w.alloc (.cells #[.int .u64 n] t)) fun e w' => ∃ l, e = .returned (.slice (some ⟨w.heap.size, 0, none⟩) l 1) ∧ Na .u64 18446744073709551616 w' (some ⟨w.heap.size, 0, none⟩) l 1 n ∧ w.alloc (.cells #[.int .u64 n] t) = w') := fun t => by
    refine trimmed_any w.heap.size 1 1 n _ ⟨by omega, fun j hj => ?_⟩ (by omega) (by omega)
    obtain rfl : j = 0 := by omega
    have : dig 18446744073709551616 n 0 = n := by unfold dig; rw [Nat.pow_zero, Nat.div_one, Nat.mod_eq_of_lt (by omega)]
    rw [this]
    simp [go_sem]
  go_enter Try.func142, Try.ntmps142
  go_wp2_with (go_at_call 194; with_reducible refine (HT.out _).mono ?_; rintro e w1 ⟨l, rfl, hN, rfl⟩)
  go_ret
  exact ⟨_, l, 1, rfl, hN, (Below.refl _ w).alloc (Nat.le_refl _) _⟩
end Go.Proofs.Ytmnnpkmjamhmcab

namespace Go.Proofs.Ytmnnpkmjamhmcab
open Go.RowKit Go.PlainAid
set_option maxHeartbeats 800000

/-- -1, 0 or 1 -/
def c3 (a b : Nat) : Int := if a < b then -1 else if b < a then 1 else 0
theorem c3_lt {a b : Nat} (h : a < b) : c3 a b = -1 := if_pos h
theorem c3_gt {a b : Nat} (h : b < a) : c3 a b = 1 := by unfold c3; rw [if_neg (by omega), if_pos h]
theorem c3_eq (a : Nat) : c3 a a = 0 := by unfold c3; rw [if_neg (by omega), if_neg (by omega)]
theorem cmpint_any (a b : Nat) (w : World) :
    Calls Try.prog 190 #[.int .i64 a, .int .i64 b] w fun e w' => e = .returned (.int .i64 (c3 a b)) ∧ w = w' := by
  have h1 : ((a : Int) != (a : Int)) = false := by simp
  have h2 : ((b : Int) != (b : Int)) = false := by simp
  have HN : Hid (∀ (x : Nat) (W : World), ((x : Int) != (x : Int)) = false → Calls Try.prog 222 #[.int .i64 x] W fun e w' => e = .returned (.bool false) ∧ W = w') := fun x W hx => by
    go_enter Try.func222, Try.ntmps222
    go_wp2
    go_ret
    exact ⟨rfl, rfl⟩
  rcases Nat.lt_trichotomy a b with h | h | h
  · rw [c3_lt h]
    go_enter Try.func190, Try.ntmps190
    go_wp2_with (go_at_call 222; (first | (with_reducible refine (HN.out _ _ h1).mono ?_) | (with_reducible refine (HN.out _ _ h2).mono ?_)); rintro e w1 ⟨rfl, rfl⟩)
    go_ret
    exact ⟨rfl, rfl⟩
  · subst h
    rw [c3_eq]
    go_enter Try.func190, Try.ntmps190
    go_wp2_with (go_at_call 222; with_reducible refine (HN.out _ _ h1).mono ?_; rintro e w1 ⟨rfl, rfl⟩)
    go_ret
    exact ⟨rfl, rfl⟩
  · rw [c3_gt h]
    have h3 : ¬ a < b := by omega
    go_enter Try.func190, Try.ntmps190
    go_wp2_with (go_at_call 222; (first | (with_reducible refine (HN.out _ _ h1).mono ?_) | (with_reducible refine (HN.out _ _ h2).mono ?_)); rintro e w1 ⟨rfl, rfl⟩)
    go_ret
    exact ⟨rfl, rfl⟩
theorem cmpuint64_any (a b : Nat) (w : World) :
    Calls Try.prog 191 #[.int .u64 a, .int .u64 b] w fun e w' => e = .returned (.int .i64 (c3 a b)) ∧ w = w' := by
  have h1 : ((a : Int) != (a : Int)) = false := by simp
  have h2 : ((b : Int) != (b : Int)) = false := by simp
  have HN : Hid (∀ (x : Nat) (W : World), ((x : Int) != (x : Int)) = false → Calls Try.prog 223 #[.int .u64 x] W fun e w' => e = .returned (.bool false) ∧ W = w') := fun x W hx => by
    go_enter Try.func223, Try.ntmps223
    go_wp2
    go_ret
    exact ⟨rfl, rfl⟩
  rcases Nat.lt_trichotomy a b with h | h | h
  · rw [c3_lt h]
    go_enter Try.func191, Try.ntmps191
    go_wp2_with (go_at_call 223; (first | (with_reducible refine (HN.out _ _ h1).mono ?_) | (with_reducible refine (HN.out _ _ h2).mono ?_)); rintro e w1 ⟨rfl, rfl⟩)
    go_ret
    exact ⟨rfl, rfl⟩
  · subst h
    rw [c3_eq]
    go_enter Try.func191, Try.ntmps191
    go_wp2_with (go_at_call 223; with_reducible refine (HN.out _ _ h1).mono ?_; rintro e w1 ⟨rfl, rfl⟩)
    go_ret
    exact ⟨rfl, rfl⟩
  · rw [c3_gt h]
    have h3 : ¬ a < b := by omega
    go_enter Try.func191, Try.ntmps191
    go_wp2_with (go_at_call 223; (first | (with_reducible refine (HN.out _ _ h1).mono ?_) | (with_reducible refine (HN.out _ _ h2).mono ?_)); rintro e w1 ⟨rfl, rfl⟩)
    go_ret
    exact ⟨rfl, rfl⟩
theorem compare_any (a b : Option Addr) (l c m d N M : Nat) (w : World) (h1 : Na .u64 18446744073709551616 w a l c N) (h2 : Na .u64 18446744073709551616 w b m d M) (hl : l ≤ 2000002) :
    Calls Try.prog 138 #[.slice a l c, .slice b m d] w fun e w' => e = .returned (.int .i64 (c3 N M)) ∧ Below w.heap.size w w' := by
  have HC : Hid (∀ W : World, Calls Try.prog 190 #[.int .i64 l, .int .i64 m] W fun e w' => e = .returned (.int .i64 (c3 l m)) ∧ W = w') := fun W => cmpint_any l m W
  have HD : Hid (∀ (x y : Nat) (W : World), Calls Try.prog 191 #[.int .u64 x, .int .u64 y] W fun e w' => e = .returned (.int .i64 (c3 x y)) ∧ W = w') := fun x y W => cmpuint64_any x y W
  by_cases hlm : l = m
  · subst hlm
    have H1 := Lib.hid h1
    have H2 := Lib.hid h2
    have hb : ((l : Int) != (l : Int)) = false := by simp
    clear h1 h2 HC
    go_enter Try.func138, Try.ntmps138
    go_wp2
    go_loopw [5] (fun iv wr => ∃ k q : Nat, k ≤ l ∧ iv = .int .i64 ((k : Int) - 1) ∧ Hid (N / 18446744073709551616 ^ k = M / 18446744073709551616 ^ k) ∧ wr = w.drewN q) (fun iv _ => (intOf iv + 1).toNat)
    case atStart => exact ⟨l, 0, Nat.le_refl _, rfl, by unfold Hid; rw [Nat.div_eq_of_lt H1.out.2.1.1, Nat.div_eq_of_lt H2.out.2.1.1], rfl⟩
    case round =>
      obtain ⟨k, q, hk, rfl, HE, rfl⟩ := hrel
      rcases k with _ | k
      · have e : N = M := by simpa using HE.out
        have HR : Hid (c3 N M = 0) := by unfold Hid; rw [e, c3_eq]
        clear HE e
        rw [show (((0 : Nat) : Int) - 1) = -1 from rfl]
        go_wp2
        go_ret
        exact ⟨by rw [HR.out]; rfl, below_drewN (Below.refl _ _) _⟩
      · obtain ⟨g1, rfl, hg1, c1⟩ := H1.out.2.2 k (by omega)
        obtain ⟨g2, rfl, hg2, c2⟩ := H2.out.2.2 k (by omega)
        obtain ⟨x, hx⟩ : ∃ x, dig 18446744073709551616 N k = x := ⟨_, rfl⟩
        obtain ⟨y, hy⟩ : ∃ y, dig 18446744073709551616 M k = y := ⟨_, rfl⟩
        rw [hx] at c1
        rw [hy] at c2
        have hi : ((k + 1 : Nat) : Int) - 1 = k := by omega
        rw [hi]
        have hk0 : (0 : Int) ≤ k := by omega
        have hk2 : k < l := by omega
        by_cases e : x = y
        · subst e
          have HE2 : Hid (N / 18446744073709551616 ^ k = M / 18446744073709551616 ^ k) := cmp_eq HE.out (by rw [hx, hy])
          have hb2 : ((x : Int) != (x : Int)) = false := by simp
          clear HE hx hy
          go_wp2
          go_quiet (fail)
          go_wp2
          go_roundw
          case rel => exact ⟨k, _, by omega, by go_num, HE2, by first | rfl | trivial⟩
          case measure => simp [intOf]
        · have hb2 : ((x : Int) != (y : Int)) = true := by simp; omega
          have HR : Hid (c3 x y = c3 N M) := by
            unfold Hid
            rcases Nat.lt_or_gt_of_ne e with h | h
            · rw [c3_lt h, c3_lt (cmp_lt HE.out (by rw [hx, hy]; exact h))]
            · rw [c3_gt h, c3_gt (cmp_lt HE.out.symm (by rw [hx, hy]; exact h))]
          clear HE hx hy
          go_wp2
          go_quiet (fail)
          have B2 : Below w.heap.size w ((w.drewN q).drewN nq) := below_drewN (below_drewN (Below.refl _ w) q) nq
          have c3 : ((w.drewN q).drewN nq).cell? ⟨g1, k, none⟩ = some (.int .u64 x) := c1
          have c4 : ((w.drewN q).drewN nq).cell? ⟨g2, k, none⟩ = some (.int .u64 y) := c2
          clear c1 c2
          generalize (w.drewN q).drewN nq = w2 at B2 c3 c4 ⊢
          go_wp2
          go_quiet ((go_at_call 191; with_reducible exact quietL (HD.out _ _ _)))
          go_wp2
          go_ret
          exact ⟨by rw [HR.out]; rfl, below_drewN B2 _⟩
  · have hb : ((l : Int) != (m : Int)) = true := by simp; omega
    have HR : Hid (c3 l m = c3 N M) := by
      unfold Hid
      rcases Nat.lt_or_gt_of_ne hlm with h | h
      · rw [c3_lt h, c3_lt (h1.2.1.lt (by omega) h2.2.1 h)]
      · rw [c3_gt h, c3_gt (h2.2.1.lt (by omega) h1.2.1 h)]
    clear h1 h2
    go_enter Try.func138, Try.ntmps138
    go_wp2_with (go_at_call 190; with_reducible refine (HC.out _).mono ?_; rintro e w1 ⟨rfl, rfl⟩)
    go_ret
    exact ⟨by rw [HR.out]; rfl, Below.refl _ _⟩
end Go.Proofs.Ytmnnpkmjamhmcab

namespace Go.Proofs.Ytmnnpkmjamhmcab
open Go.RowKit Go.PlainAid
set_option maxHeartbeats 800000
set_option maxRecDepth 20000

theorem Try.info151 : (Try.prog.info? 151).map (fun i => (i.zero, i.size, i.bytes)) = some (some (.int .u64 0), 1, 8) := by kernel_rfl
theorem add64N (x y c : Nat) (hc : c ≤ 1) (hx : x < 18446744073709551616) (hy : y < 18446744073709551616) : ∃ s k : Nat, (∀ w : World, (callFunc 192 #[.int .u64 x, .int .u64 y, .int .u64 c]).run Try.prog w = .ok (.value (.tuple #[.int .u64 s, .int .u64 k])) w) ∧ Hid (x + y + c = s + k * 18446744073709551616) ∧ s < 18446744073709551616 ∧ k ≤ 1 := by
  obtain ⟨s, k, h1, h2, h3⟩ := add64 x y c (by omega) (by omega) (by omega) (by omega)
  have e2 := h2.out
  have e3 := h3.out
  obtain ⟨s, rfl⟩ : ∃ n : Nat, s = n := ⟨s.toNat, by omega⟩
  obtain ⟨k, rfl⟩ : ∃ n : Nat, k = n := ⟨k.toNat, by omega⟩
  refine ⟨s, k, h1, ?_, by omega, by omega⟩
  unfold Hid
  omega
theorem nplus_any (a b : Option Addr) (l c m d N M : Nat) (w : World) (h1 : Na .u64 18446744073709551616 w a l c N) (h2 : Na .u64 18446744073709551616 w b m d M) (hl : l ≤ 1000000) (hm : m ≤ 1000000) :
    Calls Try.prog 139 #[.slice a l c, .slice b m d] w fun e w' => ∃ a' l' c', e = .returned (.slice a' l' c') ∧ Na .u64 18446744073709551616 w' a' l' c' (N + M) ∧ Below w.heap.size w w' := by
  obtain ⟨i0, hi, hz0, hz1, hz2⟩ := info_parts Try.info151
  obtain ⟨L, hL⟩ : ∃ L : Nat, max l m = L := ⟨_, rfl⟩
  have hLI : max (l : Int) m = L := by rw [← hL]; omega
  have hS : N + M < 18446744073709551616 ^ (L + 1) := by
    have e1 : N < 18446744073709551616 ^ L := Nat.lt_of_lt_of_le h1.2.1.1 (Nat.pow_le_pow_right (by omega) (by omega))
    have e2 : M < 18446744073709551616 ^ L := Nat.lt_of_lt_of_le h2.2.1.1 (Nat.pow_le_pow_right (by omega) (by omega))
    rw [Nat.pow_succ]
    omega
  have hN : N % 18446744073709551616 ^ (L + 1) = N := Nat.mod_eq_of_lt (by omega)
  have hM : M % 18446744073709551616 ^ (L + 1) = M := Nat.mod_eq_of_lt (by omega)
  have HS := Lib.hid hS
  have HN := Lib.hid hN
  have HM := Lib.hid hM
  have H1 := Lib.hid h1
  have H2 := Lib.hid h2
  have hLb : L ≤ 1000000 := by omega
  have B0 : Hid (Below w.heap.size w w) := Below.refl _ w
  clear hS hN hM h1 h2 hLI
  have hcase : (l < m ∧ L = m) ∨ (m ≤ l ∧ L = l) := by omega
  clear hL
  rcases hcase with ⟨hle, hLe⟩ | ⟨hle, hLe⟩
  all_goals
   have HLe := Lib.hid hLe
   clear hLe
   go_enter Try.func139, Try.ntmps139
   go_wp2_with (at_make; refine wpList_make_full _ rfl _ _ 123 rfl w.heap.size 151 i0 _ 1 Try.underlying123 hi hz0 hz1 _ _ _ _ (L + 1) rfl rfl (by have := HLe.out; omega) (by have := HLe.out; omega) (by rw [hz2]; omega) (by unfold maxLen; omega) (Nat.le_refl _) ?_; intro w3 hown hgrow)
   have HW3 := Lib.hid (WA.made hown)
   have B3 : Hid (Below w.heap.size w w3) := (Below.refl w.heap.size w).grown hgrow (Nat.le_refl _) (by simp)
   clear hown hgrow
   go_loopw [6, 17] (fun cv iv wr => ∃ (k cc : Nat) (f : Nat → Nat), k ≤ L + 1 ∧ iv = .int .i64 k ∧ cv = .int .u64 cc ∧ cc ≤ 1 ∧ Hid (WA .u64 wr w.heap.size (L + 1) f) ∧ Hid (∀ i, i < k → f i < 18446744073709551616) ∧ Hid (N % 18446744073709551616 ^ k + M % 18446744073709551616 ^ k = vf 18446744073709551616 f k + cc * 18446744073709551616 ^ k) ∧ Hid (Below w.heap.size w wr)) (fun _ iv _ => L + 1 - (intOf iv).toNat)
   case atStart => exact ⟨0, 0, _, by omega, rfl, rfl, by omega, HW3, fun i hi => absurd hi (by omega), by unfold Hid; simp [vf, Nat.mod_one], B3⟩
   case round =>
     obtain ⟨k, cc, f, hk, rfl, rfl, hcc, HW, HF, HE, HB⟩ := hrel
     clear HW3 B3
     by_cases hlt : k < L + 1
     · have X1 := word_any a l c N k wr (H1.out.far HB.out)
       have X2 := word_any b m d M k wr (H2.out.far HB.out)
       have d1 := dig_lt (B := 18446744073709551616) (by omega) N k
       have d2 := dig_lt (B := 18446744073709551616) (by omega) M k
       obtain ⟨x, hx⟩ : ∃ x, dig 18446744073709551616 N k = x := ⟨_, rfl⟩
       obtain ⟨y, hy⟩ : ∃ y, dig 18446744073709551616 M k = y := ⟨_, rfl⟩
       rw [hx] at X1 d1
       rw [hy] at X2 d2
       have HX1 := Lib.hid X1
       have HX2 := Lib.hid X2
       obtain ⟨s, q, hrun, hsq, hs, hq⟩ := add64N x y cc hcc d1 d2
       obtain ⟨cw, fw⟩ := HW.out k hlt
       have HW2 := Lib.hid (HW.out.set k s)
       have HF2 : Hid (∀ i, i < k + 1 → (if i = k then s else f i) < 18446744073709551616) := fun i hi => by
         split
         · exact hs
         · exact HF.out i (by omega)
       have HE2 : Hid (N % 18446744073709551616 ^ (k + 1) + M % 18446744073709551616 ^ (k + 1) = vf 18446744073709551616 (fun i => if i = k then s else f i) (k + 1) + q * 18446744073709551616 ^ (k + 1)) := by
         unfold Hid
         rw [sum_step HE.out (by rw [hx, hy]; exact hsq.out)]
         simp only [vf, if_true]
         rw [vf_congr (r := fun i => if i = k then s else f i) (s := f) fun i hi => if_neg (by omega)]
       have HB2 : Hid (Below w.heap.size w (wr.setCell ⟨w.heap.size, k, none⟩ (.int .u64 s))) := HB.out.setCell (p := ⟨w.heap.size, k, none⟩) (Nat.le_refl _) _
       clear X1 X2 HW HF HE HB hx hy hsq d1 d2
       go_wp2_with (go_at_call 193; (first | (with_reducible refine (HX1.out).mono ?_) | (with_reducible refine (HX2.out).mono ?_)); rintro e w2 ⟨rfl, rfl⟩)
       go_roundw
       case rel => exact ⟨k + 1, q, _, by omega, by go_num, rfl, hq, HW2, HF2, HE2, HB2⟩
       case measure => simp [intOf]; omega
     · obtain rfl : k = L + 1 := by omega
       have HT : Hid (Calls Try.prog 194 #[.slice (some ⟨w.heap.size, 0, none⟩) (L + 1) (L + 1)] wr fun e w' => ∃ l, e = .returned (.slice (some ⟨w.heap.size, 0, none⟩) l (L + 1)) ∧ Na .u64 18446744073709551616 w' (some ⟨w.heap.size, 0, none⟩) l (L + 1) (N + M) ∧ wr = w') := by
         have e := HE.out
         rw [HN.out, HM.out] at e
         have hp : 0 < 18446744073709551616 ^ (L + 1) := Nat.pow_pos (by omega)
         have hS := HS.out
         have hcz : cc = 0 := by
           rcases Nat.eq_zero_or_pos cc with h | h
           · exact h
           · have : 18446744073709551616 ^ (L + 1) ≤ cc * 18446744073709551616 ^ (L + 1) := Nat.le_mul_of_pos_left _ h
             omega
         subst hcz
         rw [Nat.zero_mul, Nat.add_zero] at e
         have hr := Nr.of_wa HW.out HF.out
         rw [← e] at hr
         exact trimmed_any w.heap.size (L + 1) (L + 1) (N + M) wr hr (Nat.le_refl _) (by omega)
       clear HW HF HE HS HN HM
       go_wp2_with (go_at_call 194; with_reducible refine (HT.out).mono ?_; rintro e w2 ⟨l2, rfl, hN2, rfl⟩)
       go_ret
       exact ⟨_, l2, L + 1, rfl, hN2, HB.out⟩
end Go.Proofs.Ytmnnpkmjamhmcab

namespace Go.Proofs.Ytmnnpkmjamhmcab
open Go.RowKit Go.PlainAid
set_option maxHeartbeats 800000
set_option maxRecDepth 20000

theorem sub64N (x y c : Nat) (hc : c ≤ 1) (hx : x < 18446744073709551616) (hy : y < 18446744073709551616) : ∃ s k : Nat, (∀ w : World, (callFunc 224 #[.int .u64 x, .int .u64 y, .int .u64 c]).run Try.prog w = .ok (.value (.tuple #[.int .u64 s, .int .u64 k])) w) ∧ Hid (x + k * 18446744073709551616 = s + y + c) ∧ s < 18446744073709551616 ∧ k ≤ 1 := by
  refine ⟨(x + 18446744073709551616 - y - c) % 18446744073709551616, if x < y + c then 1 else 0, fun w => ?_, ?_, Nat.mod_lt _ (by omega), by split <;> omega⟩
  · rw [run_callFunc_extern Try.func224 (by kernel_rfl) (by kernel_rfl) (by kernel_rfl) (e := sub64Entry) (by kernel_rfl), run_sub64 x y c hc]
    rfl
  · unfold Hid
    split <;> omega
theorem nminus_any (a b : Option Addr) (l c m d N M : Nat) (w : World) (h1 : Na .u64 18446744073709551616 w a l c N) (h2 : Na .u64 18446744073709551616 w b m d M) (hl : l ≤ 1000000) (hNM : M ≤ N) :
    Calls Try.prog 195 #[.slice a l c, .slice b m d] w fun e w' => ∃ a' l' c', e = .returned (.slice a' l' c') ∧ Na .u64 18446744073709551616 w' a' l' c' (N - M) ∧ Below w.heap.size w w' := by
  obtain ⟨i0, hi, hz0, hz1, hz2⟩ := info_parts Try.info151
  have HS : Hid (N < 18446744073709551616 ^ l) := h1.2.1.1
  have HN : Hid (N % 18446744073709551616 ^ l = N) := Nat.mod_eq_of_lt HS.out
  have HM : Hid (M % 18446744073709551616 ^ l = M) := Nat.mod_eq_of_lt (Nat.lt_of_le_of_lt hNM HS.out)
  have H1 := Lib.hid h1
  have H2 := Lib.hid h2
  clear h1 h2
  go_enter Try.func195, Try.ntmps195
  go_wp2_with (at_make; refine wpList_make_full _ rfl _ _ 123 rfl w.heap.size 151 i0 _ 1 Try.underlying123 hi hz0 hz1 _ _ _ _ l rfl rfl rfl rfl (by rw [hz2]; omega) (by unfold maxLen; omega) (Nat.le_refl _) ?_; intro w3 hown hgrow)
  have HW3 := Lib.hid (WA.made hown)
  have B3 : Hid (Below w.heap.size w w3) := (Below.refl w.heap.size w).grown hgrow (Nat.le_refl _) (by simp)
  clear hown hgrow
  go_loopw [6, 13] (fun cv iv wr => ∃ (k cc : Nat) (f : Nat → Nat), k ≤ l ∧ iv = .int .i64 k ∧ cv = .int .u64 cc ∧ cc ≤ 1 ∧ Hid (WA .u64 wr w.heap.size l f) ∧ Hid (∀ i, i < k → f i < 18446744073709551616) ∧ Hid (N % 18446744073709551616 ^ k + cc * 18446744073709551616 ^ k = vf 18446744073709551616 f k + M % 18446744073709551616 ^ k) ∧ Hid (Below w.heap.size w wr)) (fun _ iv _ => l - (intOf iv).toNat)
  case atStart => exact ⟨0, 0, _, by omega, rfl, rfl, by omega, HW3, fun i hi => absurd hi (by omega), by unfold Hid; simp [vf, Nat.mod_one], B3⟩
  case round =>
    obtain ⟨k, cc, f, hk, rfl, rfl, hcc, HW, HF, HE, HB⟩ := hrel
    clear HW3 B3
    by_cases hlt : k < l
    · have d1 := dig_lt (B := 18446744073709551616) (by omega) N k
      have d2 := dig_lt (B := 18446744073709551616) (by omega) M k
      obtain ⟨g1, rfl, hg1, c1⟩ := H1.out.2.2 k hlt
      obtain ⟨x, hx⟩ : ∃ x, dig 18446744073709551616 N k = x := ⟨_, rfl⟩
      obtain ⟨y, hy⟩ : ∃ y, dig 18446744073709551616 M k = y := ⟨_, rfl⟩
      rw [hx] at c1 d1
      have HBG : Hid (∀ q : GR wr.drew (some w.heap.size), Below w.heap.size w q.w) := fun q => HB.out.grown (gr_undrew q.h) HB.out.size (fun r e => by cases e; exact Nat.le_refl _)
      have HQ : Hid (∀ q : GR wr.drew (some w.heap.size), Calls Try.prog 193 #[.slice b m d, .int .i64 k] q.w fun e w' => e = .returned (.int .u64 y) ∧ Below q.w.heap.size q.w w') := fun q => by
        have X := word_any b m d M k q.w (H2.out.far (HBG.out q))
        rw [hy] at X
        exact X.mono fun e w' ⟨h1, h2⟩ => ⟨h1, by rw [← h2]; exact Below.refl _ _⟩
      have q0 : ∀ q : GR wr.drew (some w.heap.size), q.w.cell? ⟨g1, k, none⟩ = some (.int .u64 x) := fun q => ((HBG.out q).cell (p := ⟨g1, k, none⟩) hg1).trans c1
      rw [hy] at d2
      obtain ⟨s, q, hrun, hsq, hs, hq⟩ := sub64N x y cc hcc d1 d2
      have HF2 : Hid (∀ i, i < k + 1 → (if i = k then s else f i) < 18446744073709551616) := fun i hi => by
        split
        · exact hs
        · exact HF.out i (by omega)
      have HE2 : Hid (N % 18446744073709551616 ^ (k + 1) + q * 18446744073709551616 ^ (k + 1) = vf 18446744073709551616 (fun i => if i = k then s else f i) (k + 1) + M % 18446744073709551616 ^ (k + 1)) := by
        unfold Hid
        rw [diff_step HE.out (by rw [hx, hy]; exact hsq.out)]
        simp only [vf, if_true]
        rw [vf_congr (r := fun i => if i = k then s else f i) (s := f) fun i hi => if_neg (by omega)]
      clear HF HE hx hy hsq d1 d2 c1
      go_wp2
      refine wp_region_mix (some w.heap.size) [0, 1, 2, 3, 4, 5, 6, 7, 8, 9, 10, 11, 12, 13, 14] [15, 16] (by kernel_rfl) (by kernel_rfl) ?_
      simp only [pickOps, List.filterMap_cons, List.filterMap_nil, List.getElem?_toArray, List.getElem?_cons_succ, List.getElem?_cons_zero]
      repeat (refine wpQuietG_step (fun K hK => ?_); go_simp; first | (refine hK _ ?_; clear hK K) | (apply Exists.intro; refine ⟨fun _ => ?_, hK _ ?_⟩; (first | (with_reducible exact HQ.out _)); clear hK K))
      refine wpQuietG_nil ?_
      clear q0 HQ HBG
      intro V hV1 hV2
      have HWv := HW.out.far (of_drew hV2)
      have HBv := HB.out.trans ((of_drew hV2).mono HB.out.size)
      obtain ⟨cw, fw⟩ := HWv k hlt
      have HW2 := Lib.hid (HWv.set k s)
      have HB2 : Hid (Below w.heap.size w (V.setCell ⟨w.heap.size, k, none⟩ (.int .u64 s))) := HBv.setCell (p := ⟨w.heap.size, k, none⟩) (Nat.le_refl _) _
      clear HWv HBv HW HB hV2
      go_wp2
      refine ⟨gr_set hV1 (.inl rfl) _, ?_⟩
      clear cw fw hV1
      generalize V.setCell ⟨w.heap.size, k, none⟩ (.int .u64 s) = V2 at HW2 HB2 ⊢
      intro V3 hV3 hV4
      replace HW2 := Lib.hid (HW2.out.far hV4)
      replace HB2 := Lib.hid (HB2.out.trans (hV4.mono HB2.out.size))
      clear hV4
      go_wp2
      try refine ⟨hV3, ?_⟩
      clear hV3
      intro V4 hV5 hV6
      replace HW2 := Lib.hid (HW2.out.far hV6)
      replace HB2 := Lib.hid (HB2.out.trans (hV6.mono HB2.out.size))
      clear hV5 hV6
      go_wp2
      go_roundw
      case rel => exact ⟨k + 1, q, _, by omega, by go_num, rfl, hq, HW2, HF2, HE2, HB2⟩
      case measure => simp [intOf]; omega
    · obtain rfl : k = l := by omega
      have HT : Hid (Calls Try.prog 194 #[.slice (some ⟨w.heap.size, 0, none⟩) k k] wr fun e w' => ∃ l, e = .returned (.slice (some ⟨w.heap.size, 0, none⟩) l k) ∧ Na .u64 18446744073709551616 w' (some ⟨w.heap.size, 0, none⟩) l k (N - M) ∧ wr = w') := by
        have e := HE.out
        rw [HN.out, HM.out] at e
        have hv := vf_lt HF.out
        have hcz : cc = 0 := by
          rcases Nat.eq_zero_or_pos cc with h | h
          · exact h
          · have : 18446744073709551616 ^ k ≤ cc * 18446744073709551616 ^ k := Nat.le_mul_of_pos_left _ h
            omega
        subst hcz
        rw [Nat.zero_mul, Nat.add_zero] at e
        have hr := Nr.of_wa HW.out HF.out
        rw [show vf 18446744073709551616 f k = N - M by omega] at hr
        exact trimmed_any w.heap.size k k (N - M) wr hr (Nat.le_refl _) (by omega)
      clear HW HF HE HS HN HM
      go_wp2_with (go_at_call 194; with_reducible refine (HT.out).mono ?_; rintro e w2 ⟨l2, rfl, hN2, rfl⟩)
      go_ret
      exact ⟨_, l2, k, rfl, hN2, HB.out⟩
end Go.Proofs.Ytmnnpkmjamhmcab

namespace Go.Proofs.Ytmnnpkmjamhmcab
open Go.RowKit Go.PlainAid
set_option maxHeartbeats 800000
set_option maxRecDepth 20000

theorem ds_step {B N d k : Nat} (hB0 : 0 < B) (hd : 0 < d) : (N / B ^ (k + 1) % d * B + dig B N k) / d = dig B (N / d) k ∧ (N / B ^ (k + 1) % d * B + dig B N k) % d = N / B ^ k % d := by
  have e1 : B * (N / B ^ (k + 1)) + N / B ^ k % B = N / B ^ k := by
    have := Nat.div_add_mod (N / B ^ k) B
    rw [Nat.div_div_eq_div_mul, ← Nat.pow_succ] at this
    exact this
  have e3 : N / d / B ^ k = N / B ^ k / d := by rw [Nat.div_div_eq_div_mul, Nat.div_div_eq_div_mul, Nat.mul_comm]
  unfold dig
  rw [e3]
  have e2 := Nat.div_add_mod (N / B ^ (k + 1)) d
  have hr := Nat.mod_lt (N / B ^ (k + 1)) hd
  rcases Nat.eq_zero_or_pos B with hB | hB
  · omega
  have hn := Nat.mod_lt (N / B ^ k) hB
  obtain ⟨n, hnn⟩ : ∃ n, N / B ^ k % B = n := ⟨_, rfl⟩
  rw [hnn] at e1 hn ⊢
  rw [← e1]
  clear e1 e3 hnn
  generalize N / B ^ (k + 1) % d = r at *
  generalize N / B ^ (k + 1) / d = t at *
  rw [← e2]
  have e4 : B * (d * t + r) + n = r * B + n + d * (t * B) := by grind
  rw [e4, Nat.add_mul_div_left _ _ hd, Nat.add_mul_mod_self_left, Nat.add_mul_mod_self_right]
  refine ⟨(Nat.mod_eq_of_lt ?_).symm, rfl⟩
  rw [Nat.div_lt_iff_lt_mul hd]
  have : (r + 1) * B ≤ d * B := Nat.mul_le_mul_right _ hr
  rw [Nat.add_mul] at this
  rw [Nat.mul_comm B d]
  omega
theorem nshort_any (a : Option Addr) (l c N D : Nat) (w : World) (h1 : Na .u64 18446744073709551616 w a l c N) (hl : l ≤ 1000000) (hD : 1 ≤ D) (hD2 : D ≤ 9223372036854775807) :
    Calls Try.prog 189 #[.slice a l c, .int .i64 D] w fun e w' => ∃ a' l' c', e = .returned (.tuple #[.slice a' l' c', .int .i64 (N % D : Nat)]) ∧ Na .u64 18446744073709551616 w' a' l' c' (N / D) ∧ Below w.heap.size w w' := by
  obtain ⟨i0, hi, hz0, hz1, hz2⟩ := info_parts Try.info151
  have HS : Hid (N / D < 18446744073709551616 ^ l) := Nat.lt_of_le_of_lt (Nat.div_le_self _ _) h1.2.1.1
  have H1 := Lib.hid h1
  have hw : IntKind.u64.wrap (D : Int) = D := by rw [IntKind.wrap_u64]; omega
  have HV : Hid (∀ (h x : Nat) (W : World), h < D → x < 18446744073709551616 → Calls Try.prog 221 #[.int .u64 h, .int .u64 x, .int .u64 D] W fun e w' => e = .returned (.tuple #[.int .u64 ((h * 18446744073709551616 + x) / D : Nat), .int .u64 ((h * 18446744073709551616 + x) % D : Nat)]) ∧ ∃ m, w' = W.drewN m) := fun h x W hh hx => div64_any h x D W hh (by omega) (by omega)
  clear h1
  go_enter Try.func189, Try.ntmps189
  go_wp2_with (at_make; refine wpList_make_full _ rfl _ _ 123 rfl w.heap.size 151 i0 _ 1 Try.underlying123 hi hz0 hz1 _ _ _ _ l rfl rfl rfl rfl (by rw [hz2]; omega) (by unfold maxLen; omega) (Nat.le_refl _) ?_; intro w3 hown hgrow)
  have HW3 := Lib.hid (WA.made hown)
  have B3 : Hid (Below w.heap.size w w3) := (Below.refl w.heap.size w).grown hgrow (Nat.le_refl _) (by simp)
  clear hown hgrow
  go_loopw [7, 8] (fun rv iv wr => ∃ (k r : Nat) (f : Nat → Nat), k ≤ l ∧ iv = .int .i64 ((k : Int) - 1) ∧ rv = .int .u64 r ∧ r < D ∧ Hid (r = N / 18446744073709551616 ^ k % D) ∧ Hid (WA .u64 wr w.heap.size l f) ∧ Hid (∀ i, k ≤ i → i < l → f i = dig 18446744073709551616 (N / D) i) ∧ Hid (Below w.heap.size w wr)) (fun _ iv _ => (intOf iv + 1).toNat)
  case atStart => exact ⟨l, 0, _, by omega, rfl, rfl, by omega, by unfold Hid; rw [Nat.div_eq_of_lt H1.out.2.1.1, Nat.zero_mod], HW3, fun i hi hi2 => absurd hi2 (by omega), B3⟩
  case round =>
    obtain ⟨k, r, f, hk, rfl, rfl, hrD, HR, HW, HF, HB⟩ := hrel
    clear HW3 B3
    rcases k with _ | k
    · have HT : Hid (Calls Try.prog 194 #[.slice (some ⟨w.heap.size, 0, none⟩) l l] wr fun e w' => ∃ l2, e = .returned (.slice (some ⟨w.heap.size, 0, none⟩) l2 l) ∧ Na .u64 18446744073709551616 w' (some ⟨w.heap.size, 0, none⟩) l2 l (N / D) ∧ wr = w') := by
        refine trimmed_any w.heap.size l l (N / D) wr ⟨HS.out, fun j hj => ?_⟩ (Nat.le_refl _) (by omega)
        rw [← HF.out j (Nat.zero_le _) hj]
        exact (HW.out j hj).1
      have HR0 : Hid (r = N % D) := by
        have := HR.out
        rwa [Nat.pow_zero, Nat.div_one] at this
      have hw2 : IntKind.i64.wrap (r : Int) = r := by rw [IntKind.wrap_i64]; omega
      clear HW HF HS HR
      rw [show (((0 : Nat) : Int) - 1) = -1 from rfl]
      go_wp2_with (go_at_call 194; with_reducible refine (HT.out).mono ?_; rintro e w2 ⟨l2, rfl, hN2, rfl⟩)
      go_ret2
      exact ⟨_, l2, l, by rw [← HR0.out]; rfl, hN2, HB.out⟩
    · obtain ⟨g1, rfl, hg1, c1⟩ := H1.out.2.2 k (by omega)
      have d1 := dig_lt (B := 18446744073709551616) (by omega) N k
      obtain ⟨e1, e2⟩ := ds_step (B := 18446744073709551616) (N := N) (k := k) (by omega) (show 0 < D by omega)
      rw [← HR.out] at e1 e2
      obtain ⟨x, hx⟩ : ∃ x, dig 18446744073709551616 N k = x := ⟨_, rfl⟩
      rw [hx] at c1 d1 e1 e2
      have HX := Lib.hid (HV.out r x wr hrD d1)
      obtain ⟨s, hs⟩ : ∃ s, (r * 18446744073709551616 + x) / D = s := ⟨_, rfl⟩
      obtain ⟨t, ht⟩ : ∃ t, (r * 18446744073709551616 + x) % D = t := ⟨_, rfl⟩
      have htD : t < D := by rw [← ht]; exact Nat.mod_lt _ (by omega)
      rw [hs] at HX e1
      rw [ht] at HX e2
      have c2 : wr.cell? ⟨g1, k, none⟩ = some (.int .u64 x) := (HB.out.cell (p := ⟨g1, k, none⟩) hg1).trans c1
      have hkl : k < l := by omega
      have hi1 : ((k + 1 : Nat) : Int) - 1 = k := by omega
      rw [hi1]
      have hk0 : (0 : Int) ≤ k := by omega
      have HR2 := Lib.hid e2
      have HF2 : Hid (∀ i, k ≤ i → i < l → (if i = k then s else f i) = dig 18446744073709551616 (N / D) i) := fun i hi hi2 => by
        by_cases e : i = k
        · subst e
          rw [if_pos rfl, e1]
        · rw [if_neg e]
          exact HF.out i (by omega) hi2
      have HK : Hid (∀ m, (wr.drewN m).cell? ⟨w.heap.size, k, none⟩ = some (.int .u64 (f k)) ∧ (wr.drewN m).frozen? ⟨w.heap.size, k, none⟩ = false ∧ WA .u64 ((wr.drewN m).setCell ⟨w.heap.size, k, none⟩ (.int .u64 s)) w.heap.size l (fun i => if i = k then s else f i) ∧ Below w.heap.size w ((wr.drewN m).setCell ⟨w.heap.size, k, none⟩ (.int .u64 s))) := fun m => ⟨(HW.out k hkl).1, (HW.out k hkl).2, (HW.out.drewN m).set k s, (below_drewN HB.out m).setCell (p := ⟨w.heap.size, k, none⟩) (Nat.le_refl _) _⟩
      clear HW HF HB HR hx e1 e2 hs ht c1 d1
      go_wp2_with (go_at_call 221; with_reducible refine (HX.out).mono ?_; rintro e w2 ⟨rfl, m, rfl⟩; obtain ⟨k1, k2, k3, k4⟩ := HK.out m; replace k3 := Lib.hid k3; replace k4 := Lib.hid k4)
      go_roundw
      case rel => exact ⟨k, t, _, by omega, by go_num, rfl, htD, HR2, k3, HF2, k4⟩
      case measure => simp [intOf]
end Go.Proofs.Ytmnnpkmjamhmcab

namespace Go.Proofs.Ytmnnpkmjamhmcab
open Go.RowKit Go.PlainAid
set_option maxHeartbeats 800000
set_option maxRecDepth 20000

theorem vf_zero (B : Nat) : ∀ n, vf B (fun _ => 0) n = 0
  | 0 => rfl
  | n + 1 => by simp only [vf]; rw [vf_zero B n]; simp
theorem word_prod {n y r c : Nat} (hn : n < 18446744073709551616) (hy : y < 18446744073709551616) (hr : r < 18446744073709551616) (hc : c < 18446744073709551616) :
    ∃ s q : Nat, s < 18446744073709551616 ∧ q < 18446744073709551616 ∧ r + n * y + c = s + q * 18446744073709551616 ∧ hiU ((n : Int) * y + r + c) = q ∧ loU ((n : Int) * y + r + c) = s := by
  have h1 : n * y ≤ 18446744073709551615 * 18446744073709551615 := Nat.mul_le_mul (by omega) (by omega)
  have h2 : ((n * y : Nat) : Int) = (n : Int) * y := by push_cast; rfl
  rw [← h2]
  generalize n * y = p at *
  refine ⟨(r + p + c) % 18446744073709551616, (r + p + c) / 18446744073709551616, by omega, by omega, by omega, ?_, ?_⟩
  · unfold hiU; omega
  · unfold loU; omega
theorem ntimes_any (a b : Option Addr) (l c m d N M : Nat) (w : World) (h1 : Na .u64 18446744073709551616 w a l c N) (h2 : Na .u64 18446744073709551616 w b m d M) (hl : l ≤ 1000000) (hm : m ≤ 1000000) :
    Calls Try.prog 141 #[.slice a l c, .slice b m d] w fun e w' => ∃ a' l' c', e = .returned (.slice a' l' c') ∧ Na .u64 18446744073709551616 w' a' l' c' (N * M) ∧ Below w.heap.size w w' := by
  obtain ⟨i0, hi, hz0, hz1, hz2⟩ := info_parts Try.info151
  have HN : Hid (N % 18446744073709551616 ^ l = N) := Nat.mod_eq_of_lt h1.2.1.1
  have HM : Hid (M % 18446744073709551616 ^ m = M) := Nat.mod_eq_of_lt h2.2.1.1
  have H1 := Lib.hid h1
  have H2 := Lib.hid h2
  clear h1 h2
  obtain ⟨L, hL⟩ : ∃ L, l + m = L := ⟨_, rfl⟩
  have hLI : (l : Int) + m = L := by omega
  go_enter Try.func141, Try.ntmps141
  go_wp2_with (at_make; refine wpList_make_full _ rfl _ _ 123 rfl w.heap.size 151 i0 _ 1 Try.underlying123 hi hz0 hz1 _ _ _ _ L rfl rfl (by first | rfl | omega) (by first | rfl | omega) (by rw [hz2]; omega) (by unfold maxLen; omega) (Nat.le_refl _) ?_; intro w3 hown hgrow)
  have HW3 := Lib.hid (WA.made hown)
  have B3 : Hid (Below w.heap.size w w3) := (Below.refl w.heap.size w).grown hgrow (Nat.le_refl _) (by simp)
  clear hown hgrow
  go_loopw [22] (fun iv wr => ∃ (i : Nat) (f : Nat → Nat), i ≤ l ∧ iv = .int .i64 i ∧ Hid (WA .u64 wr w.heap.size L f) ∧ Hid (∀ t, t < L → f t < 18446744073709551616) ∧ Hid (∀ t, i + m ≤ t → f t = 0) ∧ Hid (vf 18446744073709551616 f L = N % 18446744073709551616 ^ i * M) ∧ Hid (Below w.heap.size w wr)) (fun iv _ => l - (intOf iv).toNat)
  case atStart => exact ⟨0, _, by omega, rfl, HW3, fun t _ => by omega, fun t _ => rfl, by
    unfold Hid
    rw [Nat.pow_zero, Nat.mod_one, Nat.zero_mul]
    exact vf_zero _ _, B3⟩
  case round =>
    obtain ⟨i, f, hi', rfl, HW, HF, HZ, HE, HB⟩ := hrel
    clear HW3 B3
    by_cases hlt : i < l
    · obtain ⟨g1, rfl, hg1, c1⟩ := H1.out.2.2 i hlt
      have d1 := dig_lt (B := 18446744073709551616) (by omega) N i
      have HNs : Hid (N % 18446744073709551616 ^ (i + 1) = N % 18446744073709551616 ^ i + dig 18446744073709551616 N i * 18446744073709551616 ^ i) := mod_step _ _ _
      obtain ⟨n, hn⟩ : ∃ n, dig 18446744073709551616 N i = n := ⟨_, rfl⟩
      rw [hn] at c1 d1 HNs
      have c2 : wr.cell? ⟨g1, i, none⟩ = some (.int .u64 n) := (HB.out.cell (p := ⟨g1, i, none⟩) hg1).trans c1
      clear hn c1
      go_wp2
      go_loopw [8, 29] (fun cv jv ws => ∃ (j cc : Nat) (g : Nat → Nat), j ≤ m ∧ jv = .int .i64 j ∧ cv = .int .u64 cc ∧ cc < 18446744073709551616 ∧ Hid (WA .u64 ws w.heap.size L g) ∧ Hid (∀ t, t < L → g t < 18446744073709551616) ∧ Hid (∀ t, i + m ≤ t → g t = 0) ∧ Hid (vf 18446744073709551616 g L + cc * 18446744073709551616 ^ (i + j) = vf 18446744073709551616 f L + n * (M % 18446744073709551616 ^ j) * 18446744073709551616 ^ i) ∧ Hid (Below w.heap.size w ws)) (fun _ jv _ => m - (intOf jv).toNat)
      case atStart => exact ⟨0, 0, f, by omega, rfl, rfl, by omega, HW, HF, HZ, by unfold Hid; simp [Nat.mod_one], HB⟩
      case round =>
        obtain ⟨j, cc, g, hj, rfl, rfl, hcc, HWg, HFg, HZg, HEg, HBg⟩ := hrel
        clear HW HF HZ HB c2
        by_cases hlt2 : j < m
        · obtain ⟨g2, rfl, hg2, c3⟩ := H2.out.2.2 j hlt2
          have d2 := dig_lt (B := 18446744073709551616) (by omega) M j
          obtain ⟨y, hy⟩ : ∃ y, dig 18446744073709551616 M j = y := ⟨_, rfl⟩
          rw [hy] at c3 d2
          have hij : i + j < L := by omega
          obtain ⟨r, hr⟩ : ∃ r, g (i + j) = r := ⟨_, rfl⟩
          have hr1 := HFg.out (i + j) hij
          obtain ⟨cr, _⟩ := HWg.out (i + j) hij
          rw [hr] at hr1 cr
          obtain ⟨s, q, hs, hq, hsq, hh, hlo⟩ := word_prod d1 d2 hr1 hcc
          have HE2 : Hid (vf 18446744073709551616 (fun t => if t = i + j then s else g t) L + q * 18446744073709551616 ^ (i + (j + 1)) = vf 18446744073709551616 f L + n * (M % 18446744073709551616 ^ (j + 1)) * 18446744073709551616 ^ i) := by
            refine mul_step (y := r) (x := s) HEg.out (by rw [hy]; exact hsq) ?_
            have := vf_set (B := 18446744073709551616) (r := g) (s := fun t => if t = i + j then s else g t) (j := i + j) (fun t ht => if_neg ht) hij
            simp only [if_true] at this
            rw [hr] at this
            exact this
          have HF2 : Hid (∀ t, t < L → (if t = i + j then s else g t) < 18446744073709551616) := fun t ht => by
            split
            · exact hs
            · exact HFg.out t ht
          have HZ2 : Hid (∀ t, i + m ≤ t → (if t = i + j then s else g t) = 0) := fun t ht => by
            rw [if_neg (by omega)]
            exact HZg.out t ht
          have c4 : wr.cell? ⟨g2, j, none⟩ = some (.int .u64 y) := (HBg.out.cell (p := ⟨g2, j, none⟩) hg2).trans c3
          have HM1 : Hid (∀ W : World, Calls Try.prog 196 #[.int .u64 n, .int .u64 y] W fun e w' => e = .returned (.tuple #[.int .u64 (hiU ((n : Int) * y)), .int .u64 (loU ((n : Int) * y))]) ∧ W = w') := fun W => mul64_any n y W (by omega) (by omega) (by omega) (by omega)
          have e0 : Hid ((0 : Int) = hiU (r : Int)) := by unfold Hid hiU; omega
          have e1 : Hid ((r : Int) = loU (r : Int)) := by unfold Hid loU; omega
          have e2 : Hid ((0 : Int) = hiU (cc : Int)) := by unfold Hid hiU; omega
          have e3 : Hid ((cc : Int) = loU (cc : Int)) := by unfold Hid loU; omega
          have HP1 : Hid (∀ W : World, Calls Try.prog 148 #[.agg #[.int .u64 (hiU ((n : Int) * y)), .int .u64 (loU ((n : Int) * y))], .agg #[.int .u64 0, .int .u64 r]] W fun e w' => e = .returned (.agg #[.int .u64 (hiU ((n : Int) * y + r)), .int .u64 (loU ((n : Int) * y + r))]) ∧ Below W.heap.size W w') := fun W => plus_any ((n : Int) * y) r _ _ 0 r W rfl rfl e0 e1
          have HP2 : Hid (∀ W : World, Calls Try.prog 148 #[.agg #[.int .u64 (hiU ((n : Int) * y + r)), .int .u64 (loU ((n : Int) * y + r))], .agg #[.int .u64 0, .int .u64 cc]] W fun e w' => e = .returned (.agg #[.int .u64 q, .int .u64 s]) ∧ Below W.heap.size W w') := fun W => by
            have := plus_any ((n : Int) * y + r) cc _ _ 0 cc W rfl rfl e2 e3
            rwa [hh, hlo] at this
          clear hsq hh hlo e0 e1 e2 e3 HEg HFg HZg hy hr c3
          generalize hiU ((n : Int) * y + r) = u1 at HP1 HP2
          generalize loU ((n : Int) * y + r) = u2 at HP1 HP2
          generalize hiU ((n : Int) * y) = u3 at HP1 HM1
          generalize loU ((n : Int) * y) = u4 at HP1 HM1
          go_wp2_with (first | (go_at_call 196; with_reducible refine (HM1.out _).mono ?_; rintro e w5 ⟨rfl, rfl⟩) | (go_at_call 148; with_reducible refine (HP1.out _).mono ?_; rintro e w5 ⟨rfl, hb1⟩) | (go_at_call 148; with_reducible refine (HP2.out _).mono ?_; rintro e w6 ⟨rfl, hb2⟩))
          have HB6 := HBg.out.trans ((hb1.trans (hb2.mono hb1.size)).mono HBg.out.size)
          have HW6 := (HWg.out.far hb1).far hb2
          have A1 := D2.new w6 (.int .u64 q) (.int .u64 s) 197
          have HB7 := HB6.alloc HB6.size (.cells #[.int .u64 q, .int .u64 s] 197)
          have HW7 := HW6.far ((Below.refl _ w6).alloc (Nat.le_refl _) (.cells #[.int .u64 q, .int .u64 s] 197))
          have hne : w.heap.size ≠ w6.heap.size := by
            have := World.block_lt_of_cell? w6 _ (HW6 (i + j) hij).1
            simp at this
            omega
          clear HB6 HW6 hb1 hb2 HBg HWg cr c4
          generalize w6.alloc (.cells #[.int .u64 q, .int .u64 s] 197) = w7 at A1 HB7 HW7 ⊢
          generalize w6.heap.size = b6 at A1 hne ⊢
          have HW8 := Lib.hid HW7
          have HB8 := Lib.hid HB7
          obtain ⟨q0, q1⟩ := (show D2 w7.drew b6 _ _ from A1).gr (rw := some w.heap.size) (fun e => hne (Option.some.inj e))
          clear HW7 HB7 A1
          obtain ⟨p, hp⟩ : ∃ p, i + j = p := ⟨_, rfl⟩
          have hwr : IntKind.i64.wrap ((i : Int) + j) = (p : Int) := by rw [IntKind.wrap_i64]; omega
          have hpl : p < L := by omega
          rw [hp] at HE2 HF2 HZ2
          have HPP := Lib.hid hp
          clear hp
          refine wp_region_mix (some w.heap.size) [0, 1, 2, 3, 4, 5, 6, 7, 8] [9, 10] (by kernel_rfl) (by kernel_rfl) ?_
          simp only [pickOps, List.filterMap_cons, List.filterMap_nil, List.getElem?_toArray, List.getElem?_cons_succ, List.getElem?_cons_zero]
          repeat (refine wpQuietG_step (fun K hK => ?_); go_simp; first | (refine hK _ ?_; clear hK K) | (apply Exists.intro; refine ⟨fun _ => ?_, hK _ ?_⟩; (fail); clear hK K))
          refine wpQuietG_nil ?_
          clear q0 q1 hwr
          intro V hV1 hV2
          have HWv := HW8.out.far (of_drew hV2)
          have HBv := HB8.out.trans ((of_drew hV2).mono HB8.out.size)
          obtain ⟨cw, fw⟩ := HWv p hpl
          have HW9 := Lib.hid (HWv.set p s)
          have HB9 : Hid (Below w.heap.size w (V.setCell ⟨w.heap.size, p, none⟩ (.int .u64 s))) := HBv.setCell (p := ⟨w.heap.size, p, none⟩) (Nat.le_refl _) _
          clear HWv HBv HW8 HB8 hV2
          go_wp2
          refine ⟨gr_set hV1 (.inl rfl) _, ?_⟩
          clear cw fw hV1
          generalize V.setCell ⟨w.heap.size, p, none⟩ (.int .u64 s) = V2 at HW9 HB9 ⊢
          intro V3 hV3 hV4
          replace HW9 := Lib.hid (HW9.out.far hV4)
          replace HB9 := Lib.hid (HB9.out.trans (hV4.mono HB9.out.size))
          clear hV4
          go_wp2
          try refine ⟨hV3, ?_⟩
          clear hV3
          intro V4 hV5 hV6
          replace HW9 := Lib.hid (HW9.out.far hV6)
          replace HB9 := Lib.hid (HB9.out.trans (hV6.mono HB9.out.size))
          clear hV5 hV6
          go_wp2
          go_roundw
          case rel => exact ⟨j + 1, q, _, by omega, by go_num, rfl, hq, HW9, HF2, HZ2, HE2, HB9⟩
          case measure => simp [intOf]; omega
        · obtain rfl : j = m := by omega
          have him : i + j < L := by omega
          obtain ⟨cw, fw⟩ := HWg.out (i + j) him
          have HW2 := Lib.hid (HWg.out.set (i + j) cc)
          have HB2 : Hid (Below w.heap.size w (wr.setCell ⟨w.heap.size, i + j, none⟩ (.int .u64 cc))) := HBg.out.setCell (p := ⟨w.heap.size, i + j, none⟩) (Nat.le_refl _) _
          have HF2 : Hid (∀ t, t < L → (if t = i + j then cc else g t) < 18446744073709551616) := fun t ht => by
            split
            · exact hcc
            · exact HFg.out t ht
          have HZ2 : Hid (∀ t, i + 1 + j ≤ t → (if t = i + j then cc else g t) = 0) := fun t ht => by
            rw [if_neg (by omega)]
            exact HZg.out t (by omega)
          have HE2 : Hid (vf 18446744073709551616 (fun t => if t = i + j then cc else g t) L = N % 18446744073709551616 ^ (i + 1) * M) := by
            unfold Hid
            have h := vf_set (B := 18446744073709551616) (r := g) (s := fun t => if t = i + j then cc else g t) (j := i + j) (fun t ht => if_neg ht) him
            simp only [if_true] at h
            rw [HZg.out (i + j) (Nat.le_refl _), Nat.zero_mul, Nat.add_zero, HEg.out, HE.out, HM.out] at h
            rw [h, HNs.out]
            generalize 18446744073709551616 ^ i = P
            grind
          clear HWg HBg HFg HZg HEg HE HNs
          go_wp2
          go_roundw
          case rel => exact ⟨i + 1, _, by omega, by go_num, HW2, HF2, HZ2, HE2, HB2⟩
          case measure => simp [intOf]; omega
    · obtain rfl : i = l := by omega
      have HT : Hid (Calls Try.prog 194 #[.slice (some ⟨w.heap.size, 0, none⟩) L L] wr fun e w' => ∃ l, e = .returned (.slice (some ⟨w.heap.size, 0, none⟩) l L) ∧ Na .u64 18446744073709551616 w' (some ⟨w.heap.size, 0, none⟩) l L (N * M) ∧ wr = w') := by
        have hr := Nr.of_wa HW.out HF.out
        rw [HE.out, HN.out] at hr
        exact trimmed_any w.heap.size L L (N * M) wr hr (Nat.le_refl _) (by omega)
      clear HW HF HE HZ HN HM
      go_wp2_with (go_at_call 194; with_reducible refine (HT.out).mono ?_; rintro e w2 ⟨l2, rfl, hN2, rfl⟩)
      go_ret
      exact ⟨_, l2, _, rfl, hN2, HB.out⟩
end Go.Proofs.Ytmnnpkmjamhmcab
