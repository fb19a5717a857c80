/- NvB, NvC, NvP, NvM, NvT, NvS in one text (tools/merge.py). -/
import Derived.Test.YtmnnpkmjamhmcabNu
import Derived.Test.YtmnnpkmjamhmcabNuX
import Derived.Laws.AppendOwnNone
namespace Go.Proofs.Ytmnnpkmjamhmcab
open Go.RowKit Go.PlainAid
set_option maxHeartbeats 800000
set_option maxRecDepth 20000

/-- digits in block g that are appended to -/
def Rv (B g n cap : Nat) (f : Nat → Nat) (w : World) : Prop := w.ownsRow B 2 1 (.slice (some ⟨g, 0, none⟩) n cap) n ((List.range n).map fun i => .int .i64 (f i))
theorem Rv.empty (w : World) (f : Nat → Nat) : Rv w.heap.size w.heap.size 0 0 f (w.alloc (.cells #[] 2)) := ownsRow_empty w 2 1
theorem Rv.le {B g n cap : Nat} {f : Nat → Nat} {w : World} (h : Rv B g n cap f w) : B ≤ g := own_block h g rfl
theorem Rv.lt {B g n cap : Nat} {f : Nat → Nat} {w : World} (h : Rv B g n cap f w) : g < w.heap.size := by
  obtain ⟨_, ⟨h, _⟩ | ⟨g', cap', cur, hv, hg, hh, _⟩⟩ := h
  · cases h
  · cases hv
    exact (Array.getElem?_eq_some_iff.1 hh).1
theorem Rv.cap {B g n cap : Nat} {f : Nat → Nat} {w : World} (h : Rv B g n cap f w) : n ≤ cap := by
  obtain ⟨_, ⟨h, _⟩ | ⟨g', cap', cur, hv, hg, hh, h1, _⟩⟩ := h
  · cases h
  · cases hv
    exact h1
theorem Rv.wa {B g n cap : Nat} {f : Nat → Nat} {w : World} (h : Rv B g n cap f w) : WA .i64 w g n f := WA.of_own h
theorem Rv.far {B g n cap : Nat} {f : Nat → Nat} {w w' : World} (h : Rv B g n cap f w) (hb : Below w.heap.size w w') : Rv B g n cap f w' := by
  obtain ⟨h1, h2 | ⟨g', cap', cur, hv, hg, hc, r⟩⟩ := h
  · exact ⟨h1, .inl h2⟩
  · exact ⟨h1, .inr ⟨g', cap', cur, hv, hg, by rw [hb.block g' (Array.getElem?_eq_some_iff.1 hc).1]; exact hc, r⟩⟩
theorem Rv.drewN {B g n cap : Nat} {f : Nat → Nat} {w : World} (h : Rv B g n cap f w) (m : Nat) : Rv B g n cap f (w.drewN m) := h
theorem Rv.congr {B g n cap : Nat} {f f' : Nat → Nat} {w : World} (h : Rv B g n cap f w) (e : ∀ i, i < n → f i = f' i) : Rv B g n cap f' w := by
  unfold Rv at *
  rw [show (List.range n).map (fun i => Value.int .i64 (f' i)) = (List.range n).map (fun i => Value.int .i64 (f i)) from List.map_congr_left fun i hi => by rw [e i (List.mem_range.1 hi)]]
  exact h
theorem Rv.app {B n x : Nat} {f : Nat → Nat} {w1 : World} {v1 : Value} (h : w1.ownsRow B 2 1 v1 (n + 1) (((List.range n).map fun i => .int .i64 (f i)) ++ [.int .i64 x])) : ∃ g1 cap1, v1 = .slice (some ⟨g1, 0, none⟩) (n + 1) cap1 ∧ Rv B g1 (n + 1) cap1 (fun i => if i = n then x else f i) w1 := by
  obtain ⟨g1, cap1, rfl, hg1⟩ := own_shape h (by omega)
  refine ⟨g1, cap1, rfl, ?_⟩
  unfold Rv
  rw [List.range_succ, List.map_append, List.map_cons, List.map_nil]
  simp only [if_true]
  rw [show (List.range n).map (fun i => Value.int .i64 ((if i = n then x else f i : Nat) : Int)) = (List.range n).map (fun i => Value.int .i64 (f i)) from List.map_congr_left fun i hi => by rw [if_neg (by have := List.mem_range.1 hi; omega)]]
  exact h
theorem and_low30 (x : Nat) (hx : x < 9223372036854775808) : bits .and .i64 (x : Int) 1073741823 = ((x % 1073741824 : Nat) : Int) := by
  have e : (1073741823 : Int) = ((1073741823 : Nat) : Int) := rfl
  have e2 : x &&& 1073741823 = x % 1073741824 := by
    have := Nat.and_two_pow_sub_one_eq_mod x 30
    simpa using this
  have h : x % 1073741824 < 1073741824 := Nat.mod_lt _ (by omega)
  rw [e]
  show IntKind.i64.wrap ((BitVec.ofInt 64 (x : Int) &&& BitVec.ofInt 64 ((1073741823 : Nat) : Int)).toNat : Int) = _
  rw [BitVec.toNat_and, BitVec.ofInt_natCast, BitVec.ofInt_natCast, BitVec.toNat_ofNat, BitVec.toNat_ofNat, Nat.mod_eq_of_lt (by omega), Nat.mod_eq_of_lt (by omega), e2, IntKind.wrap_i64]
  omega
theorem bigOf_any (N : Nat) (w : World) (hN : N ≤ 9223372036854775807) :
    Calls Try.prog 150 #[.int .i64 N] w fun e w' => ∃ g l c, e = .returned (.slice (some ⟨g, 0, none⟩) l c) ∧ Na .i64 1073741824 w' (some ⟨g, 0, none⟩) l c N ∧ Below w.heap.size w w' := by
  obtain ⟨i0, hi, hz0, hz1, hz2⟩ := info_parts Try.info2
  have HO : Hid (Rv w.heap.size w.heap.size 0 0 (dig 1073741824 N) (w.alloc (.cells #[] 2))) := Rv.empty w _
  have HB0 : Hid (Below w.heap.size w (w.alloc (.cells #[] 2))) := (Below.refl w.heap.size w).alloc (Nat.le_refl _) _
  go_enter Try.func150, Try.ntmps150
  go_wp2
  go_loopw [0, 3] (fun nv v wr => ∃ k g cap x : Nat, k ≤ 3 ∧ nv = .int .i64 x ∧ x ≤ 9223372036854775807 ∧ Hid (x = N / 1073741824 ^ k) ∧ v = .slice (some ⟨g, 0, none⟩) k cap ∧ Hid (k = 0 ∨ 1073741824 ^ (k - 1) ≤ N) ∧ Hid (Rv w.heap.size g k cap (dig 1073741824 N) wr) ∧ Hid (Below w.heap.size w wr)) (fun nv _ _ => (intOf nv).toNat)
  case atStart => exact ⟨0, _, _, N, by omega, rfl, by omega, by unfold Hid; simp, rfl, .inl rfl, HO, HB0⟩
  case round =>
    obtain ⟨k, g, cap, x, hk, rfl, hx, HX, rfl, HK, HR, HB⟩ := hrel
    clear HO HB0
    rcases Nat.eq_zero_or_pos x with h0 | h0
    · subst h0
      have HF : Hid (Na .i64 1073741824 wr (some ⟨g, 0, none⟩) k cap N) := by
        have hlt : N < 1073741824 ^ k := Nat.lt_of_div_eq_zero (Nat.pow_pos (by omega)) HX.out.symm
        refine ⟨HR.out.cap, ⟨hlt, HK.out⟩, fun j hj => ⟨g, rfl, HR.out.lt, (HR.out.wa j hj).1⟩⟩
      go_wp2
      go_ret
      exact ⟨_, k, cap, rfl, HF.out, HB.out⟩
    · have hz := HB.out.size
      have hge := HR.out.le
      have ha := and_low30 x (by omega)
      obtain ⟨y, hy⟩ : ∃ y, x % 1073741824 = y := ⟨_, rfl⟩
      rw [hy] at ha
      have HY : Hid (y = dig 1073741824 N k) := by unfold Hid dig; rw [← HX.out, hy]
      obtain ⟨q, hq⟩ : ∃ q, x / 1073741824 = q := ⟨_, rfl⟩
      have hs : (x : Int) / 1073741824 = q := by omega
      have hk2 : k + 1 ≤ 3 := by
        apply Nat.le_of_not_lt
        intro h
        have e1 : N < 1073741824 ^ k := Nat.lt_of_lt_of_le (show N < 1073741824 ^ 3 by omega) (Nat.pow_le_pow_right (by omega) (by omega))
        have e2 := HX.out
        rw [Nat.div_eq_of_lt e1] at e2
        omega
      have hq1 : q ≤ 9223372036854775807 := by omega
      have hqx : q < x := by omega
      have HX2 : Hid (q = N / 1073741824 ^ (k + 1)) := by unfold Hid; rw [← hq, HX.out, Nat.div_div_eq_div_mul, Nat.pow_succ]
      have HK2 : Hid (k + 1 = 0 ∨ 1073741824 ^ (k + 1 - 1) ≤ N) := .inr (by
        rw [Nat.add_sub_cancel]
        apply Nat.le_of_not_lt
        intro h
        rw [HX.out, Nat.div_eq_of_lt h] at h0
        omega)
      clear HX hy hq
      go_wp2_with (at_builtin; refine wpList_append_own _ rfl _ _ 113 rfl w.heap.size 2 i0 (.int .i64 0) 1 8 Try.underlying113 hi hz0 hz1 hz2 rfl (by decide) _ _ _ rfl (World.ownsRow.alloc HR.out _) ⟨wr.heap.size, 0, none⟩ 1 1 [.int .i64 (y : Nat)] rfl rfl (cell_one_new _ _ _) (by intro u hu; simp at hu; subst hu; rfl) (by unfold maxLen; omega) (by omega) (by first | (simp; done) | (simp; omega)) ?_; intro v1 w1 hown1 hgrow _)
      obtain ⟨g1, cap1, rfl, hR1⟩ := Rv.app hown1
      have HB1 : Hid (Below w.heap.size w w1) := ((HB.out.alloc hz _).grown hgrow (by simp; omega) (fun q e => own_block HR.out q e))
      have HR1 : Hid (Rv w.heap.size g1 (k + 1) cap1 (dig 1073741824 N) w1) := hR1.congr fun i hi => by
        by_cases e : i = k
        · subst e
          rw [if_pos rfl]
          exact HY.out
        · rw [if_neg e]
      clear hown1 hgrow HR HB hR1
      go_wp2
      go_roundw
      case rel => exact ⟨k + 1, g1, cap1, q, hk2, by go_num, hq1, HX2, by first | rfl | go_num, HK2, HR1, HB1⟩
      case measure => simp [intOf]; omega
end Go.Proofs.Ytmnnpkmjamhmcab

namespace Go.Proofs.Ytmnnpkmjamhmcab
open Go.RowKit Go.PlainAid
set_option maxHeartbeats 800000
set_option maxRecDepth 20000

theorem bcmp_any (a b : Option Addr) (l c m d N M : Nat) (w : World) (h1 : Na .i64 1073741824 w a l c N) (h2 : Na .i64 1073741824 w b m d M) (hl : l ≤ 2000002) :
    Calls Try.prog 183 #[.slice a l c, .slice b m d] w fun e w' => e = .returned (.int .i64 (c3 N M)) ∧ Below w.heap.size w w' := by
  by_cases hlm : l = m
  · subst hlm
    have H1 := Lib.hid h1
    have H2 := Lib.hid h2
    have hb : ((l : Int) != (l : Int)) = false := by simp
    clear h1 h2
    go_enter Try.func183, Try.ntmps183
    go_wp2
    go_loopw [5] (fun iv wr => ∃ k : Nat, k ≤ l ∧ iv = .int .i64 ((k : Int) - 1) ∧ Hid (N / 1073741824 ^ k = M / 1073741824 ^ k) ∧ Hid (Below w.heap.size w wr)) (fun iv _ => (intOf iv + 1).toNat)
    case atStart => exact ⟨l, Nat.le_refl _, rfl, by unfold Hid; rw [Nat.div_eq_of_lt H1.out.2.1.1, Nat.div_eq_of_lt H2.out.2.1.1], Below.refl _ _⟩
    case round =>
      obtain ⟨k, hk, rfl, HE, HB⟩ := hrel
      rcases k with _ | k
      · have e : N = M := by simpa using HE.out
        have HR : Hid (c3 N M = 0) := by unfold Hid; rw [e, c3_eq]
        clear HE e
        rw [show (((0 : Nat) : Int) - 1) = -1 from rfl]
        go_wp2
        go_ret
        exact ⟨by rw [HR.out]; rfl, HB.out⟩
      · obtain ⟨g1, rfl, hg1, c1⟩ := H1.out.2.2 k (by omega)
        obtain ⟨g2, rfl, hg2, c2⟩ := H2.out.2.2 k (by omega)
        obtain ⟨x, hx⟩ : ∃ x, dig 1073741824 N k = x := ⟨_, rfl⟩
        obtain ⟨y, hy⟩ : ∃ y, dig 1073741824 M k = y := ⟨_, rfl⟩
        rw [hx] at c1
        rw [hy] at c2
        replace c1 := (HB.out.cell (p := ⟨g1, k, none⟩) hg1).trans c1
        replace c2 := (HB.out.cell (p := ⟨g2, k, none⟩) hg2).trans c2
        have hi : ((k + 1 : Nat) : Int) - 1 = k := by omega
        rw [hi]
        have hk0 : (0 : Int) ≤ k := by omega
        have hk2 : k < l := by omega
        have HE2 : Hid (x = y → N / 1073741824 ^ k = M / 1073741824 ^ k) := fun e => cmp_eq HE.out (by rw [hx, hy]; exact e)
        have HRl : Hid (x < y → c3 N M = -1) := fun h => c3_lt (cmp_lt HE.out (by rw [hx, hy]; exact h))
        have HRg : Hid (y < x → c3 N M = 1) := fun h => c3_gt (cmp_lt HE.out.symm (by rw [hx, hy]; exact h))
        clear HE hx hy
        by_cases hlt : x < y
        · have HR := Lib.hid (HRl.out hlt)
          clear HRl HRg HE2
          go_wp2
          go_quiet (fail)
          go_wp2
          go_ret
          exact ⟨by rw [HR.out]; rfl, below_drewN HB.out _⟩
        · go_wp2
          go_quiet (fail)
          have B2 : Below w.heap.size w (wr.drewN nq) := below_drewN HB.out nq
          have c3 : (wr.drewN nq).cell? ⟨g1, k, none⟩ = some (.int .i64 x) := c1
          have c4 : (wr.drewN nq).cell? ⟨g2, k, none⟩ = some (.int .i64 y) := c2
          clear c1 c2 HB
          generalize wr.drewN nq = w2 at B2 c3 c4 ⊢
          have HB2 := Lib.hid B2
          clear B2
          by_cases hgt : y < x
          · have HR := Lib.hid (HRg.out hgt)
            clear HRl HRg HE2
            go_wp2
            go_quiet (fail)
            go_wp2
            go_ret
            exact ⟨by rw [HR.out]; rfl, below_drewN HB2.out _⟩
          · have HE3 := Lib.hid (HE2.out (by omega))
            clear HRl HRg HE2
            go_wp2
            go_quiet (fail)
            go_wp2
            go_roundw
            case rel => exact ⟨k, by omega, by go_num, HE3, below_drewN HB2.out _⟩
            case measure => simp [intOf]
  · have hb : ((l : Int) != (m : Int)) = true := by simp; omega
    rcases Nat.lt_or_gt_of_ne hlm with h | h
    · have HR : Hid (c3 N M = -1) := c3_lt (h1.2.1.lt (by omega) h2.2.1 h)
      clear h1 h2
      go_enter Try.func183, Try.ntmps183
      go_wp2
      go_ret
      exact ⟨by rw [HR.out]; rfl, Below.refl _ _⟩
    · have HR : Hid (c3 N M = 1) := c3_gt (h2.2.1.lt (by omega) h1.2.1 h)
      have h3 : ¬ l < m := by omega
      clear h1 h2
      go_enter Try.func183, Try.ntmps183
      go_wp2
      go_ret
      exact ⟨by rw [HR.out]; rfl, Below.refl _ _⟩
end Go.Proofs.Ytmnnpkmjamhmcab

namespace Go.Proofs.Ytmnnpkmjamhmcab
open Go.RowKit Go.PlainAid
set_option maxHeartbeats 800000
set_option maxRecDepth 20000

theorem bplus_any (a b : Option Addr) (l c m d N M : Nat) (w : World) (h1 : Na .i64 1073741824 w a l c N) (h2 : Na .i64 1073741824 w b m d M) (hl : l ≤ 1000000) (hm : m ≤ 1000000) :
    Calls Try.prog 186 #[.slice a l c, .slice b m d] w fun e w' => ∃ g' l' c', e = .returned (.slice (some ⟨g', 0, none⟩) l' c') ∧ Na .i64 1073741824 w' (some ⟨g', 0, none⟩) l' c' (N + M) ∧ Below w.heap.size w w' := by
  obtain ⟨i0, hi, hz0, hz1, hz2⟩ := info_parts Try.info2
  have H1 := Lib.hid h1
  have H2 := Lib.hid h2
  have HO : Hid (Rv w.heap.size w.heap.size 0 0 (fun _ => 0) (w.alloc (.cells #[] 2))) := Rv.empty w _
  have HB0 : Hid (Below w.heap.size w (w.alloc (.cells #[] 2))) := (Below.refl w.heap.size w).alloc (Nat.le_refl _) _
  clear h1 h2
  go_enter Try.func186, Try.ntmps186
  go_wp2
  go_loopw [5, 6, 7] (fun v cv iv wr => ∃ (k g cap cc : Nat) (f : Nat → Nat), k ≤ 1000001 ∧ iv = .int .i64 k ∧ cv = .int .i64 cc ∧ cc ≤ 1 ∧ v = .slice (some ⟨g, 0, none⟩) k cap ∧ (l < k → m < k → cc = 0) ∧ Hid (k = 0 ∨ 1073741824 ^ (k - 1) ≤ N + M) ∧ Hid (∀ i, i < k → f i < 1073741824) ∧ Hid (N % 1073741824 ^ k + M % 1073741824 ^ k = vf 1073741824 f k + cc * 1073741824 ^ k) ∧ Hid (Rv w.heap.size g k cap f wr) ∧ Hid (Below w.heap.size w wr)) (fun _ _ iv _ => 1000002 - (intOf iv).toNat)
  case atStart => exact ⟨0, _, _, 0, _, by omega, rfl, rfl, by omega, rfl, fun _ _ => rfl, .inl rfl, fun i hi => absurd hi (by omega), by unfold Hid; simp [vf, Nat.mod_one], HO, HB0⟩
  case round =>
    obtain ⟨k, g, cap, cc, f, hk, rfl, rfl, hcc, rfl, hlast, HK, HF, HE, HR, HB⟩ := hrel
    clear HO HB0
    have d1 := dig_lt (B := 1073741824) (by omega) N k
    have d2 := dig_lt (B := 1073741824) (by omega) M k
    obtain ⟨x, hx⟩ : ∃ x, dig 1073741824 N k = x := ⟨_, rfl⟩
    obtain ⟨y, hy⟩ : ∃ y, dig 1073741824 M k = y := ⟨_, rfl⟩
    rw [hx] at d1
    rw [hy] at d2
    obtain ⟨s, hs⟩ : ∃ s, (cc + x + y) % 1073741824 = s := ⟨_, rfl⟩
    obtain ⟨q, hq⟩ : ∃ q, (cc + x + y) / 1073741824 = q := ⟨_, rfl⟩
    have hsq : x + y + cc = s + q * 1073741824 := by omega
    have hs1 : s < 1073741824 := by omega
    have hq1 : q ≤ 1 := by omega
    have HE2 : Hid (N % 1073741824 ^ (k + 1) + M % 1073741824 ^ (k + 1) = vf 1073741824 (fun i => if i = k then s else f i) (k + 1) + q * 1073741824 ^ (k + 1)) := by
      unfold Hid
      rw [sum_step HE.out (by rw [hx, hy]; exact hsq)]
      simp only [vf, if_true]
      rw [vf_congr (r := fun i => if i = k then s else f i) (s := f) fun i hi => if_neg (by omega)]
    have HF2 : Hid (∀ i, i < k + 1 → (if i = k then s else f i) < 1073741824) := fun i hi => by
      split
      · exact hs1
      · exact HF.out i (by omega)
    have hz := HB.out.size
    have hge := HR.out.le
    have ha := and_low30 (cc + x + y) (by omega)
    rw [hs] at ha
    have hsh : ((cc : Int) + x + y) / 1073741824 = q := by omega
    have HX0 : Hid (l ≤ k → x = 0) := fun h => by rw [← hx]; exact dig_hi (by omega) H1.out.2.1.1 h
    have HY0 : Hid (m ≤ k → y = 0) := fun h => by rw [← hy]; exact dig_hi (by omega) H2.out.2.1.1 h
    have HX1 : Hid (k < l → ∃ g1, a = some ⟨g1, 0, none⟩ ∧ g1 < w.heap.size ∧ wr.cell? ⟨g1, k, none⟩ = some (.int .i64 x)) := fun h => by
      obtain ⟨g1, e, hg, hc⟩ := H1.out.2.2 k h
      rw [hx] at hc
      exact ⟨g1, e, hg, (HB.out.cell (p := ⟨g1, k, none⟩) hg).trans hc⟩
    have HY1 : Hid (k < m → ∃ g1, b = some ⟨g1, 0, none⟩ ∧ g1 < w.heap.size ∧ wr.cell? ⟨g1, k, none⟩ = some (.int .i64 y)) := fun h => by
      obtain ⟨g1, e, hg, hc⟩ := H2.out.2.2 k h
      rw [hy] at hc
      exact ⟨g1, e, hg, (HB.out.cell (p := ⟨g1, k, none⟩) hg).trans hc⟩
    have hlast2 : l < k + 1 → m < k + 1 → q = 0 := fun e1 e2 => by
      have := HX0.out (by omega)
      have := HY0.out (by omega)
      omega
    by_cases hend : l ≤ k ∧ m ≤ k ∧ cc = 0
    · obtain ⟨e1, e2, rfl⟩ := hend
      have HV : Hid (Na .i64 1073741824 wr (some ⟨g, 0, none⟩) k cap (N + M)) := by
        have e := HE.out
        rw [Nat.mod_eq_of_lt (Nat.lt_of_lt_of_le H1.out.2.1.1 (Nat.pow_le_pow_right (by omega) e1)), Nat.mod_eq_of_lt (Nat.lt_of_lt_of_le H2.out.2.1.1 (Nat.pow_le_pow_right (by omega) e2)), Nat.zero_mul, Nat.add_zero] at e
        have hr := Nr.of_wa HR.out.wa HF.out
        rw [← e] at hr
        exact ⟨HR.out.cap, ⟨hr.1, HK.out⟩, fun j hj => ⟨g, rfl, HR.out.lt, hr.2 j hj⟩⟩
      have n1 : ¬ k < l := by omega
      have n2 : ¬ k < m := by omega
      clear HE HF HK HE2 HF2 HX0 HY0 HX1 HY1 hlast2 hlast hx hy hs hq hsq ha hsh d1 d2
      go_wp2
      go_ret
      exact ⟨_, k, cap, rfl, HV.out, HB.out⟩
    · have HK2 : Hid (k + 1 = 0 ∨ 1073741824 ^ (k + 1 - 1) ≤ N + M) := .inr (by
        rw [Nat.add_sub_cancel]
        by_cases e1 : k < l
        · have := Nat.le_trans (Nat.pow_le_pow_right (show 0 < 1073741824 by omega) (show k ≤ l - 1 by omega)) (H1.out.2.1.2.resolve_left (by omega))
          omega
        · by_cases e2 : k < m
          · have := Nat.le_trans (Nat.pow_le_pow_right (show 0 < 1073741824 by omega) (show k ≤ m - 1 by omega)) (H2.out.2.1.2.resolve_left (by omega))
            omega
          · have e3 := HE.out
            have e4 := Nat.mod_le N (1073741824 ^ k)
            have e5 := Nat.mod_le M (1073741824 ^ k)
            have e6 : 1073741824 ^ k ≤ cc * 1073741824 ^ k := Nat.le_mul_of_pos_left _ (by omega)
            omega)
      have hk2 : k + 1 ≤ 1000001 := by
        apply Nat.le_of_not_lt
        intro h
        exact hend ⟨by omega, by omega, hlast (by omega) (by omega)⟩
      have HA : Hid (∀ t : Int, t = ((cc + x + y : Nat) : Int) → bits .and .i64 t 1073741823 = s ∧ t / 1073741824 = q) := fun t ht => by
        subst ht
        exact ⟨ha, by omega⟩
      clear HE HF HK hlast hx hy hs hq hsq ha hsh
      by_cases o1 : k < l
      · by_cases o2 : k < m
        · obtain ⟨g1, rfl, hg1, c1⟩ := HX1.out o1
          obtain ⟨g2, rfl, hg2, c2⟩ := HY1.out o2
          obtain ⟨ha, hsh⟩ := HA.out ((cc : Int) + x + y) (by push_cast; rfl)
          clear HX0 HY0 HX1 HY1 HA hend
          go_wp2_with (at_builtin; refine wpList_append_own _ rfl _ _ 113 rfl w.heap.size 2 i0 (.int .i64 0) 1 8 Try.underlying113 hi hz0 hz1 hz2 rfl (by decide) _ _ _ rfl (World.ownsRow.alloc HR.out _) ⟨wr.heap.size, 0, none⟩ 1 1 [.int .i64 (s : Nat)] rfl rfl (cell_one_new _ _ _) (by intro u hu; simp at hu; subst hu; rfl) (by unfold maxLen; omega) (by omega) (by first | (simp; done) | (simp; omega)) ?_; intro v1 w1 hown1 hgrow _)
          obtain ⟨g3, cap1, rfl, hR1⟩ := Rv.app hown1
          have HB1 : Hid (Below w.heap.size w w1) := ((HB.out.alloc hz _).grown hgrow (by simp; omega) (fun q e => own_block HR.out q e))
          have HR1 := Lib.hid hR1
          clear hown1 hgrow HR HB hR1 ha hsh
          go_wp2
          go_roundw
          case rel => exact ⟨k + 1, g3, cap1, q, _, hk2, by go_num, rfl, hq1, by first | rfl | go_num, hlast2, HK2, HF2, HE2, HR1, HB1⟩
          case measure => simp [intOf]; omega
        · obtain ⟨g1, rfl, hg1, c1⟩ := HX1.out o1
          have hy0 := HY0.out (by omega)
          obtain ⟨ha, hsh⟩ := HA.out ((cc : Int) + x) (by rw [hy0]; push_cast; omega)
          clear HX0 HY0 HX1 HY1 HA hend hy0
          go_wp2_with (at_builtin; refine wpList_append_own _ rfl _ _ 113 rfl w.heap.size 2 i0 (.int .i64 0) 1 8 Try.underlying113 hi hz0 hz1 hz2 rfl (by decide) _ _ _ rfl (World.ownsRow.alloc HR.out _) ⟨wr.heap.size, 0, none⟩ 1 1 [.int .i64 (s : Nat)] rfl rfl (cell_one_new _ _ _) (by intro u hu; simp at hu; subst hu; rfl) (by unfold maxLen; omega) (by omega) (by first | (simp; done) | (simp; omega)) ?_; intro v1 w1 hown1 hgrow _)
          obtain ⟨g3, cap1, rfl, hR1⟩ := Rv.app hown1
          have HB1 : Hid (Below w.heap.size w w1) := ((HB.out.alloc hz _).grown hgrow (by simp; omega) (fun q e => own_block HR.out q e))
          have HR1 := Lib.hid hR1
          clear hown1 hgrow HR HB hR1 ha hsh
          go_wp2
          go_roundw
          case rel => exact ⟨k + 1, g3, cap1, q, _, hk2, by go_num, rfl, hq1, by first | rfl | go_num, hlast2, HK2, HF2, HE2, HR1, HB1⟩
          case measure => simp [intOf]; omega
      · have hx0 := HX0.out (by omega)
        by_cases o2 : k < m
        · obtain ⟨g2, rfl, hg2, c2⟩ := HY1.out o2
          obtain ⟨ha, hsh⟩ := HA.out ((cc : Int) + y) (by rw [hx0]; push_cast; omega)
          clear HX0 HY0 HX1 HY1 HA hend hx0
          go_wp2_with (at_builtin; refine wpList_append_own _ rfl _ _ 113 rfl w.heap.size 2 i0 (.int .i64 0) 1 8 Try.underlying113 hi hz0 hz1 hz2 rfl (by decide) _ _ _ rfl (World.ownsRow.alloc HR.out _) ⟨wr.heap.size, 0, none⟩ 1 1 [.int .i64 (s : Nat)] rfl rfl (cell_one_new _ _ _) (by intro u hu; simp at hu; subst hu; rfl) (by unfold maxLen; omega) (by omega) (by first | (simp; done) | (simp; omega)) ?_; intro v1 w1 hown1 hgrow _)
          obtain ⟨g3, cap1, rfl, hR1⟩ := Rv.app hown1
          have HB1 : Hid (Below w.heap.size w w1) := ((HB.out.alloc hz _).grown hgrow (by simp; omega) (fun q e => own_block HR.out q e))
          have HR1 := Lib.hid hR1
          clear hown1 hgrow HR HB hR1 ha hsh
          go_wp2
          go_roundw
          case rel => exact ⟨k + 1, g3, cap1, q, _, hk2, by go_num, rfl, hq1, by first | rfl | go_num, hlast2, HK2, HF2, HE2, HR1, HB1⟩
          case measure => simp [intOf]; omega
        · have hy0 := HY0.out (by omega)
          obtain ⟨ha, hsh⟩ := HA.out (cc : Int) (by rw [hx0, hy0]; push_cast; omega)
          have hc0 : 0 < cc := by omega
          clear HX0 HY0 HX1 HY1 HA hend hx0 hy0
          go_wp2_with (at_builtin; refine wpList_append_own _ rfl _ _ 113 rfl w.heap.size 2 i0 (.int .i64 0) 1 8 Try.underlying113 hi hz0 hz1 hz2 rfl (by decide) _ _ _ rfl (World.ownsRow.alloc HR.out _) ⟨wr.heap.size, 0, none⟩ 1 1 [.int .i64 (s : Nat)] rfl rfl (cell_one_new _ _ _) (by intro u hu; simp at hu; subst hu; rfl) (by unfold maxLen; omega) (by omega) (by first | (simp; done) | (simp; omega)) ?_; intro v1 w1 hown1 hgrow _)
          obtain ⟨g3, cap1, rfl, hR1⟩ := Rv.app hown1
          have HB1 : Hid (Below w.heap.size w w1) := ((HB.out.alloc hz _).grown hgrow (by simp; omega) (fun q e => own_block HR.out q e))
          have HR1 := Lib.hid hR1
          clear hown1 hgrow HR HB hR1 ha hsh
          go_wp2
          go_roundw
          case rel => exact ⟨k + 1, g3, cap1, q, _, hk2, by go_num, rfl, hq1, by first | rfl | go_num, hlast2, HK2, HF2, HE2, HR1, HB1⟩
          case measure => simp [intOf]; omega
end Go.Proofs.Ytmnnpkmjamhmcab

namespace Go.Proofs.Ytmnnpkmjamhmcab
open Go.RowKit Go.PlainAid
set_option maxHeartbeats 800000
set_option maxRecDepth 20000

theorem bminus_any (a b : Option Addr) (l c m d N M : Nat) (w : World) (h1 : Na .i64 1073741824 w a l c N) (h2 : Na .i64 1073741824 w b m d M) (hl : l ≤ 1000000) (hNM : M ≤ N) :
    Calls Try.prog 187 #[.slice a l c, .slice b m d] w fun e w' => ∃ g' l' c', e = .returned (.slice (some ⟨g', 0, none⟩) l' c') ∧ Na .i64 1073741824 w' (some ⟨g', 0, none⟩) l' c' (N - M) ∧ Below w.heap.size w w' := by
  obtain ⟨i0, hi, hz0, hz1, hz2⟩ := info_parts Try.info2
  have u0 : ∀ W, (underlying 113).run Try.prog W = .ok (.slice 2) W := run_underlying Try.underlying113
  have HS : Hid (N < 1073741824 ^ l) := h1.2.1.1
  have HN : Hid (N % 1073741824 ^ l = N) := Nat.mod_eq_of_lt HS.out
  have HM : Hid (M % 1073741824 ^ l = M) := Nat.mod_eq_of_lt (Nat.lt_of_le_of_lt hNM HS.out)
  have H1 := Lib.hid h1
  have H2 := Lib.hid h2
  have HO : Hid (Rv w.heap.size w.heap.size 0 0 (fun _ => 0) (w.alloc (.cells #[] 2))) := Rv.empty w _
  have HB0 : Hid (Below w.heap.size w (w.alloc (.cells #[] 2))) := (Below.refl w.heap.size w).alloc (Nat.le_refl _) _
  clear h1 h2
  go_enter Try.func187, Try.ntmps187
  go_wp2
  go_loopw [5, 6, 7] (fun v cv iv wr => ∃ (k g cap cc : Nat) (f : Nat → Nat), k ≤ l ∧ iv = .int .i64 k ∧ cv = .int .i64 cc ∧ cc ≤ 1 ∧ v = .slice (some ⟨g, 0, none⟩) k cap ∧ Hid (∀ i, i < k → f i < 1073741824) ∧ Hid (N % 1073741824 ^ k + cc * 1073741824 ^ k = vf 1073741824 f k + M % 1073741824 ^ k) ∧ Hid (Rv w.heap.size g k cap f wr) ∧ Hid (Below w.heap.size w wr)) (fun _ _ iv _ => l - (intOf iv).toNat)
  case atStart => exact ⟨0, _, _, 0, _, by omega, rfl, rfl, by omega, rfl, fun i hi => absurd hi (by omega), by unfold Hid; simp [vf, Nat.mod_one], HO, HB0⟩
  case round =>
    obtain ⟨k, g, cap, cc, f, hk, rfl, rfl, hcc, rfl, HF, HE, HR, HB⟩ := hrel
    clear HO HB0
    by_cases hlt : k < l
    · have d1 := dig_lt (B := 1073741824) (by omega) N k
      have d2 := dig_lt (B := 1073741824) (by omega) M k
      obtain ⟨g1, rfl, hg1, c1⟩ := H1.out.2.2 k hlt
      replace c1 := (HB.out.cell (p := ⟨g1, k, none⟩) hg1).trans c1
      obtain ⟨x, hx⟩ : ∃ x, dig 1073741824 N k = x := ⟨_, rfl⟩
      obtain ⟨y, hy⟩ : ∃ y, dig 1073741824 M k = y := ⟨_, rfl⟩
      rw [hx] at d1 c1
      rw [hy] at d2
      obtain ⟨s, q, hsq, hs1, hq1, hqc⟩ : ∃ s q : Nat, x + q * 1073741824 = s + y + cc ∧ s < 1073741824 ∧ q ≤ 1 ∧ ((q = 0 ∧ y + cc ≤ x) ∨ (q = 1 ∧ x < y + cc)) := by
        by_cases h : y + cc ≤ x
        · exact ⟨x - y - cc, 0, by omega, by omega, by omega, .inl ⟨rfl, h⟩⟩
        · exact ⟨x + 1073741824 - y - cc, 1, by omega, by omega, by omega, .inr ⟨rfl, by omega⟩⟩
      have HE2 : Hid (N % 1073741824 ^ (k + 1) + q * 1073741824 ^ (k + 1) = vf 1073741824 (fun i => if i = k then s else f i) (k + 1) + M % 1073741824 ^ (k + 1)) := by
        unfold Hid
        rw [diff_step HE.out (by rw [hx, hy]; exact hsq)]
        simp only [vf, if_true]
        rw [vf_congr (r := fun i => if i = k then s else f i) (s := f) fun i hi => if_neg (by omega)]
      have HF2 : Hid (∀ i, i < k + 1 → (if i = k then s else f i) < 1073741824) := fun i hi => by
        split
        · exact hs1
        · exact HF.out i (by omega)
      have hz := HB.out.size
      have hge := HR.out.le
      by_cases o2 : k < m
      · obtain ⟨g2, rfl, hg2, c2⟩ := H2.out.2.2 k o2
        replace c2 := (HB.out.cell (p := ⟨g2, k, none⟩) hg2).trans c2
        rw [hy] at c2
        clear HE HF hx hy
        rcases hqc with ⟨hqv, hc⟩ | ⟨hqv, hc⟩
        · have e1 : ¬ (x : Int) - cc - y < 0 := by omega
          have e2 : (x : Int) - cc - y = s := by omega
          clear hsq
          go_wp2_with (at_builtin; refine wpList_append_own _ rfl _ _ 113 rfl w.heap.size 2 i0 (.int .i64 0) 1 8 Try.underlying113 hi hz0 hz1 hz2 rfl (by decide) _ _ _ rfl (World.ownsRow.alloc HR.out _) ⟨wr.heap.size, 0, none⟩ 1 1 [.int .i64 (s : Nat)] rfl rfl (cell_one_new _ _ _) (by intro u hu; simp at hu; subst hu; rfl) (by unfold maxLen; omega) (by omega) (by first | (simp; done) | (simp; omega)) ?_; intro v1 w1 hown1 hgrow _)
          obtain ⟨g3, cap1, rfl, hR1⟩ := Rv.app hown1
          have HB1 : Hid (Below w.heap.size w w1) := ((HB.out.alloc hz _).grown hgrow (by simp; omega) (fun q e => own_block HR.out q e))
          have HR1 := Lib.hid hR1
          clear hown1 hgrow HR HB hR1
          go_wp2
          go_roundw
          case rel => exact ⟨k + 1, g3, cap1, q, _, hlt, by go_num, by rw [hqv]; rfl, hq1, by first | rfl | go_num, HF2, HE2, HR1, HB1⟩
          case measure => simp [intOf]; omega
        · have e1 : (x : Int) - cc - y < 0 := by omega
          have e2 : (x : Int) - cc - y + 1073741824 = s := by omega
          clear hsq
          go_wp2_with (at_builtin; refine wpList_append_own _ rfl _ _ 113 rfl w.heap.size 2 i0 (.int .i64 0) 1 8 Try.underlying113 hi hz0 hz1 hz2 rfl (by decide) _ _ _ rfl (World.ownsRow.alloc HR.out _) ⟨wr.heap.size, 0, none⟩ 1 1 [.int .i64 (s : Nat)] rfl rfl (cell_one_new _ _ _) (by intro u hu; simp at hu; subst hu; rfl) (by unfold maxLen; omega) (by omega) (by first | (simp; done) | (simp; omega)) ?_; intro v1 w1 hown1 hgrow _)
          obtain ⟨g3, cap1, rfl, hR1⟩ := Rv.app hown1
          have HB1 : Hid (Below w.heap.size w w1) := ((HB.out.alloc hz _).grown hgrow (by simp; omega) (fun q e => own_block HR.out q e))
          have HR1 := Lib.hid hR1
          clear hown1 hgrow HR HB hR1
          go_wp2
          go_roundw
          case rel => exact ⟨k + 1, g3, cap1, q, _, hlt, by go_num, by rw [hqv]; rfl, hq1, by first | rfl | go_num, HF2, HE2, HR1, HB1⟩
          case measure => simp [intOf]; omega
      · have hy0 : y = 0 := by rw [← hy]; exact dig_hi (by omega) H2.out.2.1.1 (by omega)
        clear HE HF hx hy
        rcases hqc with ⟨hqv, hc⟩ | ⟨hqv, hc⟩
        · have e1 : ¬ (x : Int) - cc < 0 := by omega
          have e2 : (x : Int) - cc = s := by omega
          clear hsq hy0
          go_wp2_with (at_builtin; refine wpList_append_own _ rfl _ _ 113 rfl w.heap.size 2 i0 (.int .i64 0) 1 8 Try.underlying113 hi hz0 hz1 hz2 rfl (by decide) _ _ _ rfl (World.ownsRow.alloc HR.out _) ⟨wr.heap.size, 0, none⟩ 1 1 [.int .i64 (s : Nat)] rfl rfl (cell_one_new _ _ _) (by intro u hu; simp at hu; subst hu; rfl) (by unfold maxLen; omega) (by omega) (by first | (simp; done) | (simp; omega)) ?_; intro v1 w1 hown1 hgrow _)
          obtain ⟨g3, cap1, rfl, hR1⟩ := Rv.app hown1
          have HB1 : Hid (Below w.heap.size w w1) := ((HB.out.alloc hz _).grown hgrow (by simp; omega) (fun q e => own_block HR.out q e))
          have HR1 := Lib.hid hR1
          clear hown1 hgrow HR HB hR1
          go_wp2
          go_roundw
          case rel => exact ⟨k + 1, g3, cap1, q, _, hlt, by go_num, by rw [hqv]; rfl, hq1, by first | rfl | go_num, HF2, HE2, HR1, HB1⟩
          case measure => simp [intOf]; omega
        · have e1 : (x : Int) - cc < 0 := by omega
          have e2 : (x : Int) - cc + 1073741824 = s := by omega
          clear hsq hy0
          go_wp2_with (at_builtin; refine wpList_append_own _ rfl _ _ 113 rfl w.heap.size 2 i0 (.int .i64 0) 1 8 Try.underlying113 hi hz0 hz1 hz2 rfl (by decide) _ _ _ rfl (World.ownsRow.alloc HR.out _) ⟨wr.heap.size, 0, none⟩ 1 1 [.int .i64 (s : Nat)] rfl rfl (cell_one_new _ _ _) (by intro u hu; simp at hu; subst hu; rfl) (by unfold maxLen; omega) (by omega) (by first | (simp; done) | (simp; omega)) ?_; intro v1 w1 hown1 hgrow _)
          obtain ⟨g3, cap1, rfl, hR1⟩ := Rv.app hown1
          have HB1 : Hid (Below w.heap.size w w1) := ((HB.out.alloc hz _).grown hgrow (by simp; omega) (fun q e => own_block HR.out q e))
          have HR1 := Lib.hid hR1
          clear hown1 hgrow HR HB hR1
          go_wp2
          go_roundw
          case rel => exact ⟨k + 1, g3, cap1, q, _, hlt, by go_num, by rw [hqv]; rfl, hq1, by first | rfl | go_num, HF2, HE2, HR1, HB1⟩
          case measure => simp [intOf]; omega
    · obtain rfl : k = l := by omega
      have HNR : Hid (Nr .i64 1073741824 wr g k (N - M)) := by
        have e := HE.out
        rw [HN.out, HM.out] at e
        have hv := vf_lt HF.out
        have hcz : cc = 0 := by
          rcases Nat.eq_zero_or_pos cc with h | h
          · exact h
          · have : 1073741824 ^ k ≤ cc * 1073741824 ^ k := Nat.le_mul_of_pos_left _ h
            have hS := HS.out
            omega
        subst hcz
        rw [Nat.zero_mul, Nat.add_zero] at e
        have hr := Nr.of_wa HR.out.wa HF.out
        rwa [show vf 1073741824 f k = N - M by omega] at hr
      have hcap := HR.out.cap
      clear HR HF HE HS HN HM
      go_wp2
      have hz2 := HB.out.size
      go_loopw [5] (fun v wr => ∃ l2 : Nat, v = .slice (some ⟨g, 0, none⟩) l2 cap ∧ l2 ≤ cap ∧ l2 ≤ k ∧ Hid (Nr .i64 1073741824 wr g l2 (N - M)) ∧ Hid (Below w.heap.size w wr)) (fun v _ => match v with | .slice _ l2 _ => l2 | _ => 0)
      case atStart => exact ⟨k, rfl, hcap, Nat.le_refl _, HNR, HB⟩
      case round =>
        obtain ⟨l2, rfl, hl2, hl3, HN2, HB2⟩ := hrel
        clear HNR HB
        rcases l2 with _ | p
        · have HFN := Lib.hid (HN2.out.na (c := cap) (Nat.zero_le _) (.inl rfl))
          clear HN2
          go_wp2
          go_ret
          exact ⟨_, 0, cap, rfl, HFN.out, HB2.out⟩
        · have hcell := HN2.out.2 p (by omega)
          obtain ⟨dd, hd⟩ : ∃ dd, dig 1073741824 (N - M) p = dd := ⟨_, rfl⟩
          rw [hd] at hcell
          by_cases h0 : dd = 0
          · subst h0
            have HN3 := Lib.hid (HN2.out.less hd)
            have hsl : ∀ W, (Instr.slice 113 (.slice (some ⟨g, 0, none⟩) (p + 1) cap) none (some (.int .i64 (p : Int))) none).run Try.prog W = .ok (.slice (some ⟨g, 0, none⟩) p cap) W := by
              intro W
              have k1 : (0 : Int) ≤ (p : Int) := by omega
              have k2 : p ≤ cap := by omega
              simp [go_sem, Instr.slice, Instr.sliceBounds, Instr.sliceBound, u0, k1, k2, Addr.add]
            clear HN2 hd
            go_wp2
            go_roundw
            case rel => exact ⟨p, rfl, by omega, by omega, HN3, HB2⟩
            case measure => simp
          · have HFN := Lib.hid (HN2.out.na (c := cap) hl2 (.inr (by rw [Nat.add_sub_cancel, hd]; exact h0)))
            have h1 : ¬ (dd : Int) = 0 := by omega
            clear HN2 hd
            go_wp2
            go_ret
            exact ⟨_, p + 1, cap, rfl, HFN.out, HB2.out⟩
end Go.Proofs.Ytmnnpkmjamhmcab

namespace Go.Proofs.Ytmnnpkmjamhmcab
open Go.RowKit Go.PlainAid
set_option maxHeartbeats 800000
set_option maxRecDepth 20000

theorem btimes_any (a b : Option Addr) (l c m d N M : Nat) (w : World) (h1 : Na .i64 1073741824 w a l c N) (h2 : Na .i64 1073741824 w b m d M) (hl : l ≤ 1000000) (hm : m ≤ 1000000) :
    Calls Try.prog 185 #[.slice a l c, .slice b m d] w fun e w' => ∃ g' l' c', e = .returned (.slice (some ⟨g', 0, none⟩) l' c') ∧ Na .i64 1073741824 w' (some ⟨g', 0, none⟩) l' c' (N * M) ∧ Below w.heap.size w w' := by
  obtain ⟨i0, hi, hz0, hz1, hz2⟩ := info_parts Try.info2
  have u0 : ∀ W, (underlying 113).run Try.prog W = .ok (.slice 2) W := run_underlying Try.underlying113
  have HN : Hid (N % 1073741824 ^ l = N) := Nat.mod_eq_of_lt h1.2.1.1
  have H1 := Lib.hid h1
  have H2 := Lib.hid h2
  clear h1 h2
  obtain ⟨L, hL⟩ : ∃ L, l + m = L := ⟨_, rfl⟩
  have hLI : (l : Int) + m = L := by omega
  go_enter Try.func185, Try.ntmps185
  go_wp2_with (at_make; refine wpList_make_full _ rfl _ _ 113 rfl w.heap.size 2 i0 _ 1 Try.underlying113 hi hz0 hz1 _ _ _ _ L rfl rfl (by first | rfl | omega) (by first | rfl | omega) (by rw [hz2]; omega) (by unfold maxLen; omega) (Nat.le_refl _) ?_; intro w3 hown hgrow)
  have HW3 := Lib.hid (WA.made hown)
  have B3 : Hid (Below w.heap.size w w3) := (Below.refl w.heap.size w).grown hgrow (Nat.le_refl _) (by simp)
  clear hown hgrow
  go_loopw [6] (fun iv wr => ∃ (i : Nat) (f : Nat → Nat), i ≤ l ∧ iv = .int .i64 i ∧ Hid (WA .i64 wr w.heap.size L f) ∧ Hid (∀ t, t < L → f t < 1073741824) ∧ Hid (vf 1073741824 f L = N % 1073741824 ^ i * M) ∧ Hid (Below w.heap.size w wr)) (fun iv _ => l - (intOf iv).toNat)
  case atStart => exact ⟨0, _, by omega, rfl, HW3, fun t _ => by omega, by
    unfold Hid
    rw [Nat.pow_zero, Nat.mod_one, Nat.zero_mul]
    exact vf_zero _ _, B3⟩
  case round =>
    obtain ⟨i, f, hi', rfl, HW, HF, HE, HB⟩ := hrel
    clear HW3 B3
    by_cases hlt : i < l
    · have d1 := dig_lt (B := 1073741824) (by omega) N i
      have HNs : Hid (N % 1073741824 ^ (i + 1) = N % 1073741824 ^ i + dig 1073741824 N i * 1073741824 ^ i) := mod_step _ _ _
      obtain ⟨n, hn⟩ : ∃ n, dig 1073741824 N i = n := ⟨_, rfl⟩
      rw [hn] at d1 HNs
      have HNc : Hid (∃ g1, a = some ⟨g1, 0, none⟩ ∧ g1 < w.heap.size ∧ w.cell? ⟨g1, i, none⟩ = some (.int .i64 n)) := by
        obtain ⟨g1, e, hg1, c1⟩ := H1.out.2.2 i hlt
        rw [hn] at c1
        exact ⟨g1, e, hg1, c1⟩
      have HPB : Hid (N % 1073741824 ^ (i + 1) * M < 1073741824 ^ L) := by
        have e1 : N % 1073741824 ^ (i + 1) < 1073741824 ^ (i + 1) := Nat.mod_lt _ (Nat.pow_pos (by omega))
        have e2 : N % 1073741824 ^ (i + 1) * M < 1073741824 ^ (i + 1) * 1073741824 ^ m := Nat.mul_lt_mul'' e1 H2.out.2.1.1
        rw [← Nat.pow_add] at e2
        exact Nat.lt_of_lt_of_le e2 (Nat.pow_le_pow_right (by omega) (by omega))
      clear hn
      go_wp2
      go_loopw [7, 8] (fun cv jv ws => ∃ (j cc : Nat) (g : Nat → Nat), i + j ≤ L ∧ jv = .int .i64 j ∧ cv = .int .i64 cc ∧ cc < 1073741824 ∧ Hid (WA .i64 ws w.heap.size L g) ∧ Hid (∀ t, t < L → g t < 1073741824) ∧ Hid (vf 1073741824 g L + cc * 1073741824 ^ (i + j) = vf 1073741824 f L + n * (M % 1073741824 ^ j) * 1073741824 ^ i) ∧ Hid (Below w.heap.size w ws)) (fun _ jv _ => L + 1 - (intOf jv).toNat)
      case atStart => exact ⟨0, 0, f, by omega, rfl, rfl, by omega, HW, HF, by unfold Hid; simp [Nat.mod_one], HB⟩
      case round =>
        obtain ⟨j, cc, g, hj, rfl, rfl, hcc, HWg, HFg, HEg, HBg⟩ := hrel
        clear HW HF HB
        by_cases hend : m ≤ j ∧ cc = 0
        · obtain ⟨e1, rfl⟩ := hend
          have n1 : ¬ j < m := by omega
          have HE2 : Hid (vf 1073741824 g L = N % 1073741824 ^ (i + 1) * M) := by
            have h := HEg.out
            unfold Hid
            rw [Nat.zero_mul, Nat.add_zero, HE.out, Nat.mod_eq_of_lt (Nat.lt_of_lt_of_le H2.out.2.1.1 (Nat.pow_le_pow_right (by omega) e1))] at h
            rw [h, HNs.out]
            generalize 1073741824 ^ i = P
            grind
          clear HEg HE HNs HNc HPB
          go_wp2
          go_roundw
          case rel => exact ⟨i + 1, g, by omega, by go_num, HWg, HFg, HE2, HBg⟩
          case measure => simp [intOf]; omega
        · have hij : i + j < L := by
            by_cases e1 : j < m
            · omega
            · apply Nat.lt_of_not_le
              intro hle
              have h := HEg.out
              rw [HE.out, Nat.mod_eq_of_lt (Nat.lt_of_lt_of_le H2.out.2.1.1 (Nat.pow_le_pow_right (show 0 < 1073741824 by omega) (show m ≤ j by omega)))] at h
              have h2 : N % 1073741824 ^ i * M + n * M * 1073741824 ^ i = N % 1073741824 ^ (i + 1) * M := by
                rw [HNs.out]
                generalize 1073741824 ^ i = P
                grind
              have h3 : 1073741824 ^ L ≤ cc * 1073741824 ^ (i + j) := Nat.le_trans (Nat.pow_le_pow_right (show 0 < 1073741824 by omega) hle) (Nat.le_mul_of_pos_left _ (by omega))
              have h4 := HPB.out
              omega
          have d2 := dig_lt (B := 1073741824) (by omega) M j
          obtain ⟨y, hy⟩ : ∃ y, dig 1073741824 M j = y := ⟨_, rfl⟩
          rw [hy] at d2
          obtain ⟨p, hp⟩ : ∃ p, i + j = p := ⟨_, rfl⟩
          obtain ⟨r, hr⟩ : ∃ r, g p = r := ⟨_, rfl⟩
          have hpl : p < L := by omega
          have hr1 := HFg.out p hpl
          obtain ⟨cr, fr⟩ := HWg.out p hpl
          rw [hr] at hr1 cr
          have hny : n * y ≤ 1073741823 * 1073741823 := Nat.mul_le_mul (by omega) (by omega)
          have hnyI : ((n * y : Nat) : Int) = (n : Int) * y := by push_cast; rfl
          obtain ⟨z, hz⟩ : ∃ z, n * y = z := ⟨_, rfl⟩
          rw [hz] at hny hnyI
          obtain ⟨s, hs⟩ : ∃ s, (cc + r + z) % 1073741824 = s := ⟨_, rfl⟩
          obtain ⟨q, hq⟩ : ∃ q, (cc + r + z) / 1073741824 = q := ⟨_, rfl⟩
          have hs1 : s < 1073741824 := by omega
          have hq1 : q < 1073741824 := by omega
          have HE2 : Hid (vf 1073741824 (fun t => if t = p then s else g t) L + q * 1073741824 ^ (i + (j + 1)) = vf 1073741824 f L + n * (M % 1073741824 ^ (j + 1)) * 1073741824 ^ i) := by
            refine mul_step (y := r) (x := s) HEg.out (by rw [hy, hz]; omega) ?_
            have := vf_set (B := 1073741824) (r := g) (s := fun t => if t = p then s else g t) (j := p) (fun t ht => if_neg ht) hpl
            simp only [if_true] at this
            rw [hr] at this
            rw [hp]
            exact this
          have HF2 : Hid (∀ t, t < L → (if t = p then s else g t) < 1073741824) := fun t ht => by
            split
            · exact hs1
            · exact HFg.out t ht
          have HWn : Hid (∀ nq : Nat, WA .i64 ((wr.drewN nq).setCell ⟨w.heap.size, p, none⟩ (.int .i64 s)) w.heap.size L (fun t => if t = p then s else g t) ∧ Below w.heap.size w ((wr.drewN nq).setCell ⟨w.heap.size, p, none⟩ (.int .i64 s))) := fun nq => ⟨(HWg.out.drewN nq).set p s, (below_drewN HBg.out nq).setCell (p := ⟨w.heap.size, p, none⟩) (Nat.le_refl _) _⟩
          have ha := and_low30 (cc + r + z) (by omega)
          rw [hs] at ha
          have HA : Hid (∀ t : Int, t = ((cc + r + z : Nat) : Int) → bits .and .i64 t 1073741823 = s ∧ t / 1073741824 = q) := fun t ht => by
            subst ht
            exact ⟨ha, by omega⟩
          have HZ0 : Hid (m ≤ j → z = 0) := fun h => by rw [← hz, ← hy, dig_hi (by omega) H2.out.2.1.1 h, Nat.mul_zero]
          have hwr : IntKind.i64.wrap ((i : Int) + j) = (p : Int) := by rw [IntKind.wrap_i64]; omega
          have hipj : (i : Int) + j = p := by omega
          have hj1 : i + (j + 1) ≤ L := by omega
          have hjm : j < m ∨ (¬ j < m ∧ 0 < cc) := by omega
          have HYc : Hid (j < m → ∃ g2, b = some ⟨g2, 0, none⟩ ∧ g2 < w.heap.size ∧ wr.cell? ⟨g2, j, none⟩ = some (.int .i64 y)) := fun h => by
            obtain ⟨g2, e, hg2, c1⟩ := H2.out.2.2 j h
            rw [hy] at c1
            exact ⟨g2, e, hg2, (HBg.out.cell (p := ⟨g2, j, none⟩) hg2).trans c1⟩
          obtain ⟨g1, rfl, hg1, c1⟩ := HNc.out
          have c2 : wr.cell? ⟨g1, i, none⟩ = some (.int .i64 n) := (HBg.out.cell (p := ⟨g1, i, none⟩) hg1).trans c1
          clear HWg HBg HEg HFg hy hp hr hz hs hq ha c1 hend
          rcases hjm with o1 | ⟨o1, o2⟩
          · obtain ⟨g2, rfl, hg2, c3⟩ := HYc.out o1
            obtain ⟨ha, hsh⟩ := HA.out ((cc : Int) + r + (n : Int) * y) (by rw [← hnyI]; push_cast; rfl)
            have hb1 : (cc : Int) + r + (n : Int) * y ≤ 9223372036854775807 := by rw [← hnyI]; omega
            have hb2 : (n : Int) * y ≤ 9223372036854775807 := by rw [← hnyI]; omega
            have hb3 : 0 ≤ (n : Int) * y := by rw [← hnyI]; omega
            clear HA HZ0 HYc
            go_wp2
            go_quiet (fail)
            obtain ⟨k3, k4⟩ := HWn.out nq
            replace k3 := Lib.hid k3
            replace k4 := Lib.hid k4
            clear HWn
            go_wp2
            go_roundw
            case rel => exact ⟨j + 1, q, _, hj1, by go_num, rfl, hq1, k3, HF2, HE2, k4⟩
            case measure => simp [intOf]; omega
          · have hz0 := HZ0.out (by omega)
            obtain ⟨ha, hsh⟩ := HA.out ((cc : Int) + r) (by rw [hz0]; push_cast; omega)
            obtain ⟨k3, k4⟩ := HWn.out 0
            replace k3 := Lib.hid k3
            replace k4 := Lib.hid k4
            clear HA HZ0 HYc hz0 hny hnyI HWn
            go_wp2
            go_roundw
            case rel => exact ⟨j + 1, q, _, hj1, by go_num, rfl, hq1, k3, HF2, HE2, k4⟩
            case measure => simp [intOf]; omega
    · obtain rfl : i = l := by omega
      have HNR : Hid (Nr .i64 1073741824 wr w.heap.size L (N * M)) := by
        have hr := Nr.of_wa HW.out HF.out
        rwa [HE.out, HN.out] at hr
      have hcap : L ≤ L := Nat.le_refl _
      clear HW HF HE HN
      go_wp2
      have hz2 := HB.out.size
      go_loopw [5] (fun v wr => ∃ l2 : Nat, v = .slice (some ⟨w.heap.size, 0, none⟩) l2 L ∧ l2 ≤ L ∧ Hid (Nr .i64 1073741824 wr w.heap.size l2 (N * M)) ∧ Hid (Below w.heap.size w wr)) (fun v _ => match v with | .slice _ l2 _ => l2 | _ => 0)
      case atStart => exact ⟨L, rfl, hcap, HNR, HB⟩
      case round =>
        obtain ⟨l2, rfl, hl2, HN2, HB2⟩ := hrel
        clear HNR HB
        rcases l2 with _ | p
        · have HFN := Lib.hid (HN2.out.na (c := L) (Nat.zero_le _) (.inl rfl))
          clear HN2
          go_wp2
          go_ret
          exact ⟨_, 0, L, rfl, HFN.out, HB2.out⟩
        · have hcell := HN2.out.2 p (by omega)
          obtain ⟨dd, hd⟩ : ∃ dd, dig 1073741824 (N * M) p = dd := ⟨_, rfl⟩
          rw [hd] at hcell
          by_cases h0 : dd = 0
          · subst h0
            have HN3 := Lib.hid (HN2.out.less hd)
            have hsl : ∀ W, (Instr.slice 113 (.slice (some ⟨w.heap.size, 0, none⟩) (p + 1) L) none (some (.int .i64 (p : Int))) none).run Try.prog W = .ok (.slice (some ⟨w.heap.size, 0, none⟩) p L) W := by
              intro W
              have k1 : (0 : Int) ≤ (p : Int) := by omega
              have k2 : p ≤ L := by omega
              simp [go_sem, Instr.slice, Instr.sliceBounds, Instr.sliceBound, u0, k1, k2, Addr.add]
            clear HN2 hd
            go_wp2
            go_roundw
            case rel => exact ⟨p, rfl, by omega, HN3, HB2⟩
            case measure => simp
          · have HFN := Lib.hid (HN2.out.na (c := L) hl2 (.inr (by rw [Nat.add_sub_cancel, hd]; exact h0)))
            have h1 : ¬ (dd : Int) = 0 := by omega
            clear HN2 hd
            go_wp2
            go_ret
            exact ⟨_, p + 1, L, rfl, HFN.out, HB2.out⟩
end Go.Proofs.Ytmnnpkmjamhmcab

namespace Go.Proofs.Ytmnnpkmjamhmcab
open Go.RowKit Go.PlainAid
set_option maxHeartbeats 1600000
set_option maxRecDepth 20000

theorem dig_div (B N d j : Nat) : dig B (N / B ^ d) j = dig B N (d + j) := by
  unfold dig
  rw [Nat.div_div_eq_div_mul, ← Nat.pow_add]
theorem Ln.div {B N d q : Nat} (hB : 0 < B) (h : Ln B N (d + q)) : Ln B (N / B ^ d) q := by
  refine ⟨?_, ?_⟩
  · rw [Nat.div_lt_iff_lt_mul (Nat.pow_pos hB), ← Nat.pow_add, Nat.add_comm]
    exact h.1
  · rcases q with _ | q
    · exact .inl rfl
    · right
      rw [Nat.add_sub_cancel, Nat.le_div_iff_mul_le (Nat.pow_pos hB), ← Nat.pow_add, Nat.add_comm q d]
      exact h.2.resolve_left (by omega)
theorem slice_on (T : TypeId) (hu : ∀ W, (underlying T).run Try.prog W = .ok (.slice 2) W) (g n c d q : Nat) (hc : n ≤ c) (hd : d + 1 + q = n) :
    ∃ ad c2, (∀ W, (Instr.slice T (.slice (some ⟨g, 0, none⟩) n c) (some (.int .i64 ((d : Int) + 1))) none none).run Try.prog W = .ok (.slice (some ad) q c2) W) ∧ ∀ j, j < q → ad.add j = ⟨g, d + 1 + j, none⟩ := by
  have k1 : (0 : Int) ≤ (d : Int) + 1 := by omega
  have k3 : ((d : Int) + 1).toNat = d + 1 := by omega
  have k4 : n - (d + 1) = q := by omega
  by_cases hd0 : c = d + 1
  · refine ⟨⟨g, 0, none⟩, c - (d + 1), fun W => ?_, fun j hj => by omega⟩
    have k6 : q = 0 := by omega
    have k7 : n = d + 1 := by omega
    simp [go_sem, Instr.slice, Instr.sliceBounds, Instr.sliceBound, hd0, hu, k1, k3, k6, k7]
  · refine ⟨(⟨g, 0, none⟩ : Addr).add ((d + 1) * 1), c - (d + 1), fun W => ?_, fun j hj => ?_⟩
    · simp [go_sem, Instr.slice, Instr.sliceBounds, Instr.sliceBound, hd0, hu, k1, k3, k4]
      intro y
      omega
    · rcases j with _ | j <;> simp [Addr.add]
theorem bit_one (x j : Nat) : bits .and .i64 ((x : Int) / 2 ^ j) 1 = ((x / 2 ^ j % 2 : Nat) : Int) := by
  have e : (x : Int) / 2 ^ j = ((x / 2 ^ j : Nat) : Int) := by push_cast; rfl
  rw [e]
  generalize x / 2 ^ j = y
  show IntKind.i64.wrap ((BitVec.ofInt 64 (y : Int) &&& 1#64).toNat : Int) = _
  rw [BitVec.toNat_and, BitVec.ofInt_natCast, BitVec.toNat_ofNat, show (1#64).toNat = 1 from rfl, Nat.and_one_is_mod, Nat.mod_mod_of_dvd _ (by decide), IntKind.wrap_i64]
  omega
/-- a made row of the digits of R is the number R -/
theorem na_of_own {B0 q R : Nat} {w1 : World} {v1 : Value} (hL : Ln 1073741824 R q) (h : w1.ownsRow B0 2 1 v1 q ((List.range q).map fun j => .int .i64 (dig 1073741824 R j))) (hn : v1 ≠ .slice none 0 0) : ∃ g cap, v1 = .slice (some ⟨g, 0, none⟩) q cap ∧ Na .i64 1073741824 w1 (some ⟨g, 0, none⟩) q cap R := by
  have hk := h
  obtain ⟨_, ⟨e, _⟩ | ⟨g', cap', cur, rfl, hg, hh, h1, _⟩⟩ := h
  · exact absurd e hn
  · refine ⟨g', cap', rfl, h1, hL, fun j hj => ⟨g', rfl, (Array.getElem?_eq_some_iff.1 hh).1, ?_⟩⟩
    exact (WA.of_own (f := dig 1073741824 R) hk j hj).1
theorem bsplit_any (g0 : Nat) (b : Option Addr) (l c m d N M : Nat) (w : World) (h1 : Na .i64 1073741824 w (some ⟨g0, 0, none⟩) l c N) (h2 : Na .i64 1073741824 w b m d M) (hl : l ≤ 900000) (hm : m ≤ 900000) (hM : 0 < M) :
    Calls Try.prog 182 #[.slice (some ⟨g0, 0, none⟩) l c, .slice b m d] w fun e w' => ∃ g1 l1 c1 g2 l2 c2, e = .returned (.tuple #[.slice (some ⟨g1, 0, none⟩) l1 c1, .slice (some ⟨g2, 0, none⟩) l2 c2]) ∧ Na .i64 1073741824 w' (some ⟨g1, 0, none⟩) l1 c1 (N / M) ∧ Na .i64 1073741824 w' (some ⟨g2, 0, none⟩) l2 c2 (N % M) ∧ Below w.heap.size w w' := by
  obtain ⟨i0, hi, hz0, hz1, hz2⟩ := info_parts Try.info2
  have u0 : ∀ W, (underlying 113).run Try.prog W = .ok (.slice 2) W := run_underlying Try.underlying113
  by_cases hlm : l < m
  · have hNM : N < M := h1.2.1.lt (by omega) h2.2.1 hlm
    have HD : Hid (N / M = 0) := Nat.div_eq_of_lt hNM
    have HM : Hid (N % M = N) := Nat.mod_eq_of_lt hNM
    have H1 := Lib.hid h1
    have W2 : Hid (Below w.heap.size w ((w.alloc (.cells #[] 2)).alloc (.cells #[] 2))) := ((Below.refl w.heap.size w).alloc (Nat.le_refl _) _).alloc (by simp) _
    have HO : Hid (((w.alloc (.cells #[] 2)).alloc (.cells #[] 2)).ownsRow (w.heap.size + 1) 2 1 (.slice (some ⟨w.heap.size + 1, 0, none⟩) 0 0) 0 []) := by
      unfold Hid
      have := ownsRow_empty (w.alloc (.cells #[] 2)) 2 1
      simpa using this
    clear h1 h2 hNM
    have HNW : Hid (∀ j u, ((List.range l).map fun j => Value.int .i64 (dig 1073741824 N j))[j]? = some u → ((w.alloc (.cells #[] 2)).alloc (.cells #[] 2)).cell? ((⟨g0, 0, none⟩ : Addr).add j) = some u) := fun j u hj => by
      rw [List.getElem?_map] at hj
      obtain ⟨j', hj1, rfl⟩ := Option.map_eq_some_iff.1 hj
      obtain ⟨hjl, rfl⟩ := List.getElem?_eq_some_iff.1 hj1
      rw [List.length_range] at hjl
      rw [List.getElem_range]
      obtain ⟨g, e, hg, hc⟩ := H1.out.2.2 j hjl
      cases e
      have := (W2.out.cell (p := ⟨g0, j, none⟩) hg).trans hc
      rcases j with _ | j <;> simpa [Addr.add] using this
    go_enter Try.func182, Try.ntmps182
    go_wp2_with (at_builtin; refine wpList_append_own _ rfl _ _ 113 rfl (w.heap.size + 1) 2 i0 (.int .i64 0) 1 8 Try.underlying113 hi hz0 hz1 hz2 rfl (by decide) _ 0 [] rfl HO.out ⟨g0, 0, none⟩ l c ((List.range l).map fun j => .int .i64 (dig 1073741824 (N) j)) rfl (by simp) HNW.out (by intro u hu; obtain ⟨j, _, rfl⟩ := List.mem_map.1 hu; rfl) (by unfold maxLen; omega) (by omega) (by simp) ?_; intro v1 w1 hown1 hgrow hnil)
    have hne : v1 ≠ .slice none 0 0 := fun e => by have := (hnil.1 e).1; cases this
    obtain ⟨g, cap, rfl, hR⟩ := na_of_own (R := N) H1.out.2.1 (by simpa using hown1) hne
    have HR := Lib.hid hR
    have HB := Lib.hid (W2.out.grown hgrow (by simp; omega) (fun q e => by cases e; show w.heap.size ≤ w.heap.size + 1; omega))
    have HA1 : Hid (∀ W : World, Na .i64 1073741824 W (some ⟨w.heap.size, 0, none⟩) 0 0 0) := fun W => Na.zero _ _ _ _ _
    clear hown1 hgrow hnil hR hne
    go_wp2
    go_ret2
    exact ⟨_, 0, 0, _, l, cap, rfl, by rw [HD.out]; exact HA1.out _, by rw [HM.out]; exact HR.out, HB.out⟩
  · obtain ⟨dd, hdd⟩ : ∃ dd, l = dd + m := ⟨l - m, by omega⟩
    have hmp : 0 < m := h2.2.1.pos.2 hM
    obtain ⟨q, hq⟩ : ∃ q, m = q + 1 := ⟨m - 1, by omega⟩
    have hl2 : dd + 1 + q = l := by omega
    have W2 : Hid (Below w.heap.size w ((w.alloc (.cells #[] 2)).alloc (.cells #[] 2))) := ((Below.refl w.heap.size w).alloc (Nat.le_refl _) _).alloc (by simp) _
    have HO : Hid (((w.alloc (.cells #[] 2)).alloc (.cells #[] 2)).ownsRow (w.heap.size + 1) 2 1 (.slice (some ⟨w.heap.size + 1, 0, none⟩) 0 0) 0 []) := by
      unfold Hid
      have := ownsRow_empty (w.alloc (.cells #[] 2)) 2 1
      simpa using this
    have H1 := Lib.hid h1
    have H2 := Lib.hid h2
    obtain ⟨ad, cc, hsl, hadd⟩ := slice_on 113 u0 g0 l c dd q h1.1 hl2
    have HLn : Hid (Ln 1073741824 (N / 1073741824 ^ (dd + 1)) q) := Ln.div (by omega) (by rw [hl2]; exact h1.2.1)
    have HNW : Hid (∀ j u, ((List.range q).map fun j => Value.int .i64 (dig 1073741824 (N / 1073741824 ^ (dd + 1)) j))[j]? = some u → ((w.alloc (.cells #[] 2)).alloc (.cells #[] 2)).cell? (ad.add j) = some u) := fun j u hj => by
      rw [List.getElem?_map] at hj
      obtain ⟨j', hj1, rfl⟩ := Option.map_eq_some_iff.1 hj
      obtain ⟨hjl, rfl⟩ := List.getElem?_eq_some_iff.1 hj1
      rw [List.length_range] at hjl
      rw [List.getElem_range, dig_div, hadd j hjl]
      obtain ⟨g, e, hg, hc⟩ := H1.out.2.2 (dd + 1 + j) (by omega)
      cases e
      exact (W2.out.cell (p := ⟨g0, dd + 1 + j, none⟩) hg).trans hc
    have hsub : (l : Int) - m = dd := by omega
    clear h1 h2 hadd hdd hq
    go_enter Try.func182, Try.ntmps182
    go_wp2_with (at_builtin; refine wpList_append_own _ rfl _ _ 113 rfl (w.heap.size + 1) 2 i0 (.int .i64 0) 1 8 Try.underlying113 hi hz0 hz1 hz2 rfl (by decide) _ 0 [] rfl HO.out ad q cc ((List.range q).map fun j => .int .i64 (dig 1073741824 (N / 1073741824 ^ (dd + 1)) j)) rfl (by simp) HNW.out (by intro u hu; obtain ⟨j, _, rfl⟩ := List.mem_map.1 hu; rfl) (by unfold maxLen; omega) (by omega) (by simp) ?_; intro v1 w1 hown1 hgrow hnil)
    have hne : v1 ≠ .slice none 0 0 := fun e => by have := (hnil.1 e).1; cases this
    obtain ⟨g, cap, rfl, hR⟩ := na_of_own (R := N / 1073741824 ^ (dd + 1)) HLn.out (by simpa using hown1) hne
    have HB := Lib.hid (W2.out.grown hgrow (by simp; omega) (fun q e => by cases e; show w.heap.size ≤ w.heap.size + 1; omega))
    clear hown1 hgrow hnil hne W2 HO HNW hsl
    have HR0 := Lib.hid hR
    clear hR
    go_wp2_with fail
    refine (bigOf_any 2 _ (by omega)).mono ?_
    rintro e w2 ⟨g2, l2, c2, rfl, ht, hb1⟩
    have HR1 := Lib.hid (HR0.out.far hb1)
    have HT1 := Lib.hid ht
    have HB1 := Lib.hid (HB.out.trans (hb1.mono HB.out.size))
    clear HR0 HB ht hb1
    go_wp2_with fail
    refine (bigOf_any 1 _ (by omega)).mono ?_
    rintro e w3 ⟨g3, l3, k3, rfl, ht, hb1⟩
    have HR2 := Lib.hid (HR1.out.far hb1)
    have HT2 := Lib.hid (HT1.out.far hb1)
    have HO2 := Lib.hid ht
    have HB2 := Lib.hid (HB1.out.trans (hb1.mono HB1.out.size))
    clear HR1 HT1 HB1 ht hb1
    have h2l : l2 ≤ 1000000 := by
      have := HT2.out.2.1.le (n := 1) (by omega) (by omega)
      omega
    have h1l : l3 ≤ 1000000 := by
      have := HO2.out.2.1.le (n := 1) (by omega) (by omega)
      omega
    have HX0 : Hid (Na .i64 1073741824 w3 (some ⟨w.heap.size, 0, none⟩) 0 0 0) := Na.zero _ _ _ _ _
    have HQ0 : Hid (N / 2 ^ (30 * (dd + 1)) = 0 * M + N / 1073741824 ^ (dd + 1)) := by
      have e : (1073741824 : Nat) = 2 ^ 30 := by decide
      unfold Hid
      rw [e, ← Nat.pow_mul]
      omega
    have hRM : N / 1073741824 ^ (dd + 1) < M := by
      refine Nat.lt_of_lt_of_le HLn.out.1 ?_
      have := H2.out.2.1.2.resolve_left (by omega)
      rwa [show m - 1 = q by omega] at this
    obtain ⟨n0, hn0⟩ : ∃ n0, 30 * (dd + 1) = n0 := ⟨_, rfl⟩
    have hii : ((dd : Int) + 1) * 30 - 1 = (n0 : Int) - 1 := by omega
    have hn1 : n0 ≤ 30 * l := by omega
    rw [hn0] at HQ0
    clear HLn hn0
    go_wp2
    clear hii
    generalize N / 1073741824 ^ (dd + 1) = R0 at HQ0 hRM HR2
    go_loopw [6, 8, 11] (fun xv rv iv wr => ∃ (i X R gx lx cx gr lr cr : Nat), i ≤ n0 ∧ iv = .int .i64 ((i : Int) - 1) ∧ xv = .slice (some ⟨gx, 0, none⟩) lx cx ∧ rv = .slice (some ⟨gr, 0, none⟩) lr cr ∧ Hid (N / 2 ^ i = X * M + R) ∧ R < M ∧ Hid (Na .i64 1073741824 wr (some ⟨gx, 0, none⟩) lx cx X) ∧ Hid (Na .i64 1073741824 wr (some ⟨gr, 0, none⟩) lr cr R) ∧ Hid (Na .i64 1073741824 wr (some ⟨g2, 0, none⟩) l2 c2 2) ∧ Hid (Na .i64 1073741824 wr (some ⟨g3, 0, none⟩) l3 k3 1) ∧ Hid (Below w.heap.size w wr)) (fun _ _ iv _ => (intOf iv + 1).toNat)
    case atStart => exact ⟨n0, 0, R0, _, _, _, _, _, _, Nat.le_refl _, rfl, rfl, rfl, HQ0, hRM, HX0, HR2, HT2, HO2, HB2⟩
    case round =>
      obtain ⟨i, X, R, gx, lx, cx, gr, lr, cr, hin, rfl, rfl, rfl, HQ, hR, HX, HR, HT2, HO2, HB⟩ := hrel
      rcases i with _ | i
      · obtain ⟨e1, e2⟩ := split_end HQ.out hR
        rw [e1] at HX
        rw [e2] at HR
        rw [show (((0 : Nat) : Int) - 1) = -1 from rfl]
        clear HQ e1 e2
        go_wp2
        go_ret2
        exact ⟨gx, lx, cx, gr, lr, cr, rfl, HX.out, HR.out, HB.out⟩
      · have hi30 : i / 30 < l := by omega
        have HG : Hid (g0 < w.heap.size) := by
          obtain ⟨g, e, hg, _⟩ := H1.out.2.2 (i / 30) hi30
          cases e
          exact hg
        obtain ⟨dv, hdv⟩ : ∃ dv, dig 1073741824 N (i / 30) = dv := ⟨_, rfl⟩
        have HC : Hid (w.cell? ⟨g0, i / 30, none⟩ = some (.int .i64 dv)) := by
          obtain ⟨g, e, hg, hc⟩ := H1.out.2.2 (i / 30) hi30
          cases e
          rw [hdv] at hc
          exact hc
        have hbit := bit_of N i
        rw [hdv] at hbit
        have hb := bit_one dv (i % 30)
        rw [hbit] at hb
        have HS := split_down HQ.out
        have hXN : X < 1073741824 ^ l ∧ X * 2 < 1073741824 ^ (l + 1) := by
          have e1 : X ≤ N := by
            have e2 : X * 1 ≤ X * M := Nat.mul_le_mul_left _ hM
            have e3 := Nat.div_le_self N (2 ^ (i + 1))
            rw [HQ.out] at e3
            omega
          have e4 := H1.out.2.1.1
          rw [Nat.pow_succ]
          omega
        have hRM2 : R * 2 + 1 < 1073741824 ^ (m + 1) := by
          have e4 := H2.out.2.1.1
          rw [Nat.pow_succ]
          omega
        have hlx : lx ≤ 1000000 := by have := HX.out.2.1.le (by omega) hXN.1; omega
        have hlr : lr ≤ 1000000 := by have := HR.out.2.1.le (by omega) (Nat.lt_trans hR H2.out.2.1.1); omega
        have HXb : Hid (∀ (W : World) {g l' c' : Nat}, Na .i64 1073741824 W (some ⟨g, 0, none⟩) l' c' (X * 2) → l' ≤ 1000000) := fun W g l' c' h => by have := h.2.1.le (by omega) hXN.2; omega
        have HRb : Hid (∀ (W : World) {g l' c' : Nat}, Na .i64 1073741824 W (some ⟨g, 0, none⟩) l' c' (R * 2) → l' ≤ 1000000) := fun W g l' c' h => by have := h.2.1.le (n := m + 1) (by omega) (by omega); omega
        have HRb2 : Hid (∀ (W : World) {g l' c' : Nat}, Na .i64 1073741824 W (some ⟨g, 0, none⟩) l' c' (R * 2 + 1) → l' ≤ 1000000) := fun W g l' c' h => by have := h.2.1.le (n := m + 1) (by omega) (by omega); omega
        have hi1 : ((i + 1 : Nat) : Int) - 1 = i := by omega
        rw [hi1]
        have hk0 : (0 : Int) ≤ i := by omega
        have hdq : (i : Int).tdiv 30 = ((i / 30 : Nat) : Int) := by rw [Int.tdiv_eq_ediv_of_nonneg hk0]; omega
        have hdr : (i : Int).tmod 30 = ((i % 30 : Nat) : Int) := by rw [Int.tmod_eq_emod_of_nonneg hk0]; omega
        obtain ⟨bt, hbt⟩ : ∃ bt, N / 2 ^ i % 2 = bt := ⟨_, rfl⟩
        rw [hbt] at hb HS
        have hbt2 : bt = 0 ∨ bt = 1 := by omega
        clear hXN hRM2 hbit hdv HQ hbt
        rcases hbt2 with rfl | rfl
        · by_cases hge : M ≤ R * 2
          · have HQ2 : Hid (N / 2 ^ i = (X * 2 + 1) * M + (R * 2 - M)) := by
              refine split_more ?_ hge
              rw [HS, Nat.mul_comm X 2, Nat.mul_comm R 2]
              omega
            obtain ⟨t, ht⟩ : ∃ t, c3 (R * 2) M = t := ⟨_, rfl⟩
            have ht0 : 0 ≤ t := by rw [← ht]; unfold c3; split <;> (try split) <;> omega
            have HCM := Lib.hid ht
            clear ht HS
            go_wp2_with fail
            refine (btimes_any _ _ _ _ _ _ X 2 _ HX.out HT2.out hlx h2l).mono ?_
            rintro e w1 ⟨gx1, lx1, cx1, rfl, hx1, hb1⟩
            have HX1 := Lib.hid hx1
            have HR1 := Lib.hid (HR.out.far hb1)
            have HT1 := Lib.hid (HT2.out.far hb1)
            have HO1 := Lib.hid (HO2.out.far hb1)
            have HB1 := Lib.hid (HB.out.trans (hb1.mono HB.out.size))
            clear hx1 HX HR HT2 HO2 HB hb1
            go_wp2_with fail
            refine (btimes_any _ _ _ _ _ _ R 2 _ HR1.out HT1.out hlr h2l).mono ?_
            rintro e w2 ⟨gr1, lr1, cr1, rfl, hr1, hb1⟩
            have HX2 := Lib.hid (HX1.out.far hb1)
            have HR2 := Lib.hid hr1
            have HT3 := Lib.hid (HT1.out.far hb1)
            have HO3 := Lib.hid (HO1.out.far hb1)
            have HB2 := Lib.hid (HB1.out.trans (hb1.mono HB1.out.size))
            clear hr1 HX1 HR1 HT1 HO1 HB1 hb1
            have c2 : w2.cell? ⟨g0, (i / 30 : Nat), none⟩ = some (.int .i64 dv) := (HB2.out.cell (p := ⟨g0, i / 30, none⟩) HG.out).trans HC.out
            have hlr1 := HRb.out _ HR2.out
            have hlx1 := HXb.out _ HX2.out
            have HX3 := HX2
            have HR3 := HR2
            have HT4 := HT3
            have HO4 := HO3
            have HB3 := HB2
            clear HX2 HR2 HT3 HO3 HB2
            go_wp2_with fail
            refine (bcmp_any _ _ _ _ _ _ (R * 2) M _ HR3.out (H2.out.far HB3.out) (by omega)).mono ?_
            rintro e w4 ⟨rfl, hb1⟩
            rw [HCM.out]
            have HX4 := Lib.hid (HX3.out.far hb1)
            have HR4 := Lib.hid (HR3.out.far hb1)
            have HT5 := Lib.hid (HT4.out.far hb1)
            have HO5 := Lib.hid (HO4.out.far hb1)
            have HB4 := Lib.hid (HB3.out.trans (hb1.mono HB3.out.size))
            clear HX3 HR3 HT4 HO4 HB3 hb1
            go_wp2_with fail
            refine (bminus_any _ _ _ _ _ _ (R * 2) M _ HR4.out (H2.out.far HB4.out) (by omega) hge).mono ?_
            rintro e w5 ⟨gr3, lr3, cr3, rfl, hr3, hb1⟩
            have HX5 := Lib.hid (HX4.out.far hb1)
            have HR5 := Lib.hid hr3
            have HT6 := Lib.hid (HT5.out.far hb1)
            have HO6 := Lib.hid (HO5.out.far hb1)
            have HB5 := Lib.hid (HB4.out.trans (hb1.mono HB4.out.size))
            clear hr3 HX4 HR4 HT5 HO5 HB4 hb1
            go_wp2_with fail
            refine (bplus_any _ _ _ _ _ _ (X * 2) 1 _ HX5.out HO6.out hlx1 h1l).mono ?_
            rintro e w6 ⟨gx2, lx2, cx2, rfl, hx2, hb1⟩
            have HX6 := Lib.hid hx2
            have HR6 := Lib.hid (HR5.out.far hb1)
            have HT7 := Lib.hid (HT6.out.far hb1)
            have HO7 := Lib.hid (HO6.out.far hb1)
            have HB6 := Lib.hid (HB5.out.trans (hb1.mono HB5.out.size))
            clear hx2 HX5 HR5 HT6 HO6 HB5 hb1
            go_wp2
            go_roundw
            case rel => exact ⟨i, (X * 2 + 1), (R * 2 - M), _, _, _, _, _, _, by omega, by go_num, by first | rfl | go_num, by first | rfl | go_num, HQ2, by omega, HX6, HR6, HT7, HO7, HB6⟩
            case measure => simp [intOf]
          · have HQ2 : Hid (N / 2 ^ i = X * 2 * M + R * 2) := by
              unfold Hid
              rw [HS, Nat.mul_comm X 2, Nat.mul_comm R 2]
              omega
            obtain ⟨t, ht⟩ : ∃ t, c3 (R * 2) M = t := ⟨_, rfl⟩
            have ht0 : ¬ 0 ≤ t := by rw [← ht]; unfold c3; rw [if_pos (by omega)]; omega
            have HCM := Lib.hid ht
            clear ht HS
            go_wp2_with fail
            refine (btimes_any _ _ _ _ _ _ X 2 _ HX.out HT2.out hlx h2l).mono ?_
            rintro e w1 ⟨gx1, lx1, cx1, rfl, hx1, hb1⟩
            have HX1 := Lib.hid hx1
            have HR1 := Lib.hid (HR.out.far hb1)
            have HT1 := Lib.hid (HT2.out.far hb1)
            have HO1 := Lib.hid (HO2.out.far hb1)
            have HB1 := Lib.hid (HB.out.trans (hb1.mono HB.out.size))
            clear hx1 HX HR HT2 HO2 HB hb1
            go_wp2_with fail
            refine (btimes_any _ _ _ _ _ _ R 2 _ HR1.out HT1.out hlr h2l).mono ?_
            rintro e w2 ⟨gr1, lr1, cr1, rfl, hr1, hb1⟩
            have HX2 := Lib.hid (HX1.out.far hb1)
            have HR2 := Lib.hid hr1
            have HT3 := Lib.hid (HT1.out.far hb1)
            have HO3 := Lib.hid (HO1.out.far hb1)
            have HB2 := Lib.hid (HB1.out.trans (hb1.mono HB1.out.size))
            clear hr1 HX1 HR1 HT1 HO1 HB1 hb1
            have c2 : w2.cell? ⟨g0, (i / 30 : Nat), none⟩ = some (.int .i64 dv) := (HB2.out.cell (p := ⟨g0, i / 30, none⟩) HG.out).trans HC.out
            have hlr1 := HRb.out _ HR2.out
            have hlx1 := HXb.out _ HX2.out
            have HX3 := HX2
            have HR3 := HR2
            have HT4 := HT3
            have HO4 := HO3
            have HB3 := HB2
            clear HX2 HR2 HT3 HO3 HB2
            go_wp2_with fail
            refine (bcmp_any _ _ _ _ _ _ (R * 2) M _ HR3.out (H2.out.far HB3.out) (by omega)).mono ?_
            rintro e w4 ⟨rfl, hb1⟩
            rw [HCM.out]
            have HX4 := Lib.hid (HX3.out.far hb1)
            have HR4 := Lib.hid (HR3.out.far hb1)
            have HT5 := Lib.hid (HT4.out.far hb1)
            have HO5 := Lib.hid (HO4.out.far hb1)
            have HB4 := Lib.hid (HB3.out.trans (hb1.mono HB3.out.size))
            clear HX3 HR3 HT4 HO4 HB3 hb1
            go_wp2
            go_roundw
            case rel => exact ⟨i, (X * 2), (R * 2), _, _, _, _, _, _, by omega, by go_num, by first | rfl | go_num, by first | rfl | go_num, HQ2, by omega, HX4, HR4, HT5, HO5, HB4⟩
            case measure => simp [intOf]
        · by_cases hge : M ≤ R * 2 + 1
          · have HQ2 : Hid (N / 2 ^ i = (X * 2 + 1) * M + (R * 2 + 1 - M)) := by
              refine split_more ?_ hge
              rw [HS, Nat.mul_comm X 2, Nat.mul_comm R 2]
            obtain ⟨t, ht⟩ : ∃ t, c3 (R * 2 + 1) M = t := ⟨_, rfl⟩
            have ht0 : 0 ≤ t := by rw [← ht]; unfold c3; split <;> (try split) <;> omega
            have HCM := Lib.hid ht
            clear ht HS
            go_wp2_with fail
            refine (btimes_any _ _ _ _ _ _ X 2 _ HX.out HT2.out hlx h2l).mono ?_
            rintro e w1 ⟨gx1, lx1, cx1, rfl, hx1, hb1⟩
            have HX1 := Lib.hid hx1
            have HR1 := Lib.hid (HR.out.far hb1)
            have HT1 := Lib.hid (HT2.out.far hb1)
            have HO1 := Lib.hid (HO2.out.far hb1)
            have HB1 := Lib.hid (HB.out.trans (hb1.mono HB.out.size))
            clear hx1 HX HR HT2 HO2 HB hb1
            go_wp2_with fail
            refine (btimes_any _ _ _ _ _ _ R 2 _ HR1.out HT1.out hlr h2l).mono ?_
            rintro e w2 ⟨gr1, lr1, cr1, rfl, hr1, hb1⟩
            have HX2 := Lib.hid (HX1.out.far hb1)
            have HR2 := Lib.hid hr1
            have HT3 := Lib.hid (HT1.out.far hb1)
            have HO3 := Lib.hid (HO1.out.far hb1)
            have HB2 := Lib.hid (HB1.out.trans (hb1.mono HB1.out.size))
            clear hr1 HX1 HR1 HT1 HO1 HB1 hb1
            have c2 : w2.cell? ⟨g0, (i / 30 : Nat), none⟩ = some (.int .i64 dv) := (HB2.out.cell (p := ⟨g0, i / 30, none⟩) HG.out).trans HC.out
            have hlr1 := HRb.out _ HR2.out
            have hlx1 := HXb.out _ HX2.out
            go_wp2_with fail
            refine (bplus_any _ _ _ _ _ _ (R * 2) 1 _ HR2.out HO3.out hlr1 h1l).mono ?_
            rintro e w3 ⟨gr2, lr2, cr2, rfl, hr2, hb1⟩
            have HX3 := Lib.hid (HX2.out.far hb1)
            have HR3 := Lib.hid hr2
            have HT4 := Lib.hid (HT3.out.far hb1)
            have HO4 := Lib.hid (HO3.out.far hb1)
            have HB3 := Lib.hid (HB2.out.trans (hb1.mono HB2.out.size))
            clear hr2 HX2 HR2 HT3 HO3 HB2 hb1 hlr1 c2
            have hlr1 := HRb2.out _ HR3.out
            go_wp2_with fail
            refine (bcmp_any _ _ _ _ _ _ (R * 2 + 1) M _ HR3.out (H2.out.far HB3.out) (by omega)).mono ?_
            rintro e w4 ⟨rfl, hb1⟩
            rw [HCM.out]
            have HX4 := Lib.hid (HX3.out.far hb1)
            have HR4 := Lib.hid (HR3.out.far hb1)
            have HT5 := Lib.hid (HT4.out.far hb1)
            have HO5 := Lib.hid (HO4.out.far hb1)
            have HB4 := Lib.hid (HB3.out.trans (hb1.mono HB3.out.size))
            clear HX3 HR3 HT4 HO4 HB3 hb1
            go_wp2_with fail
            refine (bminus_any _ _ _ _ _ _ (R * 2 + 1) M _ HR4.out (H2.out.far HB4.out) (by omega) hge).mono ?_
            rintro e w5 ⟨gr3, lr3, cr3, rfl, hr3, hb1⟩
            have HX5 := Lib.hid (HX4.out.far hb1)
            have HR5 := Lib.hid hr3
            have HT6 := Lib.hid (HT5.out.far hb1)
            have HO6 := Lib.hid (HO5.out.far hb1)
            have HB5 := Lib.hid (HB4.out.trans (hb1.mono HB4.out.size))
            clear hr3 HX4 HR4 HT5 HO5 HB4 hb1
            go_wp2_with fail
            refine (bplus_any _ _ _ _ _ _ (X * 2) 1 _ HX5.out HO6.out hlx1 h1l).mono ?_
            rintro e w6 ⟨gx2, lx2, cx2, rfl, hx2, hb1⟩
            have HX6 := Lib.hid hx2
            have HR6 := Lib.hid (HR5.out.far hb1)
            have HT7 := Lib.hid (HT6.out.far hb1)
            have HO7 := Lib.hid (HO6.out.far hb1)
            have HB6 := Lib.hid (HB5.out.trans (hb1.mono HB5.out.size))
            clear hx2 HX5 HR5 HT6 HO6 HB5 hb1
            go_wp2
            go_roundw
            case rel => exact ⟨i, (X * 2 + 1), (R * 2 + 1 - M), _, _, _, _, _, _, by omega, by go_num, by first | rfl | go_num, by first | rfl | go_num, HQ2, by omega, HX6, HR6, HT7, HO7, HB6⟩
            case measure => simp [intOf]
          · have HQ2 : Hid (N / 2 ^ i = X * 2 * M + (R * 2 + 1)) := by
              unfold Hid
              rw [HS, Nat.mul_comm X 2, Nat.mul_comm R 2]
            obtain ⟨t, ht⟩ : ∃ t, c3 (R * 2 + 1) M = t := ⟨_, rfl⟩
            have ht0 : ¬ 0 ≤ t := by rw [← ht]; unfold c3; rw [if_pos (by omega)]; omega
            have HCM := Lib.hid ht
            clear ht HS
            go_wp2_with fail
            refine (btimes_any _ _ _ _ _ _ X 2 _ HX.out HT2.out hlx h2l).mono ?_
            rintro e w1 ⟨gx1, lx1, cx1, rfl, hx1, hb1⟩
            have HX1 := Lib.hid hx1
            have HR1 := Lib.hid (HR.out.far hb1)
            have HT1 := Lib.hid (HT2.out.far hb1)
            have HO1 := Lib.hid (HO2.out.far hb1)
            have HB1 := Lib.hid (HB.out.trans (hb1.mono HB.out.size))
            clear hx1 HX HR HT2 HO2 HB hb1
            go_wp2_with fail
            refine (btimes_any _ _ _ _ _ _ R 2 _ HR1.out HT1.out hlr h2l).mono ?_
            rintro e w2 ⟨gr1, lr1, cr1, rfl, hr1, hb1⟩
            have HX2 := Lib.hid (HX1.out.far hb1)
            have HR2 := Lib.hid hr1
            have HT3 := Lib.hid (HT1.out.far hb1)
            have HO3 := Lib.hid (HO1.out.far hb1)
            have HB2 := Lib.hid (HB1.out.trans (hb1.mono HB1.out.size))
            clear hr1 HX1 HR1 HT1 HO1 HB1 hb1
            have c2 : w2.cell? ⟨g0, (i / 30 : Nat), none⟩ = some (.int .i64 dv) := (HB2.out.cell (p := ⟨g0, i / 30, none⟩) HG.out).trans HC.out
            have hlr1 := HRb.out _ HR2.out
            have hlx1 := HXb.out _ HX2.out
            go_wp2_with fail
            refine (bplus_any _ _ _ _ _ _ (R * 2) 1 _ HR2.out HO3.out hlr1 h1l).mono ?_
            rintro e w3 ⟨gr2, lr2, cr2, rfl, hr2, hb1⟩
            have HX3 := Lib.hid (HX2.out.far hb1)
            have HR3 := Lib.hid hr2
            have HT4 := Lib.hid (HT3.out.far hb1)
            have HO4 := Lib.hid (HO3.out.far hb1)
            have HB3 := Lib.hid (HB2.out.trans (hb1.mono HB2.out.size))
            clear hr2 HX2 HR2 HT3 HO3 HB2 hb1 hlr1 c2
            have hlr1 := HRb2.out _ HR3.out
            go_wp2_with fail
            refine (bcmp_any _ _ _ _ _ _ (R * 2 + 1) M _ HR3.out (H2.out.far HB3.out) (by omega)).mono ?_
            rintro e w4 ⟨rfl, hb1⟩
            rw [HCM.out]
            have HX4 := Lib.hid (HX3.out.far hb1)
            have HR4 := Lib.hid (HR3.out.far hb1)
            have HT5 := Lib.hid (HT4.out.far hb1)
            have HO5 := Lib.hid (HO4.out.far hb1)
            have HB4 := Lib.hid (HB3.out.trans (hb1.mono HB3.out.size))
            clear HX3 HR3 HT4 HO4 HB3 hb1
            go_wp2
            go_roundw
            case rel => exact ⟨i, (X * 2), (R * 2 + 1), _, _, _, _, _, _, by omega, by go_num, by first | rfl | go_num, by first | rfl | go_num, HQ2, by omega, HX4, HR4, HT5, HO5, HB4⟩
            case measure => simp [intOf]
end Go.Proofs.Ytmnnpkmjamhmcab
