/- Cycles of congruences: spec.StateCycle, impl.StateCycle, IsFull, FactorOrder and their laws. -/
import Derived.Test.YtmapbaomfaplmaaCycK
import Derived.Test.YtmapbaomfaplmaaCycVis
import Derived.Test.YtmapbaomfaplmaaConLaws
import Derived.Test.YtmapbaomfaplmaaSlice64
import Derived.Test.YtmapbaomfaplmaaInvMath
import Derived.Test.YtmapbaomfaplmaaGcd
namespace Go.Proofs.Ytmapbaomfaplmaa
open Go.RowKit Go.PlainAid
set_option maxHeartbeats 800000

theorem itc_steps (m a c x : Nat) : Steps (itc m a c x) := fun i j h => by
  show nx m a c (itc m a c x i) = nx m a c (itc m a c x j)
  rw [h]
/-- what a world holds of the congruence while the table is filled -/
def KIn (w wr : World) (g : Nat) (m a c : Int) : Prop := wr.cell? ⟨g, 0, none⟩ = some (.int .i64 m) ∧ wr.cell? ⟨g, 1, none⟩ = some (.int .i64 a) ∧ wr.cell? ⟨g, 2, none⟩ = some (.int .i64 c) ∧ g < w.heap.size ∧ Below w.heap.size w wr
theorem KIn.below {w wr w1 : World} {g : Nat} {m a c : Int} (h : KIn w wr g m a c) (hb : Below w.heap.size wr w1) : KIn w w1 g m a c :=
  ⟨(hb.cell (p := ⟨g, 0, none⟩) h.2.2.2.1).trans h.1, (hb.cell (p := ⟨g, 1, none⟩) h.2.2.2.1).trans h.2.1, (hb.cell (p := ⟨g, 2, none⟩) h.2.2.2.1).trans h.2.2.1, h.2.2.2.1, h.2.2.2.2.trans hb⟩
theorem KIn.drewN {w wr : World} {g : Nat} {m a c : Int} (h : KIn w wr g m a c) (n : Nat) : KIn w (wr.drewN n) g m a c := ⟨h.1, h.2.1, h.2.2.1, h.2.2.2.1, below_drewN h.2.2.2.2 n⟩

set_option maxRecDepth 10000 in
theorem l03Cycle_any (g m a c x : Nat) (w : World) (h0 : w.cell? ⟨g, 0, none⟩ = some (.int .i64 m)) (hc1 : w.cell? ⟨g, 1, none⟩ = some (.int .i64 a)) (hc2 : w.cell? ⟨g, 2, none⟩ = some (.int .i64 c)) (h1 : 2 ≤ m) (h2 : m ≤ 100000) (h3 : a < m) (h4 : c < m) (h5 : x < m) :
    Calls Try.prog 54 #[.pointer (some ⟨g, 0, none⟩), .int .i64 x] w fun e w' => ∃ b p : Nat, e = .returned (.tuple #[.int .i64 b, .int .i64 p]) ∧ CycP (itc m a c x) b p ∧ Below w.heap.size w w' := by
  obtain ⟨i0, hi, hz0, hz1, hz2⟩ := info_parts Try.info2
  have HL : Hid (∀ k, itc m a c x k < m) := fun k => itc_lt h5 k
  have HN : Hid (∀ (k : Nat) (w : World), w.cell? ⟨g, 0, none⟩ = some (.int .i64 m) → w.cell? ⟨g, 1, none⟩ = some (.int .i64 a) → w.cell? ⟨g, 2, none⟩ = some (.int .i64 c) → Calls Try.prog 45 #[.pointer (some ⟨g, 0, none⟩), .int .i64 (itc m a c x k)] w fun e w' => e = .returned (.int .i64 (itc m a c x (k + 1))) ∧ ∃ m, w' = w.drewN m) := fun k w e1 e2 e3 => l03Step_any g m a c _ w e1 e2 e3 h1 h2 (by omega) (by omega) (by have := itc_lt (a := a) (c := c) h5 k; omega)
  have HK : Hid (KIn w w g m a c) := ⟨h0, hc1, hc2, World.block_lt_of_cell? w _ h0, Below.refl _ _⟩
  have hm0 : ¬ (m : Int) < 0 := by omega
  clear hc1 hc2 h3 h4 h5
  go_enter Try.func54, Try.ntmps54
  go_wp2_with (at_make; refine wpList_make_full _ rfl _ _ 31 rfl w.heap.size 2 i0 _ 1 Try.underlying31 hi hz0 hz1 _ _ _ _ m rfl rfl rfl rfl (by rw [hz2]; omega) (by unfold maxLen; omega) (Nat.le_refl _) ?_; intro w3 hown hgrow)
  have hown3 : w3.ownsRow w.heap.size 2 1 (.slice (some ⟨w.heap.size, 0, none⟩) m m) m ((visL (itc m a c x) m 0).map (Value.int .i64)) := by
    rw [pad_made] at hown
    simpa [visL, pad] using hown
  have K3 : Hid (KIn w w3 g m a c) := HK.out.below ((Below.refl w.heap.size w).grown hgrow (Nat.le_refl _) (by simp))
  clear hown hgrow HK h0
  go_loopw [1, 7] (fun st n wr => ∃ k : Nat, k ≤ m ∧ st = .int .i64 (itc m a c x k) ∧ n = .int .i64 ((k : Int) + 1) ∧ wr.ownsRow w.heap.size 2 1 (.slice (some ⟨w.heap.size, 0, none⟩) m m) m ((visL (itc m a c x) m k).map (Value.int .i64)) ∧ Hid (KIn w wr g m a c) ∧ Hid (Unlike (itc m a c x) k)) (fun _ n _ => m + 1 - (intOf n).toNat)
  case atStart => exact ⟨0, Nat.zero_le _, rfl, rfl, hown3, K3, fun i j _ hj => by omega⟩
  case round =>
    obtain ⟨k, hk, rfl, rfl, hown, R4, HU⟩ := hrel
    clear hown3 K3
    have hlt := HL.out k
    obtain ⟨X, hX⟩ : ∃ X, itc m a c x k = X := ⟨_, rfl⟩
    have HX := Lib.hid hX
    have HNk := HN.out k
    rw [hX] at hlt HNk ⊢
    have HNk := Lib.hid HNk
    have hk2 : k < 1000000 := by omega
    rcases visL_get (itc m a c x) m X hlt k with ⟨hv, hno⟩ | ⟨j, hj, hsj, hv⟩
    · have HU2 : Hid (Unlike (itc m a c x) (k + 1)) := HU.out.next fun j hj => by rw [HX.out]; exact hno j hj
      have hkN : k < m := Unlike.room HL.out HU2.out
      have HV : Hid (visL (itc m a c x) m (k + 1) = (visL (itc m a c x) m k).set X ((k : Int) + 1)) := by
        show (visL (itc m a c x) m k).set (itc m a c x k) _ = _
        rw [HX.out]
      obtain ⟨hc, hf⟩ := vis_at hown hlt hv
      have hput := vis_put hown (x := X) ((k : Int) + 1)
      rw [← HV.out] at hput
      have HO := Lib.hid hput
      have R5 : Hid (KIn w (wr.setCell ⟨w.heap.size, X, none⟩ (.int .i64 ((k : Int) + 1))) g m a c) := R4.out.below ((Below.refl w.heap.size wr).setCell (p := ⟨w.heap.size, X, none⟩) (Nat.le_refl _) _)
      clear hown hput R4 hX hv hno
      go_wp2_with fail
      generalize wr.setCell ⟨w.heap.size, X, none⟩ (.int .i64 ((k : Int) + 1)) = wx at HO R5 ⊢
      refine (HNk.out _ R5.out.1 R5.out.2.1 R5.out.2.2.1).mono ?_
      rintro e w5 ⟨rfl, m2, rfl⟩
      have HO5 := Lib.hid (own_drewNR HO.out m2)
      have R6 := Lib.hid (R5.out.drewN m2)
      generalize wx.drewN m2 = w5 at HO5 R6 ⊢
      clear HO R5 hc hf HNk
      go_wp2
      go_roundw
      case rel => exact ⟨k + 1, hkN, rfl, by go_num, HO5.out, R6.out, HU2.out⟩
      case measure => simp [intOf]; omega
    · obtain ⟨hc, hf⟩ := vis_at hown hlt hv
      have HC : Hid (CycP (itc m a c x) j (k - j)) := HU.out.cyc (itc_steps m a c x) hj (by rw [hsj, HX.out])
      have t1 : (((j : Int) + 1) == 0) = false := by rw [beq_eq_false_iff_ne]; omega
      have HB := Lib.hid R4.out.2.2.2.2
      clear hown hv hX hsj R4 HNk
      go_wp2
      go_quiet (fail)
      go_wp2
      go_ret2
      have e : ((k : Int) + 1 - ((j : Int) + 1)) = ((k - j : Nat) : Int) := by omega
      exact ⟨j, k - j, congrArg (fun x => Ending.returned (.tuple #[.int .i64 j, .int .i64 x])) e, HC.out, below_drewN HB.out _⟩
theorem cycK_any (m a c x : Nat) (w : World) (h1 : 2 ≤ m) (h2 : m ≤ 100000) (h3 : a < m) (h4 : c < m) (h5 : x < m) :
    Calls Try.prog 55 #[.func (.func 47) #[] #[], .agg #[.int .i64 m, .int .i64 a, .int .i64 c], .int .i64 x] w fun e w' => (∃ b' c' : Nat, e = .returned (.tuple #[.int .i64 b', .int .i64 c']) ∧ CycP (itc m a c x) b' c') ∧ Below w.heap.size w w' := by
  obtain ⟨b, p, k0, k1, k2⟩ := comes_again (s := itc m a c x) (N := m) (fun i => itc_lt h5 i)
  exact cycleK_any (itc m a c x) m a c w m b p (itc_steps m a c x) k0 k1 k2 h2 (fun k V => nextK_any m a c (itc m a c x k) V h1 h2 (by omega) (by omega) (by have := itc_lt (a := a) (c := c) h5 k; omega))
theorem stateCycle_yes (m a c x : Nat) (w : World) (h1 : 2 ≤ m) (h2 : m ≤ 100000) (h3 : a < m) (h4 : c < m) (h5 : x < m) (b p : Nat) (hC : CycP (itc m a c x) b p) :
    Calls Try.prog 33 #[.agg #[.int .i64 m, .int .i64 a, .int .i64 c], .int .i64 x] w fun e w' => e = .returned (.tuple #[.int .i64 b, .int .i64 p, .bool true]) ∧ Below w.heap.size w w' := by
  have HS : Hid (ConS m a c x) := conS_nat h1 h2 h3 h4 h5
  have HC : Hid (∀ w : World, Calls Try.prog 55 #[.func (.func 47) #[] #[], .agg #[.int .i64 m, .int .i64 a, .int .i64 c], .int .i64 x] w fun e w' => e = .returned (.tuple #[.int .i64 b, .int .i64 p]) ∧ Below w.heap.size w w') := fun w => (cycK_any m a c x w h1 h2 h3 h4 h5).mono fun e w' ⟨⟨b', c', he, hc⟩, hb⟩ => ⟨by rw [he, (hc.unique hC).1, (hc.unique hC).2], hb⟩
  clear h1 h2 h3 h4 h5 hC
  go_enter Try.func33, Try.ntmps33
  go_wp2_with fail
  have K0 := KAt.new w (.int .i64 m) (.int .i64 a) (.int .i64 c) 25
  generalize w.alloc (.cells #[.int .i64 m, .int .i64 a, .int .i64 c] 25) = w0 at K0 ⊢
  refine (hasStateK_b _ _ _ _ true _ (decide_eq_true HS.out)).mono ?_
  rintro e w1 ⟨rfl, hb⟩
  have K1 := Lib.hid (K0.below hb)
  clear hb K0
  obtain ⟨c0, c1, c2, _⟩ := K1.out
  go_wp2_with fail
  refine (HC.out _).mono ?_
  rintro e w2 ⟨rfl, hb⟩
  have K2 := Lib.hid (K1.out.below hb)
  clear hb K1 c0 c1 c2
  go_wp2
  go_ret3
  exact ⟨rfl, K2.out.all⟩
theorem stateCycle_no (m a c x : Int) (w : World) (h : ¬ ConS m a c x) :
    Calls Try.prog 33 #[.agg #[.int .i64 m, .int .i64 a, .int .i64 c], .int .i64 x] w fun e w' => e = .returned (.tuple #[.int .i64 0, .int .i64 0, .bool false]) ∧ Below w.heap.size w w' := by
  have HS := Lib.hid h
  clear h
  go_enter Try.func33, Try.ntmps33
  go_wp2_with fail
  refine (hasStateK_b _ _ _ _ false _ (decide_eq_false HS.out)).mono ?_
  rintro e w1 ⟨rfl, hb⟩
  have b1 := ((Below.refl w.heap.size w).alloc (Nat.le_refl _) _).trans (hb.mono (by simp))
  clear hb
  go_wp2
  go_ret3
  exact ⟨rfl, b1⟩
theorem specCycleK_yes (m a c x : Nat) (w : World) (h1 : 2 ≤ m) (h2 : m ≤ 100000) (h3 : a < m) (h4 : c < m) (h5 : x < m) (b p : Nat) (hC : CycP (itc m a c x) b p) :
    Calls Try.prog 32 #[.agg #[.int .i64 m, .int .i64 a, .int .i64 c], .int .i64 x] w fun e w' => e = .returned (.tuple #[.int .i64 b, .int .i64 p, .bool true]) ∧ Below w.heap.size w w' := by
  have HS : Hid (ConS m a c x) := conS_nat h1 h2 h3 h4 h5
  have HC : Hid (∀ (g : Nat) (w : World), w.cell? ⟨g, 0, none⟩ = some (.int .i64 m) → w.cell? ⟨g, 1, none⟩ = some (.int .i64 a) → w.cell? ⟨g, 2, none⟩ = some (.int .i64 c) → Calls Try.prog 54 #[.pointer (some ⟨g, 0, none⟩), .int .i64 x] w fun e w' => e = .returned (.tuple #[.int .i64 b, .int .i64 p]) ∧ Below w.heap.size w w') := fun g w e1 e2 e3 => (l03Cycle_any g m a c x w e1 e2 e3 h1 h2 h3 h4 h5).mono fun e w' ⟨b', c', he, hc, hb⟩ => ⟨by rw [he, (hc.unique hC).1, (hc.unique hC).2], hb⟩
  clear h1 h2 h3 h4 h5 hC
  go_enter Try.func32, Try.ntmps32
  go_wp2_with fail
  have K0 := KAt.new w (.int .i64 m) (.int .i64 a) (.int .i64 c) 25
  generalize w.alloc (.cells #[.int .i64 m, .int .i64 a, .int .i64 c] 25) = w0 at K0 ⊢
  refine (l03Both_b w.heap.size m a c x true _ K0.1 K0.2.1 K0.2.2.1 (decide_eq_true HS.out)).mono ?_
  rintro e w1 ⟨rfl, m1, rfl⟩
  have K1 := Lib.hid (K0.drewN m1)
  clear K0
  generalize w0.drewN m1 = w1 at K1 ⊢
  go_wp2_with fail
  refine (HC.out _ _ K1.out.1 K1.out.2.1 K1.out.2.2.1).mono ?_
  rintro e w2 ⟨rfl, hb⟩
  have K2 := Lib.hid (K1.out.below hb)
  clear hb K1
  go_wp2
  go_ret3
  exact ⟨rfl, K2.out.all⟩
theorem specCycleK_no (m a c x : Int) (w : World) (h : ¬ ConS m a c x) :
    Calls Try.prog 32 #[.agg #[.int .i64 m, .int .i64 a, .int .i64 c], .int .i64 x] w fun e w' => e = .returned (.tuple #[.int .i64 0, .int .i64 0, .bool false]) ∧ Below w.heap.size w w' := by
  have HS := Lib.hid h
  clear h
  go_enter Try.func32, Try.ntmps32
  go_wp2_with (go_at_call 44; refine (l03Both_b w.heap.size m a c x false _ (by simp [go_sem]) (by simp [go_sem]) (by simp [go_sem]) (decide_eq_false HS.out)).mono ?_; rintro e w1 ⟨rfl, m, rfl⟩)
  go_ret3
  exact ⟨rfl, below_drewN ((Below.refl _ _).alloc (Nat.le_refl _) _) _⟩
theorem itc_cyc {m a c x : Nat} (h : x < m) : ∃ b p, CycP (itc m a c x) b p := cyc_exists (itc_steps m a c x) (N := m) (fun i => itc_lt h i)
theorem lawCycleK_of (m a c x : Int) (v u : Int) (r : Bool) (w : World)
    (S : Hid (∀ w : World, Calls Try.prog 32 #[.agg #[.int .i64 m, .int .i64 a, .int .i64 c], .int .i64 x] w fun e w' => e = .returned (.tuple #[.int .i64 v, .int .i64 u, .bool r]) ∧ Below w.heap.size w w'))
    (I : Hid (∀ w : World, Calls Try.prog 33 #[.agg #[.int .i64 m, .int .i64 a, .int .i64 c], .int .i64 x] w fun e w' => e = .returned (.tuple #[.int .i64 v, .int .i64 u, .bool r]) ∧ Below w.heap.size w w')) :
    Calls Try.prog 9 #[.agg #[.int .i64 m, .int .i64 a, .int .i64 c], .int .i64 x] w fun e w' => e = .returned (.bool true) ∧ Below w.heap.size w w' := by
  have e0 : (v != v) = false := by simp
  have e1 : (u != u) = false := by simp
  have e2 : (r != r) = false := by simp
  go_enter Try.func9, Try.ntmps9
  go_wp2_with fail
  have K := KAt.new w (.int .i64 m) (.int .i64 a) (.int .i64 c) 23
  generalize w.alloc (.cells #[.int .i64 m, .int .i64 a, .int .i64 c] 23) = w0 at K ⊢
  refine (toCon_any _ _ _ _).mono ?_
  rintro e w1 ⟨rfl, hb⟩
  have K1 := K.below hb
  clear hb K
  go_wp2_with fail
  refine (S.out _).mono ?_
  rintro e w2 ⟨rfl, hb⟩
  have K2 := Lib.hid (K1.below hb)
  clear hb K1
  obtain ⟨x0, x1, x2, _⟩ := K2.out
  go_wp2_with fail
  refine (toCon_any _ _ _ _).mono ?_
  rintro e w3 ⟨rfl, hb⟩
  have K3 := K2.out.below hb
  clear hb K2 x0 x1 x2
  go_wp2_with fail
  refine (I.out _).mono ?_
  rintro e w4 ⟨rfl, hb⟩
  have K4 := Lib.hid (K3.below hb)
  clear hb K3
  go_wp2
  go_ret
  exact ⟨rfl, K4.out.all⟩
theorem lawCycleK (m a c x : Int) (w : World) :
    Calls Try.prog 9 #[.agg #[.int .i64 m, .int .i64 a, .int .i64 c], .int .i64 x] w fun e w' => e = .returned (.bool true) ∧ Below w.heap.size w w' := by
  by_cases h : ConS m a c x
  · obtain ⟨M, A, C, X, rfl, rfl, rfl, rfl, h1, h2, h3, h4, h5⟩ := h.nat
    obtain ⟨b, p, hC⟩ := itc_cyc (m := M) (a := A) (c := C) h5
    exact lawCycleK_of _ _ _ _ _ _ _ w (fun W => specCycleK_yes M A C X W h1 h2 h3 h4 h5 b p hC) (fun W => stateCycle_yes M A C X W h1 h2 h3 h4 h5 b p hC)
  · exact lawCycleK_of _ _ _ _ 0 0 false w (fun W => specCycleK_no m a c x W h) (fun W => stateCycle_no m a c x W h)
theorem isFull_yes (m a c : Nat) (w : World) (h1 : 2 ≤ m) (h2 : m ≤ 100000) (h3 : a < m) (h4 : c < m) (b p : Nat) (hC : CycP (itc m a c 0) b p) (r : Bool) (hr : decide (p = m) = r) :
    Calls Try.prog 35 #[.agg #[.int .i64 m, .int .i64 a, .int .i64 c]] w fun e w' => e = .returned (.bool r) ∧ Below w.heap.size w w' := by
  have HC : Hid (∀ w : World, Calls Try.prog 33 #[.agg #[.int .i64 m, .int .i64 a, .int .i64 c], .int .i64 0] w fun e w' => e = .returned (.tuple #[.int .i64 b, .int .i64 p, .bool true]) ∧ Below w.heap.size w w') := fun w => stateCycle_yes m a c 0 w h1 h2 h3 h4 (by omega) b p hC
  have t1 : ((p : Int) == (m : Int)) = r := by
    rw [← hr]
    by_cases e : p = m
    · rw [e]; simp
    · simp [e]; omega
  clear h1 h2 h3 h4 hC hr
  go_enter Try.func35, Try.ntmps35
  go_wp2_with fail
  have K0 := KAt.new w (.int .i64 m) (.int .i64 a) (.int .i64 c) 25
  generalize w.alloc (.cells #[.int .i64 m, .int .i64 a, .int .i64 c] 25) = w0 at K0 ⊢
  refine (HC.out _).mono ?_
  rintro e w1 ⟨rfl, hb⟩
  have K1 := Lib.hid (K0.below hb)
  clear hb K0
  obtain ⟨c0, c1, c2, _⟩ := K1.out
  go_wp2
  go_ret
  exact ⟨rfl, K1.out.all⟩
theorem isFull_no (m a c : Int) (w : World) (h : ¬ ConP m a c) :
    Calls Try.prog 35 #[.agg #[.int .i64 m, .int .i64 a, .int .i64 c]] w fun e w' => e = .returned (.bool false) ∧ Below w.heap.size w w' := by
  have HS : Hid (¬ ConS m a c 0) := fun x => h x.1
  clear h
  go_enter Try.func35, Try.ntmps35
  go_wp2_with fail
  refine (stateCycle_no _ _ _ _ _ HS.out).mono ?_
  rintro e w1 ⟨rfl, hb⟩
  have b1 := ((Below.refl w.heap.size w).alloc (Nat.le_refl _) _).trans (hb.mono (by simp))
  clear hb
  go_wp2
  go_ret
  exact ⟨rfl, b1⟩
theorem specFull_yes (m a c : Nat) (w : World) (h1 : 2 ≤ m) (h2 : m ≤ 100000) (h3 : a < m) (h4 : c < m) (b p : Nat) (hC : CycP (itc m a c 0) b p) (r : Bool) (hr : decide (p = m) = r) :
    Calls Try.prog 34 #[.agg #[.int .i64 m, .int .i64 a, .int .i64 c]] w fun e w' => e = .returned (.bool r) ∧ Below w.heap.size w w' := by
  have HS : Hid (ConP m a c) := conP_nat h1 h2 h3 h4
  have HC : Hid (∀ (g : Nat) (w : World), w.cell? ⟨g, 0, none⟩ = some (.int .i64 m) → w.cell? ⟨g, 1, none⟩ = some (.int .i64 a) → w.cell? ⟨g, 2, none⟩ = some (.int .i64 c) → Calls Try.prog 54 #[.pointer (some ⟨g, 0, none⟩), .int .i64 0] w fun e w' => e = .returned (.tuple #[.int .i64 b, .int .i64 p]) ∧ Below w.heap.size w w') := fun g w e1 e2 e3 => (l03Cycle_any g m a c 0 w e1 e2 e3 h1 h2 h3 h4 (by omega)).mono fun e w' ⟨b', c', he, hc, hb⟩ => ⟨by rw [he, (hc.unique hC).1, (hc.unique hC).2], hb⟩
  have t1 : ((p : Int) == (m : Int)) = r := by
    rw [← hr]
    by_cases e : p = m
    · rw [e]; simp
    · simp [e]; omega
  clear h1 h2 h3 h4 hC hr
  go_enter Try.func34, Try.ntmps34
  go_wp2_with fail
  have K0 := KAt.new w (.int .i64 m) (.int .i64 a) (.int .i64 c) 25
  generalize w.alloc (.cells #[.int .i64 m, .int .i64 a, .int .i64 c] 25) = w0 at K0 ⊢
  refine (l03Is_b w.heap.size m a c true _ K0.1 K0.2.1 K0.2.2.1 (decide_eq_true HS.out)).mono ?_
  rintro e w1 ⟨rfl, m1, rfl⟩
  have K1 := Lib.hid (K0.drewN m1)
  clear K0
  generalize w0.drewN m1 = w1 at K1 ⊢
  go_wp2_with fail
  refine (HC.out _ _ K1.out.1 K1.out.2.1 K1.out.2.2.1).mono ?_
  rintro e w2 ⟨rfl, hb⟩
  have K2 := Lib.hid (K1.out.below hb)
  clear hb K1
  obtain ⟨c0, c1, c2, _⟩ := K2.out
  go_wp2
  go_ret
  exact ⟨rfl, K2.out.all⟩
theorem specFull_no (m a c : Int) (w : World) (h : ¬ ConP m a c) :
    Calls Try.prog 34 #[.agg #[.int .i64 m, .int .i64 a, .int .i64 c]] w fun e w' => e = .returned (.bool false) ∧ Below w.heap.size w w' := by
  have HS := Lib.hid h
  clear h
  go_enter Try.func34, Try.ntmps34
  go_wp2_with (go_at_call 41; refine (l03Is_b w.heap.size m a c false _ (by simp [go_sem]) (by simp [go_sem]) (by simp [go_sem]) (decide_eq_false HS.out)).mono ?_; rintro e w1 ⟨rfl, m, rfl⟩)
  go_ret
  exact ⟨rfl, below_drewN ((Below.refl _ _).alloc (Nat.le_refl _) _) _⟩
theorem lawFullK_of (m a c : Int) (r : Bool) (w : World)
    (S : Hid (∀ w : World, Calls Try.prog 34 #[.agg #[.int .i64 m, .int .i64 a, .int .i64 c]] w fun e w' => e = .returned (.bool r) ∧ Below w.heap.size w w'))
    (I : Hid (∀ w : World, Calls Try.prog 35 #[.agg #[.int .i64 m, .int .i64 a, .int .i64 c]] w fun e w' => e = .returned (.bool r) ∧ Below w.heap.size w w')) :
    Calls Try.prog 10 #[.agg #[.int .i64 m, .int .i64 a, .int .i64 c]] w fun e w' => e = .returned (.bool true) ∧ Below w.heap.size w w' := by
  have e0 : (r != r) = false := by simp
  go_enter Try.func10, Try.ntmps10
  go_wp2_with fail
  have K := KAt.new w (.int .i64 m) (.int .i64 a) (.int .i64 c) 23
  generalize w.alloc (.cells #[.int .i64 m, .int .i64 a, .int .i64 c] 23) = w0 at K ⊢
  refine (toCon_any _ _ _ _).mono ?_
  rintro e w1 ⟨rfl, hb⟩
  have K1 := K.below hb
  clear hb K
  go_wp2_with fail
  refine (S.out _).mono ?_
  rintro e w2 ⟨rfl, hb⟩
  have K2 := Lib.hid (K1.below hb)
  clear hb K1
  obtain ⟨x0, x1, x2, _⟩ := K2.out
  go_wp2_with fail
  refine (toCon_any _ _ _ _).mono ?_
  rintro e w3 ⟨rfl, hb⟩
  have K3 := K2.out.below hb
  clear hb K2 x0 x1 x2
  go_wp2_with fail
  refine (I.out _).mono ?_
  rintro e w4 ⟨rfl, hb⟩
  have K4 := Lib.hid (K3.below hb)
  clear hb K3
  go_wp2
  go_ret
  exact ⟨rfl, K4.out.all⟩
theorem lawFullK (m a c : Int) (w : World) :
    Calls Try.prog 10 #[.agg #[.int .i64 m, .int .i64 a, .int .i64 c]] w fun e w' => e = .returned (.bool true) ∧ Below w.heap.size w w' := by
  by_cases h : ConP m a c
  · obtain ⟨M, A, C, rfl, rfl, rfl, h1, h2, h3, h4⟩ := h.nat
    obtain ⟨b, p, hC⟩ := itc_cyc (m := M) (a := A) (c := C) (x := 0) (by omega)
    exact lawFullK_of _ _ _ _ w (fun W => specFull_yes M A C W h1 h2 h3 h4 b p hC _ rfl) (fun W => isFull_yes M A C W h1 h2 h3 h4 b p hC _ rfl)
  · exact lawFullK_of _ _ _ false w (fun W => specFull_no m a c W h) (fun W => isFull_no m a c W h)
end Go.Proofs.Ytmapbaomfaplmaa
