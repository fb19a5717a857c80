/- Congruences one after another: impl.then, impl.power, spec.l03Then, spec.l03Power. -/
import Derived.Test.YtmapbaomfaplmaaCon
import Derived.Test.YtmapbaomfaplmaaQTail
import Derived.Test.YtmapbaomfaplmaaCycA
import Derived.BigRegion
namespace Go.Proofs.Ytmapbaomfaplmaa
open Go.RowKit Go.PlainAid
set_option maxHeartbeats 800000

/-- a struct of three in block b, writable -/
def C3 (V : World) (b : Nat) (x y z : Value) : Prop := (V.cell? ⟨b, 0, none⟩ = some x ∧ V.cell? ⟨b, 1, none⟩ = some y ∧ V.cell? ⟨b, 2, none⟩ = some z) ∧ V.frozen? ⟨b, 0, none⟩ = false ∧ V.frozen? ⟨b, 1, none⟩ = false ∧ V.frozen? ⟨b, 2, none⟩ = false
theorem C3.lt {V : World} {b : Nat} {x y z : Value} (h : C3 V b x y z) : b < V.heap.size := World.block_lt_of_cell? V _ h.1.1
theorem C3.below {V V1 : World} {b n : Nat} {x y z : Value} (h : C3 V b x y z) (hb : Below n V V1) (hn : b < n) : C3 V1 b x y z :=
  ⟨⟨(hb.cell (p := ⟨b, 0, none⟩) hn).trans h.1.1, (hb.cell (p := ⟨b, 1, none⟩) hn).trans h.1.2.1, (hb.cell (p := ⟨b, 2, none⟩) hn).trans h.1.2.2⟩,
    (hb.frozen (p := ⟨b, 0, none⟩) hn).trans h.2.1, (hb.frozen (p := ⟨b, 1, none⟩) hn).trans h.2.2.1, (hb.frozen (p := ⟨b, 2, none⟩) hn).trans h.2.2.2⟩
theorem C3.new (w : World) (x y z : Value) (t : TypeId) : C3 (w.alloc (.cells #[x, y, z] t)) w.heap.size x y z := ⟨⟨by simp [go_sem], by simp [go_sem], by simp [go_sem]⟩, by simp [go_sem], by simp [go_sem], by simp [go_sem]⟩
theorem C3.alloc {V : World} {b : Nat} {x y z : Value} (h : C3 V b x y z) (o : Obj) : C3 (V.alloc o) b x y z := h.below ((Below.refl _ V).alloc (Nat.le_refl _) o) h.lt
theorem C3.drewN {V : World} {b : Nat} {x y z : Value} (h : C3 V b x y z) (m : Nat) : C3 (V.drewN m) b x y z := h
theorem C3.drew {V : World} {b : Nat} {x y z : Value} (h : C3 V b x y z) : C3 V.drew b x y z := h
/-- the world behind a struct that is stored -/
def put3 (V : World) (b : Nat) (x y z : Value) : World := ((V.setCell ⟨b, 0, none⟩ x).setCell ⟨b, 1, none⟩ y).setCell ⟨b, 2, none⟩ z
theorem set_ne {V : World} {p q : Addr} {v : Value} (h : p ≠ q) : (V.setCell p v).cell? q = V.cell? q := World.cell?_setCell_other V _ _ _ h
theorem ne_addr {b c i j : Nat} (h : i ≠ j ∨ b ≠ c) : (⟨b, i, none⟩ : Addr) ≠ ⟨c, j, none⟩ := fun e => by
  have h1 := congrArg Addr.block e
  have h2 := congrArg Addr.off e
  simp at h1 h2
  omega
theorem C3.put {V : World} {b : Nat} {x y z : Value} (h : C3 V b x y z) (x' y' z' : Value) : C3 (put3 V b x' y' z') b x' y' z' := by
  obtain ⟨⟨h0, h1, h2⟩, f0, f1, f2⟩ := h
  unfold put3
  refine ⟨⟨?_, ?_, ?_⟩, ?_, ?_, ?_⟩
  · rw [set_ne (ne_addr (by omega)), set_ne (ne_addr (by omega))]; exact World.cell?_setCell_same V _ _ h0
  · rw [set_ne (ne_addr (by omega))]; exact World.cell?_setCell_same _ _ _ ((set_ne (ne_addr (by omega))).trans h1)
  · exact World.cell?_setCell_same _ _ _ ((set_ne (ne_addr (by omega))).trans ((set_ne (ne_addr (by omega))).trans h2))
  all_goals simp only [World.frozen?_setCell]; assumption
theorem C3.away {V : World} {b c : Nat} {x y z : Value} (h : C3 V b x y z) (hne : c ≠ b) (x' y' z' : Value) : C3 (put3 V c x' y' z') b x y z := by
  obtain ⟨⟨h0, h1, h2⟩, f0, f1, f2⟩ := h
  unfold put3
  refine ⟨⟨?_, ?_, ?_⟩, ?_, ?_, ?_⟩
  · rw [set_ne (ne_addr (by omega)), set_ne (ne_addr (by omega)), set_ne (ne_addr (by omega))]; exact h0
  · rw [set_ne (ne_addr (by omega)), set_ne (ne_addr (by omega)), set_ne (ne_addr (by omega))]; exact h1
  · rw [set_ne (ne_addr (by omega)), set_ne (ne_addr (by omega)), set_ne (ne_addr (by omega))]; exact h2
  all_goals simp only [World.frozen?_setCell]; assumption
theorem C3.other {V : World} {b c : Nat} {x y z : Value} (h : C3 V b x y z) (hne : c ≠ b) (j : Nat) (u : Value) : C3 (V.setCell ⟨c, j, none⟩ u) b x y z := by
  obtain ⟨⟨h0, h1, h2⟩, f0, f1, f2⟩ := h
  refine ⟨⟨?_, ?_, ?_⟩, ?_, ?_, ?_⟩
  · rw [set_ne (ne_addr (by omega))]; exact h0
  · rw [set_ne (ne_addr (by omega))]; exact h1
  · rw [set_ne (ne_addr (by omega))]; exact h2
  all_goals simp only [World.frozen?_setCell]; assumption
theorem below_put3 {B : Nat} {w V : World} (h : Below B w V) {b : Nat} (hb : B ≤ b) (x y z : Value) : Below B w (put3 V b x y z) :=
  ((h.setCell (p := ⟨b, 0, none⟩) hb _).setCell (p := ⟨b, 1, none⟩) hb _).setCell (p := ⟨b, 2, none⟩) hb _

theorem thenK_any (m a1 c1 a2 c2 : Nat) (w : World) (hm : 2 ≤ m) (hm2 : m ≤ 100000) (h1 : a1 < m) (h2 : c1 < m) (h3 : a2 < m) (h4 : c2 < m) :
    Calls Try.prog 60 #[.agg #[.int .i64 m, .int .i64 a1, .int .i64 c1], .agg #[.int .i64 m, .int .i64 a2, .int .i64 c2]] w fun e w' => e = .returned (.agg #[.int .i64 m, .int .i64 (a1 * a2 % m : Nat), .int .i64 (nx m a2 c2 c1)]) ∧ Below w.heap.size w w' := by
  have hy := small_mul (show a1 ≤ 100000 by omega) (show a2 ≤ 100000 by omega)
  obtain ⟨y, ey⟩ : ∃ y, a1 * a2 = y := ⟨_, rfl⟩
  have E : (a1 : Int) * (a2 : Int) = (y : Int) := by rw [← ey]; simp
  have HN : Hid (∀ w : World, Calls Try.prog 47 #[.agg #[.int .i64 m, .int .i64 a2, .int .i64 c2], .int .i64 c1] w fun e w' => e = .returned (.int .i64 (nx m a2 c2 c1)) ∧ Below w.heap.size w w') := fun w => nextK_any m a2 c2 c1 w hm hm2 (by omega) (by omega) (by omega)
  rw [ey] at hy ⊢
  clear ey h1 h2 h3 h4
  have hm0 : ¬ m = 0 := by omega
  go_enter Try.func60, Try.ntmps60
  go_wp2
  obtain ⟨W1, hW1⟩ : ∃ W, ((w.alloc (.cells #[.int .i64 m, .int .i64 a1, .int .i64 c1] 25)).alloc (.cells #[.int .i64 m, .int .i64 a2, .int .i64 c2] 25)).alloc (.cells #[.int .i64 0, .int .i64 0, .int .i64 0] 25) = W := ⟨_, rfl⟩
  have HB : Hid (Below w.heap.size w W1) := by unfold Hid; rw [← hW1]; exact (((Below.refl _ w).alloc (Nat.le_refl _) _).alloc (by simp) _).alloc (by simp; omega) _
  have A1 : C3 W1 w.heap.size (.int .i64 m) (.int .i64 a1) (.int .i64 c1) := by rw [← hW1]; exact ((C3.new w _ _ _ _).alloc _).alloc _
  have A2 : C3 W1 (w.heap.size + 1) (.int .i64 m) (.int .i64 a2) (.int .i64 c2) := by rw [← hW1]; have := (C3.new (w.alloc (.cells #[.int .i64 m, .int .i64 a1, .int .i64 c1] 25)) (.int .i64 m) (.int .i64 a2) (.int .i64 c2) 25).alloc (.cells #[.int .i64 0, .int .i64 0, .int .i64 0] 25); rwa [World.size_alloc] at this
  have A3 : Hid (C3 W1 (w.heap.size + 1 + 1) (.int .i64 0) (.int .i64 0) (.int .i64 0)) := by unfold Hid; rw [← hW1]; have := C3.new ((w.alloc (.cells #[.int .i64 m, .int .i64 a1, .int .i64 c1] 25)).alloc (.cells #[.int .i64 m, .int .i64 a2, .int .i64 c2] 25)) (.int .i64 0) (.int .i64 0) (.int .i64 0) 25; simpa only [World.size_alloc] using this
  rw [hW1]
  clear hW1
  have hmx : Try.prog.follows .mixedOrders = true := by kernel_rfl
  have K1 : ∀ q : GW W1, q.w.cell? ⟨w.heap.size, 0, none⟩ = some (.int .i64 m) := fun q => cell_below A1.1.1 q.h
  have K2 : ∀ q : GW W1, q.w.cell? ⟨w.heap.size, 1, none⟩ = some (.int .i64 a1) := fun q => cell_below A1.1.2.1 q.h
  have K3 : ∀ q : GW W1, q.w.cell? ⟨w.heap.size, 2, none⟩ = some (.int .i64 c1) := fun q => cell_below A1.1.2.2 q.h
  have K4 : ∀ q : GW W1, q.w.cell? ⟨w.heap.size + 1, 0, none⟩ = some (.int .i64 m) := fun q => cell_below A2.1.1 q.h
  have K5 : ∀ q : GW W1, q.w.cell? ⟨w.heap.size + 1, 1, none⟩ = some (.int .i64 a2) := fun q => cell_below A2.1.2.1 q.h
  have K6 : ∀ q : GW W1, q.w.cell? ⟨w.heap.size + 1, 2, none⟩ = some (.int .i64 c2) := fun q => cell_below A2.1.2.2 q.h
  clear A1 A2
  refine wp_region_quiet_tail (C := fun w' => ∃ q : GW W1, w' = q.w) 15 hmx (by kernel_rfl) ⟨⟨W1.drew, (Below.refl _ _).drew⟩, rfl⟩ ?_
  simp only [List.take_succ_cons, List.take_zero, List.drop_succ_cons, List.drop_zero]
  repeat (quiet_step (exact gw_call (HN.out _)))
  refine wpQuiet_nil ?_
  rintro W2 ⟨⟨_, hW2⟩, rfl⟩
  clear K1 K2 K3 K4 K5 K6
  have B3 := Lib.hid (A3.out.below hW2 A3.out.lt)
  have B2 := Lib.hid (HB.out.trans (hW2.mono HB.out.size))
  clear A3 HB hW2
  obtain ⟨⟨b0, b1, b2⟩, f0, f1, f2⟩ := B3.out
  go_wp2
  have P := (B3.out.put (.int .i64 m) (.int .i64 ((y : Int) % m)) (.int .i64 (nx m a2 c2 c1))).1
  unfold put3 at P
  obtain ⟨p0, p1, p2⟩ := P
  exact bodyPost_ret (v := .agg #[.int .i64 m, .int .i64 ((y : Int) % m), .int .i64 (nx m a2 c2 c1)]) (by simp [results, Try.results60, go_sem, p0, p1, p2]) rfl ⟨by simp, below_put3 B2.out (by omega) _ _ _⟩

theorem l03Then_any (g h m a1 c1 a2 c2 : Nat) (w : World) (hg : w.cell? ⟨g, 0, none⟩ = some (.int .i64 m) ∧ w.cell? ⟨g, 1, none⟩ = some (.int .i64 a1) ∧ w.cell? ⟨g, 2, none⟩ = some (.int .i64 c1)) (hh : w.cell? ⟨h, 0, none⟩ = some (.int .i64 m) ∧ w.cell? ⟨h, 1, none⟩ = some (.int .i64 a2) ∧ w.cell? ⟨h, 2, none⟩ = some (.int .i64 c2))
    (hm : 2 ≤ m) (hm2 : m ≤ 100000) (h1 : a1 < m) (h2 : c1 < m) (h3 : a2 < m) (h4 : c2 < m) :
    Calls Try.prog 59 #[.pointer (some ⟨g, 0, none⟩), .pointer (some ⟨h, 0, none⟩)] w fun e w' => e = .returned (.agg #[.int .i64 m, .int .i64 (a1 * a2 % m : Nat), .int .i64 (nx m a2 c2 c1)]) ∧ Below w.heap.size w w' := by
  have hy := small_mul (show a1 ≤ 100000 by omega) (show a2 ≤ 100000 by omega)
  obtain ⟨y, ey⟩ : ∃ y, a1 * a2 = y := ⟨_, rfl⟩
  have E : (a1 : Int) * (a2 : Int) = (y : Int) := by rw [← ey]; simp
  have hz := small_mul (show a2 ≤ 100000 by omega) (show c1 ≤ 100000 by omega)
  obtain ⟨z, ez⟩ : ∃ z, a2 * c1 = z := ⟨_, rfl⟩
  have E2 : (a2 : Int) * (c1 : Int) = (z : Int) := by rw [← ez]; simp
  have HV : Hid (((nx m a2 c2 c1 : Nat) : Int) = ((z : Int) + c2) % m) := by unfold Hid nx; rw [ez]; simp
  rw [ey] at hy ⊢
  rw [ez] at hz
  have hc2 : c2 ≤ 100000 := by omega
  clear ey ez h1 h2 h3 h4
  have hm0 : ¬ m = 0 := by omega
  go_enter Try.func59, Try.ntmps59
  go_wp2
  obtain ⟨W1, hW1⟩ : ∃ W, w.alloc (.cells #[.int .i64 0, .int .i64 0, .int .i64 0] 25) = W := ⟨_, rfl⟩
  have HB : Hid (Below w.heap.size w W1) := by unfold Hid; rw [← hW1]; exact (Below.refl _ w).alloc (Nat.le_refl _) _
  have A3 : Hid (C3 W1 w.heap.size (.int .i64 0) (.int .i64 0) (.int .i64 0)) := by unfold Hid; rw [← hW1]; exact C3.new w _ _ _ _
  rw [hW1]
  have hmx : Try.prog.follows .mixedOrders = true := by kernel_rfl
  have kk : ∀ {p : Addr} {v : Value}, w.cell? p = some v → ∀ q : GW W1, q.w.cell? p = some v := fun {p v} h q => cell_below (by rw [← hW1]; exact cell_below h ((Below.refl _ w).alloc (Nat.le_refl _) _)) q.h
  have K1 := kk hg.1
  have K2 := kk hg.2.1
  have K3 := kk hg.2.2
  have K4 := kk hh.1
  have K5 := kk hh.2.1
  have K6 := kk hh.2.2
  clear kk hg hh hW1
  refine wp_region_quiet_tail (C := fun w' => ∃ q : GW W1, w' = q.w) 38 hmx (by kernel_rfl) ⟨⟨W1.drew, (Below.refl _ _).drew⟩, rfl⟩ ?_
  simp only [List.take_succ_cons, List.take_zero, List.drop_succ_cons, List.drop_zero]
  repeat (quiet_step (fail))
  refine wpQuiet_nil ?_
  rintro W2 ⟨⟨_, hW2⟩, rfl⟩
  clear K1 K2 K3 K4 K5 K6
  have B3 := Lib.hid (A3.out.below hW2 A3.out.lt)
  have B2 := Lib.hid (HB.out.trans (hW2.mono HB.out.size))
  clear A3 HB hW2
  obtain ⟨⟨b0, b1, b2⟩, f0, f1, f2⟩ := B3.out
  go_wp2
  have P := (B3.out.put (.int .i64 m) (.int .i64 ((y : Int) % m)) (.int .i64 (((z : Int) + c2) % m))).1
  unfold put3 at P
  obtain ⟨p0, p1, p2⟩ := P
  exact bodyPost_ret (v := .agg #[.int .i64 m, .int .i64 ((y : Int) % m), .int .i64 (((z : Int) + c2) % m)]) (by simp [results, Try.results59, go_sem, p0, p1, p2]) rfl ⟨by rw [HV.out]; simp, below_put3 B2.out (by omega) _ _ _⟩

/-- the value of a congruence -/
def conV (m a c : Nat) : Value := .agg #[.int .i64 m, .int .i64 a, .int .i64 c]
theorem thenP {m : Nat} (a c k e : Nat) (w : World) (hm : 2 ≤ m) (hm2 : m ≤ 100000) :
    Calls Try.prog 60 #[.agg #[.int .i64 m, .int .i64 (pA m a k), .int .i64 (pC m a c k)], .agg #[.int .i64 m, .int .i64 (pA m a e), .int .i64 (pC m a c e)]] w fun x w' => x = .returned (.agg #[.int .i64 m, .int .i64 (pA m a (k + e)), .int .i64 (pC m a c (k + e))]) ∧ Below w.heap.size w w' := by
  have h := thenK_any m (pA m a k) (pC m a c k) (pA m a e) (pC m a c e) w hm hm2 (pA_lt (by omega) _ _) (pC_lt (by omega) _ _ _) (pA_lt (by omega) _ _) (pC_lt (by omega) _ _ _)
  rwa [pA_then, pC_then] at h
theorem l03ThenP {m : Nat} (g h a c k e : Nat) (w : World) (hm : 2 ≤ m) (hm2 : m ≤ 100000) (hg : C3 w g (.int .i64 m) (.int .i64 (pA m a k)) (.int .i64 (pC m a c k))) (hh : C3 w h (.int .i64 m) (.int .i64 (pA m a e)) (.int .i64 (pC m a c e))) :
    Calls Try.prog 59 #[.pointer (some ⟨g, 0, none⟩), .pointer (some ⟨h, 0, none⟩)] w fun x w' => x = .returned (.agg #[.int .i64 m, .int .i64 (pA m a (k + e)), .int .i64 (pC m a c (k + e))]) ∧ Below w.heap.size w w' := by
  have h := l03Then_any g h m (pA m a k) (pC m a c k) (pA m a e) (pC m a c e) w hg.1 hh.1 hm hm2 (pA_lt (by omega) _ _) (pC_lt (by omega) _ _ _) (pA_lt (by omega) _ _) (pC_lt (by omega) _ _ _)
  rwa [pA_then, pC_then] at h
/-- between two rounds of a power: k steps are done, q times e are to do -/
def PowW (w : World) (m a c : Nat) (z o r : Nat) (k e : Nat) (V : World) : Prop := C3 V z (.int .i64 m) (.int .i64 (pA m a e)) (.int .i64 (pC m a c e)) ∧ C3 V r (.int .i64 m) (.int .i64 (pA m a k)) (.int .i64 (pC m a c k)) ∧ C3 V o (.int .i64 0) (.int .i64 0) (.int .i64 0) ∧ Below w.heap.size w V
theorem PowW.below {w V V1 : World} {m a c z o r k e : Nat} (h : PowW w m a c z o r k e V) (hb : Below V.heap.size V V1) : PowW w m a c z o r k e V1 :=
  ⟨h.1.below hb h.1.lt, h.2.1.below hb h.2.1.lt, h.2.2.1.below hb h.2.2.1.lt, h.2.2.2.trans (hb.mono h.2.2.2.size)⟩
theorem PowW.res {w V : World} {m a c z o r k e : Nat} (h : PowW w m a c z o r k e V) (hr : w.heap.size ≤ r) (h1 : r ≠ z) (h2 : r ≠ o) (j : Nat) : PowW w m a c z o r j e (put3 V r (.int .i64 m) (.int .i64 (pA m a j)) (.int .i64 (pC m a c j))) :=
  ⟨h.1.away h1 _ _ _, h.2.1.put _ _ _, h.2.2.1.away h2 _ _ _, below_put3 h.2.2.2 hr _ _ _⟩
theorem PowW.dbl {w V : World} {m a c z o r k e : Nat} (h : PowW w m a c z o r k e V) (hz : w.heap.size ≤ z) (h1 : z ≠ r) (h2 : z ≠ o) (j : Nat) : PowW w m a c z o r k j (put3 V z (.int .i64 m) (.int .i64 (pA m a j)) (.int .i64 (pC m a c j))) :=
  ⟨h.1.put _ _ _, h.2.1.away h1 _ _ _, h.2.2.1.away h2 _ _ _, below_put3 h.2.2.2 hz _ _ _⟩
theorem pow_odd {k q e n : Nat} (h : k + q * e = n) (hq : q % 2 = 1) : k + e + q / 2 * (e + e) = n := by
  have h1 : q = 2 * (q / 2) + 1 := by omega
  have h2 : q / 2 * (e + e) = 2 * (q / 2) * e := by rw [Nat.mul_add, Nat.mul_assoc, Nat.two_mul]
  rw [h1, Nat.add_mul, Nat.one_mul] at h
  omega
theorem pow_even {k q e n : Nat} (h : k + q * e = n) (hq : q % 2 = 0) : k + q / 2 * (e + e) = n := by
  have h1 : q = 2 * (q / 2) := by omega
  have h2 : q / 2 * (e + e) = 2 * (q / 2) * e := by rw [Nat.mul_add, Nat.mul_assoc, Nat.two_mul]
  rw [h1] at h
  omega

theorem powerK_any (m a c n : Nat) (w : World) (hm : 2 ≤ m) (hm2 : m ≤ 100000) (ha : a < m) (hc : c < m) (hn : n ≤ 1000000000000000000) :
    Calls Try.prog 51 #[.agg #[.int .i64 m, .int .i64 a, .int .i64 c], .int .i64 n] w fun x w' => x = .returned (.agg #[.int .i64 m, .int .i64 (pA m a n), .int .i64 (pC m a c n)]) ∧ Below w.heap.size w w' := by
  have HT : Hid (∀ (k e : Nat) (w : World), Calls Try.prog 60 #[.agg #[.int .i64 m, .int .i64 (pA m a k), .int .i64 (pC m a c k)], .agg #[.int .i64 m, .int .i64 (pA m a e), .int .i64 (pC m a c e)]] w fun x w' => x = .returned (.agg #[.int .i64 m, .int .i64 (pA m a (k + e)), .int .i64 (pC m a c (k + e))]) ∧ Below w.heap.size w w') := fun k e w => thenP a c k e w hm hm2
  have HA : Hid (pA m a 1 = a ∧ pC m a c 1 = c ∧ pA m a 0 = 1 ∧ pC m a c 0 = 0) := ⟨pA_one ha, pC_one hc, pA_zero hm a, pC_zero m a c⟩
  clear ha hc hm hm2
  go_enter Try.func51, Try.ntmps51
  go_wp2
  obtain ⟨W1, hW1⟩ : ∃ W, ((w.alloc (.cells #[.int .i64 m, .int .i64 a, .int .i64 c] 25)).alloc (.cells #[.int .i64 0, .int .i64 0, .int .i64 0] 25)).alloc (.cells #[.int .i64 m, .int .i64 1, .int .i64 0] 25) = W := ⟨_, rfl⟩
  have P0 : Hid (PowW w m a c w.heap.size (w.heap.size + 1) (w.heap.size + 1 + 1) 0 1 W1) := by
    obtain ⟨e1, e2, e3, e4⟩ := HA.out
    unfold Hid PowW
    rw [e1, e2, e3, e4, ← hW1]
    refine ⟨((C3.new w _ _ _ _).alloc _).alloc _, ?_, ?_, (((Below.refl _ w).alloc (Nat.le_refl _) _).alloc (by simp) _).alloc (by simp; omega) _⟩
    · have := C3.new ((w.alloc (.cells #[.int .i64 m, .int .i64 a, .int .i64 c] 25)).alloc (.cells #[.int .i64 0, .int .i64 0, .int .i64 0] 25)) (.int .i64 m) (.int .i64 1) (.int .i64 0) 25
      simp only [World.size_alloc] at this
      exact this
    · have := (C3.new (w.alloc (.cells #[.int .i64 m, .int .i64 a, .int .i64 c] 25)) (.int .i64 0) (.int .i64 0) (.int .i64 0) 25).alloc (.cells #[.int .i64 m, .int .i64 1, .int .i64 0] 25)
      simpa only [World.size_alloc] using this
  rw [hW1]
  clear hW1 HA
  go_loopw [1] (fun v wr => ∃ k q e : Nat, v = .int .i64 q ∧ q ≤ 1000000000000000000 ∧ Hid (k + q * e = n) ∧ Hid (PowW w m a c w.heap.size (w.heap.size + 1) (w.heap.size + 1 + 1) k e wr)) (fun v _ => (intOf v).toNat)
  case atStart => exact ⟨0, n, 1, rfl, hn, by unfold Hid; omega, P0⟩
  case round =>
    obtain ⟨k, q, e, rfl, hq, HK, HP⟩ := hrel
    clear P0
    obtain ⟨⟨⟨z0, z1, z2⟩, zf0, zf1, zf2⟩, ⟨⟨r0, r1, r2⟩, rf0, rf1, rf2⟩, ⟨⟨o0, o1, o2⟩, of0, of1, of2⟩, _⟩ := HP.out
    by_cases h0 : 0 < q
    · by_cases h1 : q % 2 = 1
      · have t1 : ((q : Int) % 2 == 1) = true := by rw [beq_iff_eq]; omega
        have HO := Lib.hid (pow_odd HK.out h1)
        clear h1
        go_wp2_with fail
        refine (HT.out k e _).mono ?_
        rintro x w1 ⟨rfl, hb⟩
        have P1 := Lib.hid (HP.out.below hb)
        clear hb HP z0 z1 z2 zf0 zf1 zf2 r0 r1 r2 rf0 rf1 rf2 o0 o1 o2 of0 of1 of2
        obtain ⟨⟨⟨z0, z1, z2⟩, zf0, zf1, zf2⟩, ⟨⟨r0, r1, r2⟩, rf0, rf1, rf2⟩, -, -⟩ := P1.out
        go_wp2_with fail
        have P2 := P1.out.res (by omega) (by omega) (by omega) (k + e)
        unfold put3 at P2
        generalize ((w1.setCell _ _).setCell _ _).setCell _ _ = w2 at P2 ⊢
        clear P1 z0 z1 z2 zf0 zf1 zf2 r0 r1 r2 rf0 rf1 rf2
        have P2 := Lib.hid P2
        refine (HT.out e e _).mono ?_
        rintro x w3 ⟨rfl, hb⟩
        have P3 := Lib.hid (P2.out.below hb)
        clear hb P2
        obtain ⟨⟨⟨z0, z1, z2⟩, zf0, zf1, zf2⟩, -, -, -⟩ := P3.out
        go_wp2
        go_roundw
        case rel => exact ⟨k + e, q / 2, e + e, by go_num, by omega, HO, P3.out.dbl (Nat.le_refl _) (by omega) (by omega) (e + e)⟩
        case measure => simp [intOf]; omega
      · have t1 : ((q : Int) % 2 == 1) = false := by rw [beq_eq_false_iff_ne]; omega
        have HO := Lib.hid (pow_even HK.out (by omega))
        clear h1
        go_wp2_with fail
        refine (HT.out e e _).mono ?_
        rintro x w3 ⟨rfl, hb⟩
        have P3 := Lib.hid (HP.out.below hb)
        clear hb HP z0 z1 z2 zf0 zf1 zf2 r0 r1 r2 rf0 rf1 rf2 o0 o1 o2 of0 of1 of2
        obtain ⟨⟨⟨z0, z1, z2⟩, zf0, zf1, zf2⟩, -, -, -⟩ := P3.out
        go_wp2
        go_roundw
        case rel => exact ⟨k, q / 2, e + e, by go_num, by omega, HO, P3.out.dbl (Nat.le_refl _) (by omega) (by omega) (e + e)⟩
        case measure => simp [intOf]; omega
    · obtain rfl : q = 0 := by omega
      obtain rfl : k = n := by have := HK.out; omega
      go_wp2
      have P := (HP.out.2.2.1.put (.int .i64 m) (.int .i64 (pA m a k)) (.int .i64 (pC m a c k))).1
      unfold put3 at P
      obtain ⟨p0, p1, p2⟩ := P
      exact bodyPost_ret (v := .agg #[.int .i64 m, .int .i64 (pA m a k), .int .i64 (pC m a c k)]) (by simp [results, Try.results51, go_sem, p0, p1, p2]) rfl ⟨rfl, below_put3 HP.out.2.2.2 (by omega) _ _ _⟩

theorem l03Power_any (g m a c n : Nat) (w : World) (hg : w.cell? ⟨g, 0, none⟩ = some (.int .i64 m) ∧ w.cell? ⟨g, 1, none⟩ = some (.int .i64 a) ∧ w.cell? ⟨g, 2, none⟩ = some (.int .i64 c)) (hm : 2 ≤ m) (hm2 : m ≤ 100000) (ha : a < m) (hc : c < m) (hn : n ≤ 1000000000000000000) :
    Calls Try.prog 50 #[.pointer (some ⟨g, 0, none⟩), .int .i64 n] w fun x w' => x = .returned (.agg #[.int .i64 m, .int .i64 (pA m a n), .int .i64 (pC m a c n)]) ∧ Below w.heap.size w w' := by
  have HT : Hid (∀ (g h k e : Nat) (w : World), C3 w g (.int .i64 m) (.int .i64 (pA m a k)) (.int .i64 (pC m a c k)) → C3 w h (.int .i64 m) (.int .i64 (pA m a e)) (.int .i64 (pC m a c e)) → Calls Try.prog 59 #[.pointer (some ⟨g, 0, none⟩), .pointer (some ⟨h, 0, none⟩)] w fun x w' => x = .returned (.agg #[.int .i64 m, .int .i64 (pA m a (k + e)), .int .i64 (pC m a c (k + e))]) ∧ Below w.heap.size w w') := fun g h k e w h1 h2 => l03ThenP g h a c k e w hm hm2 h1 h2
  have HA : Hid (pA m a 1 = a ∧ pC m a c 1 = c ∧ pA m a 0 = 1 ∧ pC m a c 0 = 0) := ⟨pA_one ha, pC_one hc, pA_zero hm a, pC_zero m a c⟩
  clear ha hc hm hm2
  have B0 : Below w.heap.size w (w.alloc (.cells #[.int .i64 0, .int .i64 0, .int .i64 0] 25)) := (Below.refl _ w).alloc (Nat.le_refl _) _
  have B1 : Below w.heap.size w ((w.alloc (.cells #[.int .i64 0, .int .i64 0, .int .i64 0] 25)).alloc (.cells #[.int .i64 m, .int .i64 1, .int .i64 0] 25)) := B0.alloc (by simp) _
  have k0 := cell_below hg.1 B0
  have g0 := cell_below hg.1 B1
  have g1 := cell_below hg.2.1 B1
  have g2 := cell_below hg.2.2 B1
  clear B0 B1 hg
  go_enter Try.func50, Try.ntmps50
  go_wp2
  clear k0 g0 g1 g2
  obtain ⟨W2, hW2⟩ : ∃ W, ((w.alloc (.cells #[.int .i64 0, .int .i64 0, .int .i64 0] 25)).alloc (.cells #[.int .i64 m, .int .i64 1, .int .i64 0] 25)).alloc (.cells #[.int .i64 m, .int .i64 a, .int .i64 c] 25) = W := ⟨_, rfl⟩
  have P0 : Hid (PowW w m a c (w.heap.size + 1 + 1) w.heap.size (w.heap.size + 1) 0 1 W2) := by
    obtain ⟨e1, e2, e3, e4⟩ := HA.out
    unfold Hid PowW
    rw [e1, e2, e3, e4, ← hW2]
    refine ⟨?_, ?_, ((C3.new w _ _ _ _).alloc _).alloc _, (((Below.refl _ w).alloc (Nat.le_refl _) _).alloc (by simp) _).alloc (by simp; omega) _⟩
    · have := C3.new ((w.alloc (.cells #[.int .i64 0, .int .i64 0, .int .i64 0] 25)).alloc (.cells #[.int .i64 m, .int .i64 1, .int .i64 0] 25)) (.int .i64 m) (.int .i64 a) (.int .i64 c) 25
      simp only [World.size_alloc] at this
      exact this
    · have := (C3.new (w.alloc (.cells #[.int .i64 0, .int .i64 0, .int .i64 0] 25)) (.int .i64 m) (.int .i64 1) (.int .i64 0) 25).alloc (.cells #[.int .i64 m, .int .i64 a, .int .i64 c] 25)
      simp only [World.size_alloc] at this
      exact this
  rw [hW2]
  clear hW2 HA
  go_loopw [1] (fun v wr => ∃ k q e : Nat, v = .int .i64 q ∧ q ≤ 1000000000000000000 ∧ Hid (k + q * e = n) ∧ Hid (PowW w m a c (w.heap.size + 1 + 1) w.heap.size (w.heap.size + 1) k e wr)) (fun v _ => (intOf v).toNat)
  case atStart => exact ⟨0, n, 1, rfl, hn, by unfold Hid; omega, P0⟩
  case round =>
    obtain ⟨k, q, e, rfl, hq, HK, HP⟩ := hrel
    clear P0
    by_cases h0 : 0 < q
    · by_cases h1 : q % 2 = 1
      · have t1 : ((q : Int) % 2 == 1) = true := by rw [beq_iff_eq]; omega
        have HO := Lib.hid (pow_odd HK.out h1)
        clear h1
        go_wp2_with fail
        refine (HT.out _ _ k e _ HP.out.2.1 HP.out.1).mono ?_
        rintro x w1 ⟨rfl, hb⟩
        have P1 := Lib.hid (HP.out.below hb)
        clear hb HP
        obtain ⟨-, ⟨⟨r0, r1, r2⟩, rf0, rf1, rf2⟩, -, -⟩ := P1.out
        go_wp2_with fail
        have P2 := P1.out.res (by omega) (by omega) (by omega) (k + e)
        unfold put3 at P2
        generalize ((w1.setCell _ _).setCell _ _).setCell _ _ = w2 at P2 ⊢
        clear P1 r0 r1 r2 rf0 rf1 rf2
        have P2 := Lib.hid P2
        refine (HT.out _ _ e e _ P2.out.1 P2.out.1).mono ?_
        rintro x w3 ⟨rfl, hb⟩
        have P3 := Lib.hid (P2.out.below hb)
        clear hb P2
        obtain ⟨⟨⟨z0, z1, z2⟩, zf0, zf1, zf2⟩, -, -, -⟩ := P3.out
        go_wp2
        go_roundw
        case rel => exact ⟨k + e, q / 2, e + e, by go_num, by omega, HO, P3.out.dbl (by omega) (by omega) (by omega) (e + e)⟩
        case measure => simp [intOf]; omega
      · have t1 : ((q : Int) % 2 == 1) = false := by rw [beq_eq_false_iff_ne]; omega
        have HO := Lib.hid (pow_even HK.out (by omega))
        clear h1
        go_wp2_with fail
        refine (HT.out _ _ e e _ HP.out.1 HP.out.1).mono ?_
        rintro x w3 ⟨rfl, hb⟩
        have P3 := Lib.hid (HP.out.below hb)
        clear hb HP
        obtain ⟨⟨⟨z0, z1, z2⟩, zf0, zf1, zf2⟩, -, -, -⟩ := P3.out
        go_wp2
        go_roundw
        case rel => exact ⟨k, q / 2, e + e, by go_num, by omega, HO, P3.out.dbl (by omega) (by omega) (by omega) (e + e)⟩
        case measure => simp [intOf]; omega
    · obtain rfl : q = 0 := by omega
      obtain rfl : k = n := by have := HK.out; omega
      obtain ⟨-, ⟨⟨r0, r1, r2⟩, rf0, rf1, rf2⟩, ⟨⟨o0, o1, o2⟩, of0, of1, of2⟩, _⟩ := HP.out
      go_wp2
      have P := (HP.out.2.2.1.put (.int .i64 m) (.int .i64 (pA m a k)) (.int .i64 (pC m a c k))).1
      unfold put3 at P
      obtain ⟨p0, p1, p2⟩ := P
      exact bodyPost_ret (v := .agg #[.int .i64 m, .int .i64 (pA m a k), .int .i64 (pC m a c k)]) (by simp [results, Try.results50, go_sem, p0, p1, p2]) rfl ⟨rfl, below_put3 HP.out.2.2.2 (by omega) _ _ _⟩
end Go.Proofs.Ytmapbaomfaplmaa
