/- Congruences one after another: impl.then, impl.power, spec.l03Then, spec.l03Power. -/
import Derived.Test.YtpnifnpbolieoabDoorCon
import Derived.Test.YtpnifnpbolieoabDoorQTail
import Derived.Test.YtpnifnpbolieoabDoorCycA
import Derived.BigRegion
namespace Go.Proofs.YtpnifnpbolieoabDoor
open Go.RowKit Go.PlainAid
set_option maxHeartbeats 800000

/-- a struct of three in block b, writable -/
def C3 (V : World) (b : Nat) (x y z : Value) : Prop := (V.cell? ⟨b, 0, none⟩ = some x ∧ V.cell? ⟨b, 1, none⟩ = some y ∧ V.cell? ⟨b, 2, none⟩ = some z) ∧ V.frozen? ⟨b, 0, none⟩ = false ∧ V.frozen? ⟨b, 1, none⟩ = false ∧ V.frozen? ⟨b, 2, none⟩ = false
theorem C3.lt {V : World} {b : Nat} {x y z : Value} (h : C3 V b x y z) : b < V.heap.size := World.block_lt_of_cell? V _ h.1.1
theorem C3.below {V V1 : World} {b n : Nat} {x y z : Value} (h : C3 V b x y z) (hb : Below n V V1) (hn : b < n) : C3 V1 b x y z :=
  ⟨⟨(hb.cell (p := ⟨b, 0, none⟩) hn).trans h.1.1, (hb.cell (p := ⟨b, 1, none⟩) hn).trans h.1.2.1, (hb.cell (p := ⟨b, 2, none⟩) hn).trans h.1.2.2⟩,
    (hb.frozen (p := ⟨b, 0, none⟩) hn).trans h.2.1, (hb.frozen (p := ⟨b, 1, none⟩) hn).trans h.2.2.1, (hb.frozen (p := ⟨b, 2, none⟩) hn).trans h.2.2.2⟩
theorem C3.new (w : World) (x y z : Value) (t : TypeId) : C3 (w.alloc (.cells #[x, y, z] t)) w.heap.size x y z := ⟨⟨by simp [go_sem], by simp [go_sem], by simp [go_sem]⟩, by simp [go_sem], by simp [go_sem], by simp [go_sem]⟩
theorem C3.alloc {V : World} {b : Nat} {x y z : Value} (h : C3 V b x y z) (o : Obj) : C3 (V.alloc o) b x y z := h.below ((Below.refl _ V).alloc (Nat.le_refl _) o) h.lt
theorem C3.drewN {V : World} {b : Nat} {x y z : Value} (h : C3 V b x y z) (m : Nat) : C3 (V.drewN m) b x y z := h
theorem C3.drew {V : World} {b : Nat} {x y z : Value} (h : C3 V b x y z) : C3 V.drew b x y z := h
/-- the world behind a struct that is stored -/
def put3 (V : World) (b : Nat) (x y z : Value) : World := ((V.setCell ⟨b, 0, none⟩ x).setCell ⟨b, 1, none⟩ y).setCell ⟨b, 2, none⟩ z
theorem set_ne {V : World} {p q : Addr} {v : Value} (h : p ≠ q) : (V.setCell p v).cell? q = V.cell? q := World.cell?_setCell_other V _ _ _ h
theorem ne_addr {b c i j : Nat} (h : i ≠ j ∨ b ≠ c) : (⟨b, i, none⟩ : Addr) ≠ ⟨c, j, none⟩ := fun e => by
  have h1 := congrArg Addr.block e
  have h2 := congrArg Addr.off e
  simp at h1 h2
  omega
theorem C3.put {V : World} {b : Nat} {x y z : Value} (h : C3 V b x y z) (x' y' z' : Value) : C3 (put3 V b x' y' z') b x' y' z' := by
  obtain ⟨⟨h0, h1, h2⟩, f0, f1, f2⟩ := h
  unfold put3
  refine ⟨⟨?_, ?_, ?_⟩, ?_, ?_, ?_⟩
  · rw [set_ne (ne_addr (by omega)), set_ne (ne_addr (by omega))]; exact World.cell?_setCell_same V _ _ h0
  · rw [set_ne (ne_addr (by omega))]; exact World.cell?_setCell_same _ _ _ ((set_ne (ne_addr (by omega))).trans h1)
  · exact World.cell?_setCell_same _ _ _ ((set_ne (ne_addr (by omega))).trans ((set_ne (ne_addr (by omega))).trans h2))
  all_goals simp only [World.frozen?_setCell]; assumption
theorem C3.away {V : World} {b c : Nat} {x y z : Value} (h : C3 V b x y z) (hne : c ≠ b) (x' y' z' : Value) : C3 (put3 V c x' y' z') b x y z := by
  obtain ⟨⟨h0, h1, h2⟩, f0, f1, f2⟩ := h
  unfold put3
  refine ⟨⟨?_, ?_, ?_⟩, ?_, ?_, ?_⟩
  · rw [set_ne (ne_addr (by omega)), set_ne (ne_addr (by omega)), set_ne (ne_addr (by omega))]; exact h0
  · rw [set_ne (ne_addr (by omega)), set_ne (ne_addr (by omega)), set_ne (ne_addr (by omega))]; exact h1
  · rw [set_ne (ne_addr (by omega)), set_ne (ne_addr (by omega)), set_ne (ne_addr (by omega))]; exact h2
  all_goals simp only [World.frozen?_setCell]; assumption
theorem C3.other {V : World} {b c : Nat} {x y z : Value} (h : C3 V b x y z) (hne : c ≠ b) (j : Nat) (u : Value) : C3 (V.setCell ⟨c, j, none⟩ u) b x y z := by
  obtain ⟨⟨h0, h1, h2⟩, f0, f1, f2⟩ := h
  refine ⟨⟨?_, ?_, ?_⟩, ?_, ?_, ?_⟩
  · rw [set_ne (ne_addr (by omega))]; exact h0
  · rw [set_ne (ne_addr (by omega))]; exact h1
  · rw [set_ne (ne_addr (by omega))]; exact h2
  all_goals simp only [World.frozen?_setCell]; assumption
theorem below_put3 {B : Nat} {w V : World} (h : Below B w V) {b : Nat} (hb : B ≤ b) (x y z : Value) : Below B w (put3 V b x y z) :=
  ((h.setCell (p := ⟨b, 0, none⟩) hb _).setCell (p := ⟨b, 1, none⟩) hb _).setCell (p := ⟨b, 2, none⟩) hb _

/-- the value of a congruence -/
def conV (m a c : Nat) : Value := .agg #[.int .i64 m, .int .i64 a, .int .i64 c]
/-- between two rounds of a power: k steps are done, q times e are to do -/
def PowW (w : World) (m a c : Nat) (z o r : Nat) (k e : Nat) (V : World) : Prop := C3 V z (.int .i64 m) (.int .i64 (pA m a e)) (.int .i64 (pC m a c e)) ∧ C3 V r (.int .i64 m) (.int .i64 (pA m a k)) (.int .i64 (pC m a c k)) ∧ C3 V o (.int .i64 0) (.int .i64 0) (.int .i64 0) ∧ Below w.heap.size w V
theorem PowW.below {w V V1 : World} {m a c z o r k e : Nat} (h : PowW w m a c z o r k e V) (hb : Below V.heap.size V V1) : PowW w m a c z o r k e V1 :=
  ⟨h.1.below hb h.1.lt, h.2.1.below hb h.2.1.lt, h.2.2.1.below hb h.2.2.1.lt, h.2.2.2.trans (hb.mono h.2.2.2.size)⟩
theorem PowW.res {w V : World} {m a c z o r k e : Nat} (h : PowW w m a c z o r k e V) (hr : w.heap.size ≤ r) (h1 : r ≠ z) (h2 : r ≠ o) (j : Nat) : PowW w m a c z o r j e (put3 V r (.int .i64 m) (.int .i64 (pA m a j)) (.int .i64 (pC m a c j))) :=
  ⟨h.1.away h1 _ _ _, h.2.1.put _ _ _, h.2.2.1.away h2 _ _ _, below_put3 h.2.2.2 hr _ _ _⟩
theorem PowW.dbl {w V : World} {m a c z o r k e : Nat} (h : PowW w m a c z o r k e V) (hz : w.heap.size ≤ z) (h1 : z ≠ r) (h2 : z ≠ o) (j : Nat) : PowW w m a c z o r k j (put3 V z (.int .i64 m) (.int .i64 (pA m a j)) (.int .i64 (pC m a c j))) :=
  ⟨h.1.put _ _ _, h.2.1.away h1 _ _ _, h.2.2.1.away h2 _ _ _, below_put3 h.2.2.2 hz _ _ _⟩
theorem pow_odd {k q e n : Nat} (h : k + q * e = n) (hq : q % 2 = 1) : k + e + q / 2 * (e + e) = n := by
  have h1 : q = 2 * (q / 2) + 1 := by omega
  have h2 : q / 2 * (e + e) = 2 * (q / 2) * e := by rw [Nat.mul_add, Nat.mul_assoc, Nat.two_mul]
  rw [h1, Nat.add_mul, Nat.one_mul] at h
  omega
theorem pow_even {k q e n : Nat} (h : k + q * e = n) (hq : q % 2 = 0) : k + q / 2 * (e + e) = n := by
  have h1 : q = 2 * (q / 2) := by omega
  have h2 : q / 2 * (e + e) = 2 * (q / 2) * e := by rw [Nat.mul_add, Nat.mul_assoc, Nat.two_mul]
  rw [h1] at h
  omega

end Go.Proofs.YtpnifnpbolieoabDoor
