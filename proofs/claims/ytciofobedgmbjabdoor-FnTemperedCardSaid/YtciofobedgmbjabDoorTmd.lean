/- A drawn temper; the law FnTempered. -/
import Derived.Test.YtciofobedgmbjabDoorUn
import Derived.Test.YtciofobedgmbjabDoorR8
namespace Go.Proofs.YtciofobedgmbjabDoor
open Go.RowKit Go.PlainAid
set_option maxHeartbeats 800000

/-- a temper in the making: its block c, the result's block, the source's block behind it -/
def RT (w : World) (c : Nat) (f : Nat → Nat) (V : World) : Prop := MA V w.heap.size 0 6 (fun _ => 0) ∧ MA V c 0 6 f ∧ Below w.heap.size w V ∧ w.heap.size + 1 < c
theorem RT.grow {w V V1 : World} {c : Nat} {f : Nat → Nat} (h : RT w c f V) (hg : V.grownBy V1 (some (w.heap.size + 1))) : RT w c f V1 :=
  ⟨h.1.grow (by omega) hg (by simp), h.2.1.grow (by omega) hg (by have := h.2.2.2; simp; omega), h.2.2.1.grown hg h.2.2.1.size (fun q e => by cases e; omega), h.2.2.2⟩
theorem RT.set {w V : World} {c : Nat} {f : Nat → Nat} (h : RT w c f V) (k v : Nat) : RT w c (fun j => if j = k then v else f j) (V.setCell ⟨c, k, none⟩ (.int .i64 v)) := by
  obtain ⟨h1, h2, h3, h4⟩ := h
  have := h2.set (k := k) (g := fun j => if j = k then v else f j) v fun j _ => rfl
  rw [Nat.zero_add] at this
  exact ⟨h1.other (.inl (by omega)) _, this, h3.setCell (p := ⟨c, k, none⟩) (by simp; omega) _, h4⟩
theorem RT.c6 {w V : World} {c : Nat} {f : Nat → Nat} (h : RT w c f V) : (V.cell? ⟨c, 0, none⟩ = some (.int .i64 (f 0)) ∧ V.cell? ⟨c, 1, none⟩ = some (.int .i64 (f 1)) ∧ V.cell? ⟨c, 2, none⟩ = some (.int .i64 (f 2)) ∧ V.cell? ⟨c, 3, none⟩ = some (.int .i64 (f 3)) ∧ V.cell? ⟨c, 4, none⟩ = some (.int .i64 (f 4)) ∧ V.cell? ⟨c, 5, none⟩ = some (.int .i64 (f 5))) ∧ ∀ j, j < 6 → V.frozen? ⟨c, j, none⟩ = false := by
  refine ⟨⟨?_, ?_, ?_, ?_, ?_, ?_⟩, fun j hj => ?_⟩
  · have := (h.2.1 0 (by omega)).1; rwa [Nat.zero_add] at this
  · have := (h.2.1 1 (by omega)).1; rwa [Nat.zero_add] at this
  · have := (h.2.1 2 (by omega)).1; rwa [Nat.zero_add] at this
  · have := (h.2.1 3 (by omega)).1; rwa [Nat.zero_add] at this
  · have := (h.2.1 4 (by omega)).1; rwa [Nat.zero_add] at this
  · have := (h.2.1 5 (by omega)).1; rwa [Nat.zero_add] at this
  · have := (h.2.1 j hj).2; rwa [Nat.zero_add] at this
theorem MA.set0 {V : World} {b n : Nat} {f : Nat → Nat} (h : MA V b 0 n f) (k v : Nat) : MA (V.setCell ⟨b, k, none⟩ (.int .i64 v)) b 0 n (fun j => if j = k then v else f j) := by
  have := h.set (k := k) (g := fun j => if j = k then v else f j) v fun j _ => rfl
  rwa [Nat.zero_add] at this
theorem MA.at0 {V : World} {b n : Nat} {f : Nat → Nat} (h : MA V b 0 n f) {j v : Nat} (hj : j < n) (e : f j = v) : V.cell? ⟨b, j, none⟩ = some (.int .i64 v) := by
  have := (h j hj).1
  rwa [Nat.zero_add, e] at this
def TemPost (w : World) (e : Ending) (w' : World) : Prop := ∃ t : G2.Tm, t.ok ∧ e = .returned (.agg #[.int .i64 t.d1, .int .i64 t.u1, .int .i64 t.m1, .int .i64 t.u2, .int .i64 t.m2, .int .i64 t.d2]) ∧ Below w.heap.size w w'
theorem r8Temper_any (a : Option Addr) (len cap : Nat) (w : World) (hC : Code w w.heap.size a len) (hl : len ≤ 1048576) :
    Calls Tryd.prog 9 #[.slice a len cap] w (TemPost w) := by
  have HC : Hid (Code (w.alloc (.cells #[.int .i64 0, .int .i64 0, .int .i64 0, .int .i64 0, .int .i64 0, .int .i64 0] 26)) (w.alloc (.cells #[.int .i64 0, .int .i64 0, .int .i64 0, .int .i64 0, .int .i64 0, .int .i64 0] 26)).heap.size a len) :=
    (hC.below ((Below.refl _ _).alloc (Nat.le_refl _) _)).mono (by simp)
  clear hC
  go_enter Tryd.func9, Tryd.ntmps9
  go_wp2_with fail
  obtain ⟨w0, hw0⟩ : ∃ x, w.alloc (.cells #[.int .i64 0, .int .i64 0, .int .i64 0, .int .i64 0, .int .i64 0, .int .i64 0] 26) = x := ⟨_, rfl⟩
  have Z0 : w0.heap.size = w.heap.size + 1 := by rw [← hw0]; simp
  have R0 : MA w0 w.heap.size 0 6 (fun _ => 0) := by
    rw [← hw0]
    exact MA.new _ 0 fun j hj => by
      rcases (show j = 0 ∨ j = 1 ∨ j = 2 ∨ j = 3 ∨ j = 4 ∨ j = 5 by omega) with rfl | rfl | rfl | rfl | rfl | rfl <;> rfl
  have B0 : Below w.heap.size w w0 := by rw [← hw0]; exact (Below.refl _ _).alloc (Nat.le_refl _) _
  rw [hw0] at HC ⊢
  clear hw0
  refine (from_any a len cap _ HC.out).mono ?_
  rintro e w1 ⟨rfl, hs1, hb1⟩
  have R1 := R0.below hb1 (by omega)
  have B1 := B0.trans (hb1.mono (by omega))
  have Z1 : w0.heap.size < w1.heap.size := by
    obtain ⟨_, _, k, s, _, _, _, c0, _⟩ := hs1
    exact World.block_lt_of_cell? w1 _ c0
  rw [Z0] at hs1 Z1 ⊢
  have S1 := Lib.hid hs1
  clear hs1 hb1 R0 B0 HC
  go_wp2_with fail
  refine (pick_any _ (w.heap.size + 1) a len cap 0 16 _ S1.out (by omega) hl (by omega) (by omega)).mono ?_
  rintro e w2 ⟨x, rfl, ⟨x0, x1⟩, hs2, hg2⟩
  obtain ⟨D1, rfl⟩ := Int.eq_ofNat_of_zero_le x0
  obtain ⟨d0, hd0⟩ : ∃ d, 1 + D1 = d := ⟨_, rfl⟩
  have hdI0 : 1 + (D1 : Int) = (d0 : Int) := by omega
  have hb0 : 1 ≤ d0 ∧ d0 ≤ 16 := by omega
  have R2 := R1.grow (by omega) hg2 (by simp)
  have B2 := B1.grown hg2 B1.size (fun q e => by cases e; omega)
  have Z2 : w.heap.size + 1 < w2.heap.size := Nat.lt_of_lt_of_le Z1 hg2.size
  have RT0 : RT w w2.heap.size (fun j => if j = 0 then d0 else 0) (w2.alloc (.cells #[.int .i64 d0, .int .i64 0, .int .i64 0, .int .i64 0, .int .i64 0, .int .i64 0] 26)) :=
    ⟨R2.far (by omega) ((Below.refl _ _).alloc (Nat.le_refl _) _), MA.new _ 0 fun j hj => by
      rcases (show j = 0 ∨ j = 1 ∨ j = 2 ∨ j = 3 ∨ j = 4 ∨ j = 5 by omega) with rfl | rfl | rfl | rfl | rfl | rfl <;> rfl, B2.alloc B2.size _, Z2⟩
  have SA : Src (w.heap.size + 1) (w2.alloc (.cells #[.int .i64 d0, .int .i64 0, .int .i64 0, .int .i64 0, .int .i64 0, .int .i64 0] 26)) (w.heap.size + 1) a len cap (0 + 2) := hs2.below ((Below.refl _ _).alloc (by omega) _)
  have HT0 := Lib.hid (And.intro RT0 SA)
  clear RT0 SA R1 R2 B1 B2 hs2 hg2 S1 hd0 x0 x1 Z0
  go_upto_region 3 with fail
  generalize w2.alloc (.cells #[.int .i64 d0, .int .i64 0, .int .i64 0, .int .i64 0, .int .i64 0, .int .i64 0] 26) = v0 at HT0 ⊢
  generalize w2.heap.size = c at HT0 Z2 ⊢
  clear w2 Z1 hdI0
  go_wp2_with fail
  refine (pick_any _ (w.heap.size + 1) a len cap 2 16 _ HT0.out.2 (by omega) hl (by omega) (by omega)).mono ?_
  rintro e u0 ⟨x, rfl, ⟨x0, x1⟩, hs, hg⟩
  obtain ⟨y, rfl⟩ := Int.eq_ofNat_of_zero_le x0
  obtain ⟨d1, hd⟩ : ∃ d, 1 + y = d := ⟨_, rfl⟩
  have hdI : 1 + (y : Int) = (d1 : Int) := by omega
  have hb1 : 1 ≤ d1 ∧ d1 ≤ 16 := by omega
  have K := HT0.out.1.grow hg
  have HT1 : Hid (RT w c (fun j => if j = 1 then d1 else (fun j => if j = 0 then d0 else 0) j) (u0.setCell ⟨c, 1, none⟩ (.int .i64 d1)) ∧ Src (w.heap.size + 1) (u0.setCell ⟨c, 1, none⟩ (.int .i64 d1)) (w.heap.size + 1) a len cap (2 + 2)) := ⟨K.set 1 d1, hs.below ((Below.refl _ _).setCell (p := ⟨c, 1, none⟩) (by show w.heap.size + 1 + 1 ≤ c; omega) _)⟩
  obtain ⟨⟨k0, k1, k2, k3, k4, k5⟩, kf⟩ := K.c6
  have kfk := kf 1 (by omega)
  clear K hs hg x0 x1 kf hd HT0
  go_upto_region 4 with fail
  generalize u0.setCell ⟨c, 1, none⟩ (.int .i64 d1) = v1 at HT1 ⊢
  clear k0 k1 k2 k3 k4 k5 kfk u0 hdI
  go_wp2_with fail
  refine (pick_any _ (w.heap.size + 1) a len cap 4 16 _ HT1.out.2 (by omega) hl (by omega) (by omega)).mono ?_
  rintro e u1 ⟨x, rfl, ⟨x0, x1⟩, hs, hg⟩
  obtain ⟨y, rfl⟩ := Int.eq_ofNat_of_zero_le x0
  obtain ⟨d2, hd⟩ : ∃ d, 1 + y = d := ⟨_, rfl⟩
  have hdI : 1 + (y : Int) = (d2 : Int) := by omega
  have hb2 : 1 ≤ d2 ∧ d2 ≤ 16 := by omega
  have K := HT1.out.1.grow hg
  have HT2 : Hid (RT w c (fun j => if j = 3 then d2 else (fun j => if j = 1 then d1 else (fun j => if j = 0 then d0 else 0) j) j) (u1.setCell ⟨c, 3, none⟩ (.int .i64 d2)) ∧ Src (w.heap.size + 1) (u1.setCell ⟨c, 3, none⟩ (.int .i64 d2)) (w.heap.size + 1) a len cap (4 + 2)) := ⟨K.set 3 d2, hs.below ((Below.refl _ _).setCell (p := ⟨c, 3, none⟩) (by show w.heap.size + 1 + 1 ≤ c; omega) _)⟩
  obtain ⟨⟨k0, k1, k2, k3, k4, k5⟩, kf⟩ := K.c6
  have kfk := kf 3 (by omega)
  clear K hs hg x0 x1 kf hd HT1
  go_upto_region 5 with fail
  generalize u1.setCell ⟨c, 3, none⟩ (.int .i64 d2) = v2 at HT2 ⊢
  clear k0 k1 k2 k3 k4 k5 kfk u1 hdI
  go_wp2_with fail
  refine (pick_any _ (w.heap.size + 1) a len cap 6 16 _ HT2.out.2 (by omega) hl (by omega) (by omega)).mono ?_
  rintro e u2 ⟨x, rfl, ⟨x0, x1⟩, hs, hg⟩
  obtain ⟨y, rfl⟩ := Int.eq_ofNat_of_zero_le x0
  obtain ⟨d3, hd⟩ : ∃ d, 1 + y = d := ⟨_, rfl⟩
  have hdI : 1 + (y : Int) = (d3 : Int) := by omega
  have hb3 : 1 ≤ d3 ∧ d3 ≤ 16 := by omega
  have K := HT2.out.1.grow hg
  have HT3 : Hid (RT w c (fun j => if j = 5 then d3 else (fun j => if j = 3 then d2 else (fun j => if j = 1 then d1 else (fun j => if j = 0 then d0 else 0) j) j) j) (u2.setCell ⟨c, 5, none⟩ (.int .i64 d3)) ∧ Src (w.heap.size + 1) (u2.setCell ⟨c, 5, none⟩ (.int .i64 d3)) (w.heap.size + 1) a len cap (6 + 2)) := ⟨K.set 5 d3, hs.below ((Below.refl _ _).setCell (p := ⟨c, 5, none⟩) (by show w.heap.size + 1 + 1 ≤ c; omega) _)⟩
  obtain ⟨⟨k0, k1, k2, k3, k4, k5⟩, kf⟩ := K.c6
  have kfk := kf 5 (by omega)
  clear K hs hg x0 x1 kf hd HT2
  go_upto_region 6 with fail
  generalize u2.setCell ⟨c, 5, none⟩ (.int .i64 d3) = v3 at HT3 ⊢
  clear k0 k1 k2 k3 k4 k5 kfk u2 hdI
  go_wp2_with fail
  refine (pick_any _ (w.heap.size + 1) a len cap 8 65536 _ HT3.out.2 (by omega) hl (by omega) (by omega)).mono ?_
  rintro e u3 ⟨x, rfl, ⟨x0, x1⟩, hs, hg⟩
  obtain ⟨y, rfl⟩ := Int.eq_ofNat_of_zero_le x0
  obtain ⟨d4, hd⟩ : ∃ d, y = d := ⟨_, rfl⟩
  subst hd
  have hb4 : y < 65536 := by omega
  have K := HT3.out.1.grow hg
  have HT4 : Hid (RT w c (fun j => if j = 2 then y else (fun j => if j = 5 then d3 else (fun j => if j = 3 then d2 else (fun j => if j = 1 then d1 else (fun j => if j = 0 then d0 else 0) j) j) j) j) (u3.setCell ⟨c, 2, none⟩ (.int .i64 y)) ∧ Src (w.heap.size + 1) (u3.setCell ⟨c, 2, none⟩ (.int .i64 y)) (w.heap.size + 1) a len cap (8 + 2)) := ⟨K.set 2 y, hs.below ((Below.refl _ _).setCell (p := ⟨c, 2, none⟩) (by show w.heap.size + 1 + 1 ≤ c; omega) _)⟩
  obtain ⟨⟨k0, k1, k2, k3, k4, k5⟩, kf⟩ := K.c6
  have kfk := kf 2 (by omega)
  clear K hs hg x0 x1 kf HT3
  go_upto_region 7 with fail
  generalize u3.setCell ⟨c, 2, none⟩ (.int .i64 y) = v4 at HT4 ⊢
  clear k0 k1 k2 k3 k4 k5 kfk u3
  generalize hyd : y = d4 at HT4 hb4 ⊢
  clear hyd y
  go_wp2_with fail
  refine (pick_any _ (w.heap.size + 1) a len cap 10 65536 _ HT4.out.2 (by omega) hl (by omega) (by omega)).mono ?_
  rintro e u4 ⟨x, rfl, ⟨x0, x1⟩, hs, hg⟩
  obtain ⟨y, rfl⟩ := Int.eq_ofNat_of_zero_le x0
  obtain ⟨d5, hd⟩ : ∃ d, y = d := ⟨_, rfl⟩
  subst hd
  have hb5 : y < 65536 := by omega
  have K := HT4.out.1.grow hg
  have HT5 : Hid (RT w c (fun j => if j = 4 then y else (fun j => if j = 2 then d4 else (fun j => if j = 5 then d3 else (fun j => if j = 3 then d2 else (fun j => if j = 1 then d1 else (fun j => if j = 0 then d0 else 0) j) j) j) j) j) (u4.setCell ⟨c, 4, none⟩ (.int .i64 y)) ∧ Src (w.heap.size + 1) (u4.setCell ⟨c, 4, none⟩ (.int .i64 y)) (w.heap.size + 1) a len cap (10 + 2)) := ⟨K.set 4 y, hs.below ((Below.refl _ _).setCell (p := ⟨c, 4, none⟩) (by show w.heap.size + 1 + 1 ≤ c; omega) _)⟩
  obtain ⟨⟨k0, k1, k2, k3, k4, k5⟩, kf⟩ := K.c6
  have kfk := kf 4 (by omega)
  clear K hs hg x0 x1 kf HT4
  go_upto_region 8 with fail
  generalize u4.setCell ⟨c, 4, none⟩ (.int .i64 y) = v5 at HT5 ⊢
  clear k0 k1 k2 k3 k4 k5 kfk u4
  generalize hyd : y = d5 at HT5 hb5 ⊢
  clear hyd y
  obtain ⟨⟨h1, h2, h3, h4⟩, _⟩ := HT5.out
  have h2' := h2
  have k0 := h2'.at0 (j := 0) (v := d0) (by omega) (by simp)
  have k1 := h2'.at0 (j := 1) (v := d1) (by omega) (by simp)
  have k2 := h2'.at0 (j := 2) (v := d4) (by omega) (by simp)
  have k3 := h2'.at0 (j := 3) (v := d2) (by omega) (by simp)
  have k4 := h2'.at0 (j := 4) (v := d5) (by omega) (by simp)
  have k5 := h2'.at0 (j := 5) (v := d3) (by omega) (by simp)
  have fr : ∀ j, j < 6 → v5.frozen? ⟨w.heap.size, j, none⟩ = false := fun j hj => by have := (h1 j hj).2; rwa [Nat.zero_add] at this
  have f0 := fr 0 (by omega)
  have f1 := fr 1 (by omega)
  have f2 := fr 2 (by omega)
  have f3 := fr 3 (by omega)
  have f4 := fr 4 (by omega)
  have f5 := fr 5 (by omega)
  have zc : ∀ j, j < 6 → v5.cell? ⟨w.heap.size, j, none⟩ = some (.int .i64 (0 : Nat)) := fun j hj => by have := (h1 j hj).1; rwa [Nat.zero_add] at this
  have z0 := zc 0 (by omega)
  have z1 := zc 1 (by omega)
  have z2 := zc 2 (by omega)
  have z3 := zc 3 (by omega)
  have z4 := zc 4 (by omega)
  have z5 := zc 5 (by omega)
  have hP := (((((h1.set0 0 d0).set0 1 d1).set0 2 d4).set0 3 d2).set0 4 d5).set0 5 d3
  have HB : Hid (Below w.heap.size w ((((((v5.setCell ⟨w.heap.size, 0, none⟩ (.int .i64 (d0 : Nat))).setCell ⟨w.heap.size, 1, none⟩ (.int .i64 (d1 : Nat))).setCell ⟨w.heap.size, 2, none⟩ (.int .i64 (d4 : Nat))).setCell ⟨w.heap.size, 3, none⟩ (.int .i64 (d2 : Nat))).setCell ⟨w.heap.size, 4, none⟩ (.int .i64 (d5 : Nat))).setCell ⟨w.heap.size, 5, none⟩ (.int .i64 (d3 : Nat)))) := (((((h3.setCell (p := ⟨w.heap.size, 0, none⟩) (Nat.le_refl _) _).setCell (p := ⟨w.heap.size, 1, none⟩) (Nat.le_refl _) _).setCell (p := ⟨w.heap.size, 2, none⟩) (Nat.le_refl _) _).setCell (p := ⟨w.heap.size, 3, none⟩) (Nat.le_refl _) _).setCell (p := ⟨w.heap.size, 4, none⟩) (Nat.le_refl _) _).setCell (p := ⟨w.heap.size, 5, none⟩) (Nat.le_refl _) _
  have p0 := hP.at0 (j := 0) (v := d0) (by omega) (by simp)
  have p1 := hP.at0 (j := 1) (v := d1) (by omega) (by simp)
  have p2 := hP.at0 (j := 2) (v := d4) (by omega) (by simp)
  have p3 := hP.at0 (j := 3) (v := d2) (by omega) (by simp)
  have p4 := hP.at0 (j := 4) (v := d5) (by omega) (by simp)
  have p5 := hP.at0 (j := 5) (v := d3) (by omega) (by simp)
  have HOK : Hid ((⟨d0, d1, d4, d2, d5, d3⟩ : G2.Tm).ok) := by
    unfold Hid G2.Tm.ok
    exact ⟨hb0, hb1, hb4, hb2, hb5, hb3⟩
  clear hP fr zc h1 h2 h2' h3 HT5
  have HT : Hid (TemPost w (.returned (.agg #[.int .i64 d0, .int .i64 d1, .int .i64 d4, .int .i64 d2, .int .i64 d5, .int .i64 d3])) ((((((v5.setCell ⟨w.heap.size, 0, none⟩ (.int .i64 (d0 : Nat))).setCell ⟨w.heap.size, 1, none⟩ (.int .i64 (d1 : Nat))).setCell ⟨w.heap.size, 2, none⟩ (.int .i64 (d4 : Nat))).setCell ⟨w.heap.size, 3, none⟩ (.int .i64 (d2 : Nat))).setCell ⟨w.heap.size, 4, none⟩ (.int .i64 (d5 : Nat))).setCell ⟨w.heap.size, 5, none⟩ (.int .i64 (d3 : Nat)))) := ⟨⟨d0, d1, d4, d2, d5, d3⟩, HOK.out, rfl, HB.out⟩
  go_wp2
  exact bodyPost_ret (v := .agg #[.int .i64 d0, .int .i64 d1, .int .i64 d4, .int .i64 d2, .int .i64 d5, .int .i64 d3]) (by simp [results, Tryd.results9, go_sem, p0, p1, p2, p3, p4, p5]) rfl HT.out
set_option maxRecDepth 10000 in
theorem lawTd (a0 : Option Addr) (len0 cap0 : Nat) (a1 : Option Addr) (len1 cap1 : Nat) (te : TypeId) (pe : Value) (w : World) (C0 : Code w w.heap.size a0 len0) (C1 : Code w w.heap.size a1 len1) (l0 : len0 ≤ 9223372036854775807) (l1 : len1 ≤ 9223372036854775807) (hT : Tz w.heap.size w) (hG : 0 < w.heap.size) (hE : w.cell? ⟨0, 0, none⟩ = some (.iface te pe)) :
    Calls Tryd.prog 4 #[.slice a0 len0 cap0, .slice a1 len1 cap1] w fun e w' => e = .returned (.bool true) ∧ Below w.heap.size w w' := by
  by_cases hl : len0 ≤ 48 ∧ len1 ≤ 48
  · obtain ⟨h0, h1⟩ := hl
    have HC0 := Lib.hid C0
    have HC1 := Lib.hid C1
    have HU : Hid (∀ (t : G2.Tm) (z : Nat) (V : World), t.ok → z < 65536 → Below w.heap.size w V → Calls Tryd.prog 7 #[.agg #[.int .i64 t.d1, .int .i64 t.u1, .int .i64 t.m1, .int .i64 t.u2, .int .i64 t.m2, .int .i64 t.d2], .int .i64 z] V fun e w' => e = .returned (.tuple #[.int .i64 (G2.unt t z : Nat), .bool true]) ∧ Below V.heap.size V w') := fun t z V ht hz hb => untW_yes w.heap.size t z te pe V ht hz (hT.on hb) hb.size hG ((hb.cell (p := ⟨0, 0, none⟩) hG).trans hE)
    clear C0 C1 hT hE hG
    go_enter Tryd.func4, Tryd.ntmps4
    go_wp2_with fail
    refine (r8Long_no _ _ _ _ _ _ _ h0 h1).mono ?_
    rintro e w1 ⟨rfl, rfl⟩
    go_wp2_with fail
    refine (r8Temper_any a0 len0 cap0 w HC0.out (by omega)).mono ?_
    rintro e w1 ⟨t, ht, rfl, hb1⟩
    have HUt := Lib.hid fun z V hz hb => HU.out t z V ht hz hb
    have HTt := Lib.hid fun y V hy => temW_yes t y V ht hy
    have HVt := Lib.hid fun V => validT_b _ _ _ _ _ _ true V (decide_eq_true (tem_ok ht))
    have K0 := T6.new w1 t.d1 t.u1 t.m1 t.u2 t.m2 t.d2 26
    have KB : Below w.heap.size w (w1.alloc (.cells #[.int .i64 t.d1, .int .i64 t.u1, .int .i64 t.m1, .int .i64 t.u2, .int .i64 t.m2, .int .i64 t.d2] 26)) := hb1.alloc hb1.size _
    have HFt : Hid ((∀ y, y < 65536 → G2.tmp t y < 65536) ∧ (∀ y, y < 65536 → G2.unt t (G2.tmp t y) = y) ∧ (∀ y, y < 65536 → G2.tmp t (G2.unt t y) = y) ∧ (∀ y, y < 65536 → G2.unt t y < 65536)) := ⟨fun y hy => G2.tmp_lt ht hy, fun y hy => G2.unt_tmp ht hy, fun y hy => G2.tmp_unt ht hy, fun y hy => G2.unt_lt ht hy⟩
    generalize G2.tmp t = ft at HTt HFt
    generalize G2.unt t = fu at HUt HFt
    obtain ⟨D1, U1, M1, U2, M2, D2⟩ := t
    simp only at *
    clear HU ht
    go_upto_region 4 with fail
    generalize w1.alloc (.cells #[.int .i64 D1, .int .i64 U1, .int .i64 M1, .int .i64 U2, .int .i64 M2, .int .i64 D2] 26) = w2 at K0 KB ⊢
    generalize hb0 : w1.heap.size = b at K0 ⊢
    clear hb1 hb0
    have K2 := Lib.hid (And.intro K0 KB)
    clear K0 KB
    go_wp2_with fail
    refine (r8Number_any a1 len1 cap1 65536 w2 ((HC1.out.below K2.out.2).mono K2.out.2.size) (by omega) (by omega) (by omega)).mono ?_
    rintro e w3 ⟨Y, rfl, hY, hb⟩
    have K3 := Lib.hid (And.intro (K2.out.1.far hb) (K2.out.2.trans (hb.mono K2.out.2.size)))
    clear hb K2
    go_wp2_with fail
    refine (r8At_any a1 len1 cap1 2 200 w.heap.size _ (HC1.out.below K3.out.2) (by omega) (by omega) (by omega) (by omega)).mono ?_
    rintro e w4 ⟨v, rfl, hv, hm⟩
    have K4 : Hid (T6 b w1 b D1 U1 M1 U2 M2 D2 w4 ∧ Below w.heap.size w w4) := by
      obtain ⟨m, rfl⟩ := hm
      have hb := below_drewN (Below.refl w3.heap.size w3) m
      exact ⟨K3.out.1.far hb, K3.out.2.trans (hb.mono K3.out.2.size)⟩
    clear hm K3
    obtain ⟨X, hX⟩ : ∃ X, (Y + 1 + v) % 65536 = X := ⟨_, rfl⟩
    have hXI : ((Y : Int) + 1 + (v : Int)) % 65536 = (X : Int) := by omega
    have hX1 : X < 65536 := by omega
    have hne : X ≠ Y := by omega
    obtain ⟨q1, q2, q3, q4⟩ := HFt.out
    have hZ : ft Y < 65536 := q1 Y (by omega)
    have hV : fu Y < 65536 := q4 Y (by omega)
    have HR : Hid (fu (ft Y) = Y ∧ ft (fu Y) = Y ∧ ft X ≠ ft Y) := ⟨q2 Y (by omega), q3 Y (by omega), fun e => hne (by rw [← q2 X hX1, e, q2 Y (by omega)])⟩
    clear q1 q2 q3 q4 hX HFt HC0 HC1
    obtain ⟨⟨x0, x1, x2, x3, x4, x5⟩, _⟩ := K4.out.1
    go_wp2_with fail
    refine (HTt.out Y _ (by omega)).mono ?_
    rintro e w5 ⟨rfl, hb⟩
    have K5 := Lib.hid (And.intro (K4.out.1.far hb) (K4.out.2.trans (hb.mono K4.out.2.size)))
    clear hb x0 x1 x2 x3 x4 x5
    obtain ⟨⟨x0, x1, x2, x3, x4, x5⟩, _⟩ := K5.out.1
    go_wp2_with fail
    refine (HUt.out (ft Y) _ hZ K5.out.2).mono ?_
    rintro e w6 ⟨rfl, hb⟩
    have K6 := Lib.hid (And.intro (K5.out.1.far hb) (K5.out.2.trans (hb.mono K5.out.2.size)))
    clear hb x0 x1 x2 x3 x4 x5
    obtain ⟨⟨x0, x1, x2, x3, x4, x5⟩, _⟩ := K6.out.1
    go_wp2_with fail
    refine (HTt.out X _ hX1).mono ?_
    rintro e w7 ⟨rfl, hb⟩
    have K7 := Lib.hid (And.intro (K6.out.1.far hb) (K6.out.2.trans (hb.mono K6.out.2.size)))
    clear hb x0 x1 x2 x3 x4 x5
    obtain ⟨⟨x0, x1, x2, x3, x4, x5⟩, _⟩ := K7.out.1
    go_wp2_with fail
    refine (HUt.out Y _ (by omega) K7.out.2).mono ?_
    rintro e w8 ⟨rfl, hb⟩
    have K8 := Lib.hid (And.intro (K7.out.1.far hb) (K7.out.2.trans (hb.mono K7.out.2.size)))
    clear hb x0 x1 x2 x3 x4 x5
    obtain ⟨⟨x0, x1, x2, x3, x4, x5⟩, _⟩ := K8.out.1
    go_wp2_with fail
    refine (HTt.out (fu Y) _ hV).mono ?_
    rintro e w9 ⟨rfl, hb⟩
    have K9 := Lib.hid (And.intro (K8.out.1.far hb) (K8.out.2.trans (hb.mono K8.out.2.size)))
    clear hb x0 x1 x2 x3 x4 x5
    obtain ⟨⟨x0, x1, x2, x3, x4, x5⟩, _⟩ := K9.out.1
    obtain ⟨r1, r2, r3⟩ := HR.out
    have t1 : (((fu (ft Y) : Nat) : Int) == (Y : Int)) = true := by rw [r1]; simp
    have t2 : (((ft (fu Y) : Nat) : Int) == (Y : Int)) = true := by rw [r2]; simp
    have t3 : (((ft X : Nat) : Int) != ((ft Y : Nat) : Int)) = true := by simp; omega
    clear r1 r2 r3
    generalize fu (ft Y) = s1 at t1 ⊢
    generalize ft (fu Y) = s2 at t2 ⊢
    generalize ft X = s3 at t3 ⊢
    generalize ft Y = s4 at t3 ⊢
    clear HR HUt HTt hZ hV
    go_wp2_with fail
    refine (HVt.out _).mono ?_
    rintro e w10 ⟨rfl, hb⟩
    have KE := Lib.hid (K9.out.2.trans (hb.mono K9.out.2.size))
    clear hb x0 x1 x2 x3 x4 x5
    go_wp2
    go_ret
    exact ⟨rfl, KE.out⟩
  · go_enter Tryd.func4, Tryd.ntmps4
    go_wp2_with fail
    refine (r8Long_yes _ _ _ _ _ _ _ l0 l1 hl).mono ?_
    rintro e w1 ⟨rfl, rfl⟩
    go_wp2
    go_ret
    exact ⟨rfl, Below.refl _ _⟩
end Go.Proofs.YtciofobedgmbjabDoor
