/- Frames of exact laws over slices of slices (written by tools/genss.py). -/
import Derived.Test.YtmnnpkmjamhmcaaSSb
namespace Go.Proofs.Ytmnnpkmjamhmcaa
open Go.RowKit Go.PlainAid
set_option maxHeartbeats 1600000
set_option maxRecDepth 20000
def GivesSIsPoints (f0 : FuncId) (m : Nat) (f : Nat → List Int) (p1 : Int) (ok : Bool) : Prop := ∀ (W : World) b c, RR W.heap.size W b m f → m ≤ c →  Calls Try.prog f0 #[.slice b m c, .int .i64 p1] W fun e w' => e = .returned (.bool ok) ∧ Below W.heap.size W w'
def GivesIIsPoints (f0 : FuncId) (m : Nat) (f : Nat → List Int) (p1 : Int) (ok : Bool) : Prop := ∀ (W : World) b c, RR W.heap.size W b m f → m ≤ c →  Calls Try.prog f0 #[.slice b m c, .int .i64 p1] W fun e w' => e = .returned (.bool ok) ∧ Below W.heap.size W w'
theorem lawIsPoints_core (a : Option Addr) (m cap : Nat) (f : Nat → List Int) (p1 : Int) (ok : Bool) (w : World) (h : RR w.heap.size w a m f) (hm : m ≤ maxLen) (hL : ∀ d, (f d).length ≤ maxLen) 
    (HS : Hid (m + szl f m ≤ 1048576 → GivesSIsPoints 21 m f p1 ok)) (HI : Hid (m + szl f m ≤ 1048576 → GivesIIsPoints 23 m f p1 ok)) :
    Calls Try.prog 4 #[.slice a m cap, .int .i64 p1] w fun e w' => e = .returned (.bool true) ∧ Below w.heap.size w w' := by
  have HR := Lib.hid h
  have HLL := Lib.hid hL
  clear h hL
  have HZ : Hid (∀ W : World, W = w → Calls Try.prog 20 #[.slice a m cap, .int .i64 1048576] W fun e w' => e = .returned (.int .i64 (left2 m f)) ∧ W = w') := fun W hW => by
    subst hW
    exact szSS_any a m cap f W HR.out hm HLL.out
  by_cases hcn : m + szl f m ≤ 1048576
  rotate_left
  · have e0 : left2 m f = -1 := by unfold left2; rw [if_neg hcn]
    rw [e0] at HZ
    clear e0 hcn
    go_enter Try.func4, Try.ntmps4
    go_wp2_with fail
    refine (HZ.out _ rfl).mono ?_
    rintro e w0 ⟨rfl, rfl⟩
    go_wp2
    go_ret
    exact ⟨rfl, Below.refl _ _⟩
  have e0 : left2 m f = 1048576 - ((m + szl f m : Nat) : Int) := by unfold left2; rw [if_pos hcn]
  rw [e0] at HZ
  clear e0
  have tz : decide ((1048576 : Int) - ((m + szl f m : Nat) : Int) < 0) = false := by simp; omega
  replace HS := Lib.hid (HS.out hcn)
  replace HI := Lib.hid (HI.out hcn)
  have hok : (ok != ok) = false := by simp
  have B := Below.refl w.heap.size w
  go_enter Try.func4, Try.ntmps4
  go_wp2_with fail
  refine (HZ.out _ rfl).mono ?_
  rintro e w0 ⟨rfl, rfl⟩
  clear HZ
  go_wp2_with fail
  refine (copySS_any a m cap f w (HR.out.far B) hcn).mono ?_
  rintro e w1 ⟨b1m, c1m, rfl, k1m, r1m, L1m, hb⟩
  have zw1 := hb.size
  replace B := B.trans (hb.mono B.size)
  clear hb
  clear L1m
  go_wp2_with fail
  refine (HS.out w1 b1m c1m (r1m.up (by omega)) k1m).mono ?_
  rintro e w2 ⟨rfl, hb⟩
  replace r1m := r1m.below (hb.mono (by omega))
  have zw2 := hb.size
  replace B := B.trans (hb.mono B.size)
  clear hb
  clear r1m
  clear HS
  go_wp2_with fail
  refine (copySS_any a m cap f w2 (HR.out.far B) hcn).mono ?_
  rintro e w3 ⟨b2m, c2m, rfl, k2m, r2m, L2m, hb⟩
  have zw3 := hb.size
  replace B := B.trans (hb.mono B.size)
  clear hb
  go_wp2_with fail
  refine (HI.out w3 b2m c2m (r2m.up (by omega)) k2m).mono ?_
  rintro e w4 ⟨rfl, hb⟩
  replace r2m := r2m.below (hb.mono (by omega))
  replace L2m := L2m.far hb
  have zw4 := hb.size
  replace B := B.trans (hb.mono B.size)
  clear hb
  clear HI
  clear r2m
  go_wp2_with fail
  refine (copySS_any a m cap f w4 (HR.out.far B) hcn).mono ?_
  rintro e w5 ⟨b3m, c3m, rfl, k3m, r3m, L3m, hb⟩
  replace L2m := L2m.far hb
  have zw5 := hb.size
  replace B := B.trans (hb.mono B.size)
  clear hb
  clear L3m
  obtain ⟨q2x, d2x, hv2x, _, R2x⟩ := L2m.rr
  cases hv2x
  go_wp2_with fail
  refine (eqRR_yes _ _ m _ _ f _ _ _ R2x r3m (by omega) (by omega) hcn).mono ?_
  rintro e w6 ⟨rfl, hb⟩
  replace L2m := L2m.far hb
  replace r3m := r3m.below (hb.mono (by omega))
  have zw6 := hb.size
  replace B := B.trans (hb.mono B.size)
  clear hb
  clear R2x
  clear r3m
  go_wp2
  go_ret
  exact ⟨rfl, B⟩
def GivesSBoxCounts (f0 : FuncId) (m : Nat) (f : Nat → List Int) (p1 : Int) (n : Nat) (xs : List Int) (ys : List Int) (ok : Bool) : Prop := ∀ (W : World) b c b2 c2, RR W.heap.size W b m f → m ≤ c → RO W.heap.size W b2 xs → n ≤ c2 →  Calls Try.prog f0 #[.slice b m c, .int .i64 p1, .slice b2 n c2] W fun e w' => ∃ v, e = .returned (.tuple #[v, .bool ok]) ∧ SL W.heap.size w'.heap.size w' v ys ∧ Below W.heap.size W w'
def GivesIBoxCounts (f0 : FuncId) (m : Nat) (f : Nat → List Int) (p1 : Int) (n : Nat) (xs : List Int) (ys : List Int) (ok : Bool) : Prop := ∀ (W : World) b c b2 c2, RR W.heap.size W b m f → m ≤ c → RO W.heap.size W b2 xs → n ≤ c2 →  Calls Try.prog f0 #[.slice b m c, .int .i64 p1, .slice b2 n c2] W fun e w' => ∃ v, e = .returned (.tuple #[v, .bool ok]) ∧ SL W.heap.size w'.heap.size w' v ys ∧ Below W.heap.size W w'
theorem lawBoxCounts_core (a : Option Addr) (m cap : Nat) (f : Nat → List Int) (p1 : Int) (a2 : Option Addr) (n cap2 : Nat) (xs : List Int) (ys : List Int) (ok : Bool) (w : World) (h : RR w.heap.size w a m f) (hm : m ≤ maxLen) (hL : ∀ d, (f d).length ≤ maxLen) (h2 : RO w.heap.size w a2 xs) (hn : xs.length = n) (hy : ys.length ≤ 1048576) 
    (HS : Hid (m + szl f m ≤ 1048576 → n ≤ 1048576 → GivesSBoxCounts 25 m f p1 n xs ys ok)) (HI : Hid (m + szl f m ≤ 1048576 → n ≤ 1048576 → GivesIBoxCounts 27 m f p1 n xs ys ok)) :
    Calls Try.prog 5 #[.slice a m cap, .int .i64 p1, .slice a2 n cap2] w fun e w' => e = .returned (.bool true) ∧ Below w.heap.size w w' := by
  have HR := Lib.hid h
  have HLL := Lib.hid hL
  have HR2 := Lib.hid h2
  have HN := Lib.hid hn
  clear h hL
  clear h2 hn
  by_cases hb2 : 1048576 < n
  · have t0 : decide ((1048576 : Int) < (n : Int)) = true := by simp; omega
    go_enter Try.func5, Try.ntmps5
    go_wp2
    go_ret
    exact ⟨rfl, Below.refl _ _⟩
  have t0 : decide ((1048576 : Int) < (n : Int)) = false := by simp; omega
  have HZ : Hid (∀ W : World, W = w → Calls Try.prog 20 #[.slice a m cap, .int .i64 1048576] W fun e w' => e = .returned (.int .i64 (left2 m f)) ∧ W = w') := fun W hW => by
    subst hW
    exact szSS_any a m cap f W HR.out hm HLL.out
  by_cases hcn : m + szl f m ≤ 1048576
  rotate_left
  · have e0 : left2 m f = -1 := by unfold left2; rw [if_neg hcn]
    rw [e0] at HZ
    clear e0 hcn
    go_enter Try.func5, Try.ntmps5
    go_wp2_with fail
    refine (HZ.out _ rfl).mono ?_
    rintro e w0 ⟨rfl, rfl⟩
    go_wp2
    go_ret
    exact ⟨rfl, Below.refl _ _⟩
  have e0 : left2 m f = 1048576 - ((m + szl f m : Nat) : Int) := by unfold left2; rw [if_pos hcn]
  rw [e0] at HZ
  clear e0
  have tz : decide ((1048576 : Int) - ((m + szl f m : Nat) : Int) < 0) = false := by simp; omega
  replace HS := Lib.hid (HS.out hcn (by omega))
  replace HI := Lib.hid (HI.out hcn (by omega))
  have hok : (ok != ok) = false := by simp
  have B := Below.refl w.heap.size w
  go_enter Try.func5, Try.ntmps5
  go_wp2_with fail
  refine (HZ.out _ rfl).mono ?_
  rintro e w0 ⟨rfl, rfl⟩
  clear HZ
  go_wp2_with fail
  refine (copySS_any a m cap f w (HR.out.far B) hcn).mono ?_
  rintro e w1 ⟨b1m, c1m, rfl, k1m, r1m, L1m, hb⟩
  have zw1 := hb.size
  replace B := B.trans (hb.mono B.size)
  clear hb
  clear L1m
  go_wp2_with fail
  refine (copy7_any a2 n cap2 xs w1 ((HR2.out.below B).up B.size) HN.out (by omega)).mono ?_
  rintro e w2 ⟨b1s, c1s, rfl, r1s, k1s, S1s, hb⟩
  replace r1m := r1m.below (hb.mono (by omega))
  have zw2 := hb.size
  replace B := B.trans (hb.mono B.size)
  clear hb
  clear S1s
  go_wp2_with fail
  refine (HS.out w2 b1m c1m b1s c1s (r1m.up (by omega)) k1m (r1s.up (by omega)) k1s).mono ?_
  rintro e w3 ⟨v1, rfl, G1, hb⟩
  replace r1m := r1m.below (hb.mono (by omega))
  replace r1s := r1s.below (hb.mono (by omega))
  have zw3 := hb.size
  replace B := B.trans (hb.mono B.size)
  clear hb
  clear r1m r1s
  clear HS
  go_wp2_with fail
  refine (copySS_any a m cap f w3 (HR.out.far B) hcn).mono ?_
  rintro e w4 ⟨b2m, c2m, rfl, k2m, r2m, L2m, hb⟩
  replace G1 := G1.chg (Chg.of hb 0 0) (by omega) (.inr (Nat.zero_le _))
  have zw4 := hb.size
  replace B := B.trans (hb.mono B.size)
  clear hb
  go_wp2_with fail
  refine (copy7_any a2 n cap2 xs w4 ((HR2.out.below B).up B.size) HN.out (by omega)).mono ?_
  rintro e w5 ⟨b2s, c2s, rfl, r2s, k2s, S2s, hb⟩
  replace G1 := G1.chg (Chg.of hb 0 0) (by omega) (.inr (Nat.zero_le _))
  replace r2m := r2m.below (hb.mono (by omega))
  replace L2m := L2m.far hb
  have zw5 := hb.size
  replace B := B.trans (hb.mono B.size)
  clear hb
  go_wp2_with fail
  refine (HI.out w5 b2m c2m b2s c2s (r2m.up (by omega)) k2m (r2s.up (by omega)) k2s).mono ?_
  rintro e w6 ⟨v2, rfl, G2, hb⟩
  replace G1 := G1.chg (Chg.of hb 0 0) (by omega) (.inr (Nat.zero_le _))
  replace r2m := r2m.below (hb.mono (by omega))
  replace L2m := L2m.far hb
  replace r2s := r2s.below (hb.mono (by omega))
  replace S2s := S2s.chg (Chg.of hb 0 0) (by omega) (.inr (Nat.zero_le _))
  have zw6 := hb.size
  replace B := B.trans (hb.mono B.size)
  clear hb
  clear r2m r2s
  go_wp2_with fail
  refine (eq64_yes _ _ ys _ _ _ _ _ G2 G1 hy).mono ?_
  rintro e w7 ⟨rfl, nw7, ew7⟩
  have hb : Below w6.heap.size w6 w7 := by rw [ew7]; exact below_drewN (Below.refl _ _) _
  clear ew7
  replace G1 := G1.chg (Chg.of hb 0 0) (by omega) (.inr (Nat.zero_le _))
  replace L2m := L2m.far hb
  replace S2s := S2s.chg (Chg.of hb 0 0) (by omega) (.inr (Nat.zero_le _))
  replace G2 := G2.chg (Chg.of hb 0 0) (by omega) (.inr (Nat.zero_le _))
  have zw7 := hb.size
  replace B := B.trans (hb.mono B.size)
  clear hb
  go_wp2_with fail
  refine (copySS_any a m cap f w7 (HR.out.far B) hcn).mono ?_
  rintro e w8 ⟨b3m, c3m, rfl, k3m, r3m, L3m, hb⟩
  replace G1 := G1.chg (Chg.of hb 0 0) (by omega) (.inr (Nat.zero_le _))
  replace L2m := L2m.far hb
  replace S2s := S2s.chg (Chg.of hb 0 0) (by omega) (.inr (Nat.zero_le _))
  replace G2 := G2.chg (Chg.of hb 0 0) (by omega) (.inr (Nat.zero_le _))
  have zw8 := hb.size
  replace B := B.trans (hb.mono B.size)
  clear hb
  clear L3m
  obtain ⟨q2x, d2x, hv2x, _, R2x⟩ := L2m.rr
  cases hv2x
  go_wp2_with fail
  refine (eqRR_yes _ _ m _ _ f _ _ _ R2x r3m (by omega) (by omega) hcn).mono ?_
  rintro e w9 ⟨rfl, hb⟩
  replace G1 := G1.chg (Chg.of hb 0 0) (by omega) (.inr (Nat.zero_le _))
  replace L2m := L2m.far hb
  replace S2s := S2s.chg (Chg.of hb 0 0) (by omega) (.inr (Nat.zero_le _))
  replace G2 := G2.chg (Chg.of hb 0 0) (by omega) (.inr (Nat.zero_le _))
  replace r3m := r3m.below (hb.mono (by omega))
  have zw9 := hb.size
  replace B := B.trans (hb.mono B.size)
  clear hb
  clear R2x
  clear r3m
  go_wp2_with fail
  refine (copy7_any a2 n cap2 xs w9 ((HR2.out.below B).up B.size) HN.out (by omega)).mono ?_
  rintro e w10 ⟨b3s, c3s, rfl, r3s, k3s, S3s, hb⟩
  replace G1 := G1.chg (Chg.of hb 0 0) (by omega) (.inr (Nat.zero_le _))
  replace L2m := L2m.far hb
  replace S2s := S2s.chg (Chg.of hb 0 0) (by omega) (.inr (Nat.zero_le _))
  replace G2 := G2.chg (Chg.of hb 0 0) (by omega) (.inr (Nat.zero_le _))
  have zw10 := hb.size
  replace B := B.trans (hb.mono B.size)
  clear hb
  go_wp2_with fail
  refine (eq64_yes _ _ xs _ _ _ _ _ S2s S3s (by have := HN.out; omega)).mono ?_
  rintro e w11 ⟨rfl, nw11, ew11⟩
  have hb : Below w10.heap.size w10 w11 := by rw [ew11]; exact below_drewN (Below.refl _ _) _
  clear ew11
  replace G1 := G1.chg (Chg.of hb 0 0) (by omega) (.inr (Nat.zero_le _))
  replace L2m := L2m.far hb
  replace S2s := S2s.chg (Chg.of hb 0 0) (by omega) (.inr (Nat.zero_le _))
  replace G2 := G2.chg (Chg.of hb 0 0) (by omega) (.inr (Nat.zero_le _))
  replace r3s := r3s.below (hb.mono (by omega))
  replace S3s := S3s.chg (Chg.of hb 0 0) (by omega) (.inr (Nat.zero_le _))
  have zw11 := hb.size
  replace B := B.trans (hb.mono B.size)
  clear hb
  clear r3s S3s
  have hk1 : m = 0 ∨ 1 ≤ m := by omega
  have hs0 : m = 0 → szl f m = 0 := fun e => by rw [e]; rfl
  go_wp2_with fail
  refine (markW_any _ m f _ _ _ L2m hcn).mono ?_
  rintro e w12 ⟨rfl, _, hc⟩
  clear L2m
  replace G1 := G1.chg hc (by omega) (by omega)
  replace S2s := S2s.chg hc (by omega) (by omega)
  replace G2 := G2.chg hc (by omega) (by omega)
  have zw12 := hc.size
  replace B := below_chg B hc (by omega) (by omega)
  clear hc
  go_wp2_with fail
  refine (mark64_any _ xs _ _ (1 + (szl f m : Nat)) _ S2s (by have := HN.out; omega) (by omega) (by omega)).mono ?_
  rintro e w13 ⟨rfl, _, hg⟩
  have hc := Chg.grown hg S2s.in
  clear hg
  clear S2s
  replace G1 := G1.chg hc (by omega) (by omega)
  replace G2 := G2.chg hc (by omega) (by omega)
  have zw13 := hc.size
  replace B := below_chg B hc (by omega) (by omega)
  clear hc
  have tk : decide (((1 + (szl f m : Nat)) + (xs.length : Int)) < (0 : Int)) = false := by simp; omega
  go_wp2_with fail
  refine (eq64_yes _ _ ys _ _ _ _ _ G2 G1 hy).mono ?_
  rintro e w14 ⟨rfl, nw14, ew14⟩
  have hb : Below w13.heap.size w13 w14 := by rw [ew14]; exact below_drewN (Below.refl _ _) _
  clear ew14
  replace G1 := G1.chg (Chg.of hb 0 0) (by omega) (.inr (Nat.zero_le _))
  replace G2 := G2.chg (Chg.of hb 0 0) (by omega) (.inr (Nat.zero_le _))
  have zw14 := hb.size
  replace B := B.trans (hb.mono B.size)
  clear hb
  go_wp2_with fail
  refine (mark64_any _ ys _ _ 1 _ G2 hy (by omega) (by omega)).mono ?_
  rintro e w15 ⟨rfl, M2, hg⟩
  have hc := Chg.grown hg G2.in
  clear hg
  clear G2
  replace G1 := G1.chg hc (by omega) (by omega)
  have zw15 := hc.size
  replace B := below_chg B hc (by omega) (by omega)
  clear hc
  have hq9 : ((1 + (ys.length : Int)) != (1 + (ys.length : Int))) = false := by simp
  have tq9 : decide ((1 + (ys.length : Int)) < 0) = false := by simp; omega
  go_wp2_with fail
  refine (held64_any _ ys.length _ _ 1 _ M2 hy (by omega) (by omega)).mono ?_
  rintro e w16 ⟨rfl, rfl⟩
  go_wp2_with fail
  refine (copySS_any a m cap f w15 (HR.out.far B) hcn).mono ?_
  rintro e w17 ⟨b4m, c4m, rfl, k4m, r4m, L4m, hb⟩
  replace G1 := G1.chg (Chg.of hb 0 0) (by omega) (.inr (Nat.zero_le _))
  replace M2 := M2.chg (Chg.of hb 0 0) (by omega) (.inr (Nat.zero_le _))
  have zw17 := hb.size
  replace B := B.trans (hb.mono B.size)
  clear hb
  clear L4m
  go_wp2_with fail
  refine (copy7_any a2 n cap2 xs w17 ((HR2.out.below B).up B.size) HN.out (by omega)).mono ?_
  rintro e w18 ⟨b4s, c4s, rfl, r4s, k4s, S4s, hb⟩
  replace G1 := G1.chg (Chg.of hb 0 0) (by omega) (.inr (Nat.zero_le _))
  replace M2 := M2.chg (Chg.of hb 0 0) (by omega) (.inr (Nat.zero_le _))
  replace r4m := r4m.below (hb.mono (by omega))
  have zw18 := hb.size
  replace B := B.trans (hb.mono B.size)
  clear hb
  clear S4s
  go_wp2_with fail
  refine (HI.out w18 b4m c4m b4s c4s (r4m.up (by omega)) k4m (r4s.up (by omega)) k4s).mono ?_
  rintro e w19 ⟨v4, rfl, G4, hb⟩
  replace G1 := G1.chg (Chg.of hb 0 0) (by omega) (.inr (Nat.zero_le _))
  replace M2 := M2.chg (Chg.of hb 0 0) (by omega) (.inr (Nat.zero_le _))
  replace r4m := r4m.below (hb.mono (by omega))
  replace r4s := r4s.below (hb.mono (by omega))
  have zw19 := hb.size
  replace B := B.trans (hb.mono B.size)
  clear hb
  clear r4m r4s
  go_wp2_with fail
  refine (eq64_yes _ _ ys _ _ _ _ _ G4 G1 hy).mono ?_
  rintro e w20 ⟨rfl, nw20, ew20⟩
  have hb : Below w19.heap.size w19 w20 := by rw [ew20]; exact below_drewN (Below.refl _ _) _
  clear ew20
  replace G1 := G1.chg (Chg.of hb 0 0) (by omega) (.inr (Nat.zero_le _))
  replace M2 := M2.chg (Chg.of hb 0 0) (by omega) (.inr (Nat.zero_le _))
  replace G4 := G4.chg (Chg.of hb 0 0) (by omega) (.inr (Nat.zero_le _))
  have zw20 := hb.size
  replace B := B.trans (hb.mono B.size)
  clear hb
  clear G4 G1
  go_wp2_with fail
  refine (held64_any _ ys.length _ _ 1 _ M2 hy (by omega) (by omega)).mono ?_
  rintro e w21 ⟨rfl, rfl⟩
  go_wp2
  go_ret
  exact ⟨rfl, B⟩
def GivesSIsEven (f0 : FuncId) (m : Nat) (f : Nat → List Int) (p1 : Int) (n : Nat) (xs : List Int) (ok : Bool) : Prop := ∀ (W : World) b c b2 c2, RR W.heap.size W b m f → m ≤ c → RO W.heap.size W b2 xs → n ≤ c2 →  Calls Try.prog f0 #[.slice b m c, .int .i64 p1, .slice b2 n c2] W fun e w' => e = .returned (.bool ok) ∧ Below W.heap.size W w'
def GivesIIsEven (f0 : FuncId) (m : Nat) (f : Nat → List Int) (p1 : Int) (n : Nat) (xs : List Int) (ok : Bool) : Prop := ∀ (W : World) b c b2 c2, RR W.heap.size W b m f → m ≤ c → RO W.heap.size W b2 xs → n ≤ c2 →  Calls Try.prog f0 #[.slice b m c, .int .i64 p1, .slice b2 n c2] W fun e w' => e = .returned (.bool ok) ∧ Below W.heap.size W w'
theorem lawIsEven_core (a : Option Addr) (m cap : Nat) (f : Nat → List Int) (p1 : Int) (a2 : Option Addr) (n cap2 : Nat) (xs : List Int) (ok : Bool) (w : World) (h : RR w.heap.size w a m f) (hm : m ≤ maxLen) (hL : ∀ d, (f d).length ≤ maxLen) (h2 : RO w.heap.size w a2 xs) (hn : xs.length = n) 
    (HS : Hid (m + szl f m ≤ 1048576 → n ≤ 1048576 → GivesSIsEven 32 m f p1 n xs ok)) (HI : Hid (m + szl f m ≤ 1048576 → n ≤ 1048576 → GivesIIsEven 33 m f p1 n xs ok)) :
    Calls Try.prog 6 #[.slice a m cap, .int .i64 p1, .slice a2 n cap2] w fun e w' => e = .returned (.bool true) ∧ Below w.heap.size w w' := by
  have HR := Lib.hid h
  have HLL := Lib.hid hL
  have HR2 := Lib.hid h2
  have HN := Lib.hid hn
  clear h hL
  clear h2 hn
  by_cases hb2 : 1048576 < n
  · have t0 : decide ((1048576 : Int) < (n : Int)) = true := by simp; omega
    go_enter Try.func6, Try.ntmps6
    go_wp2
    go_ret
    exact ⟨rfl, Below.refl _ _⟩
  have t0 : decide ((1048576 : Int) < (n : Int)) = false := by simp; omega
  have HZ : Hid (∀ W : World, W = w → Calls Try.prog 20 #[.slice a m cap, .int .i64 1048576] W fun e w' => e = .returned (.int .i64 (left2 m f)) ∧ W = w') := fun W hW => by
    subst hW
    exact szSS_any a m cap f W HR.out hm HLL.out
  by_cases hcn : m + szl f m ≤ 1048576
  rotate_left
  · have e0 : left2 m f = -1 := by unfold left2; rw [if_neg hcn]
    rw [e0] at HZ
    clear e0 hcn
    go_enter Try.func6, Try.ntmps6
    go_wp2_with fail
    refine (HZ.out _ rfl).mono ?_
    rintro e w0 ⟨rfl, rfl⟩
    go_wp2
    go_ret
    exact ⟨rfl, Below.refl _ _⟩
  have e0 : left2 m f = 1048576 - ((m + szl f m : Nat) : Int) := by unfold left2; rw [if_pos hcn]
  rw [e0] at HZ
  clear e0
  have tz : decide ((1048576 : Int) - ((m + szl f m : Nat) : Int) < 0) = false := by simp; omega
  replace HS := Lib.hid (HS.out hcn (by omega))
  replace HI := Lib.hid (HI.out hcn (by omega))
  have hok : (ok != ok) = false := by simp
  have B := Below.refl w.heap.size w
  go_enter Try.func6, Try.ntmps6
  go_wp2_with fail
  refine (HZ.out _ rfl).mono ?_
  rintro e w0 ⟨rfl, rfl⟩
  clear HZ
  go_wp2_with fail
  refine (copySS_any a m cap f w (HR.out.far B) hcn).mono ?_
  rintro e w1 ⟨b1m, c1m, rfl, k1m, r1m, L1m, hb⟩
  have zw1 := hb.size
  replace B := B.trans (hb.mono B.size)
  clear hb
  clear L1m
  go_wp2_with fail
  refine (copy7_any a2 n cap2 xs w1 ((HR2.out.below B).up B.size) HN.out (by omega)).mono ?_
  rintro e w2 ⟨b1s, c1s, rfl, r1s, k1s, S1s, hb⟩
  replace r1m := r1m.below (hb.mono (by omega))
  have zw2 := hb.size
  replace B := B.trans (hb.mono B.size)
  clear hb
  clear S1s
  go_wp2_with fail
  refine (HS.out w2 b1m c1m b1s c1s (r1m.up (by omega)) k1m (r1s.up (by omega)) k1s).mono ?_
  rintro e w3 ⟨rfl, hb⟩
  replace r1m := r1m.below (hb.mono (by omega))
  replace r1s := r1s.below (hb.mono (by omega))
  have zw3 := hb.size
  replace B := B.trans (hb.mono B.size)
  clear hb
  clear r1m r1s
  clear HS
  go_wp2_with fail
  refine (copySS_any a m cap f w3 (HR.out.far B) hcn).mono ?_
  rintro e w4 ⟨b2m, c2m, rfl, k2m, r2m, L2m, hb⟩
  have zw4 := hb.size
  replace B := B.trans (hb.mono B.size)
  clear hb
  go_wp2_with fail
  refine (copy7_any a2 n cap2 xs w4 ((HR2.out.below B).up B.size) HN.out (by omega)).mono ?_
  rintro e w5 ⟨b2s, c2s, rfl, r2s, k2s, S2s, hb⟩
  replace r2m := r2m.below (hb.mono (by omega))
  replace L2m := L2m.far hb
  have zw5 := hb.size
  replace B := B.trans (hb.mono B.size)
  clear hb
  go_wp2_with fail
  refine (HI.out w5 b2m c2m b2s c2s (r2m.up (by omega)) k2m (r2s.up (by omega)) k2s).mono ?_
  rintro e w6 ⟨rfl, hb⟩
  replace r2m := r2m.below (hb.mono (by omega))
  replace L2m := L2m.far hb
  replace r2s := r2s.below (hb.mono (by omega))
  replace S2s := S2s.chg (Chg.of hb 0 0) (by omega) (.inr (Nat.zero_le _))
  have zw6 := hb.size
  replace B := B.trans (hb.mono B.size)
  clear hb
  clear HI
  clear r2m r2s
  go_wp2_with fail
  refine (copySS_any a m cap f w6 (HR.out.far B) hcn).mono ?_
  rintro e w7 ⟨b3m, c3m, rfl, k3m, r3m, L3m, hb⟩
  replace L2m := L2m.far hb
  replace S2s := S2s.chg (Chg.of hb 0 0) (by omega) (.inr (Nat.zero_le _))
  have zw7 := hb.size
  replace B := B.trans (hb.mono B.size)
  clear hb
  clear L3m
  obtain ⟨q2x, d2x, hv2x, _, R2x⟩ := L2m.rr
  cases hv2x
  go_wp2_with fail
  refine (eqRR_yes _ _ m _ _ f _ _ _ R2x r3m (by omega) (by omega) hcn).mono ?_
  rintro e w8 ⟨rfl, hb⟩
  replace L2m := L2m.far hb
  replace S2s := S2s.chg (Chg.of hb 0 0) (by omega) (.inr (Nat.zero_le _))
  replace r3m := r3m.below (hb.mono (by omega))
  have zw8 := hb.size
  replace B := B.trans (hb.mono B.size)
  clear hb
  clear R2x
  clear r3m
  go_wp2_with fail
  refine (copy7_any a2 n cap2 xs w8 ((HR2.out.below B).up B.size) HN.out (by omega)).mono ?_
  rintro e w9 ⟨b3s, c3s, rfl, r3s, k3s, S3s, hb⟩
  replace L2m := L2m.far hb
  replace S2s := S2s.chg (Chg.of hb 0 0) (by omega) (.inr (Nat.zero_le _))
  have zw9 := hb.size
  replace B := B.trans (hb.mono B.size)
  clear hb
  go_wp2_with fail
  refine (eq64_yes _ _ xs _ _ _ _ _ S2s S3s (by have := HN.out; omega)).mono ?_
  rintro e w10 ⟨rfl, nw10, ew10⟩
  have hb : Below w9.heap.size w9 w10 := by rw [ew10]; exact below_drewN (Below.refl _ _) _
  clear ew10
  replace L2m := L2m.far hb
  replace S2s := S2s.chg (Chg.of hb 0 0) (by omega) (.inr (Nat.zero_le _))
  replace r3s := r3s.below (hb.mono (by omega))
  replace S3s := S3s.chg (Chg.of hb 0 0) (by omega) (.inr (Nat.zero_le _))
  have zw10 := hb.size
  replace B := B.trans (hb.mono B.size)
  clear hb
  clear r3s S3s
  go_wp2
  go_ret
  exact ⟨rfl, B⟩
def GivesSShiftPoints (f0 : FuncId) (m : Nat) (f : Nat → List Int) (p1 : Int) (n : Nat) (xs : List Int) (m9 : Nat) (f9 : Nat → List Int) (ok : Bool) : Prop := ∀ (W : World) b c b2 c2, RR W.heap.size W b m f → m ≤ c → RO W.heap.size W b2 xs → n ≤ c2 →  Calls Try.prog f0 #[.slice b m c, .int .i64 p1, .slice b2 n c2] W fun e w' => ∃ p q, e = .returned (.tuple #[.slice p m9 q, .bool ok]) ∧ RR w'.heap.size w' p m9 f9 ∧ Below W.heap.size W w'
def GivesIShiftPoints (f0 : FuncId) (m : Nat) (f : Nat → List Int) (p1 : Int) (n : Nat) (xs : List Int) (m9 : Nat) (f9 : Nat → List Int) (ok : Bool) : Prop := ∀ (W : World) b c b2 c2, RR W.heap.size W b m f → m ≤ c → RO W.heap.size W b2 xs → n ≤ c2 →  Calls Try.prog f0 #[.slice b m c, .int .i64 p1, .slice b2 n c2] W fun e w' => ∃ v, e = .returned (.tuple #[v, .bool ok]) ∧ LW W.heap.size w'.heap.size w' v m9 f9 ∧ Below W.heap.size W w'
theorem lawShiftPoints_core (a : Option Addr) (m cap : Nat) (f : Nat → List Int) (p1 : Int) (a2 : Option Addr) (n cap2 : Nat) (xs : List Int) (m9 : Nat) (f9 : Nat → List Int) (ok : Bool) (w : World) (h : RR w.heap.size w a m f) (hm : m ≤ maxLen) (hL : ∀ d, (f d).length ≤ maxLen) (h2 : RO w.heap.size w a2 xs) (hn : xs.length = n) (hy : m9 + szl f9 m9 ≤ 1048576) 
    (HS : Hid (m + szl f m ≤ 1048576 → n ≤ 1048576 → GivesSShiftPoints 34 m f p1 n xs m9 f9 ok)) (HI : Hid (m + szl f m ≤ 1048576 → n ≤ 1048576 → GivesIShiftPoints 35 m f p1 n xs m9 f9 ok)) :
    Calls Try.prog 7 #[.slice a m cap, .int .i64 p1, .slice a2 n cap2] w fun e w' => e = .returned (.bool true) ∧ Below w.heap.size w w' := by
  have HR := Lib.hid h
  have HLL := Lib.hid hL
  have HR2 := Lib.hid h2
  have HN := Lib.hid hn
  clear h hL
  clear h2 hn
  by_cases hb2 : 1048576 < n
  · have t0 : decide ((1048576 : Int) < (n : Int)) = true := by simp; omega
    go_enter Try.func7, Try.ntmps7
    go_wp2
    go_ret
    exact ⟨rfl, Below.refl _ _⟩
  have t0 : decide ((1048576 : Int) < (n : Int)) = false := by simp; omega
  have HZ : Hid (∀ W : World, W = w → Calls Try.prog 20 #[.slice a m cap, .int .i64 1048576] W fun e w' => e = .returned (.int .i64 (left2 m f)) ∧ W = w') := fun W hW => by
    subst hW
    exact szSS_any a m cap f W HR.out hm HLL.out
  by_cases hcn : m + szl f m ≤ 1048576
  rotate_left
  · have e0 : left2 m f = -1 := by unfold left2; rw [if_neg hcn]
    rw [e0] at HZ
    clear e0 hcn
    go_enter Try.func7, Try.ntmps7
    go_wp2_with fail
    refine (HZ.out _ rfl).mono ?_
    rintro e w0 ⟨rfl, rfl⟩
    go_wp2
    go_ret
    exact ⟨rfl, Below.refl _ _⟩
  have e0 : left2 m f = 1048576 - ((m + szl f m : Nat) : Int) := by unfold left2; rw [if_pos hcn]
  rw [e0] at HZ
  clear e0
  have tz : decide ((1048576 : Int) - ((m + szl f m : Nat) : Int) < 0) = false := by simp; omega
  replace HS := Lib.hid (HS.out hcn (by omega))
  replace HI := Lib.hid (HI.out hcn (by omega))
  have hok : (ok != ok) = false := by simp
  have B := Below.refl w.heap.size w
  go_enter Try.func7, Try.ntmps7
  go_wp2_with fail
  refine (HZ.out _ rfl).mono ?_
  rintro e w0 ⟨rfl, rfl⟩
  clear HZ
  go_wp2_with fail
  refine (copySS_any a m cap f w (HR.out.far B) hcn).mono ?_
  rintro e w1 ⟨b1m, c1m, rfl, k1m, r1m, L1m, hb⟩
  have zw1 := hb.size
  replace B := B.trans (hb.mono B.size)
  clear hb
  clear L1m
  go_wp2_with fail
  refine (copy7_any a2 n cap2 xs w1 ((HR2.out.below B).up B.size) HN.out (by omega)).mono ?_
  rintro e w2 ⟨b1s, c1s, rfl, r1s, k1s, S1s, hb⟩
  replace r1m := r1m.below (hb.mono (by omega))
  have zw2 := hb.size
  replace B := B.trans (hb.mono B.size)
  clear hb
  clear S1s
  go_wp2_with fail
  refine (HS.out w2 b1m c1m b1s c1s (r1m.up (by omega)) k1m (r1s.up (by omega)) k1s).mono ?_
  rintro e w3 ⟨b1v, c1v, rfl, G1, hb⟩
  replace r1m := r1m.below (hb.mono (by omega))
  replace r1s := r1s.below (hb.mono (by omega))
  have zw3 := hb.size
  replace B := B.trans (hb.mono B.size)
  clear hb
  clear r1m r1s
  clear HS
  go_wp2_with fail
  refine (copySS_any a m cap f w3 (HR.out.far B) hcn).mono ?_
  rintro e w4 ⟨b2m, c2m, rfl, k2m, r2m, L2m, hb⟩
  replace G1 := G1.below (hb.mono (by omega))
  have zw4 := hb.size
  replace B := B.trans (hb.mono B.size)
  clear hb
  go_wp2_with fail
  refine (copy7_any a2 n cap2 xs w4 ((HR2.out.below B).up B.size) HN.out (by omega)).mono ?_
  rintro e w5 ⟨b2s, c2s, rfl, r2s, k2s, S2s, hb⟩
  replace G1 := G1.below (hb.mono (by omega))
  replace r2m := r2m.below (hb.mono (by omega))
  replace L2m := L2m.far hb
  have zw5 := hb.size
  replace B := B.trans (hb.mono B.size)
  clear hb
  go_wp2_with fail
  refine (HI.out w5 b2m c2m b2s c2s (r2m.up (by omega)) k2m (r2s.up (by omega)) k2s).mono ?_
  rintro e w6 ⟨v2, rfl, G2, hb⟩
  replace G1 := G1.below (hb.mono (by omega))
  replace r2m := r2m.below (hb.mono (by omega))
  replace L2m := L2m.far hb
  replace r2s := r2s.below (hb.mono (by omega))
  replace S2s := S2s.chg (Chg.of hb 0 0) (by omega) (.inr (Nat.zero_le _))
  have zw6 := hb.size
  replace B := B.trans (hb.mono B.size)
  clear hb
  clear r2m r2s
  obtain ⟨qw7, dw7, hvw7, hdw7, Rw7⟩ := G2.rr
  cases hvw7
  go_wp2_with fail
  refine (eqRR_yes _ _ m9 _ _ f9 _ _ w6 Rw7 G1 (by have := G2.top_le; omega) (by omega) hy).mono ?_
  rintro e w7 ⟨rfl, hb⟩
  clear hdw7 Rw7
  replace G1 := G1.below (hb.mono (by omega))
  replace L2m := L2m.far hb
  replace S2s := S2s.chg (Chg.of hb 0 0) (by omega) (.inr (Nat.zero_le _))
  replace G2 := G2.far hb
  have zw7 := hb.size
  replace B := B.trans (hb.mono B.size)
  clear hb
  go_wp2_with fail
  refine (copySS_any a m cap f w7 (HR.out.far B) hcn).mono ?_
  rintro e w8 ⟨b3m, c3m, rfl, k3m, r3m, L3m, hb⟩
  replace G1 := G1.below (hb.mono (by omega))
  replace L2m := L2m.far hb
  replace S2s := S2s.chg (Chg.of hb 0 0) (by omega) (.inr (Nat.zero_le _))
  replace G2 := G2.far hb
  have zw8 := hb.size
  replace B := B.trans (hb.mono B.size)
  clear hb
  clear L3m
  obtain ⟨q2x, d2x, hv2x, _, R2x⟩ := L2m.rr
  cases hv2x
  go_wp2_with fail
  refine (eqRR_yes _ _ m _ _ f _ _ _ R2x r3m (by omega) (by omega) hcn).mono ?_
  rintro e w9 ⟨rfl, hb⟩
  replace G1 := G1.below (hb.mono (by omega))
  replace L2m := L2m.far hb
  replace S2s := S2s.chg (Chg.of hb 0 0) (by omega) (.inr (Nat.zero_le _))
  replace G2 := G2.far hb
  replace r3m := r3m.below (hb.mono (by omega))
  have zw9 := hb.size
  replace B := B.trans (hb.mono B.size)
  clear hb
  clear R2x
  clear r3m
  go_wp2_with fail
  refine (copy7_any a2 n cap2 xs w9 ((HR2.out.below B).up B.size) HN.out (by omega)).mono ?_
  rintro e w10 ⟨b3s, c3s, rfl, r3s, k3s, S3s, hb⟩
  replace G1 := G1.below (hb.mono (by omega))
  replace L2m := L2m.far hb
  replace S2s := S2s.chg (Chg.of hb 0 0) (by omega) (.inr (Nat.zero_le _))
  replace G2 := G2.far hb
  have zw10 := hb.size
  replace B := B.trans (hb.mono B.size)
  clear hb
  go_wp2_with fail
  refine (eq64_yes _ _ xs _ _ _ _ _ S2s S3s (by have := HN.out; omega)).mono ?_
  rintro e w11 ⟨rfl, nw11, ew11⟩
  have hb : Below w10.heap.size w10 w11 := by rw [ew11]; exact below_drewN (Below.refl _ _) _
  clear ew11
  replace G1 := G1.below (hb.mono (by omega))
  replace L2m := L2m.far hb
  replace S2s := S2s.chg (Chg.of hb 0 0) (by omega) (.inr (Nat.zero_le _))
  replace G2 := G2.far hb
  replace r3s := r3s.below (hb.mono (by omega))
  replace S3s := S3s.chg (Chg.of hb 0 0) (by omega) (.inr (Nat.zero_le _))
  have zw11 := hb.size
  replace B := B.trans (hb.mono B.size)
  clear hb
  clear r3s S3s
  have hk1 : m = 0 ∨ 1 ≤ m := by omega
  have hs0 : m = 0 → szl f m = 0 := fun e => by rw [e]; rfl
  go_wp2_with fail
  refine (markW_any _ m f _ _ _ L2m hcn).mono ?_
  rintro e w12 ⟨rfl, _, hc⟩
  clear L2m
  replace G1 := G1.chg hc (by omega) (by omega)
  replace S2s := S2s.chg hc (by omega) (by omega)
  replace G2 := G2.chg hc (by omega)
  have zw12 := hc.size
  replace B := below_chg B hc (by omega) (by omega)
  clear hc
  go_wp2_with fail
  refine (mark64_any _ xs _ _ (1 + (szl f m : Nat)) _ S2s (by have := HN.out; omega) (by omega) (by omega)).mono ?_
  rintro e w13 ⟨rfl, _, hg⟩
  have hc := Chg.grown hg S2s.in
  clear hg
  clear S2s
  replace G1 := G1.chg hc (by omega) (by omega)
  replace G2 := G2.chg hc (by omega)
  have zw13 := hc.size
  replace B := below_chg B hc (by omega) (by omega)
  clear hc
  have tk : decide (((1 + (szl f m : Nat)) + (xs.length : Int)) < (0 : Int)) = false := by simp; omega
  obtain ⟨qw14, dw14, hvw14, hdw14, Rw14⟩ := G2.rr
  cases hvw14
  go_wp2_with fail
  refine (eqRR_yes _ _ m9 _ _ f9 _ _ w13 Rw14 G1 (by have := G2.top_le; omega) (by omega) hy).mono ?_
  rintro e w14 ⟨rfl, hb⟩
  clear hdw14 Rw14
  replace G1 := G1.below (hb.mono (by omega))
  replace G2 := G2.far hb
  have zw14 := hb.size
  replace B := B.trans (hb.mono B.size)
  clear hb
  go_wp2_with fail
  refine (markW_any _ m9 f9 _ _ _ G2 hy).mono ?_
  rintro e w15 ⟨rfl, M2, hc⟩
  clear G2
  replace G1 := G1.chg hc (by omega) (by omega)
  have zw15 := hc.size
  replace B := below_chg B hc (by omega) (by omega)
  clear hc
  have hq9 : ((1 + (szl f9 m9 : Nat) : Int) != (1 + (szl f9 m9 : Nat) : Int)) = false := by simp
  have tq9 : decide ((1 + (szl f9 m9 : Nat) : Int) < 0) = false := by simp; omega
  go_wp2_with fail
  refine (heldW_any _ m9 f9 _ _ _ M2 hy).mono ?_
  rintro e w16 ⟨rfl, rfl⟩
  go_wp2_with fail
  refine (copySS_any a m cap f w15 (HR.out.far B) hcn).mono ?_
  rintro e w17 ⟨b4m, c4m, rfl, k4m, r4m, L4m, hb⟩
  replace G1 := G1.below (hb.mono (by omega))
  replace M2 := M2.far hb
  have zw17 := hb.size
  replace B := B.trans (hb.mono B.size)
  clear hb
  clear L4m
  go_wp2_with fail
  refine (copy7_any a2 n cap2 xs w17 ((HR2.out.below B).up B.size) HN.out (by omega)).mono ?_
  rintro e w18 ⟨b4s, c4s, rfl, r4s, k4s, S4s, hb⟩
  replace G1 := G1.below (hb.mono (by omega))
  replace M2 := M2.far hb
  replace r4m := r4m.below (hb.mono (by omega))
  have zw18 := hb.size
  replace B := B.trans (hb.mono B.size)
  clear hb
  clear S4s
  go_wp2_with fail
  refine (HI.out w18 b4m c4m b4s c4s (r4m.up (by omega)) k4m (r4s.up (by omega)) k4s).mono ?_
  rintro e w19 ⟨v4, rfl, G4, hb⟩
  replace G1 := G1.below (hb.mono (by omega))
  replace M2 := M2.far hb
  replace r4m := r4m.below (hb.mono (by omega))
  replace r4s := r4s.below (hb.mono (by omega))
  have zw19 := hb.size
  replace B := B.trans (hb.mono B.size)
  clear hb
  clear r4m r4s
  obtain ⟨qw20, dw20, hvw20, hdw20, Rw20⟩ := G4.rr
  cases hvw20
  go_wp2_with fail
  refine (eqRR_yes _ _ m9 _ _ f9 _ _ w19 Rw20 G1 (by have := G4.top_le; omega) (by omega) hy).mono ?_
  rintro e w20 ⟨rfl, hb⟩
  clear hdw20 Rw20
  replace G1 := G1.below (hb.mono (by omega))
  replace M2 := M2.far hb
  replace G4 := G4.far hb
  have zw20 := hb.size
  replace B := B.trans (hb.mono B.size)
  clear hb
  clear G4 G1
  go_wp2_with fail
  refine (heldW_any _ m9 f9 _ _ _ M2 hy).mono ?_
  rintro e w21 ⟨rfl, rfl⟩
  go_wp2
  go_ret
  exact ⟨rfl, B⟩
def GivesSGridPoints (f0 : FuncId) (p0 : Int) (p1 : Int) (m9 : Nat) (f9 : Nat → List Int) (ok : Bool) : Prop := ∀ (W : World) ,  Calls Try.prog f0 #[.int .i64 p0, .int .i64 p1] W fun e w' => ∃ p q, e = .returned (.tuple #[.slice p m9 q, .bool ok]) ∧ RR w'.heap.size w' p m9 f9 ∧ Below W.heap.size W w'
def GivesIGridPoints (f0 : FuncId) (p0 : Int) (p1 : Int) (m9 : Nat) (f9 : Nat → List Int) (ok : Bool) : Prop := ∀ (W : World) ,  Calls Try.prog f0 #[.int .i64 p0, .int .i64 p1] W fun e w' => ∃ v, e = .returned (.tuple #[v, .bool ok]) ∧ LW W.heap.size w'.heap.size w' v m9 f9 ∧ Below W.heap.size W w'
theorem lawGridPoints_core (p0 : Int) (p1 : Int) (m9 : Nat) (f9 : Nat → List Int) (ok : Bool) (w : World)  (hy : m9 + szl f9 m9 ≤ 1048576) 
    (HS : Hid (GivesSGridPoints 37 p0 p1 m9 f9 ok)) (HI : Hid (GivesIGridPoints 38 p0 p1 m9 f9 ok)) :
    Calls Try.prog 8 #[.int .i64 p0, .int .i64 p1] w fun e w' => e = .returned (.bool true) ∧ Below w.heap.size w w' := by
  have hok : (ok != ok) = false := by simp
  have B := Below.refl w.heap.size w
  go_enter Try.func8, Try.ntmps8
  go_wp2_with fail
  refine (HS.out w  ).mono ?_
  rintro e w1 ⟨b1v, c1v, rfl, G1, hb⟩
  have zw1 := hb.size
  replace B := B.trans (hb.mono B.size)
  clear hb
  clear HS
  go_wp2_with fail
  refine (HI.out w1  ).mono ?_
  rintro e w2 ⟨v2, rfl, G2, hb⟩
  replace G1 := G1.below (hb.mono (by omega))
  have zw2 := hb.size
  replace B := B.trans (hb.mono B.size)
  clear hb
  obtain ⟨qw3, dw3, hvw3, hdw3, Rw3⟩ := G2.rr
  cases hvw3
  go_wp2_with fail
  refine (eqRR_yes _ _ m9 _ _ f9 _ _ w2 Rw3 G1 (by have := G2.top_le; omega) (by omega) hy).mono ?_
  rintro e w3 ⟨rfl, hb⟩
  clear hdw3 Rw3
  replace G1 := G1.below (hb.mono (by omega))
  replace G2 := G2.far hb
  have zw3 := hb.size
  replace B := B.trans (hb.mono B.size)
  clear hb
  go_wp2_with fail
  refine (markW_any _ m9 f9 _ _ _ G2 hy).mono ?_
  rintro e w4 ⟨rfl, M2, hc⟩
  clear G2
  replace G1 := G1.chg hc (by omega) (by omega)
  have zw4 := hc.size
  replace B := below_chg B hc (by omega) (by omega)
  clear hc
  have hq9 : ((1 + (szl f9 m9 : Nat) : Int) != (1 + (szl f9 m9 : Nat) : Int)) = false := by simp
  have tq9 : decide ((1 + (szl f9 m9 : Nat) : Int) < 0) = false := by simp; omega
  go_wp2_with fail
  refine (heldW_any _ m9 f9 _ _ _ M2 hy).mono ?_
  rintro e w5 ⟨rfl, rfl⟩
  go_wp2_with fail
  refine (HI.out w4  ).mono ?_
  rintro e w6 ⟨v4, rfl, G4, hb⟩
  replace G1 := G1.below (hb.mono (by omega))
  replace M2 := M2.far hb
  have zw6 := hb.size
  replace B := B.trans (hb.mono B.size)
  clear hb
  obtain ⟨qw7, dw7, hvw7, hdw7, Rw7⟩ := G4.rr
  cases hvw7
  go_wp2_with fail
  refine (eqRR_yes _ _ m9 _ _ f9 _ _ w6 Rw7 G1 (by have := G4.top_le; omega) (by omega) hy).mono ?_
  rintro e w7 ⟨rfl, hb⟩
  clear hdw7 Rw7
  replace G1 := G1.below (hb.mono (by omega))
  replace M2 := M2.far hb
  replace G4 := G4.far hb
  have zw7 := hb.size
  replace B := B.trans (hb.mono B.size)
  clear hb
  clear G4 G1
  go_wp2_with fail
  refine (heldW_any _ m9 f9 _ _ _ M2 hy).mono ?_
  rintro e w8 ⟨rfl, rfl⟩
  go_wp2
  go_ret
  exact ⟨rfl, B⟩
end Go.Proofs.Ytmnnpkmjamhmcaa
