/- Frames of exact laws over slices of slices (written by tools/genss.py). -/
import Derived.Test.YtmnnpkmjamhmcaaFsA
namespace Go.Proofs.Ytmnnpkmjamhmcaa
open Go.RowKit Go.PlainAid
set_option maxHeartbeats 1600000
set_option maxRecDepth 20000
def GivesSHaltonPoint (f0 : FuncId) (p0 : Int) (n : Nat) (xs : List Int) (ys : List (Int × Int)) (ok : Bool) : Prop := ∀ (W : World)  b2 c2, RO W.heap.size W b2 xs → n ≤ c2 →  Calls Try.prog f0 #[.int .i64 p0, .slice b2 n c2] W fun e w' => ∃ v, e = .returned (.tuple #[v, .bool ok]) ∧ FS W.heap.size w'.heap.size w' v ys ∧ Below W.heap.size W w'
def GivesIHaltonPoint (f0 : FuncId) (p0 : Int) (n : Nat) (xs : List Int) (ys : List (Int × Int)) (ok : Bool) : Prop := ∀ (W : World)  b2 c2, RO W.heap.size W b2 xs → n ≤ c2 →  Calls Try.prog f0 #[.int .i64 p0, .slice b2 n c2] W fun e w' => ∃ v, e = .returned (.tuple #[v, .bool ok]) ∧ FS W.heap.size w'.heap.size w' v ys ∧ Below W.heap.size W w'
theorem lawHaltonPoint_core (p0 : Int) (a2 : Option Addr) (n cap2 : Nat) (xs : List Int) (ys : List (Int × Int)) (ok : Bool) (w : World) (h2 : RO w.heap.size w a2 xs) (hn : xs.length = n) (hy : ys.length ≤ 1000) 
    (HS : Hid (n ≤ 1048576 → GivesSHaltonPoint 42 p0 n xs ys ok)) (HI : Hid (n ≤ 1048576 → GivesIHaltonPoint 43 p0 n xs ys ok)) :
    Calls Try.prog 10 #[.int .i64 p0, .slice a2 n cap2] w fun e w' => e = .returned (.bool true) ∧ Below w.heap.size w w' := by
  have HR2 := Lib.hid h2
  have HN := Lib.hid hn
  clear h2 hn
  by_cases hb2 : 1048576 < n
  · have t0 : decide ((1048576 : Int) < (n : Int)) = true := by simp; omega
    go_enter Try.func10, Try.ntmps10
    go_wp2
    go_ret
    exact ⟨rfl, Below.refl _ _⟩
  have t0 : decide ((1048576 : Int) < (n : Int)) = false := by simp; omega
  replace HS := Lib.hid (HS.out (by omega))
  replace HI := Lib.hid (HI.out (by omega))
  have hok : (ok != ok) = false := by simp
  have B := Below.refl w.heap.size w
  go_enter Try.func10, Try.ntmps10
  go_wp2_with fail
  refine (copy7_any a2 n cap2 xs w ((HR2.out.below B).up B.size) HN.out (by omega)).mono ?_
  rintro e w1 ⟨b1s, c1s, rfl, r1s, k1s, S1s, hb⟩
  have zw1 := hb.size
  replace B := B.trans (hb.mono B.size)
  clear hb
  clear S1s
  go_wp2_with fail
  refine (HS.out w1 b1s c1s (r1s.up (by omega)) k1s).mono ?_
  rintro e w2 ⟨v1, rfl, G1, hb⟩
  replace r1s := r1s.below (hb.mono (by omega))
  have zw2 := hb.size
  replace B := B.trans (hb.mono B.size)
  clear hb
  clear r1s
  clear HS
  go_wp2_with fail
  refine (copy7_any a2 n cap2 xs w2 ((HR2.out.below B).up B.size) HN.out (by omega)).mono ?_
  rintro e w3 ⟨b2s, c2s, rfl, r2s, k2s, S2s, hb⟩
  replace G1 := G1.chg (Chg.of hb 0 0) (by omega) (.inr (Nat.zero_le _))
  have zw3 := hb.size
  replace B := B.trans (hb.mono B.size)
  clear hb
  go_wp2_with fail
  refine (HI.out w3 b2s c2s (r2s.up (by omega)) k2s).mono ?_
  rintro e w4 ⟨v2, rfl, G2, hb⟩
  replace G1 := G1.chg (Chg.of hb 0 0) (by omega) (.inr (Nat.zero_le _))
  replace r2s := r2s.below (hb.mono (by omega))
  replace S2s := S2s.chg (Chg.of hb 0 0) (by omega) (.inr (Nat.zero_le _))
  have zw4 := hb.size
  replace B := B.trans (hb.mono B.size)
  clear hb
  clear r2s
  obtain ⟨qw5, dw5, hvw5, Rw5⟩ := G2.fin
  cases hvw5
  obtain ⟨pw5, ow5, hvw5, Sw5⟩ := G1.fin
  cases hvw5
  go_wp2_with fail
  refine (eqFrS_any _ _ ys.length _ _ ys w4 Rw5 Sw5 (by omega)).mono ?_
  rintro e w5 ⟨rfl, hb⟩
  clear Rw5 Sw5
  replace G1 := G1.chg (Chg.of hb 0 0) (by omega) (.inr (Nat.zero_le _))
  replace S2s := S2s.chg (Chg.of hb 0 0) (by omega) (.inr (Nat.zero_le _))
  replace G2 := G2.chg (Chg.of hb 0 0) (by omega) (.inr (Nat.zero_le _))
  have zw5 := hb.size
  replace B := B.trans (hb.mono B.size)
  clear hb
  go_wp2_with fail
  refine (copy7_any a2 n cap2 xs w5 ((HR2.out.below B).up B.size) HN.out (by omega)).mono ?_
  rintro e w6 ⟨b3s, c3s, rfl, r3s, k3s, S3s, hb⟩
  replace G1 := G1.chg (Chg.of hb 0 0) (by omega) (.inr (Nat.zero_le _))
  replace S2s := S2s.chg (Chg.of hb 0 0) (by omega) (.inr (Nat.zero_le _))
  replace G2 := G2.chg (Chg.of hb 0 0) (by omega) (.inr (Nat.zero_le _))
  have zw6 := hb.size
  replace B := B.trans (hb.mono B.size)
  clear hb
  go_wp2_with fail
  refine (eq64_yes _ _ xs _ _ _ _ _ S2s S3s (by have := HN.out; omega)).mono ?_
  rintro e w7 ⟨rfl, nw7, ew7⟩
  have hb : Below w6.heap.size w6 w7 := by rw [ew7]; exact below_drewN (Below.refl _ _) _
  clear ew7
  replace G1 := G1.chg (Chg.of hb 0 0) (by omega) (.inr (Nat.zero_le _))
  replace S2s := S2s.chg (Chg.of hb 0 0) (by omega) (.inr (Nat.zero_le _))
  replace G2 := G2.chg (Chg.of hb 0 0) (by omega) (.inr (Nat.zero_le _))
  replace r3s := r3s.below (hb.mono (by omega))
  replace S3s := S3s.chg (Chg.of hb 0 0) (by omega) (.inr (Nat.zero_le _))
  have zw7 := hb.size
  replace B := B.trans (hb.mono B.size)
  clear hb
  clear r3s S3s
  go_wp2_with fail
  refine (mark64_any _ xs _ _ 1 _ S2s (by have := HN.out; omega) (by omega) (by omega)).mono ?_
  rintro e w8 ⟨rfl, _, hg⟩
  have hc := Chg.grown hg S2s.in
  clear hg
  clear S2s
  replace G1 := G1.chg hc (by omega) (by omega)
  replace G2 := G2.chg hc (by omega) (by omega)
  have zw8 := hc.size
  replace B := below_chg B hc (by omega) (by omega)
  clear hc
  have tk : decide ((1 + (xs.length : Int)) < (0 : Int)) = false := by simp; omega
  obtain ⟨qw9, dw9, hvw9, Rw9⟩ := G2.fin
  cases hvw9
  obtain ⟨pw9, ow9, hvw9, Sw9⟩ := G1.fin
  cases hvw9
  go_wp2_with fail
  refine (eqFrS_any _ _ ys.length _ _ ys w8 Rw9 Sw9 (by omega)).mono ?_
  rintro e w9 ⟨rfl, hb⟩
  clear Rw9 Sw9
  replace G1 := G1.chg (Chg.of hb 0 0) (by omega) (.inr (Nat.zero_le _))
  replace G2 := G2.chg (Chg.of hb 0 0) (by omega) (.inr (Nat.zero_le _))
  have zw9 := hb.size
  replace B := B.trans (hb.mono B.size)
  clear hb
  go_wp2_with fail
  refine (markFS_any _ ys _ _ _ G2 hy).mono ?_
  rintro e w10 ⟨rfl, M2, hc⟩
  clear G2
  replace G1 := G1.chg hc (by omega) (by omega)
  have zw10 := hc.size
  replace B := below_chg B hc (by omega) (by omega)
  clear hc
  have hq9 : ((1 + 2 * (ys.length : Int)) != (1 + 2 * (ys.length : Int))) = false := by simp
  have tq9 : decide ((1 + 2 * (ys.length : Int)) < 0) = false := by simp; omega
  go_wp2_with fail
  refine (heldFS_any _ ys.length _ _ _ M2 hy).mono ?_
  rintro e w11 ⟨rfl, rfl⟩
  go_wp2_with fail
  refine (copy7_any a2 n cap2 xs w10 ((HR2.out.below B).up B.size) HN.out (by omega)).mono ?_
  rintro e w12 ⟨b4s, c4s, rfl, r4s, k4s, S4s, hb⟩
  replace G1 := G1.chg (Chg.of hb 0 0) (by omega) (.inr (Nat.zero_le _))
  replace M2 := M2.chg (Chg.of hb 0 0) (by omega) (.inr (Nat.zero_le _))
  have zw12 := hb.size
  replace B := B.trans (hb.mono B.size)
  clear hb
  clear S4s
  go_wp2_with fail
  refine (HI.out w12 b4s c4s (r4s.up (by omega)) k4s).mono ?_
  rintro e w13 ⟨v4, rfl, G4, hb⟩
  replace G1 := G1.chg (Chg.of hb 0 0) (by omega) (.inr (Nat.zero_le _))
  replace M2 := M2.chg (Chg.of hb 0 0) (by omega) (.inr (Nat.zero_le _))
  replace r4s := r4s.below (hb.mono (by omega))
  have zw13 := hb.size
  replace B := B.trans (hb.mono B.size)
  clear hb
  clear r4s
  obtain ⟨qw14, dw14, hvw14, Rw14⟩ := G4.fin
  cases hvw14
  obtain ⟨pw14, ow14, hvw14, Sw14⟩ := G1.fin
  cases hvw14
  go_wp2_with fail
  refine (eqFrS_any _ _ ys.length _ _ ys w13 Rw14 Sw14 (by omega)).mono ?_
  rintro e w14 ⟨rfl, hb⟩
  clear Rw14 Sw14
  replace G1 := G1.chg (Chg.of hb 0 0) (by omega) (.inr (Nat.zero_le _))
  replace M2 := M2.chg (Chg.of hb 0 0) (by omega) (.inr (Nat.zero_le _))
  replace G4 := G4.chg (Chg.of hb 0 0) (by omega) (.inr (Nat.zero_le _))
  have zw14 := hb.size
  replace B := B.trans (hb.mono B.size)
  clear hb
  clear G4 G1
  go_wp2_with fail
  refine (heldFS_any _ ys.length _ _ _ M2 hy).mono ?_
  rintro e w15 ⟨rfl, rfl⟩
  clear M2
  go_wp2
  go_ret
  exact ⟨rfl, B⟩
end Go.Proofs.Ytmnnpkmjamhmcaa
