/- The leaves of a tree: the law. -/
import Derived.Test.YtamedggnkbhgeaaDoorTreeL
import Derived.Test.YtamedggnkbhgeaaDoorTreeS
namespace Go.Proofs.YtamedggnkbhgeaaDoor
open Go.RowKit Go.PlainAid
set_option maxHeartbeats 1000000

/-- the faces of level d -/
def fa (xs : List Int) (k d : Nat) : List Int := lvs xs (k - d) xs.length
theorem LvV.ld {B : Nat} {w : World} {g c : Nat} {xs : List Int} {k : Nat} (h : LvV B w g xs k) : LD B w.heap.size w (.slice (some ⟨g, 0, none⟩) (k + 1) c) (k + 1) (fa xs k) := by
  obtain ⟨rfl, cs, hh, _, h2, _, bs, b0, bm, bL, bb⟩ := h
  refine .inr ⟨g, c, bs, rfl, Nat.le_refl _, b0, bm, bL, Nat.le_refl _, fun d hd => ?_⟩
  obtain ⟨v, hv, hr⟩ := h2 d hd
  exact ⟨v, by rw [Lib.cell_of_heap hh]; exact hv, (SL.of_own hr).narrow fun q hq => bb d v hd hv q hq⟩
theorem LvS.ll {B : Nat} {w : World} {v : Value} {vs : List Value} {xs : List Int} {k : Nat} (h : LvS B w v vs xs k (k + 1)) : LL B w.heap.size w v (k + 1) (fa xs k) := by
  obtain ⟨⟨_, h1⟩, h2⟩ := h
  rcases h1 with ⟨_, h0⟩ | ⟨g, cap, cur, rfl, _, hh, _, _, hcs, htk⟩
  · omega
  · refine .inr ⟨g, cap, rfl, (Array.getElem?_eq_some_iff.1 hh).1, fun d hd => ?_⟩
    obtain ⟨u, hu, hr⟩ := h2 d hd
    refine ⟨u, ?_, SL.of_own hr⟩
    rw [Lib.cell_of_heap hh, ← Array.getElem?_toList]
    rw [← htk, List.getElem?_take] at hu
    simpa [show d < k + 1 by omega] using hu
theorem specLeaves_yes (a : Option Addr) (n cap : Nat) (xs : List Int) (k : Nat) (w : World) (h : RO w.heap.size w a xs) (hn : xs.length = n) (hl : n ≤ 1048576) (hD : DyP xs k) :
    Calls Tryd.prog 20 #[.slice a n cap] w fun e w' => ∃ v, e = .returned (.tuple #[v, .bool true]) ∧ LL w.heap.size w'.heap.size w' v (k + 1) (fa xs k) ∧ Below w.heap.size w w' := by
  have HV := Lib.hid (l06Level_yes a n cap xs k w h hn hl hD)
  have HL := Lib.hid (l06Levels_yes a n cap xs k w h hn hl hD)
  have hd : decide ((k : Int) < 0) = false := by simp
  clear h hn hD
  go_enter Tryd.func20, Tryd.ntmps20
  go_wp2_with fail
  refine (HV.out).mono ?_
  rintro e w1 ⟨rfl, rfl⟩
  go_wp2_with fail
  refine (HL.out).mono ?_
  rintro e w3 ⟨v, vs, rfl, hv, hb⟩
  have HX := Lib.hid (And.intro hv.ll hb)
  clear hv hb
  go_wp2
  go_returns
  exact ⟨v, rfl, HX.out.1, HX.out.2⟩
theorem specLeaves_no (a : Option Addr) (n cap : Nat) (xs : List Int) (w : World) (h : RO w.heap.size w a xs) (hn : xs.length = n) (hl : n ≤ 1048576) (hD : ¬ ∃ k, DyP xs k) :
    Calls Tryd.prog 20 #[.slice a n cap] w fun e w' => e = .returned (.tuple #[.slice none 0 0, .bool false]) ∧ w = w' := by
  have HV := Lib.hid (l06Level_no a n cap xs w h hn hl hD)
  clear h hn hD
  go_enter Tryd.func20, Tryd.ntmps20
  go_wp2_with fail
  refine (HV.out).mono ?_
  rintro e w1 ⟨rfl, rfl⟩
  go_wp2
  go_returns
  exact ⟨rfl, rfl⟩
/-- what both sides answer -/
theorem leaves_both (xs : List Int) (n : Nat) (hn : xs.length = n) (hl : n ≤ 1048576) : ∃ (m : Nat) (f : Nat → List Int) (ok : Bool), m ≤ 13 ∧ (∀ d, (f d).length ≤ 16) ∧
    (∀ (W : World) (c : Option Addr) (q : Nat), RO W.heap.size W c xs → Tz W.heap.size W → Calls Tryd.prog 11 #[.slice c n q] W fun e w' => ∃ v, e = .returned (.tuple #[v, .bool ok]) ∧ LD W.heap.size w'.heap.size w' v m f ∧ Below W.heap.size W w') ∧
    (∀ (W : World) (c : Option Addr) (q : Nat), RO W.heap.size W c xs → Calls Tryd.prog 20 #[.slice c n q] W fun e w' => ∃ v, e = .returned (.tuple #[v, .bool ok]) ∧ LL W.heap.size w'.heap.size w' v m f ∧ Below W.heap.size W w') := by
  by_cases hD : ∃ k, DyP xs k
  · obtain ⟨k, hD⟩ := hD
    refine ⟨k + 1, fa xs k, true, by have := hD.1; omega, fun d => by have := lvs_len xs (k - d) xs.length; have := hD.2.1.1; unfold fa; omega, fun W c q h hT => ?_, fun W c q h => specLeaves_yes c n q xs k W h hn hl hD⟩
    refine (leaves_yes c n q xs W.heap.size k W h hT hn hl hD).mono ?_
    rintro e w' ⟨g, c', rfl, hv, hb⟩
    exact ⟨_, rfl, hv.ld, hb⟩
  · refine ⟨0, fun _ => [], false, by omega, fun d => by simp, fun W c q h hT => ?_, fun W c q h => ?_⟩
    · refine (leaves_no c n q xs W.heap.size W h hT hn hl hD).mono ?_
      rintro e w' ⟨rfl, rfl⟩
      exact ⟨_, rfl, .inl ⟨rfl, rfl⟩, Below.refl _ _⟩
    · refine (specLeaves_no c n q xs W h hn hl hD).mono ?_
      rintro e w' ⟨rfl, rfl⟩
      exact ⟨_, rfl, .inl ⟨rfl, rfl⟩, Below.refl _ _⟩
theorem lawTL (a : Option Addr) (m cap : Nat) (zs : List Int) (w : World) (h : RowIn .i64 w a m zs) (hT : Tz w.heap.size w) :
    Calls Tryd.prog 5 #[.slice a m cap] w fun e w' => e = .returned (.bool true) ∧ Below w.heap.size w w' := by
  by_cases hl : m ≤ 1048576
  · obtain ⟨xs, hn, hr⟩ := h.ro
    have HR := Lib.hid hr
    have HN := Lib.hid hn
    have HT := Lib.hid hT
    obtain ⟨r, f, ok, hr13, hf, hI, hS⟩ := leaves_both xs m hn hl
    have HI := Lib.hid hI
    have HS := Lib.hid hS
    have HF := Lib.hid hf
    have HF2 : Hid (∀ d, (f d).length ≤ 1048576) := fun d => by have := hf d; omega
    have hsz := sz_le hf r
    have t0 : decide ((1048576 : Int) < (m : Int)) = false := by simp; omega
    have hok : (ok != ok) = false := by simp
    clear h hr hn hT hI hS hf
    go_enter Tryd.func5, Tryd.ntmps5
    go_wp2_with fail
    refine (copy_any a m cap xs w HR.out HN.out hl).mono ?_
    rintro e w1 ⟨b1, c1, rfl, r1, _, hb1⟩
    have HB1 := Lib.hid hb1
    have z1 := hb1.size
    clear hb1
    go_wp2_with fail
    refine (HS.out w1 b1 c1 r1).mono ?_
    rintro e w2 ⟨v0, rfl, hv0, hb2⟩
    have HB2 := Lib.hid (HB1.out.trans (hb2.mono HB1.out.size))
    have z2 := hb2.size
    have V0 := Lib.hid hv0
    have HR2 := Lib.hid ((HR.out.below HB2.out).up HB2.out.size)
    clear r1 hb2 HB1 hv0
    go_wp2_with fail
    refine (copy_any a m cap xs _ HR2.out HN.out hl).mono ?_
    rintro e w3 ⟨b3, c3, rfl, r3, s3, hb3⟩
    have HB3 := Lib.hid (HB2.out.trans (hb3.mono HB2.out.size))
    have HS3 := Lib.hid s3
    have z3 := hb3.size
    replace V0 := Lib.hid (V0.out.below hb3)
    clear hb3 s3 HR2
    go_wp2_with fail
    refine (HI.out w3 b3 c3 r3 (fun V hV => (HT.out.on HB3.out) V (hV.mono HB3.out.size))).mono ?_
    rintro e w4 ⟨v1, rfl, hv1, hb4⟩
    have HB4 := Lib.hid (HB3.out.trans (hb4.mono HB3.out.size))
    have HS4 := Lib.hid (HS3.out.below (hb4.mono (Nat.le_refl _)))
    have V1 := Lib.hid hv1
    have z4 := hb4.size
    replace V0 := Lib.hid (V0.out.below (hb4.mono z3))
    clear r3 hb4 HS3 hv1
    have HE1 := Lib.hid (eqSS_yes v1 v0 r f _ _ _ _ w4 V1.out.ll V0.out (Nat.le_refl _) (by omega) (by omega) HF2.out)
    go_wp2_with fail
    refine (HE1.out).mono ?_
    rintro e w5 ⟨rfl, hb5⟩
    have HB5 := Lib.hid (HB4.out.trans (hb5.mono HB4.out.size))
    have HS5 := Lib.hid (HS4.out.below (hb5.mono z4))
    have z5 := hb5.size
    replace V0 := Lib.hid (V0.out.below (hb5.mono (by omega)))
    replace V1 := Lib.hid (V1.out.below hb5)
    have HR5 := Lib.hid ((HR.out.below HB5.out).up HB5.out.size)
    clear hb5 HE1 HS4
    go_wp2_with fail
    refine (copy_any a m cap xs _ HR5.out HN.out hl).mono ?_
    rintro e w6 ⟨b6, c6, rfl, _, s6, hb6⟩
    have HB6 := Lib.hid (HB5.out.trans (hb6.mono HB5.out.size))
    have HS6 := Lib.hid (HS5.out.below (hb6.mono (by omega)))
    have z6 := hb6.size
    replace V0 := Lib.hid (V0.out.below (hb6.mono (by omega)))
    replace V1 := Lib.hid (V1.out.below (hb6.mono (by omega)))
    have HE : Hid (Calls Tryd.prog 19 #[.slice b3 m c3, .slice b6 m c6] w6 fun e w' => e = .returned (.bool true) ∧ ∃ n, w' = w6.drewN n) := eq64_yes _ _ xs _ _ _ _ w6 HS6.out s6 (by rw [HN.out]; exact hl)
    clear hb6 s6 HS5
    go_wp2_with (go_at_call 19; with_reducible refine (HE.out).mono ?_; rintro e w7 ⟨rfl, m7, rfl⟩)
    have hd7 : Below w6.heap.size w6 (w6.drewN m7) := below_drewN (Below.refl _ _) m7
    have HM := Lib.hid (mark64_any (.slice b3 m c3) xs w2.heap.size w3.heap.size 1 (w6.drewN m7) (HS6.out.drewN m7) (by rw [HN.out]; exact hl) (by omega) (by omega))
    replace V0 := Lib.hid (V0.out.below (hd7.mono (by omega)))
    replace V1 := Lib.hid (V1.out.below (hd7.mono (by omega)))
    have HB7 := Lib.hid (below_drewN HB6.out m7)
    have z7 : (w6.drewN m7).heap.size = w6.heap.size := rfl
    obtain ⟨w7, hw7⟩ : ∃ x, x = w6.drewN m7 := ⟨_, rfl⟩
    rw [← hw7] at HM V0 V1 HB7 z7 ⊢
    have HBL := Lib.hid (HS6.out.drewN m7).blockT
    clear hd7 HE HS6 hw7
    go_wp2_with fail
    refine (HM.out).mono ?_
    rintro e w8 ⟨rfl, hs8, hg8⟩
    rw [HN.out]
    have hB8 : Below w2.heap.size w7 w8 := (Below.refl _ w7).grown hg8 (by omega) (fun q hq => (HBL.out q hq).1)
    have z8 := hB8.size
    replace V0 := Lib.hid (V0.out.below hB8)
    have HB8 := Lib.hid (HB7.out.trans (hB8.mono (by omega)))
    replace V1 := Lib.hid (V1.out.same z8 fun q q1 q2 => hg8.block q (by omega) (fun e => by have := HBL.out q e.symm; omega))
    have HE2 := Lib.hid (eqSS_yes v1 v0 r f _ _ _ _ w8 V1.out.ll V0.out (by omega) (by omega) (by omega) HF2.out)
    have hk0 : decide ((1 : Int) + (m : Int) < 0) = false := by simp; omega
    clear hs8 hg8 hB8 HM HBL
    go_wp2_with fail
    refine (HE2.out).mono ?_
    rintro e w9 ⟨rfl, hb9⟩
    have z9 := hb9.size
    have HB9 := Lib.hid (HB8.out.trans (hb9.mono HB8.out.size))
    replace V0 := Lib.hid (V0.out.below (hb9.mono (by omega)))
    replace V1 := Lib.hid (V1.out.below (hb9.mono (by omega)))
    obtain ⟨K, hK⟩ : ∃ K : Int, K = 1 + ((sz f r : Nat) : Int) := ⟨_, rfl⟩
    have hK0 : 0 ≤ K := by omega
    have hK1 : decide (K < 0) = false := by simp; omega
    have hKK : (K != K) = false := by simp
    have HM9 := Lib.hid (markSS_any v1 r f _ _ w9 V1.out hr13 HF.out)
    rw [← hK] at HM9
    clear hb9 HE2 hK0
    go_wp2_with fail
    refine (HM9.out).mono ?_
    rintro e w10 ⟨rfl, hv10, hb10⟩
    have z10 := hb10.size
    have HB10 := Lib.hid (HB9.out.trans (hb10.mono (by omega)))
    replace V0 := Lib.hid (V0.out.below (hb10.mono (by omega)))
    replace V1 := Lib.hid hv10
    have HH10 := Lib.hid (heldSS_any v1 r f _ _ w10 V1.out.ll hr13 HF.out)
    rw [← hK] at HH10
    have HR10 := Lib.hid ((HR.out.below HB10.out).up HB10.out.size)
    clear hv10 hb10 HM9
    go_wp2_with fail
    refine (HH10.out).mono ?_
    rintro e w10 ⟨rfl, rfl⟩
    go_wp2_with fail
    refine (copy_any a m cap xs _ HR10.out HN.out hl).mono ?_
    rintro e w11 ⟨b11, c11, rfl, r11, _, hb11⟩
    have z11 := hb11.size
    have HB11 := Lib.hid (HB10.out.trans (hb11.mono HB10.out.size))
    replace V0 := Lib.hid (V0.out.below (hb11.mono (by omega)))
    replace V1 := Lib.hid (V1.out.below (hb11.mono (by omega)))
    clear hb11 HR10 HH10
    go_wp2_with fail
    refine (HI.out w11 b11 c11 r11 (fun V hV => (HT.out.on HB11.out) V (hV.mono HB11.out.size))).mono ?_
    rintro e w12 ⟨v2, rfl, hv12, hb12⟩
    have z12 := hb12.size
    have HB12 := Lib.hid (HB11.out.trans (hb12.mono HB11.out.size))
    replace V0 := Lib.hid (V0.out.below (hb12.mono (by omega)))
    replace V1 := Lib.hid (V1.out.below (hb12.mono (by omega)))
    have HE12 := Lib.hid (eqSS_yes v2 v0 r f _ _ _ _ w12 hv12.ll V0.out (Nat.le_refl _) (by omega) (by omega) HF2.out)
    clear r11 hb12 hv12
    go_wp2_with fail
    refine (HE12.out).mono ?_
    rintro e w13 ⟨rfl, hb13⟩
    have z13 := hb13.size
    have HB13 := Lib.hid (HB12.out.trans (hb13.mono HB12.out.size))
    replace V1 := Lib.hid (V1.out.below (hb13.mono (by omega)))
    have HH13 := Lib.hid (heldSS_any v1 r f _ _ w13 V1.out.ll hr13 HF.out)
    rw [← hK] at HH13
    clear hb13 HE12
    go_wp2_with fail
    refine (HH13.out).mono ?_
    rintro e w14 ⟨rfl, rfl⟩
    go_wp2
    go_ret
    exact ⟨rfl, HB13.out⟩
  · have hle := h.len_le
    have t0 : decide ((1048576 : Int) < (m : Int)) = true := by simp; omega
    clear h hT
    go_enter Tryd.func5, Tryd.ntmps5
    go_wp2
    go_ret
    exact ⟨rfl, Below.refl _ _⟩
end Go.Proofs.YtamedggnkbhgeaaDoor
