/- Slices of rows that were made by appending, under a law: marks, and the walk of the law FnExactCyclesOf. -/
import Derived.Test.YtjbojamhnapkpabTreeL
import Derived.Test.YtjbojamhnapkpabL7
namespace Go.Proofs.Ytjbojamhnapkpab
open Go.RowKit Go.PlainAid
set_option maxHeartbeats 1000000

/-- a slice of m rows, each in blocks of its own, none of them the block of the slice -/
def LE (lo top : Nat) (w : World) (v : Value) (m : Nat) (f : Nat → List Int) : Prop :=
  (v = .slice none 0 0 ∧ m = 0) ∨ ∃ g c, ∃ bs : Nat → Nat, v = .slice (some ⟨g, 0, none⟩) m c ∧ (lo ≤ g ∧ g < top) ∧ lo ≤ bs 0 ∧ (∀ d, bs d ≤ bs (d + 1)) ∧ bs m ≤ top ∧ top ≤ w.heap.size ∧ ∀ d, d < m → ∃ u, w.cell? ⟨g, d, none⟩ = some u ∧ SL (bs d) (bs (d + 1)) w u (f d) ∧ u.ownBlock ≠ some g
theorem LE.ll {lo top : Nat} {w : World} {v : Value} {m : Nat} {f : Nat → List Int} (h : LE lo top w v m f) : LL lo top w v m f := by
  rcases h with h | ⟨g, c, bs, rfl, h1, h2, h3, h4, h5, h6⟩
  · exact .inl h
  · refine .inr ⟨g, c, rfl, h1.2, fun d hd => ?_⟩
    obtain ⟨u, hu, hr, _⟩ := h6 d hd
    have e1 := mono_le h3 (Nat.zero_le d)
    have e2 := mono_le h3 (show d + 1 ≤ m by omega)
    exact ⟨u, hu, (hr.up (by omega)).low (by omega)⟩
theorem LE.same {lo top : Nat} {w w1 : World} {v : Value} {m : Nat} {f : Nat → List Int} (h : LE lo top w v m f) (hz : w.heap.size ≤ w1.heap.size) (e : ∀ q, lo ≤ q → q < top → w1.heap[q]? = w.heap[q]?) : LE lo top w1 v m f := by
  rcases h with h | ⟨g, c, bs, rfl, h1, h2, h3, h4, h5, h6⟩
  · exact .inl h
  · refine .inr ⟨g, c, bs, rfl, h1, h2, h3, h4, by omega, fun d hd => ?_⟩
    obtain ⟨u, hu, hr, hn⟩ := h6 d hd
    have e1 := mono_le h3 (Nat.zero_le d)
    have e2 := mono_le h3 (show d + 1 ≤ m by omega)
    exact ⟨u, (World.cell?_of_block (a := ⟨g, d, none⟩) (e g h1.1 h1.2)).trans hu, hr.same fun q q1 q2 => e q (by omega) (by omega), hn⟩
theorem LE.below {lo top : Nat} {w w1 : World} {v : Value} {m : Nat} {f : Nat → List Int} (h : LE lo top w v m f) (hb : Below top w w1) : LE lo top w1 v m f :=
  h.same hb.size fun q _ hq => hb.block q hq
/-- the rows while they are marked: those before i are -/
def ME (lo top g m : Nat) (bs : Nat → Nat) (us : Nat → Value) (f : Nat → List Int) (w : World) (i : Nat) (wr : World) : Prop :=
  ((lo ≤ g ∧ g < top) ∧ lo ≤ bs 0 ∧ (∀ d, bs d ≤ bs (d + 1)) ∧ bs m ≤ top ∧ top ≤ wr.heap.size) ∧ (∀ d, d < m → wr.cell? ⟨g, d, none⟩ = some (us d) ∧ (us d).ownBlock ≠ some g) ∧ (∀ d, d < i → d < m → SL (bs d) (bs (d + 1)) wr (us d) (marks (1 + sz f d) (f d).length)) ∧ (∀ d, i ≤ d → d < m → SL (bs d) (bs (d + 1)) wr (us d) (f d)) ∧ Below lo w wr
theorem ME.next {lo top g m : Nat} {bs : Nat → Nat} {us : Nat → Value} {f : Nat → List Int} {w : World} {i : Nat} {wr w' : World} (h : ME lo top g m bs us f w i wr) (hi : i < m) (hs : SL (bs i) (bs (i + 1)) w' (us i) (marks (1 + sz f i) (f i).length)) (hg : wr.grownBy w' (us i).ownBlock) : ME lo top g m bs us f w (i + 1) w' := by
  obtain ⟨⟨⟨hlo, hg0⟩, hb0, hmono, hmt, htz⟩, hc, h1, h2, hb⟩ := h
  have hB := (h2 i (Nat.le_refl _) hi).blockT
  have hz := hg.size
  have e0 := mono_le hmono (Nat.zero_le i)
  have e1 := mono_le hmono (show i + 1 ≤ m by omega)
  have same : ∀ d, d < m → d ≠ i → ∀ q, bs d ≤ q → q < bs (d + 1) → w'.heap[q]? = wr.heap[q]? := by
    intro d hd hne q hq1 hq2
    have e2 := mono_le hmono (show d + 1 ≤ m by omega)
    refine hg.block q (by omega) (fun e => ?_)
    obtain ⟨x1, x2⟩ := hB q e.symm
    rcases Nat.lt_or_gt_of_ne hne with hlt | hlt
    · have := mono_le hmono (show d + 1 ≤ i by omega)
      omega
    · have := mono_le hmono (show i + 1 ≤ d by omega)
      omega
  refine ⟨⟨⟨hlo, hg0⟩, hb0, hmono, hmt, by omega⟩, fun d hd => ?_, fun d hd hdm => ?_, fun d hd hdm => ?_, ?_⟩
  · refine ⟨?_, (hc d hd).2⟩
    rw [World.cell?_of_block (a := ⟨g, d, none⟩) (hg.block g (by omega) (fun e => (hc i hi).2 e.symm))]
    exact (hc d hd).1
  · by_cases e : d = i
    · subst e; exact hs
    · exact (h1 d (by omega) hdm).same (same d hdm e)
  · exact (h2 d (by omega) hdm).same (same d hdm (by omega))
  · exact hb.grown hg (by omega) (fun q e => by have := hB q e; omega)
theorem markSE_any (v : Value) (m : Nat) (f : Nat → List Int) (lo top : Nat) (w : World) (h : LE lo top w v m f) (hm : m ≤ 13) (hf : ∀ d, (f d).length ≤ 16) :
    Calls Try.prog 34 #[v, .int .i64 1] w fun e w' => e = .returned (.int .i64 (1 + (sz f m : Nat))) ∧ LE lo top w' v m (fun d => marks (1 + sz f d) (f d).length) ∧ Below lo w w' := by
  rcases h with ⟨rfl, rfl⟩ | ⟨g, c, bs, rfl, h1, h2, h3, h4, h5, h6⟩
  · go_enter Try.func34, Try.ntmps34
    go_wp2
    refine wp_loop_rounds 1 ?_
    rw [rounds_succ]
    go_wp2
    go_ret
    exact ⟨by simp [sz], .inl ⟨rfl, rfl⟩, Below.refl _ _⟩
  · obtain ⟨us, hus⟩ : ∃ us : Nat → Value, ∀ d, d < m → (w.cell? ⟨g, d, none⟩ = some (us d) ∧ (us d).ownBlock ≠ some g) ∧ SL (bs d) (bs (d + 1)) w (us d) (f d) := by
      refine ⟨fun d => (w.cell? ⟨g, d, none⟩).getD undef, fun d hd => ?_⟩
      obtain ⟨u, hu, hr, hn⟩ := h6 d hd
      have e : (w.cell? ⟨g, d, none⟩).getD undef = u := by rw [hu]; rfl
      show (w.cell? ⟨g, d, none⟩ = some ((w.cell? ⟨g, d, none⟩).getD undef) ∧ ((w.cell? ⟨g, d, none⟩).getD undef).ownBlock ≠ some g) ∧ SL (bs d) (bs (d + 1)) w ((w.cell? ⟨g, d, none⟩).getD undef) (f d)
      rw [e]
      exact ⟨⟨hu, hn⟩, hr⟩
    have HM0 : Hid (ME lo top g m bs us f w 0 w) := ⟨⟨h1, h2, h3, h4, h5⟩, fun d hd => (hus d hd).1, fun d hd => by omega, fun d _ hd => (hus d hd).2, Below.refl _ _⟩
    have HF := Lib.hid hf
    have hsz := sz_le hf
    have HZ := Lib.hid hsz
    clear h1 h2 h3 h4 h5 h6 hus hf hsz
    go_enter Try.func34, Try.ntmps34
    go_wp2_with fail
    go_loopw [1, 5] (fun kv iv wr => ∃ i : Nat, i ≤ m ∧ iv = .int .i64 i ∧ kv = .int .i64 (1 + (sz f i : Nat)) ∧ Hid (ME lo top g m bs us f w i wr)) (fun _ iv _ => m - (intOf iv).toNat)
    case atStart => exact ⟨0, Nat.zero_le _, rfl, by simp [sz], HM0⟩
    case round =>
      obtain ⟨i, hi, rfl, rfl, HM⟩ := hrel
      clear HM0
      by_cases hlt : i < m
      · have hc := (HM.out.2.1 i hlt).1
        have hz := HZ.out i
        have HC : Hid (∀ W : World, W = wr → Calls Try.prog 19 #[us i, .int .i64 (1 + (sz f i : Nat))] W fun e w' => e = .returned (.int .i64 (1 + (sz f (i + 1) : Nat))) ∧ ME lo top g m bs us f w (i + 1) w') := fun W hW => by
          subst hW
          refine (mark64_any (us i) (f i) (bs i) (bs (i + 1)) (1 + (sz f i : Nat)) W (HM.out.2.2.2.1 i (Nat.le_refl _) hlt) (by have := HF.out i; omega) (by omega) (by omega)).mono ?_
          rintro e w' ⟨rfl, hs, hg⟩
          exact ⟨by rw [sz]; congr 2; omega, HM.out.next hlt hs hg⟩
        go_wp2_with fail
        refine (HC.out _ rfl).mono ?_
        rintro e w5 ⟨rfl, hmk⟩
        have HM5 := Lib.hid hmk
        clear hmk
        go_wp2
        go_roundw
        case rel => exact ⟨i + 1, by omega, by go_num, rfl, HM5⟩
        case measure => simp [intOf]; omega
      · obtain rfl : i = m := by omega
        go_wp2
        go_ret
        obtain ⟨⟨g1, g2, g3, g4, g5⟩, g6, g7, _, g9⟩ := HM.out
        exact ⟨rfl, .inr ⟨g, c, bs, rfl, g1, g2, g3, g4, g5, fun d hd => ⟨us d, (g6 d hd).1, g7 d hd hd, (g6 d hd).2⟩⟩, g9⟩
/-- rows that are returned -/
def RowsRet (w : World) (r : Nat) (f : Nat → List Int) (ok : Bool) (e : Ending) (w' : World) : Prop := ∃ v, e = .returned (.tuple #[v, .bool ok]) ∧ LE w.heap.size w'.heap.size w' v r f ∧ Below w.heap.size w w'
set_option maxRecDepth 8000 in
theorem lawCyclesOf_core (a : Option Addr) (m cap : Nat) (xs : List Int) (r : Nat) (f : Nat → List Int) (ok : Bool) (w : World) (h : RO w.heap.size w a xs) (hn : xs.length = m) (hl : m ≤ 1048576) (hr13 : r ≤ 13) (hf : ∀ d, (f d).length ≤ 16)
    (hS : ∀ (W : World) b c, RO W.heap.size W b xs → m ≤ c → Calls Try.prog 31 #[.slice b m c] W (RowsRet W r f ok)) (hI : ∀ (W : World) b c, RO W.heap.size W b xs → m ≤ c → Calls Try.prog 32 #[.slice b m c] W (RowsRet W r f ok)) :
    Calls Try.prog 9 #[.slice a m cap] w fun e w' => e = .returned (.bool true) ∧ Below w.heap.size w w' := by
  have HR := Lib.hid h
  have HN := Lib.hid hn
  have HI := Lib.hid hI
  have HS := Lib.hid hS
  have HF := Lib.hid hf
  have HF2 : Hid (∀ d, (f d).length ≤ 1048576) := fun d => by have := hf d; omega
  have hsz := sz_le hf r
  have t0 : decide ((1048576 : Int) < (m : Int)) = false := by simp; omega
  have hok : (ok != ok) = false := by simp
  clear h hn hI hS hf
  go_enter Try.func9, Try.ntmps9
  go_wp2_with fail
  refine (copy7_any a m cap xs w HR.out HN.out hl).mono ?_
  rintro e w1 ⟨b1, c1, rfl, r1, k1, _, hb1⟩
  have HB1 := Lib.hid hb1
  have z1 := hb1.size
  clear hb1
  go_wp2_with fail
  refine (HS.out w1 b1 c1 r1 k1).mono ?_
  rintro e w2 ⟨v0, rfl, hv0, hb2⟩
  have HB2 := Lib.hid (HB1.out.trans (hb2.mono HB1.out.size))
  have z2 := hb2.size
  have V0 := Lib.hid hv0.ll
  have HR2 := Lib.hid ((HR.out.below HB2.out).up HB2.out.size)
  clear r1 hb2 HB1 hv0
  go_wp2_with fail
  refine (copy7_any a m cap xs _ HR2.out HN.out hl).mono ?_
  rintro e w3 ⟨b3, c3, rfl, r3, k3, s3, hb3⟩
  have HB3 := Lib.hid (HB2.out.trans (hb3.mono HB2.out.size))
  have HS3 := Lib.hid s3
  have z3 := hb3.size
  replace V0 := Lib.hid (V0.out.below hb3)
  clear hb3 s3 HR2
  go_wp2_with fail
  refine (HI.out w3 b3 c3 r3 k3).mono ?_
  rintro e w4 ⟨v1, rfl, hv1, hb4⟩
  have HB4 := Lib.hid (HB3.out.trans (hb4.mono HB3.out.size))
  have HS4 := Lib.hid (HS3.out.below (hb4.mono (Nat.le_refl _)))
  have V1 := Lib.hid hv1
  have z4 := hb4.size
  replace V0 := Lib.hid (V0.out.below (hb4.mono z3))
  clear r3 hb4 HS3 hv1
  have HE1 := Lib.hid (eqSS_yes v1 v0 r f _ _ _ _ w4 V1.out.ll V0.out (Nat.le_refl _) (by omega) (by omega) HF2.out)
  go_wp2_with fail
  refine (HE1.out).mono ?_
  rintro e w5 ⟨rfl, hb5⟩
  have HB5 := Lib.hid (HB4.out.trans (hb5.mono HB4.out.size))
  have HS5 := Lib.hid (HS4.out.below (hb5.mono z4))
  have z5 := hb5.size
  replace V0 := Lib.hid (V0.out.below (hb5.mono (by omega)))
  replace V1 := Lib.hid (V1.out.below hb5)
  have HR5 := Lib.hid ((HR.out.below HB5.out).up HB5.out.size)
  clear hb5 HE1 HS4
  go_wp2_with fail
  refine (copy7_any a m cap xs _ HR5.out HN.out hl).mono ?_
  rintro e w6 ⟨b6, c6, rfl, _, _, s6, hb6⟩
  have HB6 := Lib.hid (HB5.out.trans (hb6.mono HB5.out.size))
  have HS6 := Lib.hid (HS5.out.below (hb6.mono (by omega)))
  have z6 := hb6.size
  replace V0 := Lib.hid (V0.out.below (hb6.mono (by omega)))
  replace V1 := Lib.hid (V1.out.below (hb6.mono (by omega)))
  have HE : Hid (Calls Try.prog 18 #[.slice b3 m c3, .slice b6 m c6] w6 fun e w' => e = .returned (.bool true) ∧ ∃ n, w' = w6.drewN n) := eq64_yes _ _ xs _ _ _ _ w6 HS6.out s6 (by rw [HN.out]; exact hl)
  clear hb6 s6 HS5
  go_wp2_with (go_at_call 18; with_reducible refine (HE.out).mono ?_; rintro e w7 ⟨rfl, m7, rfl⟩)
  have hd7 : Below w6.heap.size w6 (w6.drewN m7) := below_drewN (Below.refl _ _) m7
  have HM := Lib.hid (mark64_any (.slice b3 m c3) xs w2.heap.size w3.heap.size 1 (w6.drewN m7) (HS6.out.drewN m7) (by rw [HN.out]; exact hl) (by omega) (by omega))
  replace V0 := Lib.hid (V0.out.below (hd7.mono (by omega)))
  replace V1 := Lib.hid (V1.out.below (hd7.mono (by omega)))
  have HB7 := Lib.hid (below_drewN HB6.out m7)
  have z7 : (w6.drewN m7).heap.size = w6.heap.size := rfl
  obtain ⟨w7, hw7⟩ : ∃ x, x = w6.drewN m7 := ⟨_, rfl⟩
  rw [← hw7] at HM V0 V1 HB7 z7 ⊢
  have HBL := Lib.hid (HS6.out.drewN m7).blockT
  clear hd7 HE HS6 hw7
  go_wp2_with fail
  refine (HM.out).mono ?_
  rintro e w8 ⟨rfl, hs8, hg8⟩
  rw [HN.out]
  have hB8 : Below w2.heap.size w7 w8 := (Below.refl _ w7).grown hg8 (by omega) (fun q hq => (HBL.out q hq).1)
  have z8 := hB8.size
  replace V0 := Lib.hid (V0.out.below hB8)
  have HB8 := Lib.hid (HB7.out.trans (hB8.mono (by omega)))
  replace V1 := Lib.hid (V1.out.same z8 fun q q1 q2 => hg8.block q (by omega) (fun e => by have := HBL.out q e.symm; omega))
  have HE2 := Lib.hid (eqSS_yes v1 v0 r f _ _ _ _ w8 V1.out.ll V0.out (by omega) (by omega) (by omega) HF2.out)
  have hk0 : decide ((1 : Int) + (m : Int) < 0) = false := by simp; omega
  clear hs8 hg8 hB8 HM HBL
  go_wp2_with fail
  refine (HE2.out).mono ?_
  rintro e w9 ⟨rfl, hb9⟩
  have z9 := hb9.size
  have HB9 := Lib.hid (HB8.out.trans (hb9.mono HB8.out.size))
  replace V0 := Lib.hid (V0.out.below (hb9.mono (by omega)))
  replace V1 := Lib.hid (V1.out.below (hb9.mono (by omega)))
  obtain ⟨K, hK⟩ : ∃ K : Int, K = 1 + ((sz f r : Nat) : Int) := ⟨_, rfl⟩
  have hK0 : 0 ≤ K := by omega
  have hK1 : decide (K < 0) = false := by simp; omega
  have hKK : (K != K) = false := by simp
  have HM9 := Lib.hid (markSE_any v1 r f _ _ w9 V1.out hr13 HF.out)
  rw [← hK] at HM9
  clear hb9 HE2 hK0
  go_wp2_with fail
  refine (HM9.out).mono ?_
  rintro e w10 ⟨rfl, hv10, hb10⟩
  have z10 := hb10.size
  have HB10 := Lib.hid (HB9.out.trans (hb10.mono (by omega)))
  replace V0 := Lib.hid (V0.out.below (hb10.mono (by omega)))
  replace V1 := Lib.hid hv10
  have HH10 := Lib.hid (heldSS_any v1 r f _ _ w10 V1.out.ll hr13 HF.out)
  rw [← hK] at HH10
  have HR10 := Lib.hid ((HR.out.below HB10.out).up HB10.out.size)
  clear hv10 hb10 HM9
  go_wp2_with fail
  refine (HH10.out).mono ?_
  rintro e w10 ⟨rfl, rfl⟩
  go_wp2_with fail
  refine (copy7_any a m cap xs _ HR10.out HN.out hl).mono ?_
  rintro e w11 ⟨b11, c11, rfl, r11, k11, _, hb11⟩
  have z11 := hb11.size
  have HB11 := Lib.hid (HB10.out.trans (hb11.mono HB10.out.size))
  replace V0 := Lib.hid (V0.out.below (hb11.mono (by omega)))
  replace V1 := Lib.hid (V1.out.below (hb11.mono (by omega)))
  clear hb11 HR10 HH10
  go_wp2_with fail
  refine (HI.out w11 b11 c11 r11 k11).mono ?_
  rintro e w12 ⟨v2, rfl, hv12, hb12⟩
  have z12 := hb12.size
  have HB12 := Lib.hid (HB11.out.trans (hb12.mono HB11.out.size))
  replace V0 := Lib.hid (V0.out.below (hb12.mono (by omega)))
  replace V1 := Lib.hid (V1.out.below (hb12.mono (by omega)))
  have HE12 := Lib.hid (eqSS_yes v2 v0 r f _ _ _ _ w12 hv12.ll V0.out (Nat.le_refl _) (by omega) (by omega) HF2.out)
  clear r11 hb12 hv12
  go_wp2_with fail
  refine (HE12.out).mono ?_
  rintro e w13 ⟨rfl, hb13⟩
  have z13 := hb13.size
  have HB13 := Lib.hid (HB12.out.trans (hb13.mono HB12.out.size))
  replace V1 := Lib.hid (V1.out.below (hb13.mono (by omega)))
  have HH13 := Lib.hid (heldSS_any v1 r f _ _ w13 V1.out.ll hr13 HF.out)
  rw [← hK] at HH13
  clear hb13 HE12
  go_wp2_with fail
  refine (HH13.out).mono ?_
  rintro e w14 ⟨rfl, rfl⟩
  go_wp2
  go_ret
  exact ⟨rfl, HB13.out⟩
theorem lawCyclesOf_any (a : Option Addr) (n cap : Nat) (zs : List Int) (w : World) (h : RowIn .i64 w a n zs) (H : ∀ ys : List Int, ys.length = n → n ≤ 1048576 → RO w.heap.size w a ys → Calls Try.prog 9 #[.slice a n cap] w fun e w' => e = .returned (.bool true) ∧ Below w.heap.size w w') :
    Calls Try.prog 9 #[.slice a n cap] w fun e w' => e = .returned (.bool true) ∧ Below w.heap.size w w' := by
  by_cases hl : n ≤ 1048576
  · obtain ⟨ys, hn, hr⟩ := h.ro
    exact H ys hn hl hr
  · have hle := h.len_le
    have t0 : decide ((1048576 : Int) < (n : Int)) = true := by simp; omega
    clear h H
    go_enter Try.func9, Try.ntmps9
    go_wp2
    go_ret
    exact ⟨rfl, Below.refl _ _⟩
end Go.Proofs.Ytjbojamhnapkpab
