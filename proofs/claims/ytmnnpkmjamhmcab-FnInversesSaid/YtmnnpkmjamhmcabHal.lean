/- Points of several bases: impl.HaltonPoint, spec.HaltonPoint, the law. -/
import Derived.Test.YtmnnpkmjamhmcabSSh
import Derived.Test.YtmnnpkmjamhmcabPtA
import Derived.Test.YtmnnpkmjamhmcabRad
import Derived.Maps.AppendAt
namespace Go.Proofs.Ytmnnpkmjamhmcab
open Go.RowKit Go.PlainAid
set_option maxHeartbeats 1600000
set_option maxRecDepth 20000

def RdP (n b : Int) : Prop := (0 ≤ n ∧ n ≤ 1000000) ∧ 2 ≤ b ∧ b ≤ 36
/-- the radical inverse -/
def frI (n b : Int) : Int × Int := (mkN (rad b.toNat n.toNat).1 (rad b.toNat n.toNat).2, mkD (rad b.toNat n.toNat).1 (rad b.toNat n.toNat).2)
def hal (n : Int) (xs : List Int) : List (Int × Int) := xs.map (frI n)
theorem hal_length (n : Int) (xs : List Int) : (hal n xs).length = xs.length := by simp [hal]
theorem hal_at {n : Int} {xs : List Int} {i : Nat} {b : Int} (h : xs[i]? = some b) : (hal n xs)[i]? = some (frI n b) := by simp [hal, h]
def HalP (n : Int) (m : Nat) (xs : List Int) : Prop := (1 ≤ m ∧ m ≤ 4) ∧ ∀ (i : Nat) (b : Int), xs[i]? = some b → RdP n b
theorem radI_yes (n b : Int) (w : World) (h : RdP n b) : Calls Try.prog 16 #[.int .i64 n, .int .i64 b] w fun e w' => e = .returned (.tuple #[.agg #[.int .i64 (frI n b).1, .int .i64 (frI n b).2], .bool true]) ∧ Below w.heap.size w w' := by
  obtain ⟨⟨h1, h2⟩, h3, h4⟩ := h
  obtain ⟨n', rfl⟩ := Int.eq_ofNat_of_zero_le h1
  obtain ⟨b', rfl⟩ := Int.eq_ofNat_of_zero_le (show 0 ≤ b by omega)
  exact rad_yes n' b' w (by omega) (by omega) (by omega)
theorem FRow.up {w : World} {g n k : Nat} {xs : List (Int × Int)} (h : FRow w g n k xs) : FRow w g n k xs := h
theorem hal_yes (n : Int) (a : Option Addr) (m cap : Nat) (xs : List Int) (w : World) (h : RO w.heap.size w a xs) (hn : xs.length = m) (hP : HalP n m xs) :
    Calls Try.prog 17 #[.int .i64 n, .slice a m cap] w fun e w' => ∃ v, e = .returned (.tuple #[v, .bool true]) ∧ FS w.heap.size w'.heap.size w' v (hal n xs) ∧ Below w.heap.size w w' := by
  obtain ⟨i0, hi, hz0, hz1, hz2⟩ : ∃ i, Try.prog.info? 27 = some i ∧ i.zero = some (.agg #[.int .i64 0, .int .i64 0]) ∧ i.size = 2 ∧ i.bytes = 16 := info_parts (by kernel_rfl)
  have HR := Lib.hid h
  have HN := Lib.hid hn
  have HP := Lib.hid hP
  have hm := hP.1
  have hm1 := hm.1
  have hm4 := hm.2
  have HS : Hid (∀ W, Calls Try.prog 55 #[.int .i64 m] W fun e w' => e = .returned (.bool true) ∧ W = w') := sidesB_any m true (decide_eq_true (by omega))
  clear h hn hP hm
  go_enter Try.func17, Try.ntmps17
  go_wp2_with (first | (go_at_call 55; with_reducible refine (HS.out _).mono ?_; rintro e w1 ⟨rfl, rfl⟩) | (at_make; refine wpList_make_full _ rfl _ _ 30 rfl w.heap.size 27 i0 _ 2 Try.underlying30 hi hz0 hz1 _ _ _ _ m rfl rfl rfl rfl (by rw [hz2]; omega) (by unfold maxLen; omega) (Nat.le_refl _) ?_; intro w3 hown hgrow))
  have HI : Hid (FRow w3 w.heap.size m 0 (hal n xs) ∧ w.heap.size < w3.heap.size ∧ Below w.heap.size w w3) := ⟨FRow.made (cap := m) (by simpa [Value.cells] using hown), (hown.lt _ rfl).2, (Below.refl _ w).grown hgrow (Nat.le_refl _) (by simp)⟩
  clear hown hgrow
  go_loopw [20] (fun iv wr => ∃ k : Nat, k ≤ m ∧ iv = .int .i64 k ∧ Hid (FRow wr w.heap.size m k (hal n xs) ∧ w.heap.size < wr.heap.size ∧ Below w.heap.size w wr)) (fun iv _ => m - (intOf iv).toNat)
  case atStart => exact ⟨0, Nat.zero_le _, rfl, HI⟩
  case round =>
    obtain ⟨k, hk, rfl, HK⟩ := hrel
    clear HI
    by_cases hlt : k < m
    · obtain ⟨b, hb⟩ : ∃ b, xs[k]? = some b := ⟨_, List.getElem?_eq_getElem (by have := HN.out; omega)⟩
      obtain ⟨g2, o2, rfl, hg2, hc2⟩ := HR.out k b hb
      replace hc2 := (HK.out.2.2.cell (p := ⟨g2, o2 + k, none⟩) hg2).trans hc2
      have HA := Lib.hid (hal_at (n := n) hb)
      have HRD := Lib.hid (radI_yes n b wr (HP.out.2 k b hb))
      generalize frI n b = fr at HA HRD
      obtain ⟨x, y⟩ := fr
      clear hb
      go_wp2_with fail
      refine HRD.out.mono ?_
      rintro e w4 ⟨rfl, hb4⟩
      have B4 : Below w4.heap.size w4 (w4.alloc (.cells #[.int .i64 x, .int .i64 y] 27)) := (Below.refl _ _).alloc (Nat.le_refl _) _
      have A4 := D2.new w4 (.int .i64 x) (.int .i64 y) 27
      have HK4 : Hid (FRow (w4.alloc (.cells #[.int .i64 x, .int .i64 y] 27)) w.heap.size m k (hal n xs) ∧ w.heap.size < (w4.alloc (.cells #[.int .i64 x, .int .i64 y] 27)).heap.size ∧ Below w.heap.size w (w4.alloc (.cells #[.int .i64 x, .int .i64 y] 27))) := by
        obtain ⟨k1, k2, k3⟩ := HK.out
        have z4 := hb4.size
        have z5 := B4.size
        exact ⟨(k1.far k2 hb4).far (by omega) B4, by omega, (k3.trans (hb4.mono k3.size)).trans (B4.mono (by omega))⟩
      clear hb4 B4 HRD HK hc2
      go_upto_region 8 with fail
      generalize w4.alloc (.cells #[.int .i64 x, .int .i64 y] 27) = w5 at A4 HK4 ⊢
      obtain ⟨⟨e0, e1⟩, _⟩ := A4
      obtain ⟨x0, y0, d0, d1, _⟩ := HK4.out.1.1 k hlt
      have f0 := HK4.out.1.2 (k * 2)
      have f1 := HK4.out.1.2 (k * 2 + 1)
      have hadd := add_two w.heap.size k
      have HK5 : Hid (FRow ((w5.setCell ⟨w.heap.size, k * 2, none⟩ (.int .i64 x)).setCell ⟨w.heap.size, k * 2 + 1, none⟩ (.int .i64 y)) w.heap.size m (k + 1) (hal n xs) ∧ w.heap.size < ((w5.setCell ⟨w.heap.size, k * 2, none⟩ (.int .i64 x)).setCell ⟨w.heap.size, k * 2 + 1, none⟩ (.int .i64 y)).heap.size ∧ Below w.heap.size w ((w5.setCell ⟨w.heap.size, k * 2, none⟩ (.int .i64 x)).setCell ⟨w.heap.size, k * 2 + 1, none⟩ (.int .i64 y))) :=
        ⟨HK4.out.1.step hlt HA.out, by simpa [World.setCell] using HK4.out.2.1, (HK4.out.2.2.setCell (p := ⟨w.heap.size, k * 2, none⟩) (Nat.le_refl _) _).setCell (p := ⟨w.heap.size, k * 2 + 1, none⟩) (Nat.le_refl _) _⟩
      clear HK4 HA
      go_wp2
      go_roundw
      case rel => exact ⟨k + 1, by omega, by go_num, HK5⟩
      case measure => simp [intOf]; omega
    · obtain rfl : k = m := by omega
      have hl := hal_length n xs
      have HLL : Hid ((hal n xs).length = k) := by unfold Hid; rw [hl, HN.out]
      clear hl
      go_wp2
      go_ret2
      exact ⟨_, rfl, .inr ⟨w.heap.size, k, by rw [HLL.out]; rfl, by rw [HLL.out]; exact Nat.le_refl _, Nat.le_refl _, HK.out.2.1, by rw [HLL.out]; exact HK.out.1⟩, HK.out.2.2⟩
theorem hal_no (n : Int) (a : Option Addr) (m cap : Nat) (xs : List Int) (w : World) (h : RO w.heap.size w a xs) (hn : xs.length = m) (hn2 : m ≤ 1048576) (hP : ¬ HalP n m xs) :
    Calls Try.prog 17 #[.int .i64 n, .slice a m cap] w fun e w' => e = .returned (.tuple #[.slice none 0 0, .bool false]) ∧ Below w.heap.size w w' := by
  by_cases hm : 1 ≤ m ∧ m ≤ 4
  rotate_left
  · have HS : Hid (∀ W, Calls Try.prog 55 #[.int .i64 m] W fun e w' => e = .returned (.bool false) ∧ W = w') := sidesB_any m false (decide_eq_false (by omega))
    clear h hn hP hm
    go_enter Try.func17, Try.ntmps17
    go_wp2_with (go_at_call 55; with_reducible refine (HS.out _).mono ?_; rintro e w1 ⟨rfl, rfl⟩)
    go_ret2
    exact ⟨rfl, Below.refl _ _⟩
  obtain ⟨i0, hi, hz0, hz1, hz2⟩ : ∃ i, Try.prog.info? 27 = some i ∧ i.zero = some (.agg #[.int .i64 0, .int .i64 0]) ∧ i.size = 2 ∧ i.bytes = 16 := info_parts (by kernel_rfl)
  have HR := Lib.hid h
  have HN := Lib.hid hn
  have HP := Lib.hid hP
  have HM := Lib.hid hm
  have hm1 := hm.1
  have hm4 := hm.2
  have HS : Hid (∀ W, Calls Try.prog 55 #[.int .i64 m] W fun e w' => e = .returned (.bool true) ∧ W = w') := sidesB_any m true (decide_eq_true (by omega))
  clear h hn hP hm
  go_enter Try.func17, Try.ntmps17
  go_wp2_with (first | (go_at_call 55; with_reducible refine (HS.out _).mono ?_; rintro e w1 ⟨rfl, rfl⟩) | (at_make; refine wpList_make_full _ rfl _ _ 30 rfl w.heap.size 27 i0 _ 2 Try.underlying30 hi hz0 hz1 _ _ _ _ m rfl rfl rfl rfl (by rw [hz2]; omega) (by unfold maxLen; omega) (Nat.le_refl _) ?_; intro w3 hown hgrow))
  have HI : Hid (FRow w3 w.heap.size m 0 (hal n xs) ∧ w.heap.size < w3.heap.size ∧ Below w.heap.size w w3) := ⟨FRow.made (cap := m) (by simpa [Value.cells] using hown), (hown.lt _ rfl).2, (Below.refl _ w).grown hgrow (Nat.le_refl _) (by simp)⟩
  clear hown hgrow
  go_loopw [20] (fun iv wr => ∃ k : Nat, k ≤ m ∧ iv = .int .i64 k ∧ Hid (∀ i b, i < k → xs[i]? = some b → RdP n b) ∧ Hid (FRow wr w.heap.size m k (hal n xs) ∧ w.heap.size < wr.heap.size ∧ Below w.heap.size w wr)) (fun iv _ => m - (intOf iv).toNat)
  case atStart => exact ⟨0, Nat.zero_le _, rfl, fun i b h => by omega, HI⟩
  case round =>
    obtain ⟨k, hk, rfl, HX, HK⟩ := hrel
    clear HI
    by_cases hlt : k < m
    · obtain ⟨b, hb⟩ : ∃ b, xs[k]? = some b := ⟨_, List.getElem?_eq_getElem (by have := HN.out; omega)⟩
      obtain ⟨g2, o2, rfl, hg2, hc2⟩ := HR.out k b hb
      replace hc2 := (HK.out.2.2.cell (p := ⟨g2, o2 + k, none⟩) hg2).trans hc2
      have HBB := Lib.hid hb
      by_cases hrd : RdP n b
      · have HA := Lib.hid (hal_at (n := n) hb)
        have HRD := Lib.hid (radI_yes n b wr hrd)
        have HRR := Lib.hid hrd
        generalize frI n b = fr at HA HRD
        obtain ⟨x, y⟩ := fr
        clear hb hrd
        go_wp2_with fail
        refine HRD.out.mono ?_
        rintro e w4 ⟨rfl, hb4⟩
        have B4 : Below w4.heap.size w4 (w4.alloc (.cells #[.int .i64 x, .int .i64 y] 27)) := (Below.refl _ _).alloc (Nat.le_refl _) _
        have A4 := D2.new w4 (.int .i64 x) (.int .i64 y) 27
        have HK4 : Hid (FRow (w4.alloc (.cells #[.int .i64 x, .int .i64 y] 27)) w.heap.size m k (hal n xs) ∧ w.heap.size < (w4.alloc (.cells #[.int .i64 x, .int .i64 y] 27)).heap.size ∧ Below w.heap.size w (w4.alloc (.cells #[.int .i64 x, .int .i64 y] 27))) := by
          obtain ⟨k1, k2, k3⟩ := HK.out
          have z4 := hb4.size
          have z5 := B4.size
          exact ⟨(k1.far k2 hb4).far (by omega) B4, by omega, (k3.trans (hb4.mono k3.size)).trans (B4.mono (by omega))⟩
        clear hb4 B4 HRD HK hc2
        go_upto_region 8 with fail
        generalize w4.alloc (.cells #[.int .i64 x, .int .i64 y] 27) = w5 at A4 HK4 ⊢
        obtain ⟨⟨e0, e1⟩, _⟩ := A4
        obtain ⟨x0, y0, d0, d1, _⟩ := HK4.out.1.1 k hlt
        have f0 := HK4.out.1.2 (k * 2)
        have f1 := HK4.out.1.2 (k * 2 + 1)
        have hadd := add_two w.heap.size k
        have HK5 : Hid (FRow ((w5.setCell ⟨w.heap.size, k * 2, none⟩ (.int .i64 x)).setCell ⟨w.heap.size, k * 2 + 1, none⟩ (.int .i64 y)) w.heap.size m (k + 1) (hal n xs) ∧ w.heap.size < ((w5.setCell ⟨w.heap.size, k * 2, none⟩ (.int .i64 x)).setCell ⟨w.heap.size, k * 2 + 1, none⟩ (.int .i64 y)).heap.size ∧ Below w.heap.size w ((w5.setCell ⟨w.heap.size, k * 2, none⟩ (.int .i64 x)).setCell ⟨w.heap.size, k * 2 + 1, none⟩ (.int .i64 y))) :=
          ⟨HK4.out.1.step hlt HA.out, by simpa [World.setCell] using HK4.out.2.1, (HK4.out.2.2.setCell (p := ⟨w.heap.size, k * 2, none⟩) (Nat.le_refl _) _).setCell (p := ⟨w.heap.size, k * 2 + 1, none⟩) (Nat.le_refl _) _⟩
        clear HK4 HA
        go_wp2
        go_roundw
        case rel =>
          refine ⟨k + 1, by omega, by go_num, fun i c h1 h2 => ?_, HK5⟩
          by_cases e : i = k
          · subst e
            rw [HBB.out] at h2
            cases h2
            exact HRR.out
          · exact HX.out i c (by omega) h2
        case measure => simp [intOf]; omega
      · have HRD := Lib.hid (rad_no n b wr hrd)
        clear hb hrd
        go_wp2_with fail
        refine HRD.out.mono ?_
        rintro e w4 ⟨rfl, hb4⟩
        have HB4 : Hid (Below w.heap.size w (w4.alloc (.cells #[.int .i64 0, .int .i64 0] 27))) := by
          obtain ⟨k1, k2, k3⟩ := HK.out
          have z4 := hb4.size
          exact (k3.trans (hb4.mono k3.size)).alloc (by omega) _
        clear hb4 HRD HK hc2
        go_wp2
        go_ret2
        exact ⟨rfl, HB4.out⟩
    · obtain rfl : k = m := by omega
      exact absurd ⟨HM.out, fun i b hb => HX.out i b (by have := (List.getElem?_eq_some_iff.1 hb).1; have := HN.out; omega) hb⟩ HP.out
/-- the cells of fractions -/
def flat2 : List (Int × Int) → List Value
  | [] => []
  | p :: ps => .int .i64 p.1 :: .int .i64 p.2 :: flat2 ps
theorem flat2_length (ys : List (Int × Int)) : (flat2 ys).length = ys.length * 2 := by
  induction ys with
  | nil => rfl
  | cons p ps ih => simp only [flat2, List.length_cons, ih]; omega
theorem flat2_app (ys zs : List (Int × Int)) : flat2 (ys ++ zs) = flat2 ys ++ flat2 zs := by
  induction ys with
  | nil => rfl
  | cons p ps ih => simp [flat2, ih]
theorem flat2_at (ys : List (Int × Int)) : ∀ i p, ys[i]? = some p → (flat2 ys)[i * 2]? = some (.int .i64 p.1) ∧ (flat2 ys)[i * 2 + 1]? = some (.int .i64 p.2) := by
  induction ys with
  | nil => intro i p h; simp at h
  | cons q qs ih =>
    intro i p h
    cases i with
    | zero =>
      simp at h
      subst h
      exact ⟨rfl, rfl⟩
    | succ i =>
      have := ih i p (by simpa using h)
      have e : (i + 1) * 2 = i * 2 + 1 + 1 := by omega
      rw [e]
      simpa [flat2] using this
theorem FS.of_own {base : Nat} {w : World} {e : TypeId} {v : Value} {ys : List (Int × Int)} (h : w.ownsRow base e 2 v ys.length (flat2 ys)) : FS base w.heap.size w v ys := by
  obtain ⟨hl, ⟨rfl, h0⟩ | ⟨g, cap, cur, rfl, hg, hb, h1, h2, h3, h4⟩⟩ := id h
  · exact .inl ⟨rfl, List.eq_nil_of_length_eq_zero h0⟩
  · refine .inr ⟨g, cap, rfl, h1, hg, (Array.getElem?_eq_some_iff.1 hb).1, fun i hi => ?_, fun j => h.frozenAt j⟩
    obtain ⟨c0, c1⟩ := flat2_at ys i ys[i] (by simp)
    exact ⟨ys[i].1, ys[i].2, by rw [h.cellAt _ (by omega)]; exact c0, by rw [h.cellAt _ (by omega)]; exact c1, fun _ => by rw [List.getElem?_eq_getElem hi]⟩
end Go.Proofs.Ytmnnpkmjamhmcab
