/- Valid nets: impl.ValidNet, spec.l10Is, spec.ValidNet, the law. -/
import Derived.Test.YtmnnpkmjamhmcaaSSn
import Derived.Test.YtmnnpkmjamhmcaaPtA
namespace Go.Proofs.Ytmnnpkmjamhmcaa
open Go.RowKit Go.PlainAid
set_option maxHeartbeats 1600000
set_option maxRecDepth 20000

def NtP (x : Int) (m : Nat) (f : Nat → List Int) : Prop := (0 ≤ x ∧ x ≤ 6) ∧ (1 ≤ m ∧ m ≤ 4) ∧ ∀ d, d < m → PtP x.toNat x (f d)
theorem isNet_any (x : Int) (a : Option Addr) (m cap : Nat) (f : Nat → List Int) (w : World) (h : RR w.heap.size w a m f) (hl : m + szl f m ≤ 1048576) (ok : Bool) (hok : ok = true ↔ NtP x m f) :
    Calls Try.prog 18 #[.agg #[.int .i64 x, .slice a m cap]] w fun e w' => e = .returned (.bool ok) ∧ Below w.heap.size w w' := by
  have HL : Hid (∀ d, d < m → (f d).length ≤ 1048576) := fun d hd => by have := szl_at (f := f) hd; omega
  have hmm : m ≤ 1048576 := by omega
  have HR := Lib.hid h
  have HOK := Lib.hid hok
  clear h hl hok
  have A0 := D2.new w (.int .i64 x) (.slice a m cap) 27
  have B0 : Below w.heap.size w (w.alloc (.cells #[.int .i64 x, .slice a m cap] 27)) := (Below.refl _ _).alloc (Nat.le_refl _) _
  by_cases hb : 0 ≤ x ∧ x ≤ 6
  rotate_left
  · have HB : Hid (∀ W, Calls Try.prog 63 #[.int .i64 x] W fun e w' => e = .returned (.bool false) ∧ W = w') := netB_any x false (decide_eq_false hb)
    obtain rfl : ok = false := by
      have := HOK.out
      cases ok
      · rfl
      · exact absurd (this.1 rfl).1 hb
    clear hb HOK
    go_enter Try.func18, Try.ntmps18
    go_wp2_with (go_at_call 63; with_reducible refine (HB.out _).mono ?_; rintro e w1 ⟨rfl, rfl⟩)
    go_ret
    exact ⟨rfl, B0⟩
  have HB : Hid (∀ W, Calls Try.prog 63 #[.int .i64 x] W fun e w' => e = .returned (.bool true) ∧ W = w') := netB_any x true (decide_eq_true hb)
  by_cases hm : 1 ≤ m ∧ m ≤ 4
  rotate_left
  · have HM : Hid (∀ W, Calls Try.prog 64 #[.int .i64 m] W fun e w' => e = .returned (.bool false) ∧ W = w') := sidesB_any m false (decide_eq_false (by omega))
    obtain rfl : ok = false := by
      have := HOK.out
      cases ok
      · rfl
      · exact absurd (this.1 rfl).2.1 hm
    clear hb hm HOK
    go_enter Try.func18, Try.ntmps18
    go_wp2_with (first | (go_at_call 63; with_reducible refine (HB.out _).mono ?_; rintro e w1 ⟨rfl, rfl⟩) | (go_at_call 64; with_reducible refine (HM.out _).mono ?_; rintro e w1 ⟨rfl, rfl⟩))
    go_ret
    exact ⟨rfl, B0⟩
  have HM : Hid (∀ W, Calls Try.prog 64 #[.int .i64 m] W fun e w' => e = .returned (.bool true) ∧ W = w') := sidesB_any m true (decide_eq_true (by omega))
  obtain ⟨X, rfl⟩ := Int.eq_ofNat_of_zero_le hb.1
  obtain ⟨g, off, rfl, hg, hrows⟩ := HR.out.get (by omega)
  have HRW := Lib.hid hrows
  clear hrows
  have HBB := Lib.hid hb
  have HO : Hid (∀ W, Calls Try.prog 66 #[.int .i64 (X : Int)] W fun e w' => e = .returned (.int .i64 (mx (X : Int))) ∧ W = w') := ones10_any X hb
  have hX6 : X ≤ 6 := by omega
  clear hb
  go_enter Try.func18, Try.ntmps18
  go_wp2_with (first | (go_at_call 63; with_reducible refine (HB.out _).mono ?_; rintro e w1 ⟨rfl, rfl⟩) | (go_at_call 64; with_reducible refine (HM.out _).mono ?_; rintro e w1 ⟨rfl, rfl⟩))
  generalize w.alloc (.cells #[.int .i64 X, .slice (some ⟨g, off, none⟩) m cap] 27) = w0 at A0 B0 ⊢
  have HB0 := Lib.hid B0
  obtain ⟨⟨x0, x1⟩, _⟩ := A0
  go_loop [4, 19] (fun _ iv => ∃ k : Nat, k ≤ m ∧ iv = .int .i64 k ∧ Hid (∀ d, d < k → PtP X X (f d))) (fun _ iv => m - (intOf iv).toNat)
  case atStart => exact ⟨0, Nat.zero_le _, rfl, fun d hd => by omega⟩
  case round =>
    obtain ⟨k, hk, rfl, HK⟩ := hrel
    by_cases hlt : k < m
    · obtain ⟨bk, ck, hck, _, hro⟩ := HRW.out k hlt
      obtain ⟨q, hq⟩ : ∃ q, (f k).length = q := ⟨_, rfl⟩
      have HQ := Lib.hid hq
      rw [hq] at hck
      have hq1 := HL.out k hlt
      rw [hq] at hq1
      replace hck := (HB0.out.cell (p := ⟨g, off + k, none⟩) hg).trans hck
      have HRO := Lib.hid ((hro.below HB0.out).up HB0.out.size)
      clear hro hq
      by_cases he : q = X
      · subst he
        have hne : ((q : Int) != (q : Int)) = false := by simp
        by_cases hP : ∀ (i : Nat) (y : Int), (f k)[i]? = some y → 0 ≤ y ∧ y ≤ mx q
        · have HA : Hid (∀ W : World, W = w0 → Calls Try.prog 65 #[.slice bk q ck, .int .i64 0, .int .i64 (mx q)] W fun e w' => e = .returned (.bool true) ∧ W = w') := fun W hW => by
            subst hW
            exact areB_any bk q ck (f k) 0 (mx q) W HRO.out HQ.out hq1 true ⟨fun _ => hP, fun _ => rfl⟩
          have HPP := Lib.hid hP
          clear hP
          go_wp2_with (first | (go_at_call 66; with_reducible refine (HO.out _).mono ?_; rintro e w1 ⟨rfl, rfl⟩) | (go_at_call 65; with_reducible refine (HA.out _ rfl).mono ?_; rintro e w1 ⟨rfl, rfl⟩))
          go_round
          case rel =>
            refine ⟨k + 1, by omega, by go_num, fun d hd => ?_⟩
            by_cases e : d = k
            · subst e
              exact ⟨HQ.out, HPP.out⟩
            · exact HK.out d (by omega)
          case measure => first | (simp [intOf]; done) | (simp [intOf]; omega)
        · have HA : Hid (∀ W : World, W = w0 → Calls Try.prog 65 #[.slice bk q ck, .int .i64 0, .int .i64 (mx q)] W fun e w' => e = .returned (.bool false) ∧ W = w') := fun W hW => by
            subst hW
            exact areB_any bk q ck (f k) 0 (mx q) W HRO.out HQ.out hq1 false ⟨fun e => (by cases e), fun e => absurd e hP⟩
          obtain rfl : ok = false := by
            have := HOK.out
            cases ok
            · rfl
            · exact absurd ((this.1 rfl).2.2 k hlt).2 hP
          clear hP
          go_wp2_with (first | (go_at_call 66; with_reducible refine (HO.out _).mono ?_; rintro e w1 ⟨rfl, rfl⟩) | (go_at_call 65; with_reducible refine (HA.out _ rfl).mono ?_; rintro e w1 ⟨rfl, rfl⟩))
          go_ret
          exact ⟨rfl, HB0.out⟩
      · have hne : ((q : Int) != (X : Int)) = true := by simp; omega
        obtain rfl : ok = false := by
          have := HOK.out
          cases ok
          · rfl
          · have h1 := ((this.1 rfl).2.2 k hlt).1
            rw [HQ.out] at h1
            exact absurd h1 he
        clear he
        go_wp2
        go_ret
        exact ⟨rfl, HB0.out⟩
    · obtain rfl : k = m := by omega
      obtain rfl : ok = true := HOK.out.2 ⟨HBB.out, hm, HK.out⟩
      go_wp2
      go_ret
      exact ⟨rfl, HB0.out⟩
theorem l10Is_any (B : Nat) (x : Int) (a : Option Addr) (m cap : Nat) (f : Nat → List Int) (w : World) (hD : D2 w B (.int .i64 x) (.slice a m cap)) (h : RR w.heap.size w a m f) (hl : m + szl f m ≤ 1048576) (ok : Bool) (hok : ok = true ↔ NtP x m f) :
    Calls Try.prog 62 #[.pointer (some ⟨B, 0, none⟩)] w fun e w' => e = .returned (.bool ok) ∧ Below w.heap.size w w' := by
  have HL : Hid (∀ d, d < m → (f d).length ≤ 1048576) := fun d hd => by have := szl_at (f := f) hd; omega
  have hmm : m ≤ 1048576 := by omega
  have HR := Lib.hid h
  have HOK := Lib.hid hok
  obtain ⟨⟨x0, x1⟩, _⟩ := hD
  clear h hl hok
  by_cases hb : 0 ≤ x ∧ x ≤ 6
  rotate_left
  · have HB : Hid (∀ W, Calls Try.prog 82 #[.int .i64 x, .int .i64 0, .int .i64 6] W fun e w' => e = .returned (.bool false) ∧ W = w') := l00In_b x 0 6 false (decide_eq_false hb)
    obtain rfl : ok = false := by
      have := HOK.out
      cases ok
      · rfl
      · exact absurd (this.1 rfl).1 hb
    clear hb HOK
    go_enter Try.func62, Try.ntmps62
    go_wp2_with (go_at_call 82; with_reducible refine (HB.out _).mono ?_; rintro e w1 ⟨rfl, rfl⟩)
    go_ret
    exact ⟨rfl, Below.refl _ _⟩
  have HB : Hid (∀ W, Calls Try.prog 82 #[.int .i64 x, .int .i64 0, .int .i64 6] W fun e w' => e = .returned (.bool true) ∧ W = w') := l00In_b x 0 6 true (decide_eq_true hb)
  by_cases hm : 1 ≤ m ∧ m ≤ 4
  rotate_left
  · have HM : Hid (∀ W, Calls Try.prog 82 #[.int .i64 m, .int .i64 1, .int .i64 4] W fun e w' => e = .returned (.bool false) ∧ W = w') := l00In_b m 1 4 false (decide_eq_false (by omega))
    obtain rfl : ok = false := by
      have := HOK.out
      cases ok
      · rfl
      · exact absurd (this.1 rfl).2.1 hm
    clear hb hm HOK
    go_enter Try.func62, Try.ntmps62
    go_wp2_with (go_at_call 82; first | (with_reducible refine (HB.out _).mono ?_; rintro e w1 ⟨rfl, rfl⟩) | (with_reducible refine (HM.out _).mono ?_; rintro e w1 ⟨rfl, rfl⟩))
    go_ret
    exact ⟨rfl, Below.refl _ _⟩
  have HM : Hid (∀ W, Calls Try.prog 82 #[.int .i64 m, .int .i64 1, .int .i64 4] W fun e w' => e = .returned (.bool true) ∧ W = w') := l00In_b m 1 4 true (decide_eq_true (by omega))
  obtain ⟨X, rfl⟩ := Int.eq_ofNat_of_zero_le hb.1
  obtain ⟨g, off, rfl, hg, hrows⟩ := HR.out.get (by omega)
  have HRW := Lib.hid hrows
  clear hrows
  have HBB := Lib.hid hb
  have hX6 : X ≤ 6 := by omega
  clear hb
  go_enter Try.func62, Try.ntmps62
  go_wp2_with (go_at_call 82; first | (with_reducible refine (HB.out _).mono ?_; rintro e w1 ⟨rfl, rfl⟩) | (with_reducible refine (HM.out _).mono ?_; rintro e w1 ⟨rfl, rfl⟩))
  go_loopw [3, 4] (fun iv _ wr => ∃ k : Nat, k ≤ m ∧ iv = .int .i64 k ∧ Hid (∀ d, d < k → PtP X X (f d)) ∧ ∃ j, wr = w.drewN j) (fun iv _ _ => m - (intOf iv).toNat)
  case atStart => exact ⟨0, Nat.zero_le _, rfl, fun d hd => by omega, 0, rfl⟩
  case round =>
    obtain ⟨k, hk, rfl, HK, j, rfl⟩ := hrel
    by_cases hlt : k < m
    · obtain ⟨bk, ck, hck, _, hro⟩ := HRW.out k hlt
      obtain ⟨q, hq⟩ : ∃ q, (f k).length = q := ⟨_, rfl⟩
      have HQ := Lib.hid hq
      rw [hq] at hck
      have hq1 := HL.out k hlt
      rw [hq] at hq1
      have HRO := Lib.hid hro
      clear hro hq
      by_cases he : q = X
      · subst he
        have hne : ((q : Int) != (q : Int)) = false := by simp
        go_wp2
        go_quiet (fail)
        go_wp2
        go_loopw [4] (fun iv wr => ∃ i : Nat, i ≤ q ∧ iv = .int .i64 i ∧ Hid (∀ (i2 : Nat) (y : Int), i2 < i → (f k)[i2]? = some y → 0 ≤ y ∧ y ≤ mx q) ∧ ∃ j, wr = w.drewN j) (fun iv _ => q - (intOf iv).toNat)
        case atStart => exact ⟨0, Nat.zero_le _, rfl, fun d _ hd => by omega, _, drewN_twoG _ _ _⟩
        case round =>
          obtain ⟨i, hi, rfl, HX, j2, hwr⟩ := hrel
          have y0 : wr.cell? ⟨B, 0, none⟩ = some (.int .i64 q) := by rw [hwr]; exact x0
          have y1 : wr.cell? ⟨B, 1, none⟩ = some (.slice (some ⟨g, off, none⟩) m cap) := by rw [hwr]; exact x1
          have y2 : wr.cell? ⟨g, off + k, none⟩ = some (.slice bk q ck) := by rw [hwr]; exact hck
          have HWR := Lib.hid hwr
          clear hwr
          by_cases hlt2 : i < q
          · obtain ⟨y, hy⟩ : ∃ y, (f k)[i]? = some y := ⟨_, List.getElem?_eq_getElem (by have := HQ.out; omega)⟩
            obtain ⟨g2, off2, rfl, hg2, hc2⟩ := HRO.out i y hy
            have HXX := Lib.hid hy
            replace hc2 : wr.cell? ⟨g2, off2 + i, none⟩ = some (.int .i64 y) := by rw [HWR.out]; exact hc2
            clear hy
            by_cases hin : 0 ≤ y ∧ y ≤ mx q
            · have HI : Hid (∀ W, Calls Try.prog 74 #[.int .i64 (q : Int), .int .i64 y] W fun e w' => e = .returned (.bool true) ∧ W = w') := st10_any q y true HBB.out (decide_eq_true hin)
              have HIN := Lib.hid hin
              clear hin
              go_wp2
              go_quiet ((go_at_call 74; with_reducible exact quietG (HI.out _)))
              go_wp2
              go_roundw
              case rel =>
                refine ⟨i + 1, by omega, by go_num, fun i2 z h1 h2 => ?_, _, by rw [HWR.out]; exact drewN_twoG _ _ _⟩
                by_cases e : i2 = i
                · subst e
                  rw [HXX.out] at h2
                  cases h2
                  exact HIN.out
                · exact HX.out i2 z (by omega) h2
              case measure => first | (simp [intOf]; done) | (simp [intOf]; omega)
            · have HI : Hid (∀ W, Calls Try.prog 74 #[.int .i64 (q : Int), .int .i64 y] W fun e w' => e = .returned (.bool false) ∧ W = w') := st10_any q y false HBB.out (decide_eq_false hin)
              obtain rfl : ok = false := by
                have := HOK.out
                cases ok
                · rfl
                · exact absurd (((this.1 rfl).2.2 k hlt).2 i y HXX.out) hin
              clear hin
              go_wp2
              go_quiet ((go_at_call 74; with_reducible exact quietG (HI.out _)))
              go_wp2
              go_ret
              rw [HWR.out]
              exact ⟨rfl, below_drewN (below_drewN (Below.refl _ _) _) _⟩
          · obtain rfl : i = q := by omega
            go_wp2
            go_roundw
            case rel =>
              refine ⟨k + 1, by omega, by go_num, fun d hd => ?_, _, HWR.out⟩
              by_cases e : d = k
              · subst e
                exact ⟨HQ.out, fun i2 z hz => HX.out i2 z (by have := (List.getElem?_eq_some_iff.1 hz).1; have := HQ.out; omega) hz⟩
              · exact HK.out d (by omega)
            case measure => first | (simp [intOf]; done) | (simp [intOf]; omega)
      · have hne : ((q : Int) != (X : Int)) = true := by simp; omega
        obtain rfl : ok = false := by
          have := HOK.out
          cases ok
          · rfl
          · have h1 := ((this.1 rfl).2.2 k hlt).1
            rw [HQ.out] at h1
            exact absurd h1 he
        clear he
        go_wp2
        go_quiet (fail)
        go_wp2
        go_ret
        exact ⟨rfl, below_drewN (below_drewN (Below.refl _ _) _) _⟩
    · obtain rfl : k = m := by omega
      obtain rfl : ok = true := HOK.out.2 ⟨HBB.out, hm, HK.out⟩
      go_wp2
      go_ret
      exact ⟨rfl, below_drewN (Below.refl _ _) _⟩
theorem specNet_any (x : Int) (a : Option Addr) (m cap : Nat) (f : Nat → List Int) (w : World) (h : RR w.heap.size w a m f) (hl : m + szl f m ≤ 1048576) (ok : Bool) (hok : ok = true ↔ NtP x m f) :
    Calls Try.prog 16 #[.agg #[.int .i64 x, .slice a m cap]] w fun e w' => e = .returned (.bool ok) ∧ Below w.heap.size w w' := by
  have B0 : Below w.heap.size w (w.alloc (.cells #[.int .i64 x, .slice a m cap] 27)) := (Below.refl _ _).alloc (Nat.le_refl _) _
  have HC := Lib.hid (l10Is_any w.heap.size x a m cap f _ (D2.new w (.int .i64 x) (.slice a m cap) 27) (h.far B0) hl ok hok)
  have HB0 := Lib.hid B0
  clear h hl hok B0
  go_enter Try.func16, Try.ntmps16
  go_wp2_with fail
  refine HC.out.mono ?_
  rintro e w1 ⟨rfl, hb⟩
  have HB1 := Lib.hid (HB0.out.trans (hb.mono HB0.out.size))
  clear hb
  go_wp2
  go_ret
  exact ⟨rfl, HB1.out⟩
theorem lawNet (x : Int) (a : Option Addr) (m cap : Nat) (f : Nat → List Int) (w : World) (h : RR w.heap.size w a m f ∧ m ≤ maxLen ∧ ∀ d, (f d).length ≤ maxLen) :
    Calls Try.prog 3 #[.agg #[.int .i64 x, .slice a m cap]] w fun e w' => e = .returned (.bool true) ∧ Below w.heap.size w w' := by
  obtain ⟨ok, hok⟩ : ∃ ok : Bool, ok = true ↔ NtP x m f := by
    by_cases hp : NtP x m f
    · exact ⟨true, by simp [hp]⟩
    · exact ⟨false, by simp [hp]⟩
  exact lawValidNet_core x a m cap f ok w h.1 h.2.1 h.2.2 (fun hc W b1 c1 hr _ => specNet_any x b1 m c1 f W hr hc ok hok)
    (fun hc W b1 c1 hr _ => isNet_any x b1 m c1 f W hr hc ok hok)
end Go.Proofs.Ytmnnpkmjamhmcaa
