/- Points: impl.IsPoints, spec.l10List, spec.IsPoints, the law. -/
import Derived.Test.YtmnnpkmjamhmcabSSl
namespace Go.Proofs.Ytmnnpkmjamhmcab
open Go.RowKit Go.PlainAid
set_option maxHeartbeats 1600000

/-- the greatest number of so many bits -/
def mx (b : Int) : Int := 2 ^ b.toNat - 1
theorem mx7 {b : Int} (h : 0 ≤ b ∧ b ≤ 6) : (b = 0 ∧ mx b = 0) ∨ (b = 1 ∧ mx b = 1) ∨ (b = 2 ∧ mx b = 3) ∨ (b = 3 ∧ mx b = 7) ∨ (b = 4 ∧ mx b = 15) ∨ (b = 5 ∧ mx b = 31) ∨ (b = 6 ∧ mx b = 63) := by
  have : b = 0 ∨ b = 1 ∨ b = 2 ∨ b = 3 ∨ b = 4 ∨ b = 5 ∨ b = 6 := by omega
  rcases this with rfl | rfl | rfl | rfl | rfl | rfl | rfl <;> simp [mx]
theorem btwI_b (a b c : Int) (r : Bool) (h : decide (b ≤ a ∧ a ≤ c) = r) (w : World) : Calls Try.prog 109 #[.int .i64 a, .int .i64 b, .int .i64 c] w fun e w' => e = .returned (.bool r) ∧ w = w' := by
  cases r
  · exact btwI_no _ _ _ _ (of_decide_eq_false h)
  · exact btwI_yes _ _ _ _ (of_decide_eq_true h).1 (of_decide_eq_true h).2
theorem netB_any (a : Int) (r : Bool) (h : decide (0 ≤ a ∧ a ≤ 6) = r) (w : World) : Calls Try.prog 112 #[.int .i64 a] w fun e w' => e = .returned (.bool r) ∧ w = w' := by
  have HI := Lib.hid (btw64_b a 0 6 r h)
  clear h
  go_enter Try.func112, Try.ntmps112
  go_wp2_with (go_at_call 53; with_reducible refine (HI.out _).mono ?_; rintro e w1 ⟨rfl, rfl⟩)
  go_ret
  exact ⟨rfl, rfl⟩
theorem sidesB_any (a : Int) (r : Bool) (h : decide (1 ≤ a ∧ a ≤ 4) = r) (w : World) : Calls Try.prog 55 #[.int .i64 a] w fun e w' => e = .returned (.bool r) ∧ w = w' := by
  have HI := Lib.hid (btwI_b a 1 4 r h)
  clear h
  go_enter Try.func55, Try.ntmps55
  go_wp2_with (go_at_call 109; with_reducible refine (HI.out _).mono ?_; rintro e w1 ⟨rfl, rfl⟩)
  go_ret
  exact ⟨rfl, rfl⟩
theorem l10Bits_any (a : Int) (r : Bool) (h : decide (0 ≤ a ∧ a ≤ 6) = r) (w : World) : Calls Try.prog 116 #[.int .i64 a] w fun e w' => e = .returned (.bool r) ∧ w = w' := by
  have HI := Lib.hid (l00In_b a 0 6 r h)
  clear h
  go_enter Try.func116, Try.ntmps116
  go_wp2_with (go_at_call 78; with_reducible refine (HI.out _).mono ?_; rintro e w1 ⟨rfl, rfl⟩)
  go_ret
  exact ⟨rfl, rfl⟩
theorem ones10_any (b : Int) (h : 0 ≤ b ∧ b ≤ 6) (w : World) : Calls Try.prog 114 #[.int .i64 b] w fun e w' => e = .returned (.int .i64 (mx b)) ∧ w = w' := by
  rcases mx7 h with ⟨rfl, e⟩ | ⟨rfl, e⟩ | ⟨rfl, e⟩ | ⟨rfl, e⟩ | ⟨rfl, e⟩ | ⟨rfl, e⟩ | ⟨rfl, e⟩ <;>
  · rw [e]
    clear e h
    go_enter Try.func114, Try.ntmps114
    go_wp2
    go_ret
    exact ⟨rfl, rfl⟩
theorem st10_any (b x : Int) (r : Bool) (h : 0 ≤ b ∧ b ≤ 6) (hr : decide (0 ≤ x ∧ x ≤ mx b) = r) (w : World) : Calls Try.prog 110 #[.int .i64 b, .int .i64 x] w fun e w' => e = .returned (.bool r) ∧ w = w' := by
  rcases mx7 h with ⟨rfl, e⟩ | ⟨rfl, e⟩ | ⟨rfl, e⟩ | ⟨rfl, e⟩ | ⟨rfl, e⟩ | ⟨rfl, e⟩ | ⟨rfl, e⟩ <;>
  · rw [e] at hr
    have HI := Lib.hid (l00In_b x 0 _ r hr)
    clear e h hr
    go_enter Try.func110, Try.ntmps110
    go_wp2_with (go_at_call 78; refine (HI.out _).mono ?_; rintro e w1 ⟨rfl, rfl⟩)
    go_ret
    exact ⟨rfl, rfl⟩

/-- a point with so many sides and bits -/
def PtP (n : Nat) (b : Int) (xs : List Int) : Prop := xs.length = n ∧ ∀ (i : Nat) (x : Int), xs[i]? = some x → 0 ≤ x ∧ x ≤ mx b
def PtsP (m : Nat) (f : Nat → List Int) (b : Int) : Prop := (0 ≤ b ∧ b ≤ 6) ∧ (1 ≤ m ∧ m ≤ 64) ∧ (1 ≤ (f 0).length ∧ (f 0).length ≤ 4) ∧ ∀ d, d < m → PtP (f 0).length b (f d)
set_option maxRecDepth 20000 in
theorem isPts_any (a : Option Addr) (m cap : Nat) (f : Nat → List Int) (b : Int) (w : World) (h : RR w.heap.size w a m f) (hl : m + szl f m ≤ 1048576) (ok : Bool) (hok : ok = true ↔ PtsP m f b) :
    Calls Try.prog 68 #[.slice a m cap, .int .i64 b] w fun e w' => e = .returned (.bool ok) ∧ w = w' := by
  have HL : Hid (∀ d, d < m → (f d).length ≤ 1048576) := fun d hd => by have := szl_at (f := f) hd; omega
  have hmm : m ≤ 1048576 := by omega
  have HR := Lib.hid h
  have HOK := Lib.hid hok
  clear h hl hok
  by_cases hb : 0 ≤ b ∧ b ≤ 6
  rotate_left
  · have HB : Hid (∀ W, Calls Try.prog 112 #[.int .i64 b] W fun e w' => e = .returned (.bool false) ∧ W = w') := netB_any b false (decide_eq_false hb)
    obtain rfl : ok = false := by
      have := HOK.out
      cases ok
      · rfl
      · exact absurd (this.1 rfl).1 hb
    clear hb HOK
    go_enter Try.func68, Try.ntmps68
    go_wp2_with (go_at_call 112; with_reducible refine (HB.out _).mono ?_; rintro e w1 ⟨rfl, rfl⟩)
    go_ret
    exact ⟨rfl, rfl⟩
  have HB : Hid (∀ W, Calls Try.prog 112 #[.int .i64 b] W fun e w' => e = .returned (.bool true) ∧ W = w') := netB_any b true (decide_eq_true hb)
  by_cases hm : 1 ≤ m ∧ m ≤ 64
  rotate_left
  · have HM : Hid (∀ W, Calls Try.prog 109 #[.int .i64 m, .int .i64 1, .int .i64 64] W fun e w' => e = .returned (.bool false) ∧ W = w') := btwI_b m 1 64 false (decide_eq_false (by omega))
    obtain rfl : ok = false := by
      have := HOK.out
      cases ok
      · rfl
      · exact absurd (this.1 rfl).2.1 hm
    clear hb hm HOK
    go_enter Try.func68, Try.ntmps68
    go_wp2_with (first | (go_at_call 112; with_reducible refine (HB.out _).mono ?_; rintro e w1 ⟨rfl, rfl⟩) | (go_at_call 109; with_reducible refine (HM.out _).mono ?_; rintro e w1 ⟨rfl, rfl⟩))
    go_ret
    exact ⟨rfl, rfl⟩
  have HM : Hid (∀ W, Calls Try.prog 109 #[.int .i64 m, .int .i64 1, .int .i64 64] W fun e w' => e = .returned (.bool true) ∧ W = w') := btwI_b m 1 64 true (decide_eq_true (by omega))
  obtain ⟨g, off, rfl, hg, hrows⟩ := HR.out.get (by omega)
  have HRW := Lib.hid hrows
  obtain ⟨b0, c0, hc0, _, _⟩ := hrows 0 (by omega)
  obtain ⟨n, hn⟩ : ∃ n, (f 0).length = n := ⟨_, rfl⟩
  have HN := Lib.hid hn
  rw [hn] at hc0
  have hn1 := HL.out 0 (by omega)
  rw [hn] at hn1
  rw [Nat.add_zero] at hc0
  clear hrows hn
  by_cases hs : 1 ≤ n ∧ n ≤ 4
  rotate_left
  · have HS : Hid (∀ W, Calls Try.prog 55 #[.int .i64 n] W fun e w' => e = .returned (.bool false) ∧ W = w') := sidesB_any n false (decide_eq_false (by omega))
    obtain rfl : ok = false := by
      have := HOK.out
      cases ok
      · rfl
      · exact absurd (this.1 rfl).2.2.1 (by rw [HN.out]; exact hs)
    clear hb hs HOK
    go_enter Try.func68, Try.ntmps68
    go_wp2_with (first | (go_at_call 112; with_reducible refine (HB.out _).mono ?_; rintro e w1 ⟨rfl, rfl⟩) | (go_at_call 109; with_reducible refine (HM.out _).mono ?_; rintro e w1 ⟨rfl, rfl⟩) | (go_at_call 55; with_reducible refine (HS.out _).mono ?_; rintro e w1 ⟨rfl, rfl⟩))
    go_ret
    exact ⟨rfl, rfl⟩
  have HS : Hid (∀ W, Calls Try.prog 55 #[.int .i64 n] W fun e w' => e = .returned (.bool true) ∧ W = w') := sidesB_any n true (decide_eq_true (by omega))
  have HBB := Lib.hid hb
  have HSS := Lib.hid hs
  have HO : Hid (∀ W, Calls Try.prog 114 #[.int .i64 b] W fun e w' => e = .returned (.int .i64 (mx b)) ∧ W = w') := ones10_any b hb
  clear hb hs
  go_enter Try.func68, Try.ntmps68
  go_wp2_with (first | (go_at_call 112; with_reducible refine (HB.out _).mono ?_; rintro e w1 ⟨rfl, rfl⟩) | (go_at_call 109; with_reducible refine (HM.out _).mono ?_; rintro e w1 ⟨rfl, rfl⟩) | (go_at_call 55; with_reducible refine (HS.out _).mono ?_; rintro e w1 ⟨rfl, rfl⟩))
  go_loop [6, 26] (fun _ iv => ∃ k : Nat, k ≤ m ∧ iv = .int .i64 k ∧ Hid (∀ d, d < k → PtP n b (f d))) (fun _ iv => m - (intOf iv).toNat)
  case atStart => exact ⟨0, Nat.zero_le _, rfl, fun d hd => by omega⟩
  case round =>
    obtain ⟨k, hk, rfl, HK⟩ := hrel
    by_cases hlt : k < m
    · obtain ⟨bk, ck, hck, _, hro⟩ := HRW.out k hlt
      obtain ⟨q, hq⟩ : ∃ q, (f k).length = q := ⟨_, rfl⟩
      have HQ := Lib.hid hq
      rw [hq] at hck
      have hq1 := HL.out k hlt
      rw [hq] at hq1
      have HRO := Lib.hid hro
      clear hro hq
      by_cases he : q = n
      · subst he
        have hne : ((q : Int) != (q : Int)) = false := by simp
        by_cases hP : ∀ (i : Nat) (x : Int), (f k)[i]? = some x → 0 ≤ x ∧ x ≤ mx b
        · have HA : Hid (∀ W : World, W = w → Calls Try.prog 113 #[.slice bk q ck, .int .i64 0, .int .i64 (mx b)] W fun e w' => e = .returned (.bool true) ∧ W = w') := fun W hW => by
            subst hW
            exact areB_any bk q ck (f k) 0 (mx b) W HRO.out HQ.out hq1 true ⟨fun _ => hP, fun _ => rfl⟩
          have HPP := Lib.hid hP
          clear hP
          go_wp2_with (first | (go_at_call 114; with_reducible refine (HO.out _).mono ?_; rintro e w1 ⟨rfl, rfl⟩) | (go_at_call 113; with_reducible refine (HA.out _ rfl).mono ?_; rintro e w1 ⟨rfl, rfl⟩))
          go_round
          case rel =>
            refine ⟨k + 1, by omega, by go_num, fun d hd => ?_⟩
            by_cases e : d = k
            · subst e
              exact ⟨HQ.out, HPP.out⟩
            · exact HK.out d (by omega)
          case measure => first | (simp [intOf]; done) | (simp [intOf]; omega)
        · have HA : Hid (∀ W : World, W = w → Calls Try.prog 113 #[.slice bk q ck, .int .i64 0, .int .i64 (mx b)] W fun e w' => e = .returned (.bool false) ∧ W = w') := fun W hW => by
            subst hW
            exact areB_any bk q ck (f k) 0 (mx b) W HRO.out HQ.out hq1 false ⟨fun e => (by cases e), fun e => absurd e hP⟩
          obtain rfl : ok = false := by
            have := HOK.out
            cases ok
            · rfl
            · exact absurd ((this.1 rfl).2.2.2 k hlt).2 hP
          clear hP
          go_wp2_with (first | (go_at_call 114; with_reducible refine (HO.out _).mono ?_; rintro e w1 ⟨rfl, rfl⟩) | (go_at_call 113; with_reducible refine (HA.out _ rfl).mono ?_; rintro e w1 ⟨rfl, rfl⟩))
          go_ret
          exact ⟨rfl, rfl⟩
      · have hne : ((q : Int) != (n : Int)) = true := by simp; omega
        obtain rfl : ok = false := by
          have := HOK.out
          cases ok
          · rfl
          · have h1 := ((this.1 rfl).2.2.2 k hlt).1
            rw [HQ.out, HN.out] at h1
            exact absurd h1 he
        clear he
        go_wp2
        go_ret
        exact ⟨rfl, rfl⟩
    · obtain rfl : k = m := by omega
      obtain rfl : ok = true := HOK.out.2 ⟨HBB.out, hm, by rw [HN.out]; exact HSS.out, by rw [HN.out]; exact HK.out⟩
      go_wp2
      go_ret
      exact ⟨rfl, rfl⟩
set_option maxRecDepth 20000 in
theorem l10List_any (a : Option Addr) (m cap : Nat) (f : Nat → List Int) (b : Int) (w : World) (h : RR w.heap.size w a m f) (hl : m + szl f m ≤ 1048576) (ok : Bool) (hok : ok = true ↔ PtsP m f b) :
    Calls Try.prog 64 #[.slice a m cap, .int .i64 b] w fun e w' => e = .returned (.bool ok) ∧ Below w.heap.size w w' := by
  have HL : Hid (∀ d, d < m → (f d).length ≤ 1048576) := fun d hd => by have := szl_at (f := f) hd; omega
  have hmm : m ≤ 1048576 := by omega
  have HR := Lib.hid h
  have HOK := Lib.hid hok
  clear h hl hok
  by_cases hb : 0 ≤ b ∧ b ≤ 6
  rotate_left
  · have HB : Hid (∀ W, Calls Try.prog 116 #[.int .i64 b] W fun e w' => e = .returned (.bool false) ∧ W = w') := l10Bits_any b false (decide_eq_false hb)
    obtain rfl : ok = false := by
      have := HOK.out
      cases ok
      · rfl
      · exact absurd (this.1 rfl).1 hb
    clear hb HOK
    go_enter Try.func64, Try.ntmps64
    go_wp2_with (go_at_call 116; with_reducible refine (HB.out _).mono ?_; rintro e w1 ⟨rfl, rfl⟩)
    go_ret
    exact ⟨rfl, Below.refl _ _⟩
  have HB : Hid (∀ W, Calls Try.prog 116 #[.int .i64 b] W fun e w' => e = .returned (.bool true) ∧ W = w') := l10Bits_any b true (decide_eq_true hb)
  by_cases hm : 1 ≤ m ∧ m ≤ 64
  rotate_left
  · have HM : Hid (∀ W, Calls Try.prog 78 #[.int .i64 m, .int .i64 1, .int .i64 64] W fun e w' => e = .returned (.bool false) ∧ W = w') := l00In_b m 1 64 false (decide_eq_false (by omega))
    obtain rfl : ok = false := by
      have := HOK.out
      cases ok
      · rfl
      · exact absurd (this.1 rfl).2.1 hm
    clear hb hm HOK
    go_enter Try.func64, Try.ntmps64
    go_wp2_with (first | (go_at_call 116; with_reducible refine (HB.out _).mono ?_; rintro e w1 ⟨rfl, rfl⟩) | (go_at_call 78; with_reducible refine (HM.out _).mono ?_; rintro e w1 ⟨rfl, rfl⟩))
    go_ret
    exact ⟨rfl, Below.refl _ _⟩
  have HM : Hid (∀ W, Calls Try.prog 78 #[.int .i64 m, .int .i64 1, .int .i64 64] W fun e w' => e = .returned (.bool true) ∧ W = w') := l00In_b m 1 64 true (decide_eq_true (by omega))
  obtain ⟨g, off, rfl, hg, hrows⟩ := HR.out.get (by omega)
  have HRW := Lib.hid hrows
  obtain ⟨b0, c0, hc0, _, _⟩ := hrows 0 (by omega)
  obtain ⟨n, hn⟩ : ∃ n, (f 0).length = n := ⟨_, rfl⟩
  have HN := Lib.hid hn
  rw [hn] at hc0
  have hn1 := HL.out 0 (by omega)
  rw [hn] at hn1
  rw [Nat.add_zero] at hc0
  clear hrows hn
  by_cases hs : 1 ≤ n ∧ n ≤ 4
  rotate_left
  · have HS : Hid (∀ W, Calls Try.prog 78 #[.int .i64 n, .int .i64 1, .int .i64 4] W fun e w' => e = .returned (.bool false) ∧ W = w') := l00In_b n 1 4 false (decide_eq_false (by omega))
    obtain rfl : ok = false := by
      have := HOK.out
      cases ok
      · rfl
      · exact absurd (this.1 rfl).2.2.1 (by rw [HN.out]; exact hs)
    clear hb hs HOK
    go_enter Try.func64, Try.ntmps64
    go_wp2_with (first | (go_at_call 116; with_reducible refine (HB.out _).mono ?_; rintro e w1 ⟨rfl, rfl⟩) | (go_at_call 78; first | (with_reducible refine (HM.out _).mono ?_; rintro e w1 ⟨rfl, rfl⟩) | (with_reducible refine (HS.out _).mono ?_; rintro e w1 ⟨rfl, rfl⟩)))
    go_ret
    exact ⟨rfl, Below.refl _ _⟩
  have HS : Hid (∀ W, Calls Try.prog 78 #[.int .i64 n, .int .i64 1, .int .i64 4] W fun e w' => e = .returned (.bool true) ∧ W = w') := l00In_b n 1 4 true (decide_eq_true (by omega))
  have HBB := Lib.hid hb
  have HSS := Lib.hid hs
  have HC0 := Lib.hid hc0
  clear hb hs
  go_enter Try.func64, Try.ntmps64
  go_wp2_with (first | (go_at_call 116; with_reducible refine (HB.out _).mono ?_; rintro e w1 ⟨rfl, rfl⟩) | (go_at_call 78; first | (with_reducible refine (HM.out _).mono ?_; rintro e w1 ⟨rfl, rfl⟩) | (with_reducible refine (HS.out _).mono ?_; rintro e w1 ⟨rfl, rfl⟩)))
  go_loopw [5, 6] (fun iv _ wr => ∃ k : Nat, k ≤ m ∧ iv = .int .i64 k ∧ Hid (∀ d, d < k → PtP n b (f d)) ∧ ∃ j, wr = w.drewN j) (fun iv _ _ => m - (intOf iv).toNat)
  case atStart => exact ⟨0, Nat.zero_le _, rfl, fun d hd => by omega, 0, rfl⟩
  case round =>
    obtain ⟨k, hk, rfl, HK, j, rfl⟩ := hrel
    by_cases hlt : k < m
    · obtain ⟨bk, ck, hck, _, hro⟩ := HRW.out k hlt
      obtain ⟨q, hq⟩ : ∃ q, (f k).length = q := ⟨_, rfl⟩
      have HQ := Lib.hid hq
      rw [hq] at hck
      have hq1 := HL.out k hlt
      rw [hq] at hq1
      have HRO := Lib.hid hro
      clear hro hq
      by_cases he : q = n
      · subst he
        have hne : ((q : Int) != (q : Int)) = false := by simp
        go_wp2
        go_quiet (fail)
        go_wp2
        go_loopw [6] (fun iv wr => ∃ i : Nat, i ≤ q ∧ iv = .int .i64 i ∧ Hid (∀ (i2 : Nat) (x : Int), i2 < i → (f k)[i2]? = some x → 0 ≤ x ∧ x ≤ mx b) ∧ ∃ j, wr = w.drewN j) (fun iv _ => q - (intOf iv).toNat)
        case atStart => exact ⟨0, Nat.zero_le _, rfl, fun d _ hd => by omega, _, drewN_twoG _ _ _⟩
        case round =>
          obtain ⟨i, hi, rfl, HX, j2, rfl⟩ := hrel
          by_cases hlt2 : i < q
          · obtain ⟨x, hx⟩ : ∃ x, (f k)[i]? = some x := ⟨_, List.getElem?_eq_getElem (by have := HQ.out; omega)⟩
            obtain ⟨g2, off2, rfl, hg2, hc2⟩ := HRO.out i x hx
            have HXX := Lib.hid hx
            clear hx
            by_cases hin : 0 ≤ x ∧ x ≤ mx b
            · have HI : Hid (∀ W, Calls Try.prog 110 #[.int .i64 b, .int .i64 x] W fun e w' => e = .returned (.bool true) ∧ W = w') := st10_any b x true HBB.out (decide_eq_true hin)
              have HIN := Lib.hid hin
              clear hin
              go_wp2_with (go_at_call 110; with_reducible refine (HI.out _).mono ?_; rintro e w1 ⟨rfl, rfl⟩)
              go_roundw
              case rel =>
                refine ⟨i + 1, by omega, by go_num, fun i2 y h1 h2 => ?_, _, rfl⟩
                by_cases e : i2 = i
                · subst e
                  rw [HXX.out] at h2
                  cases h2
                  exact HIN.out
                · exact HX.out i2 y (by omega) h2
              case measure => first | (simp [intOf]; done) | (simp [intOf]; omega)
            · have HI : Hid (∀ W, Calls Try.prog 110 #[.int .i64 b, .int .i64 x] W fun e w' => e = .returned (.bool false) ∧ W = w') := st10_any b x false HBB.out (decide_eq_false hin)
              obtain rfl : ok = false := by
                have := HOK.out
                cases ok
                · rfl
                · exact absurd (((this.1 rfl).2.2.2 k hlt).2 i x HXX.out) hin
              clear hin
              go_wp2_with (go_at_call 110; with_reducible refine (HI.out _).mono ?_; rintro e w1 ⟨rfl, rfl⟩)
              go_ret
              exact ⟨rfl, below_drewN (Below.refl _ _) _⟩
          · obtain rfl : i = q := by omega
            go_wp2
            go_roundw
            case rel =>
              refine ⟨k + 1, by omega, by go_num, fun d hd => ?_, _, rfl⟩
              by_cases e : d = k
              · subst e
                exact ⟨HQ.out, fun i2 x hx => HX.out i2 x (by have := (List.getElem?_eq_some_iff.1 hx).1; have := HQ.out; omega) hx⟩
              · exact HK.out d (by omega)
            case measure => first | (simp [intOf]; done) | (simp [intOf]; omega)
      · have hne : ((q : Int) != (n : Int)) = true := by simp; omega
        obtain rfl : ok = false := by
          have := HOK.out
          cases ok
          · rfl
          · have h1 := ((this.1 rfl).2.2.2 k hlt).1
            rw [HQ.out, HN.out] at h1
            exact absurd h1 he
        clear he
        go_wp2
        go_quiet (fail)
        go_wp2
        go_ret
        exact ⟨rfl, below_drewN (below_drewN (Below.refl _ _) _) _⟩
    · obtain rfl : k = m := by omega
      obtain rfl : ok = true := HOK.out.2 ⟨HBB.out, hm, by rw [HN.out]; exact HSS.out, by rw [HN.out]; exact HK.out⟩
      go_wp2
      go_ret
      exact ⟨rfl, below_drewN (Below.refl _ _) _⟩
end Go.Proofs.Ytmnnpkmjamhmcab
