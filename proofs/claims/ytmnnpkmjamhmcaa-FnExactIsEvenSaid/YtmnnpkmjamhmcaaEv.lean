/- Evenness: slices.Min, slices.Max, impl.IsEven, spec.IsEven, the law. -/
import Derived.Test.YtmnnpkmjamhmcaaBxB
namespace Go.Proofs.Ytmnnpkmjamhmcaa
open Go.RowKit Go.PlainAid
set_option maxHeartbeats 1600000
set_option maxRecDepth 20000

def mnL (xs : List Int) : Nat → Int
  | 0 => xs.getD 0 0
  | k + 1 => min (mnL xs k) (xs.getD (k + 1) 0)
def mxL (xs : List Int) : Nat → Int
  | 0 => xs.getD 0 0
  | k + 1 => max (mxL xs k) (xs.getD (k + 1) 0)
theorem mn_mx (xs : List Int) : ∀ k i, i ≤ k → mnL xs k ≤ xs.getD i 0 ∧ xs.getD i 0 ≤ mxL xs k := by
  intro k
  induction k with
  | zero =>
    intro i hi
    obtain rfl : i = 0 := by omega
    exact ⟨Int.le_refl _, Int.le_refl _⟩
  | succ k ih =>
    intro i hi
    simp only [mnL, mxL]
    by_cases e : i = k + 1
    · subst e; omega
    · have := ih i (by omega); omega
theorem mn_same {xs : List Int} {c : Int} : ∀ k, (∀ i, i ≤ k → xs.getD i 0 = c) → mnL xs k = c ∧ mxL xs k = c := by
  intro k
  induction k with
  | zero => intro h; exact ⟨h 0 (by omega), h 0 (by omega)⟩
  | succ k ih =>
    intro h
    have h1 := ih (fun i hi => h i (by omega))
    have h2 := h (k + 1) (Nat.le_refl _)
    simp only [mnL, mxL]
    omega
/-- all the numbers are one -/
def EvP (xs : List Int) (n : Nat) : Prop := ∀ i, i < n → xs.getD i 0 = xs.getD 0 0
theorem ev_iff {xs : List Int} {n k : Nat} (h : n = k + 1) : EvP xs n ↔ mnL xs k = mxL xs k := by
  constructor
  · intro he
    have := mn_same (xs := xs) (c := xs.getD 0 0) k (fun i hi => he i (by omega))
    omega
  · intro he i hi
    have h1 := mn_mx xs k i (by omega)
    have h2 := mn_mx xs k 0 (by omega)
    omega
theorem slMin_any (a : Option Addr) (n cap k : Nat) (xs : List Int) (T : Nat) (w : World) (h : RO T w a xs) (hn : xs.length = n) (hk : n = k + 1) (hl : n ≤ 1048576) :
    Calls Try.prog 72 #[.slice a n cap] w fun e w' => e = .returned (.int .i64 (mnL xs k)) ∧ w = w' := by
  have HR := Lib.hid h
  have HN := Lib.hid hn
  have HK := Lib.hid hk
  have h1 : 1 ≤ n := by omega
  obtain ⟨x0, hx0⟩ : ∃ x, xs[0]? = some x := ⟨_, List.getElem?_eq_getElem (by omega)⟩
  obtain ⟨g, off, rfl, hg, hc0⟩ := h 0 x0 hx0
  have H0 : Hid (mnL xs 0 = x0) := by unfold Hid mnL; rw [List.getD_eq_getElem?_getD, hx0]; rfl
  rw [Nat.add_zero] at hc0
  clear h hn hk hx0
  go_enter Try.func72, Try.ntmps72
  go_wp2
  go_loop [3, 4] (fun mv iv => ∃ j q : Nat, j ≤ n ∧ 1 ≤ j ∧ iv = .int .i64 j ∧ Hid (j = q + 1) ∧ ∃ v, mv = .int .i64 v ∧ Hid (v = mnL xs q)) (fun _ iv => n - (intOf iv).toNat)
  case atStart => exact ⟨1, 0, h1, Nat.le_refl _, rfl, rfl, x0, rfl, H0.out.symm⟩
  case round =>
    obtain ⟨j, q, hj, hj1, rfl, HJ, v, rfl, HV⟩ := hrel
    by_cases hlt : j < n
    · obtain ⟨x, hx⟩ : ∃ x, xs[j]? = some x := ⟨_, List.getElem?_eq_getElem (by have := HN.out; omega)⟩
      obtain ⟨g2, o2, he, hg2, hc2⟩ := HR.out j x hx
      cases he
      have HS : Hid ((if x < v then x else v) = mnL xs (q + 1)) := by
        unfold Hid
        rw [mnL, ← HJ.out, List.getD_eq_getElem?_getD, hx, HV.out, Option.getD_some]
        split <;> omega
      clear hx hc0
      go_wp2
      go_round
      case rel => exact ⟨j + 1, q + 1, by omega, by omega, by go_num, by have := HJ.out; unfold Hid; omega, _, rfl, HS⟩
      case measure => simp [intOf]; omega
    · obtain rfl : j = n := by omega
      obtain rfl : v = mnL xs k := by
        have h1 := HJ.out
        have h2 := HK.out
        obtain rfl : q = k := by omega
        exact HV.out
      clear hc0
      go_wp2
      go_ret
      exact ⟨rfl, rfl⟩
theorem slMaxS_any (a : Option Addr) (n cap k : Nat) (xs : List Int) (T : Nat) (w : World) (h : RO T w a xs) (hn : xs.length = n) (hk : n = k + 1) (hl : n ≤ 1048576) :
    Calls Try.prog 73 #[.slice a n cap] w fun e w' => e = .returned (.int .i64 (mxL xs k)) ∧ w = w' := by
  have HR := Lib.hid h
  have HN := Lib.hid hn
  have HK := Lib.hid hk
  have h1 : 1 ≤ n := by omega
  obtain ⟨x0, hx0⟩ : ∃ x, xs[0]? = some x := ⟨_, List.getElem?_eq_getElem (by omega)⟩
  obtain ⟨g, off, rfl, hg, hc0⟩ := h 0 x0 hx0
  have H0 : Hid (mxL xs 0 = x0) := by unfold Hid mxL; rw [List.getD_eq_getElem?_getD, hx0]; rfl
  rw [Nat.add_zero] at hc0
  clear h hn hk hx0
  go_enter Try.func73, Try.ntmps73
  go_wp2
  go_loop [3, 4] (fun mv iv => ∃ j q : Nat, j ≤ n ∧ 1 ≤ j ∧ iv = .int .i64 j ∧ Hid (j = q + 1) ∧ ∃ v, mv = .int .i64 v ∧ Hid (v = mxL xs q)) (fun _ iv => n - (intOf iv).toNat)
  case atStart => exact ⟨1, 0, h1, Nat.le_refl _, rfl, rfl, x0, rfl, H0.out.symm⟩
  case round =>
    obtain ⟨j, q, hj, hj1, rfl, HJ, v, rfl, HV⟩ := hrel
    by_cases hlt : j < n
    · obtain ⟨x, hx⟩ : ∃ x, xs[j]? = some x := ⟨_, List.getElem?_eq_getElem (by have := HN.out; omega)⟩
      obtain ⟨g2, o2, he, hg2, hc2⟩ := HR.out j x hx
      cases he
      have HS : Hid ((if v < x then x else v) = mxL xs (q + 1)) := by
        unfold Hid
        rw [mxL, ← HJ.out, List.getD_eq_getElem?_getD, hx, HV.out, Option.getD_some]
        split <;> omega
      clear hx hc0
      go_wp2
      go_round
      case rel => exact ⟨j + 1, q + 1, by omega, by omega, by go_num, by have := HJ.out; unfold Hid; omega, _, rfl, HS⟩
      case measure => simp [intOf]; omega
    · obtain rfl : j = n := by omega
      obtain rfl : v = mxL xs k := by
        have h1 := HJ.out
        have h2 := HK.out
        obtain rfl : q = k := by omega
        exact HV.out
      clear hc0
      go_wp2
      go_ret
      exact ⟨rfl, rfl⟩
/-- points with cuts are even -/
def EvnP (m : Nat) (f : Nat → List Int) (b : Int) (n : Nat) (xs : List Int) : Prop := CutP m f b n xs ∧ EvP (bcl f xs b.toNat n m) (2 ^ smc xs n)
theorem even_any (a : Option Addr) (m cap : Nat) (f : Nat → List Int) (b : Int) (a2 : Option Addr) (n cap2 : Nat) (xs : List Int) (w : World) (h : RR w.heap.size w a m f) (hl : m + szl f m ≤ 1048576) (h2 : RO w.heap.size w a2 xs) (hn : xs.length = n) (hn2 : n ≤ 1048576) (ok : Bool) (hok : ok = true ↔ EvnP m f b n xs) :
    Calls Try.prog 33 #[.slice a m cap, .int .i64 b, .slice a2 n cap2] w fun e w' => e = .returned (.bool ok) ∧ Below w.heap.size w w' := by
  by_cases hP : CutP m f b n xs
  · obtain ⟨b', rfl⟩ := Int.eq_ofNat_of_zero_le hP.1.1.1
    have HB := Lib.hid (box_yes a m cap f b' a2 n cap2 xs w h hl h2 hn hP)
    obtain ⟨N, hN⟩ : ∃ N, 2 ^ smc xs n = N := ⟨_, rfl⟩
    have hN64 : N ≤ 64 := by rw [← hN]; exact Nat.pow_le_pow_right (by omega) hP.2.2.2
    obtain ⟨k, hk⟩ : ∃ k, N = k + 1 := ⟨N - 1, by have := Nat.two_pow_pos (smc xs n); omega⟩
    have hlen : (bcl f xs b' n m).length = N := by rw [bcl_length, hN]
    have hev : decide (mnL (bcl f xs b' n m) k = mxL (bcl f xs b' n m) k) = ok := by
      have h1 : EvnP m f b' n xs ↔ mnL (bcl f xs b' n m) k = mxL (bcl f xs b' n m) k := by
        rw [← ev_iff hk, ← hN]
        exact ⟨fun h => h.2, fun h => ⟨hP, h⟩⟩
      rw [h1] at hok
      cases ok
      · simp only [decide_eq_false_iff_not]
        intro h3
        exact absurd (hok.2 h3) (by simp)
      · simp only [decide_eq_true_iff]
        exact hok.1 rfl
    generalize bcl f xs b' n m = ys at HB hlen hev
    have HM1 : Hid (∀ (V : World) p c T, RO T V p ys → Calls Try.prog 72 #[.slice p N c] V fun e w' => e = .returned (.int .i64 (mnL ys k)) ∧ V = w') := fun V p c T hr => slMin_any p N c k ys T V hr hlen hk (by omega)
    have HM2 : Hid (∀ (V : World) p c T, RO T V p ys → Calls Try.prog 73 #[.slice p N c] V fun e w' => e = .returned (.int .i64 (mxL ys k)) ∧ V = w') := fun V p c T hr => slMaxS_any p N c k ys T V hr hlen hk (by omega)
    generalize mnL ys k = u at HM1 hev
    generalize mxL ys k = v at HM2 hev
    have hev2 : (u == v) = ok := by
      rw [← hev]
      by_cases e : u = v
      · subst e; simp
      · simp [e]
    clear h hl h2 hn hn2 hok hP hN hk hev
    go_enter Try.func33, Try.ntmps33
    go_wp2_with fail
    refine HB.out.mono ?_
    rintro e w1 ⟨vv, rfl, hs, hb⟩
    obtain ⟨p, c, rfl, hr⟩ := hs.ro
    rw [hlen]
    have HRR := Lib.hid hr
    have HBB := Lib.hid hb
    clear hs hr hb hlen
    go_wp2_with fail
    refine (HM1.out w1 p c _ HRR.out).mono ?_
    rintro e w2 ⟨rfl, rfl⟩
    go_wp2_with fail
    refine (HM2.out w1 p c _ HRR.out).mono ?_
    rintro e w2 ⟨rfl, rfl⟩
    go_wp2
    go_ret
    exact ⟨rfl, HBB.out⟩
  · have HB := Lib.hid (box_no a m cap f b a2 n cap2 xs w h hl h2 hn hn2 hP)
    obtain rfl : ok = false := by
      cases ok
      · rfl
      · exact absurd (hok.1 rfl).1 hP
    clear h hl h2 hn hn2 hok hP
    go_enter Try.func33, Try.ntmps33
    go_wp2_with fail
    refine HB.out.mono ?_
    rintro e w1 ⟨rfl, rfl⟩
    go_wp2
    go_ret
    exact ⟨rfl, Below.refl _ _⟩
theorem specEven_any (a : Option Addr) (m cap : Nat) (f : Nat → List Int) (b : Int) (a2 : Option Addr) (n cap2 : Nat) (xs : List Int) (w : World) (h : RR w.heap.size w a m f) (hl : m + szl f m ≤ 1048576) (h2 : RO w.heap.size w a2 xs) (hn : xs.length = n) (hn2 : n ≤ 1048576) (ok : Bool) (hok : ok = true ↔ EvnP m f b n xs) :
    Calls Try.prog 32 #[.slice a m cap, .int .i64 b, .slice a2 n cap2] w fun e w' => e = .returned (.bool ok) ∧ Below w.heap.size w w' := by
  by_cases hP : CutP m f b n xs
  · obtain ⟨b', rfl⟩ := Int.eq_ofNat_of_zero_le hP.1.1.1
    have HC := Lib.hid (cuts_any a m cap f b' a2 n cap2 xs w h hl h2 hn hn2 true (by simp [hP]))
    have HD : Hid (∀ W, Below w.heap.size w W → Calls Try.prog 71 #[.slice a m cap, .int .i64 b', .slice a2 n cap2] W fun e w' => ∃ v, e = .returned v ∧ SL W.heap.size w'.heap.size w' v (bcl f xs b' n m) ∧ Below W.heap.size W w') := fun W hW => counts_any a m cap f b' a2 n cap2 xs W (h.far hW) ((h2.below hW).up hW.size) hn hP
    obtain ⟨N, hN⟩ : ∃ N, 2 ^ smc xs n = N := ⟨_, rfl⟩
    have hN64 : N ≤ 64 := by rw [← hN]; exact Nat.pow_le_pow_right (by omega) hP.2.2.2
    have hN1 : 1 ≤ N := by have := Nat.two_pow_pos (smc xs n); omega
    have hlen : (bcl f xs b' n m).length = N := by rw [bcl_length, hN]
    have HEV : Hid (ok = true ↔ EvP (bcl f xs b' n m) N) := by
      unfold Hid
      rw [hok, ← hN]
      exact ⟨fun h => h.2, fun h => ⟨hP, h⟩⟩
    generalize bcl f xs b' n m = ys at HD hlen HEV
    have HLL := Lib.hid hlen
    clear h hl h2 hn hn2 hok hP hN
    go_enter Try.func32, Try.ntmps32
    go_wp2_with fail
    refine HC.out.mono ?_
    rintro e w1 ⟨rfl, hb⟩
    have z := hb.size
    have HB := Lib.hid hb
    go_wp2_with fail
    refine (HD.out w1 hb).mono ?_
    rintro e w2 ⟨v, rfl, hs, hb2⟩
    obtain ⟨p, c, rfl, hr⟩ := hs.ro
    rw [hlen]
    have HRR := Lib.hid hr
    have HBB := Lib.hid (HB.out.trans (hb2.mono z))
    obtain ⟨x0, hx0⟩ : ∃ x, ys[0]? = some x := ⟨_, List.getElem?_eq_getElem (by omega)⟩
    obtain ⟨g, off, rfl, hg, hc0⟩ := hr 0 x0 hx0
    have H0 : Hid (ys.getD 0 0 = x0) := by unfold Hid; rw [List.getD_eq_getElem?_getD, hx0]; rfl
    rw [Nat.add_zero] at hc0
    clear hs hb2 hb hr hlen hx0
    go_wp2
    go_loopw [8] (fun iv wr => ∃ i j : Nat, i ≤ N ∧ iv = .int .i64 i ∧ wr = w2.drewN j ∧ Hid (∀ q, q < i → ys.getD q 0 = x0)) (fun iv _ => N - (intOf iv).toNat)
    case atStart => exact ⟨0, 0, Nat.zero_le _, rfl, rfl, fun q hq => by omega⟩
    case round =>
      obtain ⟨i, j, hi, rfl, rfl, HI⟩ := hrel
      by_cases hlt : i < N
      · obtain ⟨x, hx⟩ : ∃ x, ys[i]? = some x := ⟨_, List.getElem?_eq_getElem (by have := HLL.out; omega)⟩
        obtain ⟨g2, o2, he, hg2, hc2⟩ := HRR.out i x hx
        cases he
        have HX : Hid (ys.getD i 0 = x) := by unfold Hid; rw [List.getD_eq_getElem?_getD, hx]; rfl
        clear hx
        by_cases e : x = x0
        · subst e
          have hne : (x != x) = false := by simp
          go_wp2
          go_quiet (fail)
          go_wp2
          go_roundw
          case rel =>
            refine ⟨i + 1, j + nq, by omega, by go_num, rfl, fun q hq => ?_⟩
            by_cases e : q = i
            · subst e; exact HX.out
            · exact HI.out q (by omega)
          case measure => simp [intOf]; omega
        · have hne : (x != x0) = true := by simp [e]
          obtain rfl : ok = false := by
            have h1 := HEV.out
            cases ok
            · rfl
            · have := h1.1 rfl i hlt
              rw [HX.out, H0.out] at this
              exact absurd this e
          clear e
          go_wp2
          go_quiet (fail)
          go_wp2
          go_ret
          exact ⟨rfl, below_drewN (below_drewN HBB.out _) _⟩
      · obtain rfl : i = N := by omega
        obtain rfl : ok = true := HEV.out.2 fun q hq => by rw [HI.out q hq, H0.out]
        clear hc0
        go_wp2
        go_ret
        exact ⟨rfl, below_drewN HBB.out _⟩
  · have HC := Lib.hid (cuts_any a m cap f b a2 n cap2 xs w h hl h2 hn hn2 false (by simp [hP]))
    obtain rfl : ok = false := by
      cases ok
      · rfl
      · exact absurd (hok.1 rfl).1 hP
    clear h hl h2 hn hn2 hok hP
    go_enter Try.func32, Try.ntmps32
    go_wp2_with fail
    refine HC.out.mono ?_
    rintro e w1 ⟨rfl, hb⟩
    have HB := Lib.hid hb
    clear hb
    go_wp2
    go_ret
    exact ⟨rfl, HB.out⟩
theorem lawEven (a : Option Addr) (m cap : Nat) (f : Nat → List Int) (b : Int) (a2 : Option Addr) (n cap2 : Nat) (zs : List Int) (w : World) (h : RR w.heap.size w a m f ∧ m ≤ maxLen ∧ ∀ d, (f d).length ≤ maxLen) (h2 : RowIn .i64 w a2 n zs) :
    Calls Try.prog 6 #[.slice a m cap, .int .i64 b, .slice a2 n cap2] w fun e w' => e = .returned (.bool true) ∧ Below w.heap.size w w' := by
  obtain ⟨xs, hn, hro⟩ := h2.ro
  obtain ⟨ok, hok⟩ : ∃ ok : Bool, ok = true ↔ EvnP m f b n xs := by
    by_cases hp : EvnP m f b n xs
    · exact ⟨true, by simp [hp]⟩
    · exact ⟨false, by simp [hp]⟩
  exact lawIsEven_core a m cap f b a2 n cap2 xs ok w h.1 h.2.1 h.2.2 hro hn
    (fun hc hn2 W b1 c1 b2 c2 hr _ hr2 _ => specEven_any b1 m c1 f b b2 n c2 xs W hr hc hr2 hn hn2 ok hok)
    (fun hc hn2 W b1 c1 b2 c2 hr _ hr2 _ => even_any b1 m c1 f b b2 n c2 xs W hr hc hr2 hn hn2 ok hok)
end Go.Proofs.Ytmnnpkmjamhmcaa
