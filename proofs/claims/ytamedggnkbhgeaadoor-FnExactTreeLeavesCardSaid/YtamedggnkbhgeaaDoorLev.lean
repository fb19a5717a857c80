/- Dyadic weights: impl.levelsOf, impl.IsDyadic, spec.l06Level, spec.IsDyadic, and the law FnExactIsDyadic. -/
import Derived.Test.YtamedggnkbhgeaaDoorWts
import Derived.Test.YtamedggnkbhgeaaDoorTz
namespace Go.Proofs.YtamedggnkbhgeaaDoor
open Go.RowKit Go.PlainAid
set_option maxHeartbeats 800000

/-- the total is 2 to the power of k, k at most 12 -/
def DyP (xs : List Int) (k : Nat) : Prop := k ≤ 12 ∧ TotP xs (2 ^ k)
theorem pow_12 {k : Nat} (h : k ≤ 12) : (1 : Int) ≤ 2 ^ k ∧ (2 : Int) ^ k ≤ 4096 ∧ wrap64 (2 ^ k) = 2 ^ k := by
  have h1 : 2 ^ k ≤ 2 ^ 12 := Nat.pow_le_pow_right (by omega) h
  have h2 : 0 < 2 ^ k := Nat.pow_pos (by omega)
  have e : ((2 ^ k : Nat) : Int) = (2 : Int) ^ k := by simp
  rw [← e]
  refine ⟨by omega, by omega, ?_⟩
  generalize 2 ^ k = q at h1 h2
  exact IntWalk.wrap64_in _ (by omega)
theorem TotP.eq {xs : List Int} {t u : Int} (h : TotP xs t) (k : TotP xs u) : t = u := h.2.1.trans k.2.1.symm
theorem DyP.eq {xs : List Int} {j k : Nat} (h : DyP xs j) (g : DyP xs k) : j = k := by
  have e := h.2.eq g.2
  have e1 : ((2 ^ j : Nat) : Int) = (2 : Int) ^ j := by simp
  have e2 : ((2 ^ k : Nat) : Int) = (2 : Int) ^ k := by simp
  rw [← e1, ← e2] at e
  have e3 : 2 ^ j = 2 ^ k := by omega
  have a := ctz_pow j (by have := h.1; omega)
  have b := ctz_pow k (by have := g.1; omega)
  rw [← a, ← b, e3]
theorem total_any (a : Option Addr) (n cap : Nat) (xs : List Int) (h0 : xs.length = n) (hl : n ≤ 1048576) : ∃ (t : Nat) (bb : Bool), t ≤ 16000000 ∧ (bb = true → TotP xs t) ∧ (bb = false → ¬ ∃ u, TotP xs u) ∧ ∀ w : World, RO w.heap.size w a xs →
    Calls Tryd.prog 43 #[.slice a n cap] w fun e w' => e = .returned (.tuple #[.int .i64 t, .bool bb]) ∧ w = w' := by
  by_cases hW : WtP xs
  · have hs := sumL_in hW n
    have h1 := hW.1
    obtain ⟨t, ht⟩ := Int.eq_ofNat_of_zero_le hs.1
    refine ⟨t, decide (1 ≤ sumL xs n ∧ sumL xs n ≤ 1000000), by omega, ?_, ?_, fun w h => by have := total_yes a n cap xs w h h0 hW _ rfl; rwa [ht] at this ⊢⟩
    · intro e
      have := of_decide_eq_true e
      exact ⟨hW, by rw [h0, ht], by omega, by omega⟩
    · intro e
      rintro ⟨u, hu⟩
      have hf := of_decide_eq_false e
      obtain ⟨_, hu1, hu2, hu3⟩ := hu
      rw [h0] at hu1
      exact hf ⟨by omega, by omega⟩
  · exact ⟨0, false, by omega, fun e => (by cases e), fun _ => fun ⟨u, hu⟩ => hW hu.1, fun w h => total_no a n cap xs w h h0 hl hW⟩
theorem levels_yes (a : Option Addr) (n cap : Nat) (xs : List Int) (B k : Nat) (w : World) (h : RO w.heap.size w a xs) (hT : Tz B w) (h0 : xs.length = n) (hl : n ≤ 1048576) (hD : DyP xs k) :
    Calls Tryd.prog 30 #[.slice a n cap] w fun e w' => e = .returned (.tuple #[.int .i64 k, .bool true]) ∧ w = w' := by
  obtain ⟨t, bb, ht, hy, hno, hc⟩ := total_any a n cap xs h0 hl
  cases bb with
  | false => exact absurd ⟨_, hD.2⟩ (hno rfl)
  | true =>
    have hk := hD.1
    obtain ⟨p1, p2, p3⟩ := pow_12 hk
    have e1 : ((2 ^ k : Nat) : Int) = (2 : Int) ^ k := by simp
    have e2 : (t : Int) = 2 ^ k := (hy rfl).eq hD.2
    have e3 : t = 2 ^ k := by omega
    have HC := Lib.hid (hc w h)
    have HZ : Hid (∀ W : World, W = w → Calls Tryd.prog 44 #[.int .u64 t] W fun e w' => e = .returned (.int .i64 k) ∧ W = w') := fun W hW => by
      subst hW
      have := tz_any t (by omega) B W hT
      rw [e3, ctz_pow k (by omega)] at this
      rw [e3]
      exact this
    have hne : ((t : Int) != wrap64 (2 ^ k)) = false := by rw [p3, e2]; simp
    clear h hT hD hc hy hno e1 e2 e3 p1 p2 p3
    go_enter Tryd.func30, Tryd.ntmps30
    go_wp2_with fail
    refine (HC.out).mono ?_
    rintro e w1 ⟨rfl, rfl⟩
    go_wp2_with fail
    refine (HZ.out _ rfl).mono ?_
    rintro e w1 ⟨rfl, rfl⟩
    go_wp2
    go_ret2
    exact ⟨rfl, rfl⟩
theorem levels_no (a : Option Addr) (n cap : Nat) (xs : List Int) (B : Nat) (w : World) (h : RO w.heap.size w a xs) (hT : Tz B w) (h0 : xs.length = n) (hl : n ≤ 1048576) (hD : ¬ ∃ k, DyP xs k) :
    Calls Tryd.prog 30 #[.slice a n cap] w fun e w' => e = .returned (.tuple #[.int .i64 0, .bool false]) ∧ w = w' := by
  obtain ⟨t, bb, ht, hy, hno, hc⟩ := total_any a n cap xs h0 hl
  have HC := Lib.hid (hc w h)
  obtain ⟨v, hv⟩ : ∃ v, v = Lib.ctz 64 t := ⟨_, rfl⟩
  have HZ : Hid (∀ W : World, W = w → Calls Tryd.prog 44 #[.int .u64 t] W fun e w' => e = .returned (.int .i64 v) ∧ W = w') := fun W hW => by
    subst hW
    rw [hv]
    exact tz_any t (by omega) B W hT
  have hv64 : v ≤ 64 := by
    by_cases h0 : t = 0
    · rw [hv, h0]; decide
    · have := (Lib.lowest_bit 64 t h0 (by omega)).2
      omega
  cases bb with
  | false =>
    clear h hT hD hc hy hno hv
    go_enter Tryd.func30, Tryd.ntmps30
    go_wp2_with fail
    refine (HC.out).mono ?_
    rintro e w1 ⟨rfl, rfl⟩
    go_wp2_with fail
    refine (HZ.out _ rfl).mono ?_
    rintro e w1 ⟨rfl, rfl⟩
    go_wp2
    go_ret2
    exact ⟨rfl, rfl⟩
  | true =>
    have htp := hy rfl
    by_cases hv12 : v ≤ 12
    · obtain ⟨p1, p2, p3⟩ := pow_12 hv12
      have hne : ((t : Int) != wrap64 (2 ^ v)) = true := by
        rw [p3]
        simp only [bne_iff_ne, ne_eq]
        intro e
        exact hD ⟨v, hv12, by rw [← e]; exact htp⟩
      clear h hT hD hc hy hno hv htp p1 p2 p3
      go_enter Tryd.func30, Tryd.ntmps30
      go_wp2_with fail
      refine (HC.out).mono ?_
      rintro e w1 ⟨rfl, rfl⟩
      go_wp2_with fail
      refine (HZ.out _ rfl).mono ?_
      rintro e w1 ⟨rfl, rfl⟩
      go_wp2
      go_ret2
      exact ⟨rfl, rfl⟩
    · clear h hT hD hc hy hno hv htp
      go_enter Tryd.func30, Tryd.ntmps30
      go_wp2_with fail
      refine (HC.out).mono ?_
      rintro e w1 ⟨rfl, rfl⟩
      go_wp2_with fail
      refine (HZ.out _ rfl).mono ?_
      rintro e w1 ⟨rfl, rfl⟩
      go_wp2
      go_ret2
      exact ⟨rfl, rfl⟩
theorem l06Level_yes (a : Option Addr) (n cap : Nat) (xs : List Int) (k : Nat) (w : World) (h : RO w.heap.size w a xs) (h0 : xs.length = n) (hl : n ≤ 1048576) (hD : DyP xs k) :
    Calls Tryd.prog 36 #[.slice a n cap] w fun e w' => e = .returned (.int .i64 k) ∧ w = w' := by
  obtain ⟨t, ht, hz, hp, hc⟩ := l06Total_any a n cap xs h0 hl
  have h1 : 1 ≤ t := by
    by_cases e : t = 0
    · exact absurd ⟨_, hD.2⟩ (hz.1 e)
    · omega
  have e2 : t = 2 ^ k := (hp h1).eq hD.2
  have hk := hD.1
  have HC := Lib.hid (hc w h)
  have HE := Lib.hid e2
  have HLT : Hid (∀ j, j < k → (t == wrap64 (2 ^ j)) = false) := fun j hj => by
    obtain ⟨p1, p2, p3⟩ := pow_12 (show j ≤ 12 by omega)
    rw [p3, beq_eq_false_iff_ne, e2]
    intro e
    have := DyP.eq hD ⟨show j ≤ 12 by omega, by rw [← e]; exact hD.2⟩
    omega
  have HEQ : Hid ((t == wrap64 (2 ^ k)) = true) := by unfold Hid; rw [(pow_12 hk).2.2, e2]; simp
  clear h hc hz hp hD e2
  go_enter Tryd.func36, Tryd.ntmps36
  go_wp2_with fail
  refine (HC.out).mono ?_
  rintro e w1 ⟨rfl, rfl⟩
  go_wp2_with fail
  go_loop [4] (fun kv => ∃ j : Nat, j ≤ k ∧ kv = .int .i64 j) (fun kv => k - (intOf kv).toNat)
  case atStart => exact ⟨0, Nat.zero_le _, rfl⟩
  case round =>
    obtain ⟨j, hj, rfl⟩ := hrel
    by_cases hlt : j < k
    · have hb := HLT.out j hlt
      go_wp2
      go_round
      case rel => exact ⟨j + 1, by omega, by go_num⟩
      case measure => simp [intOf]; omega
    · obtain rfl : j = k := by omega
      have hb := HEQ.out
      go_wp2
      go_ret
      exact ⟨rfl, rfl⟩
theorem l06Level_no (a : Option Addr) (n cap : Nat) (xs : List Int) (w : World) (h : RO w.heap.size w a xs) (h0 : xs.length = n) (hl : n ≤ 1048576) (hD : ¬ ∃ k, DyP xs k) :
    Calls Tryd.prog 36 #[.slice a n cap] w fun e w' => e = .returned (.int .i64 (-1)) ∧ w = w' := by
  obtain ⟨t, ht, hz, hp, hc⟩ := l06Total_any a n cap xs h0 hl
  have HC := Lib.hid (hc w h)
  have HLT : Hid (∀ j, j < 13 → (t == wrap64 (2 ^ j)) = false) := fun j hj => by
    obtain ⟨p1, p2, p3⟩ := pow_12 (show j ≤ 12 by omega)
    rw [p3, beq_eq_false_iff_ne]
    intro e
    exact hD ⟨j, by omega, by rw [← e]; exact hp (by omega)⟩
  clear h hc hz hp hD
  go_enter Tryd.func36, Tryd.ntmps36
  go_wp2_with fail
  refine (HC.out).mono ?_
  rintro e w1 ⟨rfl, rfl⟩
  go_wp2_with fail
  go_loop [4] (fun kv => ∃ j : Nat, j ≤ 13 ∧ kv = .int .i64 j) (fun kv => 13 - (intOf kv).toNat)
  case atStart => exact ⟨0, Nat.zero_le _, rfl⟩
  case round =>
    obtain ⟨j, hj, rfl⟩ := hrel
    by_cases hlt : j < 13
    · have hb := HLT.out j hlt
      go_wp2
      go_round
      case rel => exact ⟨j + 1, by omega, by go_num⟩
      case measure => simp [intOf]; omega
    · obtain rfl : j = 13 := by omega
      go_wp2
      go_ret
      exact ⟨rfl, rfl⟩
theorem dyadic_b (a : Option Addr) (n cap : Nat) (xs : List Int) (h0 : xs.length = n) (hl : n ≤ 1048576) : ∃ b : Bool, (∀ (W : World) (B : Nat), RO W.heap.size W a xs → Tz B W → Calls Tryd.prog 12 #[.slice a n cap] W fun e w' => e = .returned (.bool b) ∧ W = w') ∧
    (b = true ↔ ∃ k, DyP xs k) := by
  by_cases hD : ∃ k, DyP xs k
  · refine ⟨true, fun W B h hT => ?_, ⟨fun _ => hD, fun _ => rfl⟩⟩
    obtain ⟨k, hD⟩ := hD
    have HC := Lib.hid (levels_yes a n cap xs B k W h hT h0 hl hD)
    clear h hT hD
    go_enter Tryd.func12, Tryd.ntmps12
    go_wp2_with fail
    refine (HC.out).mono ?_
    rintro e w1 ⟨rfl, rfl⟩
    go_wp2
    go_ret
    exact ⟨rfl, rfl⟩
  · refine ⟨false, fun W B h hT => ?_, ⟨fun e => (by cases e), fun e => absurd e hD⟩⟩
    have HC := Lib.hid (levels_no a n cap xs B W h hT h0 hl hD)
    clear h hT hD
    go_enter Tryd.func12, Tryd.ntmps12
    go_wp2_with fail
    refine (HC.out).mono ?_
    rintro e w1 ⟨rfl, rfl⟩
    go_wp2
    go_ret
    exact ⟨rfl, rfl⟩
theorem specDyadic_b (a : Option Addr) (n cap : Nat) (xs : List Int) (h0 : xs.length = n) (hl : n ≤ 1048576) (b : Bool) (hb : b = true ↔ ∃ k, DyP xs k) (W : World) (h : RO W.heap.size W a xs) :
    Calls Tryd.prog 17 #[.slice a n cap] W fun e w' => e = .returned (.bool b) ∧ W = w' := by
  cases b with
  | true =>
    obtain ⟨k, hD⟩ := hb.1 rfl
    have HC := Lib.hid (l06Level_yes a n cap xs k W h h0 hl hD)
    clear h hD hb
    go_enter Tryd.func17, Tryd.ntmps17
    go_wp2_with fail
    refine (HC.out).mono ?_
    rintro e w1 ⟨rfl, rfl⟩
    go_wp2
    go_ret
    exact ⟨rfl, rfl⟩
  | false =>
    have HC := Lib.hid (l06Level_no a n cap xs W h h0 hl (fun e => by have := hb.2 e; cases this))
    clear h hb
    go_enter Tryd.func17, Tryd.ntmps17
    go_wp2_with fail
    refine (HC.out).mono ?_
    rintro e w1 ⟨rfl, rfl⟩
    go_wp2
    go_ret
    exact ⟨rfl, rfl⟩
theorem lawDy (a : Option Addr) (m cap : Nat) (zs : List Int) (w : World) (h : RowIn .i64 w a m zs) (hT : Tz w.heap.size w) :
    Calls Tryd.prog 4 #[.slice a m cap] w fun e w' => e = .returned (.bool true) ∧ Below w.heap.size w w' := by
  by_cases hl : m ≤ 1048576
  · obtain ⟨xs, hn, hr⟩ := h.ro
    have HR := Lib.hid hr
    have HN := Lib.hid hn
    have HT := Lib.hid hT
    obtain ⟨b, hI, hb⟩ : ∃ b : Bool, (∀ (W : World) (B : Nat) (c : Option Addr) (k : Nat), RO W.heap.size W c xs → Tz B W → Calls Tryd.prog 12 #[.slice c m k] W fun e w' => e = .returned (.bool b) ∧ W = w') ∧ (b = true ↔ ∃ k, DyP xs k) := by
      by_cases hD : ∃ k, DyP xs k
      · refine ⟨true, fun W B c k h1 h2 => ?_, ⟨fun _ => hD, fun _ => rfl⟩⟩
        obtain ⟨b, g1, g2⟩ := dyadic_b c m k xs hn hl
        have := g2.2 hD
        subst this
        exact g1 W B h1 h2
      · refine ⟨false, fun W B c k h1 h2 => ?_, ⟨fun e => (by cases e), fun e => absurd e hD⟩⟩
        obtain ⟨b, g1, g2⟩ := dyadic_b c m k xs hn hl
        cases b with
        | true => exact absurd (g2.1 rfl) hD
        | false => exact g1 W B h1 h2
    have HI := Lib.hid hI
    have HS : Hid (∀ (W : World) (c : Option Addr) (k : Nat), RO W.heap.size W c xs → Calls Tryd.prog 17 #[.slice c m k] W fun e w' => e = .returned (.bool b) ∧ W = w') := fun W c k h1 => specDyadic_b c m k xs hn hl b hb W h1
    have t0 : decide ((1048576 : Int) < (m : Int)) = false := by simp; omega
    have hne : (b != b) = false := by simp
    clear h hr hn hT hI hb
    go_enter Tryd.func4, Tryd.ntmps4
    go_wp2_with fail
    refine (copy_any a m cap xs w HR.out HN.out hl).mono ?_
    rintro e w1 ⟨b1, c1, rfl, r1, _, hb1⟩
    go_wp2_with fail
    refine (HS.out w1 b1 c1 r1).mono ?_
    rintro e w2 ⟨rfl, rfl⟩
    have HB1 := Lib.hid hb1
    clear r1 hb1
    have HR2 := Lib.hid ((HR.out.below HB1.out).up HB1.out.size)
    go_wp2_with fail
    refine (copy_any a m cap xs w1 HR2.out HN.out hl).mono ?_
    rintro e w3 ⟨b3, c3, rfl, r3, s3, hb3⟩
    have HB3 := Lib.hid (HB1.out.trans (hb3.mono HB1.out.size))
    have HS3 := Lib.hid s3
    clear hb3 s3 HR2
    go_wp2_with fail
    refine (HI.out w3 w.heap.size b3 c3 r3 (HT.out.on HB3.out)).mono ?_
    rintro e w4 ⟨rfl, rfl⟩
    clear r3
    have HR4 := Lib.hid ((HR.out.below HB3.out).up HB3.out.size)
    go_wp2_with fail
    refine (copy_any a m cap xs w3 HR4.out HN.out hl).mono ?_
    rintro e w5 ⟨b5, c5, rfl, _, s5, hb5⟩
    have HB5 := Lib.hid (HB3.out.trans (hb5.mono HB3.out.size))
    have HS5 := Lib.hid (HS3.out.below (hb5.mono (Nat.le_refl _)))
    have HE : Hid (Calls Tryd.prog 19 #[.slice b3 m c3, .slice b5 m c5] w5 fun e w' => e = .returned (.bool true) ∧ ∃ n, w' = w5.drewN n) := eq64_yes _ _ xs _ _ _ _ w5 HS5.out s5 (by rw [HN.out]; exact hl)
    clear hb5 s5
    go_wp2_with (go_at_call 19; with_reducible refine (HE.out).mono ?_; rintro e w6 ⟨rfl, m6, rfl⟩)
    go_ret
    exact ⟨rfl, below_drewN HB5.out m6⟩
  · have hle := h.len_le
    have t0 : decide ((1048576 : Int) < (m : Int)) = true := by simp; omega
    clear h hT
    go_enter Tryd.func4, Tryd.ntmps4
    go_wp2
    go_ret
    exact ⟨rfl, Below.refl _ _⟩
end Go.Proofs.YtamedggnkbhgeaaDoor
