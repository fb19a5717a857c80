/- The cost of a tree: impl.TreeCost, spec.TreeCost, and the law. -/
import Derived.Test.YtamedggnkbhgeaaDoorTreeS
import Derived.Test.YtamedggnkbhgeaaDoorRCost
namespace Go.Proofs.YtamedggnkbhgeaaDoor
open Go.RowKit Go.PlainAid
set_option maxHeartbeats 1000000

/-- the cost so far, in parts of the whole -/
def tc (xs : List Int) (k : Nat) : Nat → Nat
  | 0 => 0
  | L + 1 => tc xs k L + L * (lvs xs (k - L) xs.length).length * 2 ^ (k - L)
theorem tc_term {xs : List Int} {k L : Nat} (h : DyP xs k) (hL : L ≤ k) : L * (lvs xs (k - L) xs.length).length ≤ 192 ∧ 2 ^ (k - L) ≤ 4096 ∧ L * (lvs xs (k - L) xs.length).length * 2 ^ (k - L) ≤ 786432 := by
  have h1 := lvs_len xs (k - L) xs.length
  have h2 := h.2.1.1.2
  have h3 := h.1
  have h4 : L * (lvs xs (k - L) xs.length).length ≤ 12 * 16 := Nat.mul_le_mul (by omega) (by omega)
  have h5 : 2 ^ (k - L) ≤ 2 ^ 12 := Nat.pow_le_pow_right (by omega) (by omega)
  have h6 := Nat.mul_le_mul h4 h5
  exact ⟨by omega, by omega, by omega⟩
theorem tc_le {xs : List Int} {k : Nat} (h : DyP xs k) : ∀ L, L ≤ k + 1 → tc xs k L ≤ L * 786432 := by
  intro L
  induction L with
  | zero => intro _; simp [tc]
  | succ L ih =>
    intro hL
    have h1 := ih (by omega)
    have h2 := (tc_term h (L := L) (by omega)).2.2
    simp only [tc]
    omega
theorem tc_le13 {xs : List Int} {k : Nat} (h : DyP xs k) : ∀ L, L ≤ k + 1 → tc xs k L ≤ 20000000 := by
  intro L hL
  have h1 := tc_le h L hL
  have h2 := h.1
  omega
theorem tc_shl {xs : List Int} {k L sh l : Nat} (h : DyP xs k) (hL : L ≤ k) (hs : k - L = sh) (hl : (lvs xs sh xs.length).length = l) : wrap64 ((L : Int) * (l : Int) * 2 ^ sh) = ((L * l * 2 ^ sh : Nat) : Int) ∧ L * l ≤ 192 ∧ L * l * 2 ^ sh ≤ 786432 ∧ tc xs k (L + 1) = tc xs k L + L * l * 2 ^ sh := by
  subst hs
  subst hl
  have h1 := tc_term h hL
  refine ⟨?_, h1.1, h1.2.2, rfl⟩
  have e : ((L * (lvs xs (k - L) xs.length).length * 2 ^ (k - L) : Nat) : Int) = (L : Int) * ((lvs xs (k - L) xs.length).length : Nat) * 2 ^ (k - L) := by simp
  rw [← e]
  exact IntWalk.wrap64_in _ (by omega)
theorem LvV.read {B : Nat} {w : World} {g : Nat} {xs : List Int} {k : Nat} (h : LvV B w g xs k) : ∀ d, d < k + 1 → ∃ p c, w.cell? ⟨g, d, none⟩ = some (.slice p (lvs xs (k - d) xs.length).length c) := by
  obtain ⟨_, cs, hh, _, h2, _⟩ := h
  intro d hd
  obtain ⟨v, hv, hr⟩ := h2 d hd
  obtain ⟨p, c, rfl⟩ := rowI_shape hr
  exact ⟨p, c, by rw [Lib.cell_of_heap hh]; exact hv⟩
theorem pow_cast (k : Nat) : ((2 ^ k : Nat) : Int) = (2 : Int) ^ k := by simp
theorem cost_yes (a : Option Addr) (n cap : Nat) (xs : List Int) (k : Nat) (w : World) (h : RO w.heap.size w a xs) (hT : Tz w.heap.size w) (hn : xs.length = n) (hl : n ≤ 1048576) (hD : DyP xs k) (u v : Int) (hu : u = mkN (tc xs k (k + 1)) (2 ^ k : Nat)) (hv : v = mkD (tc xs k (k + 1)) (2 ^ k : Nat)) :
    Calls Tryd.prog 10 #[.slice a n cap] w fun e w' => e = .returned (.tuple #[.agg #[.int .i64 u, .int .i64 v], .bool true]) ∧ Below w.heap.size w w' := by
  have HL : Hid (∀ V : World, Below w.heap.size w V → Calls Tryd.prog 11 #[.slice a n cap] V fun e w' => ∃ g c : Nat, e = .returned (.tuple #[.slice (some ⟨g, 0, none⟩) (k + 1) c, .bool true]) ∧ LvV V.heap.size w' g xs k ∧ Below V.heap.size V w') := fun V hV => leaves_yes a n cap xs w.heap.size k V ((h.below hV).up hV.size) (hT.on hV) hn hl hD
  have HD := Lib.hid hD
  have hk := hD.1
  have hsum := tc_le13 hD
  have hp2 : (2 : Nat) ^ k ≤ 2 ^ 12 := Nat.pow_le_pow_right (by omega) hk
  have hp1 : 1 ≤ (2 : Nat) ^ k := Nat.one_le_two_pow
  have HM : Hid (∀ W : World, Calls Tryd.prog 15 #[.int .i64 (tc xs k (k + 1)), .int .i64 (wrap64 (2 ^ k))] W fun e w' => e = .returned (.tuple #[.agg #[.int .i64 u, .int .i64 v], .bool true]) ∧ Below W.heap.size W w') := by
    have := hsum (k + 1) (Nat.le_refl _)
    subst hu
    subst hv
    rw [(pow_12 hk).2.2, ← pow_cast]
    exact fun W => make_yes _ _ W (by omega) (by omega) (by omega) (by omega) (by omega)
  have HSum := Lib.hid hsum
  clear h hT hn hD hu hv hsum
  go_enter Tryd.func10, Tryd.ntmps10
  have A0 := D2.new w (.int .i64 0) (.int .i64 0) 27
  have B := (Below.refl w.heap.size w).alloc (Nat.le_refl _) (.cells #[.int .i64 0, .int .i64 0] 27)
  go_wp2_with fail
  refine (HL.out _ B).mono ?_
  rintro e w1 ⟨g, c, rfl, hv, hb⟩
  have HLV := Lib.hid hv.read
  replace A0 := A0.far hb
  replace B := B.trans (hb.mono B.size)
  clear hv hb
  go_wp2_with fail
  go_loopw [6, 23] (fun sv lv wr => ∃ L : Nat, L ≤ k + 1 ∧ lv = .int .i64 L ∧ sv = .int .i64 (tc xs k L) ∧ w1 = wr) (fun _ lv _ => k + 1 - (intOf lv).toNat)
  case atStart => exact ⟨0, Nat.zero_le _, rfl, rfl, rfl⟩
  case round =>
    obtain ⟨L, hL, rfl, rfl, rfl⟩ := hrel
    by_cases hlt : L < k + 1
    · obtain ⟨p, c2, hc⟩ := HLV.out L hlt
      obtain ⟨sh, hsh⟩ : ∃ sh, k - L = sh := ⟨_, rfl⟩
      have hsub : ((k : Nat) : Int) - (L : Nat) = (sh : Nat) := by omega
      have hsh12 : sh ≤ 12 := by omega
      obtain ⟨l, hl⟩ : ∃ l, (lvs xs (k - L) xs.length).length = l := ⟨_, rfl⟩
      obtain ⟨hq1, hq2, hq3, hq4⟩ := tc_shl (l := l) HD.out (by omega) hsh (by rw [← hsh]; exact hl)
      have hq5 := HSum.out L (by omega)
      rw [hl] at hc
      have HQ := Lib.hid hq4
      obtain ⟨S, hS⟩ : ∃ S, tc xs k L = S := ⟨_, rfl⟩
      rw [hS] at HQ hq5 ⊢
      obtain ⟨M, hM⟩ : ∃ M, L * l = M := ⟨_, rfl⟩
      have hM2 : (L : Int) * (l : Int) = (M : Nat) := by rw [← hM]; simp
      rw [hM2] at hq1
      rw [hM] at HQ hq1 hq3 hq2
      obtain ⟨T, hTT⟩ : ∃ T, M * 2 ^ sh = T := ⟨_, rfl⟩
      rw [hTT] at HQ hq1 hq3
      have HSM := Lib.hid hS
      have HQ1 := Lib.hid hq1
      clear hq1
      have hst : wrap64 ((S : Int) + (T : Int)) = ((S + T : Nat) : Int) := by rw [IntWalk.wrap64_in _ (by omega)]; simp
      have hq1 := HQ1.out
      clear hq4 hl hTT hM hS hq5 hq3
      go_wp2
      go_roundw
      case rel => exact ⟨L + 1, by omega, by go_num, by rw [HQ.out, hst], trivial⟩
      case measure => simp [intOf]; omega
    · obtain rfl : L = k + 1 := by omega
      have hd2 : decide ((k : Int) + 1 < (k : Int) + 1) = false := by simp
      go_wp2_with fail
      refine (HM.out _).mono ?_
      rintro e w2 ⟨rfl, hb⟩
      replace A0 := A0.far hb
      replace B := B.trans (hb.mono B.size)
      clear hb
      obtain ⟨p0, p1⟩ := (A0.put (.int .i64 u) (.int .i64 v)).1
      obtain ⟨⟨x0, x1⟩, x2, x3⟩ := id A0
      go_wp2
      unfold putD at p0 p1
      exact bodyPost_ret (v := .tuple #[.agg #[.int .i64 u, .int .i64 v], .bool true]) (by simp [results, Tryd.results10, go_sem, p0, p1]) rfl ⟨rfl, below_putD B (Nat.le_refl _) _ _⟩
theorem cost_no (a : Option Addr) (n cap : Nat) (xs : List Int) (w : World) (h : RO w.heap.size w a xs) (hT : Tz w.heap.size w) (hn : xs.length = n) (hl : n ≤ 1048576) (hD : ¬ ∃ k, DyP xs k) :
    Calls Tryd.prog 10 #[.slice a n cap] w fun e w' => e = .returned (.tuple #[.agg #[.int .i64 0, .int .i64 0], .bool false]) ∧ Below w.heap.size w w' := by
  have HL : Hid (∀ V : World, Below w.heap.size w V → Calls Tryd.prog 11 #[.slice a n cap] V fun e w' => e = .returned (.tuple #[.slice none 0 0, .bool false]) ∧ V = w') := fun V hV => leaves_no a n cap xs w.heap.size V ((h.below hV).up hV.size) (hT.on hV) hn hl hD
  clear h hT hn hD
  go_enter Tryd.func10, Tryd.ntmps10
  have B := (Below.refl w.heap.size w).alloc (Nat.le_refl _) (.cells #[.int .i64 0, .int .i64 0] 27)
  go_wp2_with fail
  refine (HL.out _ B).mono ?_
  rintro e w1 ⟨rfl, rfl⟩
  go_wp2
  go_returns
  exact ⟨rfl, by go_grown⟩
theorem LvS.read {B : Nat} {w : World} {v : Value} {vs : List Value} {xs : List Int} {k : Nat} (h : LvS B w v vs xs k (k + 1)) : ∃ g c : Nat, v = .slice (some ⟨g, 0, none⟩) (k + 1) c ∧ ∀ d, d < k + 1 → ∃ p c, w.cell? ⟨g, d, none⟩ = some (.slice p (lvs xs (k - d) xs.length).length c) := by
  obtain ⟨⟨_, h1⟩, h2⟩ := h
  rcases h1 with ⟨_, h0⟩ | ⟨g, cap, cur, rfl, _, hh, _, _, hcs, htk⟩
  · omega
  · refine ⟨g, cap, rfl, fun d hd => ?_⟩
    obtain ⟨u, hu, hr⟩ := h2 d hd
    obtain ⟨p, c, rfl⟩ := rowI_shape hr
    refine ⟨p, c, ?_⟩
    rw [Lib.cell_of_heap hh, ← Array.getElem?_toList]
    rw [← htk, List.getElem?_take] at hu
    simpa [show d < k + 1 by omega] using hu
theorem specCost_yes (a : Option Addr) (n cap : Nat) (xs : List Int) (k : Nat) (w : World) (h : RO w.heap.size w a xs) (hn : xs.length = n) (hl : n ≤ 1048576) (hD : DyP xs k) (u v : Int) (hu : u = mkN (tc xs k (k + 1)) (2 ^ k : Nat)) (hv : v = mkD (tc xs k (k + 1)) (2 ^ k : Nat)) :
    Calls Tryd.prog 26 #[.slice a n cap] w fun e w' => e = .returned (.tuple #[.agg #[.int .i64 u, .int .i64 v], .bool true]) ∧ Below w.heap.size w w' := by
  have HV : Hid (∀ V : World, Below w.heap.size w V → Calls Tryd.prog 36 #[.slice a n cap] V fun e w' => e = .returned (.int .i64 k) ∧ V = w') := fun V hV => l06Level_yes a n cap xs k V ((h.below hV).up hV.size) hn hl hD
  have HL : Hid (∀ V : World, Below w.heap.size w V → Calls Tryd.prog 37 #[.slice a n cap] V fun e w' => ∃ v vs, e = .returned v ∧ LvS V.heap.size w' v vs xs k (k + 1) ∧ Below V.heap.size V w') := fun V hV => l06Levels_yes a n cap xs k V ((h.below hV).up hV.size) hn hl hD
  have HD := Lib.hid hD
  have hk := hD.1
  have hsum := tc_le13 hD
  have hp2 : (2 : Nat) ^ k ≤ 2 ^ 12 := Nat.pow_le_pow_right (by omega) hk
  have hp1 : 1 ≤ (2 : Nat) ^ k := Nat.one_le_two_pow
  have HM : Hid (∀ W : World, Calls Tryd.prog 41 #[.int .i64 (tc xs k (k + 1)), .int .i64 (wrap64 (2 ^ k))] W fun e w' => e = .returned (.agg #[.int .i64 u, .int .i64 v]) ∧ Below W.heap.size W w') := by
    have := hsum (k + 1) (Nat.le_refl _)
    subst hu
    subst hv
    rw [(pow_12 hk).2.2, ← pow_cast]
    exact fun W => fmake_any _ _ W (by omega) (by omega) (by omega) (by omega) (by omega)
  have HSum := Lib.hid hsum
  clear h hn hD hu hv hsum
  go_enter Tryd.func26, Tryd.ntmps26
  have A0 := D2.new w (.int .i64 0) (.int .i64 0) 27
  have B := (Below.refl w.heap.size w).alloc (Nat.le_refl _) (.cells #[.int .i64 0, .int .i64 0] 27)
  go_wp2_with fail
  refine (HV.out _ B).mono ?_
  rintro e w1 ⟨rfl, rfl⟩
  go_wp2_with fail
  refine (HL.out _ B).mono ?_
  rintro e w1 ⟨lv, vs, rfl, hv, hb⟩
  obtain ⟨g, c, rfl, hrd⟩ := hv.read
  have HLV := Lib.hid hrd
  replace A0 := A0.far hb
  replace B := B.trans (hb.mono B.size)
  clear hv hb hrd
  go_wp2_with fail
  go_loopw [6, 7] (fun sv lv wr => ∃ L : Nat, L ≤ k + 1 ∧ lv = .int .i64 L ∧ sv = .int .i64 (tc xs k L) ∧ w1 = wr) (fun _ lv _ => k + 1 - (intOf lv).toNat)
  case atStart => exact ⟨0, Nat.zero_le _, rfl, rfl, rfl⟩
  case round =>
    obtain ⟨L, hL, rfl, rfl, rfl⟩ := hrel
    by_cases hlt : L < k + 1
    · obtain ⟨p, c2, hc⟩ := HLV.out L hlt
      obtain ⟨sh, hsh⟩ : ∃ sh, k - L = sh := ⟨_, rfl⟩
      have hsub : ((k : Nat) : Int) - (L : Nat) = (sh : Nat) := by omega
      have hsh12 : sh ≤ 12 := by omega
      obtain ⟨l, hl⟩ : ∃ l, (lvs xs (k - L) xs.length).length = l := ⟨_, rfl⟩
      obtain ⟨hq1, hq2, hq3, hq4⟩ := tc_shl (l := l) HD.out (by omega) hsh (by rw [← hsh]; exact hl)
      have hq5 := HSum.out L (by omega)
      rw [hl] at hc
      have HQ := Lib.hid hq4
      obtain ⟨S, hS⟩ : ∃ S, tc xs k L = S := ⟨_, rfl⟩
      rw [hS] at HQ hq5 ⊢
      obtain ⟨M, hM⟩ : ∃ M, L * l = M := ⟨_, rfl⟩
      have hM2 : (L : Int) * (l : Int) = (M : Nat) := by rw [← hM]; simp
      rw [hM2] at hq1
      rw [hM] at HQ hq1 hq3 hq2
      obtain ⟨T, hTT⟩ : ∃ T, M * 2 ^ sh = T := ⟨_, rfl⟩
      rw [hTT] at HQ hq1 hq3
      have HSM := Lib.hid hS
      have HQ1 := Lib.hid hq1
      clear hq1
      have hst : wrap64 ((S : Int) + (T : Int)) = ((S + T : Nat) : Int) := by rw [IntWalk.wrap64_in _ (by omega)]; simp
      have hq1 := HQ1.out
      clear hq4 hl hTT hM hS hq5 hq3
      go_wp2
      go_roundw
      case rel => exact ⟨L + 1, by omega, by go_num, by rw [HQ.out, hst], trivial⟩
      case measure => simp [intOf]; omega
    · obtain rfl : L = k + 1 := by omega
      have hd2 : decide ((k : Int) + 1 < (k : Int) + 1) = false := by simp
      go_wp2_with fail
      refine (HM.out _).mono ?_
      rintro e w2 ⟨rfl, hb⟩
      replace A0 := A0.far hb
      replace B := B.trans (hb.mono B.size)
      clear hb
      obtain ⟨p0, p1⟩ := (A0.put (.int .i64 u) (.int .i64 v)).1
      obtain ⟨⟨x0, x1⟩, x2, x3⟩ := id A0
      go_wp2
      unfold putD at p0 p1
      exact bodyPost_ret (v := .tuple #[.agg #[.int .i64 u, .int .i64 v], .bool true]) (by simp [results, Tryd.results26, go_sem, p0, p1]) rfl ⟨rfl, below_putD B (Nat.le_refl _) _ _⟩
theorem specCost_no (a : Option Addr) (n cap : Nat) (xs : List Int) (w : World) (h : RO w.heap.size w a xs) (hn : xs.length = n) (hl : n ≤ 1048576) (hD : ¬ ∃ k, DyP xs k) :
    Calls Tryd.prog 26 #[.slice a n cap] w fun e w' => e = .returned (.tuple #[.agg #[.int .i64 0, .int .i64 0], .bool false]) ∧ Below w.heap.size w w' := by
  have HV : Hid (∀ V : World, Below w.heap.size w V → Calls Tryd.prog 36 #[.slice a n cap] V fun e w' => e = .returned (.int .i64 (-1)) ∧ V = w') := fun V hV => l06Level_no a n cap xs V ((h.below hV).up hV.size) hn hl hD
  clear h hn hD
  go_enter Tryd.func26, Tryd.ntmps26
  have B := (Below.refl w.heap.size w).alloc (Nat.le_refl _) (.cells #[.int .i64 0, .int .i64 0] 27)
  go_wp2_with fail
  refine (HV.out _ B).mono ?_
  rintro e w1 ⟨rfl, rfl⟩
  go_wp2
  go_returns
  exact ⟨rfl, by go_grown⟩
/-- what both sides answer -/
theorem cost_both (xs : List Int) (n : Nat) (hn : xs.length = n) (hl : n ≤ 1048576) : ∃ (u v : Int) (ok : Bool),
    (∀ (W : World) (c : Option Addr) (k : Nat), RO W.heap.size W c xs → Tz W.heap.size W → Calls Tryd.prog 10 #[.slice c n k] W fun e w' => e = .returned (.tuple #[.agg #[.int .i64 u, .int .i64 v], .bool ok]) ∧ Below W.heap.size W w') ∧
    (∀ (W : World) (c : Option Addr) (k : Nat), RO W.heap.size W c xs → Calls Tryd.prog 26 #[.slice c n k] W fun e w' => e = .returned (.tuple #[.agg #[.int .i64 u, .int .i64 v], .bool ok]) ∧ Below W.heap.size W w') := by
  by_cases hD : ∃ k, DyP xs k
  · obtain ⟨k, hD⟩ := hD
    exact ⟨_, _, true, fun W c q h hT => cost_yes c n q xs k W h hT hn hl hD _ _ rfl rfl, fun W c q h => specCost_yes c n q xs k W h hn hl hD _ _ rfl rfl⟩
  · exact ⟨0, 0, false, fun W c q h hT => cost_no c n q xs W h hT hn hl hD, fun W c q h => specCost_no c n q xs W h hn hl hD⟩
theorem lawTC (a : Option Addr) (m cap : Nat) (zs : List Int) (w : World) (h : RowIn .i64 w a m zs) (hT : Tz w.heap.size w) :
    Calls Tryd.prog 7 #[.slice a m cap] w fun e w' => e = .returned (.bool true) ∧ Below w.heap.size w w' := by
  by_cases hl : m ≤ 1048576
  · obtain ⟨xs, hn, hr⟩ := h.ro
    have HR := Lib.hid hr
    have HN := Lib.hid hn
    have HT := Lib.hid hT
    obtain ⟨u, v, ok, hI, hS⟩ := cost_both xs m hn hl
    have HI := Lib.hid hI
    have HS := Lib.hid hS
    have t0 : decide ((1048576 : Int) < (m : Int)) = false := by simp; omega
    have hok : (ok != ok) = false := by simp
    clear h hr hn hT hI hS
    go_enter Tryd.func7, Tryd.ntmps7
    go_wp2_with fail
    refine (copy_any a m cap xs w HR.out HN.out hl).mono ?_
    rintro e w1 ⟨b1, c1, rfl, r1, _, hb1⟩
    have HB1 := Lib.hid hb1
    clear hb1
    go_wp2_with fail
    refine (HS.out w1 b1 c1 r1).mono ?_
    rintro e w2 ⟨rfl, hb2⟩
    have HB2 := Lib.hid (HB1.out.trans (hb2.mono HB1.out.size))
    have A0 := D2.new w2 (.int .i64 u) (.int .i64 v) 27
    have B := HB2.out.alloc HB2.out.size (.cells #[.int .i64 u, .int .i64 v] 27)
    have HR2 := Lib.hid ((HR.out.below B).up B.size)
    clear r1 hb2 HB1
    go_wp2_with fail
    refine (copy_any a m cap xs _ HR2.out HN.out hl).mono ?_
    rintro e w3 ⟨b3, c3, rfl, r3, s3, hb3⟩
    replace A0 := A0.far hb3
    replace B := B.trans (hb3.mono B.size)
    have HS3 := Lib.hid s3
    clear hb3 s3 HR2
    go_wp2_with fail
    refine (HI.out w3 b3 c3 r3 (fun V hV => (HT.out.on B) V (hV.mono B.size))).mono ?_
    rintro e w4 ⟨rfl, hb4⟩
    replace A0 := A0.far hb4
    replace B := B.trans (hb4.mono B.size)
    have HS4 := Lib.hid (HS3.out.below (hb4.mono (Nat.le_refl _)))
    have z34 := hb4.size
    clear r3 hb4 HS3
    obtain ⟨⟨x0, x1⟩, x2, x3⟩ := id A0
    have z4 := A0.lt
    have B5 := B.alloc B.size (.cells #[.int .i64 u, .int .i64 v] 27)
    go_wp2_with fail
    refine (eqFrac_yes _ _ _).mono ?_
    rintro e w5 ⟨rfl, hb5⟩
    have HS5 := Lib.hid (HS4.out.below (((Below.refl w3.heap.size w4).alloc z34 (.cells #[.int .i64 u, .int .i64 v] 27)).trans (hb5.mono (by simp; omega))))
    have HB5 := Lib.hid (B5.trans (hb5.mono B5.size))
    have z5 := hb5.size
    simp at z5
    clear hb5 B5 HS4 A0 B x0 x1 x2 x3
    have HR5 := Lib.hid ((HR.out.below HB5.out).up HB5.out.size)
    go_wp2_with fail
    refine (copy_any a m cap xs _ HR5.out HN.out hl).mono ?_
    rintro e w6 ⟨b6, c6, rfl, _, s6, hb6⟩
    have HB6 := Lib.hid (HB5.out.trans (hb6.mono HB5.out.size))
    have HS6 := Lib.hid (HS5.out.below (hb6.mono (by omega)))
    have HE : Hid (Calls Tryd.prog 19 #[.slice b3 m c3, .slice b6 m c6] w6 fun e w' => e = .returned (.bool true) ∧ ∃ n, w' = w6.drewN n) := eq64_yes _ _ xs _ _ _ _ w6 HS6.out s6 (by rw [HN.out]; exact hl)
    clear hb6 s6
    go_wp2_with (go_at_call 19; with_reducible refine (HE.out).mono ?_; rintro e w7 ⟨rfl, m7, rfl⟩)
    go_ret
    exact ⟨rfl, below_drewN HB6.out m7⟩
  · have hle := h.len_le
    have t0 : decide ((1048576 : Int) < (m : Int)) = true := by simp; omega
    clear h hT
    go_enter Tryd.func7, Tryd.ntmps7
    go_wp2
    go_ret
    exact ⟨rfl, Below.refl _ _⟩
end Go.Proofs.YtamedggnkbhgeaaDoor
