/- The law of radical inverses (FnInverses). -/
import Derived.Test.YtmnnpkmjamhmcabHal
import Derived.Test.YtmnnpkmjamhmcabR8
namespace Go.Proofs.Ytmnnpkmjamhmcab
open Go.RowKit Go.PlainAid
set_option maxHeartbeats 1600000
set_option maxRecDepth 20000

theorem rdx_acc (b : Nat) : ∀ k n num den, rdx b k n num den = (num * (rdx b k n 0 1).2 + (rdx b k n 0 1).1, den * (rdx b k n 0 1).2) := by
  intro k
  induction k with
  | zero => intro n num den; simp [rdx]
  | succ k ih =>
    intro n num den
    by_cases h : n = 0
    · simp [rdx, h]
    · have e1 : rdx b (k + 1) n num den = rdx b k (n / b) (num * b + n % b) (den * b) := by rw [rdx, if_neg h]
      have e2 : rdx b (k + 1) n 0 1 = rdx b k (n / b) (0 * b + n % b) (1 * b) := by rw [rdx, if_neg h]
      rw [e1, e2, ih (n / b) (num * b + n % b), ih (n / b) (0 * b + n % b)]
      generalize (rdx b k (n / b) 0 1).2 = P
      generalize (rdx b k (n / b) 0 1).1 = N
      refine Prod.ext ?_ ?_
      · show (num * b + n % b) * P + N = num * (1 * b * P) + ((0 * b + n % b) * P + N)
        rw [Nat.zero_mul, Nat.zero_add, Nat.one_mul, Nat.add_mul, Nat.mul_assoc, Nat.add_assoc]
      · show den * b * P = den * (1 * b * P)
        rw [Nat.one_mul, Nat.mul_assoc]
theorem rdx_fuel {b : Nat} (hb : 2 ≤ b) : ∀ k n, n < 2 ^ k → rdx b (k + 1) n 0 1 = rdx b k n 0 1 := by
  intro k
  induction k with
  | zero => intro n hn; obtain rfl : n = 0 := by omega
            rw [rdx_zero, rdx_zero]
  | succ k ih =>
    intro n hn
    by_cases h : n = 0
    · subst h; rw [rdx_zero, rdx_zero]
    · have h1 : n / b ≤ n / 2 := Nat.div_le_div_left hb (by omega)
      have h2 : 2 ^ (k + 1) = 2 ^ k * 2 := Nat.pow_succ 2 k
      have e1 : rdx b (k + 1 + 1) n 0 1 = rdx b (k + 1) (n / b) (0 * b + n % b) (1 * b) := by rw [rdx, if_neg h]
      have e2 : rdx b (k + 1) n 0 1 = rdx b k (n / b) (0 * b + n % b) (1 * b) := by rw [rdx, if_neg h]
      rw [e1, e2, rdx_acc, ih (n / b) (by omega), ← rdx_acc]
/-- the inverse of a number and that without its last digit -/
theorem rad_step {b n : Nat} (hb : 2 ≤ b) (h0 : 0 < n) (hn : n ≤ 1000000) : rad b n = (n % b * (rad b (n / b)).2 + (rad b (n / b)).1, b * (rad b (n / b)).2) := by
  have h1 : n / b ≤ n / 2 := Nat.div_le_div_left hb (by omega)
  have e : rad b n = rdx b 19 (n / b) (0 * b + n % b) (1 * b) := by
    unfold rad
    rw [rdx, if_neg (by omega)]
  have e2 : rad b (n / b) = rdx b 19 (n / b) 0 1 := rdx_fuel hb 19 (n / b) (by omega)
  rw [e, rdx_acc, e2, Nat.zero_mul, Nat.zero_add, Nat.one_mul]
theorem mk_props {N D : Nat} (hD : 1 ≤ D) (hlt : N < D) : ∃ x y : Nat, mkN N D = x ∧ mkD N D = y ∧ 1 ≤ y ∧ y ≤ D ∧ x < y ∧ x * D = N * y := by
  have hg : gcdI (N : Int) (D : Int) = ((Nat.gcd N D : Nat) : Int) := by simp [gcdI, Int.gcd]
  have hgp : 0 < Nat.gcd N D := Nat.gcd_pos_of_pos_right N hD
  have e1 : mkN (N : Int) (D : Int) = ((N / Nat.gcd N D : Nat) : Int) := by
    unfold mkN
    rw [if_neg (by omega), hg, Int.tdiv_eq_ediv_of_nonneg (by omega)]
    rfl
  have e2 : mkD (N : Int) (D : Int) = ((D / Nat.gcd N D : Nat) : Int) := by
    unfold mkD
    rw [if_neg (by omega), hg, Int.tdiv_eq_ediv_of_nonneg (by omega)]
    rfl
  have d1 : N / Nat.gcd N D * Nat.gcd N D = N := Nat.div_mul_cancel (Nat.gcd_dvd_left N D)
  have d2 : D / Nat.gcd N D * Nat.gcd N D = D := Nat.div_mul_cancel (Nat.gcd_dvd_right N D)
  refine ⟨_, _, e1, e2, ?_, Nat.div_le_self _ _, ?_, ?_⟩
  · exact Nat.div_pos (Nat.le_of_dvd hD (Nat.gcd_dvd_right N D)) hgp
  · refine Nat.lt_of_mul_lt_mul_right (a := Nat.gcd N D) ?_
    rw [d1, d2]; exact hlt
  · generalize hG : Nat.gcd N D = G at d1 d2 ⊢
    generalize N / G = X at d1 ⊢
    generalize D / G = Y at d2 ⊢
    rw [← d1, ← d2, ← Nat.mul_assoc, Nat.mul_assoc X G Y, Nat.mul_comm G Y, ← Nat.mul_assoc]
/-- what the law asks of the numbers -/
theorem inv_law {b n : Nat} (hb : 2 ≤ b) (hb2 : b ≤ 36) (hn : n ≤ 1000000) : ∃ x y u v : Nat, frI n b = ((x : Int), (y : Int)) ∧ frI ((n / b : Nat) : Int) b = ((u : Int), (v : Int)) ∧ (1 ≤ y ∧ y ≤ 36000000 ∧ x < y) ∧ (1 ≤ v ∧ v ≤ 36000000 ∧ u < v) ∧ ((x : Int) * b - (n % b : Nat) * y) * v = u * y := by
  have hn2 : n / b ≤ 1000000 := Nat.le_trans (Nat.div_le_self _ _) hn
  obtain ⟨l1, l2, l3⟩ := rad_in hb hb2 hn
  obtain ⟨m1, m2, m3⟩ := rad_in hb hb2 hn2
  obtain ⟨x, y, e1, e2, p1, p2, p3, p4⟩ := mk_props l3 l1
  obtain ⟨u, v, f1, f2, q1, q2, q3, q4⟩ := mk_props m3 m1
  refine ⟨x, y, u, v, by unfold frI; rw [Int.toNat_natCast, Int.toNat_natCast, e1, e2], by unfold frI; rw [Int.toNat_natCast, Int.toNat_natCast, f1, f2], ⟨p1, by omega, p3⟩, ⟨q1, by omega, q3⟩, ?_⟩
  have hs : (rad b n).2 = b * (rad b (n / b)).2 ∧ (rad b n).1 = n % b * (rad b (n / b)).2 + (rad b (n / b)).1 ∨ n = 0 := by
    by_cases h0 : n = 0
    · exact .inr h0
    · left
      rw [rad_step hb (by omega) hn]
      exact ⟨rfl, rfl⟩
  rcases hs with ⟨h1, h2⟩ | h0
  · rw [h1, h2] at p4
    generalize (rad b (n / b)).2 = P at *
    generalize (rad b (n / b)).1 = M at *
    generalize n % b = r at *
    have p5 : (x : Int) * (b * P) = (r * P + M) * y := by exact_mod_cast p4
    have q5 : (u : Int) * P = M * v := by exact_mod_cast q4
    have hP : (P : Int) ≠ 0 := by omega
    refine Int.eq_of_mul_eq_mul_left hP ?_
    have k1 : (P : Int) * (((x : Int) * b - r * y) * v) = ((x : Int) * (b * P) - r * P * y) * v := by grind
    have k2 : (P : Int) * ((u : Int) * y) = M * v * y := by grind
    rw [k1, k2, p5]
    grind
  · subst h0
    have hr : rad b 0 = (0, 1) := rdx_zero b 20 0 1
    rw [Nat.zero_div, hr] at q4
    rw [hr] at p4
    simp at p4 q4
    subst p4 q4
    simp
theorem lawInverses (a : Option Addr) (la ca : Nat) (b : Option Addr) (lb cb : Nat) (w : World) (hA : Code w w.heap.size a la) (hB : Code w w.heap.size b lb) (ha : la ≤ 9223372036854775807) (hb : lb ≤ 9223372036854775807) :
    Calls Try.prog 3 #[.slice a la ca, .slice b lb cb] w fun e w' => e = .returned (.bool true) ∧ Below w.heap.size w w' := by
  by_cases hl : la ≤ 48 ∧ lb ≤ 48
  rotate_left
  · have HH := Lib.hid hl
    clear hl
    go_enter Try.func3, Try.ntmps3
    go_wp2_with (go_at_call 13; refine (r8Long_yes _ _ _ _ _ _ _ ha hb HH.out).mono ?_; rintro e w0 ⟨rfl, rfl⟩)
    go_ret
    exact ⟨rfl, Below.refl _ _⟩
  obtain ⟨l1, l2⟩ := hl
  have HA := Lib.hid hA
  have HB := Lib.hid hB
  clear hA hB
  go_enter Try.func3, Try.ntmps3
  go_wp2_with fail
  refine (r8Long_no a b la ca lb cb _ l1 l2).mono ?_
  rintro e w' ⟨rfl, rfl⟩
  go_wp2_with fail
  refine (r8Number_any a la ca 60000 w HA.out (by omega) (by omega) (by omega)).mono ?_
  rintro e w1 ⟨n, rfl, hn, hb1⟩
  go_wp2_with fail
  refine (r8At_any b lb cb 0 35 w.heap.size w1 (HB.out.below hb1) (by omega) (by omega) (by omega) (by omega)).mono ?_
  rintro e w2 ⟨r, rfl, hr, m2, hw2⟩
  have B2 : Below w.heap.size w w2 := by rw [hw2]; exact below_drewN hb1 m2
  clear hb1 hw2
  obtain ⟨B, hBe⟩ : ∃ B : Nat, r + 2 = B := ⟨_, rfl⟩
  have hBI : (2 : Int) + (r : Int) = (B : Int) := by omega
  have hB2 : 2 ≤ B := by omega
  have hB36 : B ≤ 36 := by omega
  have hn6 : n ≤ 1000000 := by omega
  obtain ⟨x, y, u, v, e1, e2, ⟨y1, y2, xy⟩, ⟨v1, v2, uv⟩, HEQ⟩ := inv_law (b := B) (n := n) hB2 hB36 hn6
  obtain ⟨q, hq⟩ : ∃ q, n / B = q := ⟨_, rfl⟩
  have hnb : q ≤ n := by rw [← hq]; exact Nat.div_le_self _ _
  rw [hq] at e2
  have R1 : Hid (∀ W, Calls Try.prog 16 #[.int .i64 (n : Int), .int .i64 (B : Int)] W fun e w' => e = .returned (.tuple #[.agg #[.int .i64 (x : Int), .int .i64 (y : Int)], .bool true]) ∧ Below W.heap.size W w') := fun W => by
    have := radI_yes (n : Int) (B : Int) W ⟨⟨by omega, by omega⟩, by omega, by omega⟩
    rwa [e1] at this
  have R2 : Hid (∀ W, Calls Try.prog 16 #[.int .i64 (q : Int), .int .i64 (B : Int)] W fun e w' => e = .returned (.tuple #[.agg #[.int .i64 (u : Int), .int .i64 (v : Int)], .bool true]) ∧ Below W.heap.size W w') := fun W => by
    have := radI_yes (q : Int) (B : Int) W ⟨⟨by omega, by omega⟩, by omega, by omega⟩
    rwa [e2] at this
  obtain ⟨⟨h1, h2⟩, hh⟩ : ∃ h : Int × Int, frI (n : Int) 2 = h := ⟨_, rfl⟩
  have R3 : Hid (∀ W, Calls Try.prog 16 #[.int .i64 (n : Int), .int .i64 2] W fun e w' => e = .returned (.tuple #[.agg #[.int .i64 h1, .int .i64 h2], .bool true]) ∧ Below W.heap.size W w') := fun W => by
    have := radI_yes (n : Int) 2 W ⟨⟨by omega, by omega⟩, by omega, by omega⟩
    rwa [hh] at this
  have HL : Hid (hal (n : Int) [(B : Int), 2] = [((x : Int), (y : Int)), (h1, h2)]) := by
    unfold Hid hal
    simp [e1, hh]
  have HHP : Hid (HalP (n : Int) 2 [(B : Int), 2]) := by
    refine ⟨⟨by omega, by omega⟩, fun i c hc => ?_⟩
    have hi : i = 0 ∨ i = 1 := by
      have := (List.getElem?_eq_some_iff.1 hc).1
      simp at this
      omega
    rcases hi with rfl | rfl <;> simp at hc <;> subst hc <;> exact ⟨⟨by omega, by omega⟩, by omega, by omega⟩
  have q1 : (n : Int).tdiv (B : Int) = (q : Int) := by rw [Int.tdiv_eq_ediv_of_nonneg (by omega), ← hq]; rfl
  have q2 : (n : Int).tmod (B : Int) = ((n % B : Nat) : Int) := by rw [Int.tmod_eq_emod_of_nonneg (by omega)]; rfl
  have hrm : n % B < B := Nat.mod_lt _ (by omega)
  obtain ⟨d, hd⟩ : ∃ d, n % B = d := ⟨_, rfl⟩
  rw [hd] at q2 hrm HEQ
  obtain ⟨P1, hP1⟩ : ∃ P1, x * B = P1 := ⟨_, rfl⟩
  obtain ⟨P2, hP2⟩ : ∃ P2, d * y = P2 := ⟨_, rfl⟩
  obtain ⟨P3, hP3⟩ : ∃ P3, u * y = P3 := ⟨_, rfl⟩
  have i1 : (x : Int) * (B : Int) = (P1 : Int) := by exact_mod_cast hP1
  have i2 : (d : Int) * (y : Int) = (P2 : Int) := by exact_mod_cast hP2
  have i3 : (u : Int) * (y : Int) = (P3 : Int) := by exact_mod_cast hP3
  have b1 : P1 ≤ 36000000 * 36 := by rw [← hP1]; exact Nat.mul_le_mul (by omega) hB36
  have b2 : P2 ≤ 36 * 36000000 := by rw [← hP2]; exact Nat.mul_le_mul (by omega) y2
  have b3 : P3 ≤ 36000000 * 36000000 := by rw [← hP3]; exact Nat.mul_le_mul (by omega) y2
  have i4 : ((P1 : Int) - (P2 : Int)) * (v : Int) = (P3 : Int) := by rw [← i1, ← i2, ← i3]; exact HEQ
  have HX := Lib.hid (And.intro b1 (And.intro b2 (And.intro b3 (And.intro y2 (And.intro v2 (And.intro i1 (And.intro i2 (And.intro i3 i4))))))))
  clear HEQ hP1 hP2 hP3 hd hq e1 e2 hh hBe b1 b2 b3 y2 v2 i1 i2 i3 i4 hn
  go_wp2_with fail
  refine (R1.out _).mono ?_
  rintro e w3 ⟨rfl, hb3⟩
  have A1 := D2.new w3 (.int .i64 x) (.int .i64 y) 27
  have C1 : Below w3.heap.size w3 (w3.alloc (.cells #[.int .i64 x, .int .i64 y] 27)) := (Below.refl _ _).alloc (Nat.le_refl _) _
  have B3 := (B2.trans (hb3.mono B2.size)).trans (C1.mono (Nat.le_trans B2.size hb3.size))
  clear B2 hb3 C1
  go_wp2_with fail
  generalize w3.alloc (.cells #[.int .i64 x, .int .i64 y] 27) = w4 at A1 B3 ⊢
  refine (R2.out _).mono ?_
  rintro e w5 ⟨rfl, hb5⟩
  have A2 := D2.new w5 (.int .i64 u) (.int .i64 v) 27
  have C1 : Below w5.heap.size w5 (w5.alloc (.cells #[.int .i64 u, .int .i64 v] 27)) := (Below.refl _ _).alloc (Nat.le_refl _) _
  replace A1 := (A1.far hb5).far C1
  have B5 := (B3.trans (hb5.mono B3.size)).trans (C1.mono (Nat.le_trans B3.size hb5.size))
  clear B3 hb5 C1
  obtain ⟨w6, hw6⟩ : ∃ w6, w5.alloc (.cells #[.int .i64 u, .int .i64 v] 27) = w6 := ⟨_, rfl⟩
  rw [hw6] at A1 A2 B5
  have C2 : Below w6.heap.size w6 (w6.alloc (.cells #[.int .i64 (B : Int), .int .i64 2] 2)) := (Below.refl _ _).alloc (Nat.le_refl _) _
  have D := D2.new w6 (.int .i64 (B : Int)) (.int .i64 2) 2
  have hro : RO (w6.alloc (.cells #[.int .i64 (B : Int), .int .i64 2] 2)).heap.size (w6.alloc (.cells #[.int .i64 (B : Int), .int .i64 2] 2)) (some ⟨w6.heap.size, 0, none⟩) [(B : Int), 2] := fun i c hc => by
    have hi : i = 0 ∨ i = 1 := by
      have := (List.getElem?_eq_some_iff.1 hc).1
      simp at this
      omega
    refine ⟨w6.heap.size, 0, rfl, by simp, ?_⟩
    rcases hi with rfl | rfl <;> simp at hc <;> subst hc
    · exact D.1.1
    · exact D.1.2
  have HRO := Lib.hid hro
  replace A1 := A1.far C2
  replace A2 := A2.far C2
  have B6 := B5.trans (C2.mono B5.size)
  clear B5 C2 D hro
  go_wp2_with fail
  generalize w6.alloc (.cells #[.int .i64 (B : Int), .int .i64 2] 2) = w7 at A1 A2 B6 HRO ⊢
  refine (hal_yes (n : Int) _ 2 2 [(B : Int), 2] w7 HRO.out rfl HHP.out).mono ?_
  rintro e w8 ⟨vv, rfl, hfs, hb8⟩
  rw [HL.out] at hfs
  replace A1 := A1.far hb8
  replace A2 := A2.far hb8
  have B8 := B6.trans (hb8.mono B6.size)
  have hf : ∃ g cap, vv = .slice (some ⟨g, 0, none⟩) 2 cap ∧ g < w8.heap.size ∧ (w8.cell? ⟨g, 0, none⟩ = some (.int .i64 x) ∧ w8.cell? ⟨g, 1, none⟩ = some (.int .i64 y)) ∧ w8.cell? ⟨g, 2, none⟩ = some (.int .i64 h1) ∧ w8.cell? ⟨g, 3, none⟩ = some (.int .i64 h2) := by
    rcases hfs with ⟨_, h⟩ | ⟨g, cap, hv, _, _, hg, hr⟩
    · cases h
    · obtain ⟨x0, y0, c0, c1, c2⟩ := hr.1 0 (by simp)
      obtain ⟨x3, y3, c3, c4, c5⟩ := hr.1 1 (by simp)
      have k1 := c2 (by simp)
      have k2 := c5 (by simp)
      simp at k1 k2
      obtain ⟨rfl, rfl⟩ := k1
      obtain ⟨rfl, rfl⟩ := k2
      exact ⟨g, cap, hv, hg, ⟨c0, c1⟩, c3, c4⟩
  clear hfs hb8 B6 HRO HHP HL
  obtain ⟨g, cap, rfl, hg, ⟨c0, c1⟩, c2, c3⟩ := hf
  have HC := Lib.hid (And.intro (And.intro c0 c1) (And.intro c2 c3))
  clear c0 c1 c2 c3
  go_wp2_with fail
  refine (R3.out _).mono ?_
  rintro e w9 ⟨rfl, hb9⟩
  have A3 := D2.new w9 (.int .i64 h1) (.int .i64 h2) 27
  have C1 : Below w9.heap.size w9 (w9.alloc (.cells #[.int .i64 h1, .int .i64 h2] 27)) := (Below.refl _ _).alloc (Nat.le_refl _) _
  have hbb : Below w8.heap.size w8 (w9.alloc (.cells #[.int .i64 h1, .int .i64 h2] 27)) := hb9.trans (C1.mono hb9.size)
  replace A1 := A1.far hbb
  replace A2 := A2.far hbb
  have B9 := B8.trans (hbb.mono B8.size)
  obtain ⟨⟨c0, c1⟩, c2, c3⟩ := HC.out
  replace c0 := (hbb.cell (p := ⟨g, 0, none⟩) hg).trans c0
  replace c1 := (hbb.cell (p := ⟨g, 1, none⟩) hg).trans c1
  replace c2 := (hbb.cell (p := ⟨g, 2, none⟩) hg).trans c2
  replace c3 := (hbb.cell (p := ⟨g, 3, none⟩) hg).trans c3
  clear hb9 C1 hbb B8 HC
  go_upto_region 9 with fail
  generalize w9.alloc (.cells #[.int .i64 h1, .int .i64 h2] 27) = w10 at A1 A2 A3 B9 c0 c1 c2 c3 ⊢
  obtain ⟨⟨a0, a1⟩, _⟩ := A1
  obtain ⟨⟨a2, a3⟩, _⟩ := A2
  obtain ⟨⟨a4, a5⟩, _⟩ := A3
  have HB9 := Lib.hid B9
  have t1 : ¬ (y : Int) < 1 := by omega
  have t2 : ¬ (v : Int) < 1 := by omega
  have t3 : ¬ (x : Int) < 0 := by omega
  have t4 : ¬ (y : Int) ≤ (x : Int) := by omega
  clear B9
  go_wp2
  go_quiet (fail)
  clear t1 t2 t3 t4
  obtain ⟨b1, b2, b3, y2, v2, i1, i2, i3, i4⟩ := HX.out
  clear HX R1 R2 R3 HA HB
  go_wp2
  go_quiet (fail)
  go_wp2
  go_ret
  exact ⟨rfl, below_drewN (below_drewN HB9.out _) _⟩
end Go.Proofs.Ytmnnpkmjamhmcab
