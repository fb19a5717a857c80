/- The law of a coin's chance: the walk of the law. -/
import Derived.Test.YtamedggnkbhgeaaCoinW
namespace Go.Proofs.Ytamedggnkbhgeaa
open Go.RowKit Go.PlainAid
set_option maxHeartbeats 2000000
set_option maxRecDepth 20000

theorem sumF_in {g : Nat → Int} (h : ∀ x, 0 ≤ g x ∧ g x ≤ 1) : ∀ n : Nat, 0 ≤ sumF g n ∧ sumF g n ≤ n := by
  intro n
  induction n with
  | zero => simp [sumF]
  | succ n ih => have := h n; simp only [sumF]; omega
theorem isV_in (c v : Int) : 0 ≤ isV c v ∧ isV c v ≤ 1 := by
  unfold isV
  split <;> omega
theorem coin_next {Q P n x : Nat} {fc u x2 u2 : Int} {ok ok2 : Bool} (h : CoinP Q P n x fc u ok x2 u2 ok2) :
    (ok = false ∧ sumF (cF Q n P) (x + 1) = sumF (cF Q n P) x ∧ sumF (cO Q n P) (x + 1) = sumF (cO Q n P) x + 1) ∨
    (ok = true ∧ 0 ≤ fc ∧ fc ≤ 1 ∧ 1 ≤ u ∧ u ≤ n ∧ ok2 = true ∧ x2 = fc ∧ u2 = u ∧ sumF (cF Q n P) (x + 1) = sumF (cF Q n P) x + fc ∧ sumF (cO Q n P) (x + 1) = sumF (cO Q n P) x) := by
  simp only [sumF, cF, cO]
  rcases h with ⟨h1, h2, _, _⟩ | ⟨h1, h2, h3, h4, h5, h6, h7, h8⟩
  · refine .inl ⟨h1, ?_, ?_⟩
    · rw [h2, show isV 1 (-1) = 0 by decide]; omega
    · rw [h2, show isV (-1) (-1) = 1 by decide]
  · refine .inr ⟨h1, by omega, by omega, h4, h5, h6, h7, h8, ?_, ?_⟩
    · rw [h2]
      rcases h3 with rfl | rfl
      · rw [show isV 1 0 = 0 by decide]
      · rw [show isV 1 1 = 1 by decide]
    · rw [h2]
      rcases h3 with rfl | rfl
      · rw [show isV (-1) 0 = 0 by decide]; omega
      · rw [show isV (-1) 1 = 0 by decide]; omega
theorem pow_n8 {n N : Nat} (h : n ≤ 8) (hN : 2 ^ n = N) : N ≤ 256 ∧ wrap64 ((2 : Int) ^ n) = (N : Int) := by
  have h1 : 2 ^ n ≤ 2 ^ 8 := Nat.pow_le_pow_right (by omega) h
  have e : ((2 ^ n : Nat) : Int) = (2 : Int) ^ n := by simp
  rw [hN] at h1 e
  refine ⟨by omega, ?_⟩
  rw [← e]
  exact IntWalk.wrap64_in _ (by omega)
theorem tail_pack {Hh : Int} {P Q N : Nat} (h0 : 0 ≤ Hh) (h1 : Hh ≤ N) (hN : N ≤ 256) (hQ : Q ≤ 40) (g2 : Hh * Q ≤ P * N) (g3 : (P : Int) * N ≤ (Hh + 1) * Q) : ∃ a c d : Int, Hh * Q = a ∧ (P : Int) * N = c ∧ (Hh + 1) * Q = d ∧ (0 ≤ a ∧ a ≤ c ∧ c ≤ d ∧ d ≤ 10280) := by
  refine ⟨_, _, _, rfl, rfl, rfl, Int.mul_nonneg h0 (by omega), g2, g3, ?_⟩
  have h : (Hh + 1) * (Q : Int) ≤ 257 * (Q : Int) := Int.mul_le_mul_of_nonneg_right (by omega) (by omega)
  omega
theorem cost_pack {n d : Int} {P Q : Nat} (h0 : 0 ≤ n) (h1 : n ≤ 100000) (hd0 : 0 < d) (hd : d ≤ 100000) (hQ : Q ≤ 40) (hPQ : P < Q) (he : n * P * ((Q : Int) - P) = d * Q * Q) : ∃ e1 e2 e3 : Int, n * P = e1 ∧ e1 * ((Q : Int) - P) = e2 ∧ d * Q = e3 ∧ e3 * Q = e2 ∧ (0 ≤ e1 ∧ e1 ≤ 4000000 ∧ 0 ≤ e2 ∧ e2 ≤ 160000000 ∧ 0 ≤ e3 ∧ e3 ≤ 4000000) := by
  have a1 : n * (P : Int) ≤ 100000 * (P : Int) := Int.mul_le_mul_of_nonneg_right h1 (by omega)
  have a2 : d * (Q : Int) ≤ 100000 * (Q : Int) := Int.mul_le_mul_of_nonneg_right hd (by omega)
  have a3 : 0 ≤ n * (P : Int) := Int.mul_nonneg h0 (by omega)
  have a4 : 0 ≤ d * (Q : Int) := Int.mul_nonneg (by omega) (by omega)
  have a5 : d * (Q : Int) * Q ≤ d * (Q : Int) * 40 := Int.mul_le_mul_of_nonneg_left (by omega) a4
  have a6 : 0 ≤ d * (Q : Int) * Q := Int.mul_nonneg a4 (by omega)
  exact ⟨_, _, _, rfl, he, rfl, rfl, by omega, by omega, by omega, by omega, by omega, by omega⟩
theorem lawCC (a0 : Option Addr) (len0 cap0 : Nat) (a1 : Option Addr) (len1 cap1 : Nat) (w : World) (C0 : Code w w.heap.size a0 len0) (C1 : Code w w.heap.size a1 len1) (l0 : len0 ≤ 9223372036854775807) (l1 : len1 ≤ 9223372036854775807) :
    Calls Try.prog 5 #[.slice a0 len0 cap0, .slice a1 len1 cap1] w fun e w' => e = .returned (.bool true) ∧ Below w.heap.size w w' := by
  by_cases hl : len0 ≤ 48 ∧ len1 ≤ 48
  · obtain ⟨h0, h1⟩ := hl
    have HC0 := Lib.hid C0
    have HC1 := Lib.hid C1
    clear C0 C1
    go_enter Try.func5, Try.ntmps5
    go_wp2_with fail
    refine (r8Long_no _ _ _ _ _ _ _ h0 h1).mono ?_
    rintro e w0 ⟨rfl, rfl⟩
    go_wp2_with fail
    refine (r8At_any a0 len0 cap0 0 40 w.heap.size w HC0.out (by omega) (by omega) (by omega) (by omega)).mono ?_
    rintro e w1 ⟨v, rfl, hv, m1, rfl⟩
    obtain ⟨den, hden⟩ : ∃ den : Nat, den = 1 + v := ⟨_, rfl⟩
    have hd1 : 1 ≤ den := by omega
    have hd2 : den ≤ 40 := by omega
    have hde : (1 : Int) + (v : Int) = (den : Nat) := by omega
    clear hv hden
    go_wp2_with fail
    refine (r8At_any a0 len0 cap0 1 (den + 1) w.heap.size _ (HC0.out.drewN m1) (by omega) (by omega) (by omega) (by omega)).mono ?_
    rintro e w2 ⟨num, rfl, hnum, m2, rfl⟩
    have hnd : num ≤ den := by omega
    clear hnum
    obtain ⟨k1, k2, k3, k4, k5, k6, k7⟩ := pack_of hd1 hd2 hnd
    have HMk : Hid (∀ W : World, Calls Try.prog 22 #[.int .i64 num, .int .i64 den] W fun e w' => e = .returned (.tuple #[.agg #[.int .i64 (mkN num den), .int .i64 (mkD num den)], .bool true]) ∧ Below W.heap.size W w') := fun W => make_yes _ _ W (by omega) (by omega) (by omega) (by omega) (by omega)
    obtain ⟨P, hP⟩ := Int.eq_ofNat_of_zero_le k1
    obtain ⟨Q, hQ⟩ := Int.eq_ofNat_of_zero_le (a := mkD num den) (by omega)
    rw [hP, hQ] at HMk k2 k5 k7
    rw [hP] at k6
    rw [hQ] at k3 k4
    have HVF : Hid (VF P Q) := ⟨by omega, by omega, by omega, by omega, k5⟩
    have hPQ : P ≤ Q := by omega
    have hQ1 : 1 ≤ Q := by omega
    have hQ4 : Q ≤ 40 := by omega
    have HPN : Hid ((0 < P ↔ 0 < num) ∧ (P < Q ↔ num < den)) := ⟨by omega, by omega⟩
    have B0 : Below w.heap.size w (w.drewN (m1 + m2)) := below_drewN (Below.refl w.heap.size w) (m1 + m2)
    clear k1 k2 k3 k4 k5 k6 k7 hP hQ
    go_wp2_with fail
    refine (HMk.out _).mono ?_
    rintro e w3 ⟨rfl, hb3⟩
    have B := B0.trans (hb3.mono B0.size)
    have A0 := D2.new w3 (.int .i64 P) (.int .i64 Q) 37
    replace B := B.alloc B.size (.cells #[.int .i64 P, .int .i64 Q] 37)
    have hz3 : w.heap.size ≤ w3.heap.size := by have := B0.size; have := hb3.size; omega
    have HC1' := Lib.hid (HC1.out.below B)
    clear hb3 HMk B0
    go_wp2_with fail
    refine (r8At_any a1 len1 cap1 0 9 w.heap.size _ HC1'.out (by omega) (by omega) (by omega) (by omega)).mono ?_
    rintro e w4 ⟨n, rfl, hn, m4, rfl⟩
    have hn8 : n ≤ 8 := by omega
    have HA := Lib.hid (A0.drewN m4)
    have HB := Lib.hid (below_drewN B m4)
    clear hn A0 B HC1'
    obtain ⟨b, hb⟩ : ∃ b, w3.heap.size = b := ⟨_, rfl⟩
    rw [hb] at HA
    have hbz : w.heap.size ≤ b := by omega
    obtain ⟨N, hN⟩ : ∃ N, 2 ^ n = N := ⟨_, rfl⟩
    obtain ⟨hN256, hpw⟩ := pow_n8 hn8 hN
    obtain ⟨g1, g2, g3⟩ := coin_sum (Q : Int) n (P : Int) (by omega) (by omega)
    rw [hN] at g1 g2 g3
    have HG := Lib.hid (And.intro g1 (And.intro g2 g3))
    have HFi : Hid (∀ x : Nat, 0 ≤ sumF (cF Q n P) x ∧ sumF (cF Q n P) x ≤ x) := sumF_in fun x => isV_in _ _
    have HOi : Hid (∀ x : Nat, 0 ≤ sumF (cO Q n P) x ∧ sumF (cO Q n P) x ≤ x) := sumF_in fun x => isV_in _ _
    have HPW := Lib.hid hpw
    clear g1 g2 g3 hN hpw
    go_wp2_with fail
    go_loopw [10, 11, 12] (fun hv ov xv wr => ∃ x : Nat, x ≤ N ∧ xv = .int .i64 x ∧ hv = .int .i64 (sumF (cF Q n P) x) ∧ ov = .int .i64 (sumF (cO Q n P) x) ∧ Hid (D2 wr b (.int .i64 P) (.int .i64 Q)) ∧ Hid (Below w.heap.size w wr)) (fun _ _ xv _ => N - (intOf xv).toNat)
    case atStart => exact ⟨0, Nat.zero_le _, rfl, rfl, rfl, HA, HB⟩
    case round =>
      obtain ⟨x, hx, rfl, rfl, rfl, HA2, HB2⟩ := hrel
      clear HA HB
      obtain ⟨f0, f1⟩ := HFi.out x
      obtain ⟨o0, o1⟩ := HOi.out x
      by_cases hlt : x < N
      · obtain ⟨fc, u, ok, x2, u2, ok2, hcp, hC1, hC2⟩ := coin_pack P Q n x HVF.out hPQ hn8
        have hnx := coin_next hcp
        have HT : Hid (∀ W : World, Calls Try.prog 16 #[.int .i64 x, .int .i64 n] W fun e w' => e = .returned (.string (strOfNums (low (x : Int) n))) ∧ Below W.heap.size W w') := fun W => r8Text_any x n W (by omega) (by omega) (by omega)
        have hsz : (strOfNums (low (x : Int) n)).size = n := by rw [strOfNums_size, low_length]
        obtain ⟨s, hs⟩ : ∃ s, strOfNums (low (x : Int) n) = s := ⟨_, rfl⟩
        rw [hs] at hC1 hC2 HT hsz
        have hsm : s.size ≤ 8 := by omega
        have HC1 := Lib.hid hC1
        have HC2 := Lib.hid hC2
        have HNX := Lib.hid hnx
        obtain ⟨Hh, hH⟩ : ∃ Hh, sumF (cF Q n P) x = Hh := ⟨_, rfl⟩
        obtain ⟨Oo, hO⟩ : ∃ Oo, sumF (cO Q n P) x = Oo := ⟨_, rfl⟩
        rw [hH, hO] at HNX
        rw [hH] at f0 f1 ⊢
        rw [hO] at o0 o1 ⊢
        clear hcp hC1 hC2 hnx hs hH hO hsz
        have hpw := HPW.out
        go_wp2_with fail
        refine (HT.out _).mono ?_
        rintro e w5 ⟨rfl, hb5⟩
        clear hpw
        have HA5 := Lib.hid (HA2.out.far hb5)
        have HB5 := Lib.hid (HB2.out.trans (hb5.mono HB2.out.size))
        obtain ⟨⟨c0, c1⟩, _, _⟩ := HA5.out
        clear hb5
        go_wp2_with fail
        refine (HC1.out _).mono ?_
        rintro e w6 ⟨rfl, hb6⟩
        have HA6 := Lib.hid (HA5.out.far hb6)
        have HB6 := Lib.hid (HB5.out.trans (hb6.mono HB5.out.size))
        clear c0 c1 hb6
        obtain ⟨⟨c0, c1⟩, _, _⟩ := HA6.out
        go_wp2_with fail
        refine (HC2.out _).mono ?_
        rintro e w7 ⟨rfl, hb7⟩
        have HA7 := Lib.hid (HA6.out.far hb7)
        have HB7 := Lib.hid (HB6.out.trans (hb7.mono HB6.out.size))
        clear c0 c1 hb7
        rcases HNX.out with ⟨rfl, e1, e2⟩ | ⟨rfl, q0, q1, q2, q3, rfl, rfl, rfl, e1, e2⟩
        · have HE := Lib.hid (And.intro e1 e2)
          clear e1 e2 HNX
          go_wp2
          go_roundw
          case rel => exact ⟨x + 1, by omega, by go_num, by rw [HE.out.1], by rw [HE.out.2], HA7, HB7⟩
          case measure => simp [intOf]; omega
        · have HE := Lib.hid (And.intro e1 e2)
          have t1 : (x2 != x2) = false := by simp
          have t2 : (u2 != u2) = false := by simp
          clear e1 e2 HNX
          go_wp2
          go_roundw
          case rel => exact ⟨x + 1, by omega, by go_num, by rw [HE.out.1], by rw [HE.out.2], HA7, HB7⟩
          case measure => simp [intOf]; omega
      · obtain rfl : x = N := by omega
        obtain ⟨g1, g2, g3⟩ := HG.out
        obtain ⟨ct, dt, okt, hok, hcf, hct⟩ := pcost_any P Q HVF.out hQ4
        have HOK := Lib.hid hok
        have HCF := Lib.hid hcf
        have HCT : Hid (∀ W : World, Calls Try.prog 24 #[.agg #[.int .i64 P, .int .i64 Q]] W fun e w' => e = .returned (.tuple #[.agg #[.int .i64 ct, .int .i64 dt], .bool okt]) ∧ Below W.heap.size W w') := hct
        rw [g1]
        obtain ⟨Hh, hH⟩ : ∃ Hh, sumF (cF Q n P) x = Hh := ⟨_, rfl⟩
        rw [hH] at f0 f1 g2 g3 ⊢
        obtain ⟨a, c, d, p1, p2, p3, p4⟩ := tail_pack f0 f1 hN256 hQ4 g2 g3
        have HA8 := Lib.hid HA2.out
        obtain ⟨⟨c0, c1⟩, _, _⟩ := HA2.out
        have wa : wrap64 a = a := IntWalk.wrap64_in _ (by omega)
        have wc : wrap64 c = c := IntWalk.wrap64_in _ (by omega)
        have wd : wrap64 d = d := IntWalk.wrap64_in _ (by omega)
        have wh : wrap64 (Hh + 1) = Hh + 1 := IntWalk.wrap64_in _ (by omega)
        have da : decide (c < a) = false := decide_eq_false (by omega)
        have db : decide (d < c) = false := decide_eq_false (by omega)
        have HQ4 := Lib.hid hQ4
        have HN8 := Lib.hid hn8
        have HPQ2 := Lib.hid hPQ
        clear hok hcf hct g1 g2 g3 hH o0 o1 p4 f0 f1 hQ4 hN256 hd1 hd2 hnd hQ1 hPQ hlt hx
        have hpw := HPW.out
        have hn60 : n ≤ 60 := by have := HN8.out; clear hpw wa wc wd wh; omega
        clear hn8
        go_wp2_with fail
        refine (HCT.out _).mono ?_
        rintro e w9 ⟨rfl, hb9⟩
        clear hpw wa wc wd wh da db p1 p2 p3 c0 c1
        have HA9 := Lib.hid ((HA8.out.far hb9).alloc (.cells #[.int .i64 ct, .int .i64 dt] 37))
        have HA10 := Lib.hid (D2.new w9 (.int .i64 ct) (.int .i64 dt) 37)
        have HB9 := Lib.hid (HB2.out.trans (hb9.mono HB2.out.size))
        have HB10 := Lib.hid (HB9.out.alloc HB9.out.size (.cells #[.int .i64 ct, .int .i64 dt] 37))
        obtain ⟨⟨c0, c1⟩, _, _⟩ := HA9.out
        obtain ⟨⟨d0, d1⟩, _, _⟩ := HA10.out
        clear hb9 HG HFi HOi HPW
        cases okt with
        | false =>
          have hno : ¬ (0 < num ∧ num < den) := fun h => by
            have := HOK.out.2 ⟨HPN.out.1.2 h.1, HPN.out.2.2 h.2⟩
            cases this
          by_cases hn0 : 0 < num
          · have hn1 : ¬ num < den := fun h => hno ⟨hn0, h⟩
            clear hno
            go_wp2
            go_ret
            exact ⟨rfl, HB10.out⟩
          · clear hno
            go_wp2
            go_ret
            exact ⟨rfl, HB10.out⟩
        | true =>
          obtain ⟨hp0, hp1⟩ := HOK.out.1 rfl
          have hn0 := HPN.out.1.1 hp0
          have hn1 := HPN.out.2.1 hp1
          obtain ⟨r1, r2, r3, r4, r5⟩ := HCF.out rfl
          obtain ⟨e1, e2, e3, t1, t2, t3, t4, t5⟩ := cost_pack r3 r4 r1 r2 HQ4.out hp1 r5
          have hq40 := HQ4.out
          clear r5
          go_wp2
          go_ret
          exact ⟨rfl, HB10.out⟩
  · go_enter Try.func5, Try.ntmps5
    go_wp2_with fail
    refine (r8Long_yes _ _ _ _ _ _ _ l0 l1 hl).mono ?_
    rintro e w0 ⟨rfl, rfl⟩
    go_wp2
    go_ret
    exact ⟨rfl, Below.refl _ _⟩
end Go.Proofs.Ytamedggnkbhgeaa
