/- LawC, Dst, DstM, DstS, DstD, DstL in one text (tools/merge.py). -/
import Derived.Test.YtmnnpkmjamhmcabNuX
import Derived.Test.YtmnnpkmjamhmcabDiv64
import Derived.Test.YtmnnpkmjamhmcabAddFr
import Derived.Test.YtmnnpkmjamhmcabWdZ
import Derived.Test.YtmnnpkmjamhmcabLawJ
namespace Go.Proofs.Ytmnnpkmjamhmcab
open Go.RowKit Go.PlainAid
set_option maxHeartbeats 1600000
set_option maxRecDepth 20000

theorem b64 (k : Nat) : 18446744073709551616 ^ k = 2 ^ (64 * k) := by
  have e : (18446744073709551616 : Nat) = 2 ^ 64 := by decide
  rw [e, ← Nat.pow_mul]
theorem nlen_any (a : Option Addr) (l c N : Nat) (w : World) (h : Na .u64 18446744073709551616 w a l c N) (hl : l ≤ 1000000) :
    Calls Try.prog 225 #[.slice a l c] w fun e w' => ∃ b : Nat, e = .returned (.int .i64 b) ∧ w = w' ∧ N < 2 ^ b ∧ (b = 0 ∨ 2 ^ (b - 1) ≤ N) ∧ b ≤ 64 * l := by
  rcases l with _ | l
  · have hN : N < 18446744073709551616 ^ 0 := h.2.1.1
    rw [Nat.pow_zero] at hN
    have HN := Lib.hid hN
    clear h hN
    go_enter Try.func225, Try.ntmps225
    go_wp2
    go_ret
    exact ⟨0, rfl, rfl, HN.out, .inl rfl, Nat.le_refl _⟩
  · obtain ⟨g, rfl, hg, hc⟩ := h.2.2 l (by omega)
    have h1 := h.2.1.1
    have ht := dig_top h1
    have h2 := h.2.1.2.resolve_left (by omega)
    rw [Nat.add_sub_cancel] at h2
    have hp : 0 < 18446744073709551616 ^ l := Nat.pow_pos (by omega)
    obtain ⟨t, hd⟩ : ∃ t, dig 18446744073709551616 N l = t := ⟨_, rfl⟩
    have ht1 : t < 18446744073709551616 := by rw [← hd]; exact dig_lt (by omega) _ _
    rw [hd] at hc ht
    have ht0 : 0 < t := by rw [ht]; exact Nat.div_pos h2 hp
    obtain ⟨b, hb⟩ : ∃ b, Pl.len t = b := ⟨_, rfl⟩
    have hb1 : 1 ≤ b := by rw [← hb]; exact Pl.len_pos ht0
    have hb2 : b ≤ 64 := by rw [← hb]; exact Pl.len_of_lt 64 t (by omega)
    have hb3 : 2 ^ (b - 1) ≤ t := by rw [← hb]; exact Pl.len_ge t ht0
    have hb4 : t < 2 ^ b := by rw [← hb]; exact Pl.lt_len t
    have HR : Hid (N < 2 ^ (64 * l + b) ∧ 2 ^ (64 * l + b - 1) ≤ N) := by
      rw [b64] at ht hp
      have e1 := Nat.div_add_mod N (2 ^ (64 * l))
      have e2 := Nat.mod_lt N hp
      rw [← ht] at e1
      rw [show 64 * l + b - 1 = 64 * l + (b - 1) by omega]
      unfold Hid
      rw [Nat.pow_add, Nat.pow_add]
      have e3 : 2 ^ (64 * l) * (t + 1) ≤ 2 ^ (64 * l) * 2 ^ b := Nat.mul_le_mul_left _ hb4
      have e4 : 2 ^ (64 * l) * 2 ^ (b - 1) ≤ 2 ^ (64 * l) * t := Nat.mul_le_mul_left _ hb3
      rw [Nat.mul_add, Nat.mul_one] at e3
      omega
    have HLd := Lib.hid (fun W => lead_any t b W ht1 hb hb2)
    have hkk : ((l : Int) + 1) - 1 = l := by omega
    clear h h1 h2 ht hd hb hb3 hb4 hp
    go_enter Try.func225, Try.ntmps225
    go_wp2_with fail
    refine (HLd.out _).mono ?_
    rintro e w1 ⟨rfl, rfl⟩
    have hval : 64 * ((l : Int) + 1) - ((64 - b : Nat) : Int) = ((64 * l + b : Nat) : Int) := by omega
    go_wp2
    go_ret
    exact ⟨64 * l + b, by rw [show ((64 * l + b : Nat) : Int) = 64 * (l : Int) + b by push_cast; rfl]; rfl, rfl, HR.out.1, .inr HR.out.2, by omega⟩
theorem or_bit {q i : Nat} (h : q % 2 ^ (i + 1) = 0) (hq : q < 2 ^ 61) (hi : i ≤ 60) : bits .or .i64 (q : Int) ((2 ^ i : Nat) : Int) = ((q + 2 ^ i : Nat) : Int) := by
  have h2 : 2 ^ i ≤ 2 ^ 60 := Nat.pow_le_pow_right (by omega) hi
  have e1 : q ||| 2 ^ i = q + 2 ^ i := by
    have e := Nat.div_add_mod q (2 ^ (i + 1))
    rw [h, Nat.add_zero] at e
    rw [← e]
    exact (Nat.two_pow_add_eq_or_of_lt (Nat.pow_lt_pow_right (by omega) (by omega)) _).symm
  have h3 : q + 2 ^ i < 9223372036854775808 := by omega
  show IntKind.i64.wrap ((BitVec.ofInt 64 (q : Int) ||| BitVec.ofInt 64 ((2 ^ i : Nat) : Int)).toNat : Int) = _
  rw [BitVec.toNat_or, BitVec.ofInt_natCast, BitVec.ofInt_natCast, BitVec.toNat_ofNat, BitVec.toNat_ofNat, Nat.mod_eq_of_lt (by omega), Nat.mod_eq_of_lt (by omega), e1, IntKind.wrap_i64]
  omega
theorem dlong_any (a b : Option Addr) (l c m d N D : Nat) (w : World) (h1 : Na .u64 18446744073709551616 w a l c N) (h2 : Na .u64 18446744073709551616 w b m d D) (hl : l ≤ 900000) (hm : m ≤ 900000) (hD : 0 < D) :
    Calls Try.prog 197 #[.slice a l c, .slice b m d] w fun e w' =>
      ((e = .returned (.tuple #[.int .i64 0, .slice none 0 0, .bool false]) ∧ 2 ^ 60 * D ≤ N) ∨ ∃ a1 l1 c1, e = .returned (.tuple #[.int .i64 (N / D : Nat), .slice a1 l1 c1, .bool true]) ∧ N / D < 2 ^ 61 ∧ Na .u64 18446744073709551616 w' a1 l1 c1 (N % D)) ∧ Below w.heap.size w w' := by
  have H1 := Lib.hid h1
  have H2 := Lib.hid h2
  clear h1 h2
  go_enter Try.func197, Try.ntmps197
  go_wp2_with fail
  refine (nlen_any a l c N _ H1.out (by omega)).mono ?_
  rintro e w1 ⟨p, rfl, rfl, hp1, hp2, hp3⟩
  go_wp2_with fail
  refine (nlen_any b m d D _ H2.out (by omega)).mono ?_
  rintro e w1 ⟨q, rfl, rfl, hq1, hq2, hq3⟩
  have hq0 : 0 < q := by
    rcases Nat.eq_zero_or_pos q with h | h
    · subst h
      rw [Nat.pow_zero] at hq1
      omega
    · exact h
  have HP1 := Lib.hid hp1
  have HP2 := Lib.hid hp2
  have HQ1 := Lib.hid hq1
  have HQ2 := Lib.hid (hq2.resolve_left (by omega))
  clear hp1 hp2 hq1 hq2
  by_cases hs : 60 < (p : Int) - q
  · have HN : Hid (2 ^ 60 * D ≤ N) := by
      have e1 := HP2.out.resolve_left (by omega)
      have e2 : 2 ^ (60 + q) ≤ 2 ^ (p - 1) := Nat.pow_le_pow_right (by omega) (by omega)
      rw [Nat.pow_add] at e2
      have e3 : 2 ^ 60 * D ≤ 2 ^ 60 * 2 ^ q := Nat.mul_le_mul_left _ (Nat.le_of_lt HQ1.out)
      unfold Hid
      omega
    clear HP1 HP2 HQ1 HQ2
    go_wp2
    refine bodyPost_ret (v := .tuple #[.int .i64 0, .slice none 0 0, .bool false]) (by simp [results, Try.results197, go_sem]) rfl ⟨.inl ⟨rfl, HN.out⟩, Below.refl _ _⟩
  · obtain ⟨i0, hi0⟩ : ∃ i0 : Nat, (p : Int) - q = (i0 : Int) - 1 ∨ ((p : Int) - q < 0 ∧ i0 = 0) := by
      by_cases h : (p : Int) - q < 0
      · exact ⟨0, .inr ⟨h, rfl⟩⟩
      · exact ⟨((p : Int) - q + 1).toNat, .inl (by omega)⟩
    have HB0 : Hid (N < D * 2 ^ i0) := by
      have e1 := HQ2.out
      have e2 : 2 ^ (q - 1) * 2 ^ i0 ≤ D * 2 ^ i0 := Nat.mul_le_mul_right _ e1
      rw [← Nat.pow_add] at e2
      have e3 : 2 ^ p ≤ 2 ^ (q - 1 + i0) := Nat.pow_le_pow_right (by omega) (by omega)
      have := HP1.out
      unfold Hid
      omega
    have hi61 : i0 ≤ 61 := by omega
    have HQD : Hid (N / D < 2 ^ 61) := by
      unfold Hid
      rw [Nat.div_lt_iff_lt_mul hD]
      have e3 : D * 2 ^ i0 ≤ D * 2 ^ 61 := Nat.mul_le_mul_left _ (Nat.pow_le_pow_right (by omega) hi61)
      have := HB0.out
      rw [Nat.mul_comm (2 ^ 61)]
      omega
    clear HP1 HP2 HQ1 HQ2
    go_wp2
    go_loopw [0, 7, 8] (fun nv sv qv wr => ∃ (i Q R : Nat) (a1 : Option Addr) (l1 c1 : Nat), i ≤ 61 ∧ nv = .slice a1 l1 c1 ∧ (∃ z : Int, sv = .int .i64 z ∧ (z = (i : Int) - 1 ∨ (z < 0 ∧ i = 0)) ∧ -100000000 ≤ z) ∧ qv = .int .i64 Q ∧ Hid (N = Q * D + R) ∧ Hid (R < D * 2 ^ i) ∧ Hid (Q % 2 ^ i = 0) ∧ Hid (Na .u64 18446744073709551616 wr a1 l1 c1 R) ∧ Hid (Below w.heap.size w wr)) (fun _ sv _ _ => (intOf sv + 1).toNat)
    case atStart => exact ⟨i0, 0, N, a, l, c, hi61, rfl, ⟨_, rfl, hi0, by omega⟩, rfl, by unfold Hid; omega, HB0, Nat.zero_mod _, H1, Below.refl _ _⟩
    case round =>
      obtain ⟨i, Q, R, a1, l1, c1, hi, rfl, ⟨z, rfl, hz, hzb⟩, rfl, HE, HR, HM, HN, HB⟩ := hrel
      rcases i with _ | i
      · have hz0 : ¬ 0 ≤ z := by omega
        have hRD : R < D := by
          have := HR.out
          rwa [Nat.pow_zero, Nat.mul_one] at this
        have hQ : Hid (Q = N / D ∧ R = N % D) := by
          have e : N / 2 ^ 0 = Q * D + R := by rw [Nat.pow_zero, Nat.div_one]; exact HE.out
          exact split_end e hRD
        rw [hQ.out.2] at HN
        clear HE HR HM
        go_wp2
        refine bodyPost_ret (v := .tuple #[.int .i64 Q, .slice a1 l1 c1, .bool true]) (by simp [results, Try.results197, go_sem]) rfl ⟨.inr ⟨a1, l1, c1, by rw [hQ.out.1]; push_cast; rfl, HQD.out, HN.out⟩, HB.out⟩
      · obtain rfl : z = i := by omega
        have hz0 : (0 : Int) ≤ i := by omega
        have hQ61 : Q < 2 ^ 61 := by
          have e1 : Q ≤ N / D := by
            rw [Nat.le_div_iff_mul_le hD]
            have := HE.out
            omega
          have := HQD.out
          omega
        have hor := or_bit HM.out hQ61 (by omega)
        obtain ⟨K, hK⟩ : ∃ K : Nat, 2 ^ i = K := ⟨_, rfl⟩
        have hK2 : K ≤ 1152921504606846976 := by
          have e : (1152921504606846976 : Nat) = 2 ^ 60 := by decide
          rw [← hK, e]
          exact Nat.pow_le_pow_right (by omega) (by omega)
        have hK0 : 0 < K := by rw [← hK]; exact Nat.pow_pos (by omega)
        have hKI : (2 : Int) ^ i = K := by rw [← hK]; simp
        have HKW : Hid (wrap64 ((2 : Int) ^ i) = K) := by unfold Hid; rw [hKI]; exact IntWalk.wrap64_in _ (by omega)
        rw [hK] at hor
        have HOR : Hid (bits .or .i64 (Q : Int) (wrap64 ((2 : Int) ^ i)) = ((Q + K : Nat) : Int)) := by unfold Hid; rw [HKW.out]; exact hor
        have hl1 : l1 ≤ 1000000 := by
          have e1 : R < 18446744073709551616 ^ l := by
            have := HE.out
            have := H1.out.2.1.1
            omega
          have := HN.out.2.1.le (by omega) e1
          omega
        have HR2 : Hid (R < D * K * 2) := by
          have := HR.out
          rw [Nat.pow_succ, hK, ← Nat.mul_assoc] at this
          exact this
        have HM2 : Hid (Q % K = 0 ∧ (Q + K) % K = 0) := by
          have e1 : K ∣ Q := by
            rw [← hK]
            exact Nat.dvd_trans (Nat.pow_dvd_pow 2 (by omega)) (Nat.dvd_of_mod_eq_zero HM.out)
          exact ⟨Nat.mod_eq_zero_of_dvd e1, Nat.mod_eq_zero_of_dvd (Nat.dvd_add e1 (Nat.dvd_refl K))⟩
        have HKK := Lib.hid hK
        have h2 := H2.out.far HB.out
        clear HR HM hK hKI
        have hKB : K ≤ 9223372036854775807 := by omega
        have hKW := HKW.out
        go_wp2_with fail
        clear hKW
        refine (natOf_any K _ hKB).mono ?_
        rintro e w2 ⟨a2, l2, c2, rfl, hk, hb⟩
        have hl2 : l2 ≤ 1 := hk.2.1.le (by omega) (by omega)
        have hN2 := HN.out.far hb
        have hB2 := HB.out.trans (hb.mono HB.out.size)
        replace h2 := h2.far hb
        clear hb HN HB
        go_wp2_with fail
        refine (ntimes_any b a2 m d l2 c2 D K _ h2 hk (by omega) (by omega)).mono ?_
        rintro e w3 ⟨a3, l3, c3', rfl, hm3, hb⟩
        replace hN2 := hN2.far hb
        replace hB2 := hB2.trans (hb.mono hB2.size)
        clear hb h2 hk
        have hl3 : l3 ≤ 1000000 := by
          have e1 : D * K < 18446744073709551616 ^ (m + 1) := by
            rw [Nat.pow_succ]
            exact Nat.mul_lt_mul'' H2.out.2.1.1 (by omega)
          have := hm3.2.1.le (by omega) e1
          omega
        go_wp2_with fail
        refine (compare_any a3 a1 l3 c3' l1 c1 (D * K) R _ hm3 hN2 (by omega)).mono ?_
        rintro e w4 ⟨rfl, hb⟩
        replace hN2 := hN2.far hb
        replace hm3 := hm3.far hb
        replace hB2 := hB2.trans (hb.mono hB2.size)
        clear hb
        obtain ⟨t, ht⟩ : ∃ t, c3 (D * K) R = t := ⟨_, rfl⟩
        rw [ht]
        by_cases hle : D * K ≤ R
        · have ht0 : t ≤ 0 := by rw [← ht]; unfold c3; split <;> (try split) <;> omega
          clear ht
          go_wp2_with fail
          refine (nminus_any a1 a3 l1 c1 l3 c3' R (D * K) _ hN2 hm3 hl1 hle).mono ?_
          rintro e w5 ⟨a5, l5, c5, rfl, h5, hb⟩
          have HN5 := Lib.hid h5
          have HB5 := Lib.hid (hB2.trans (hb.mono hB2.size))
          have HE5 : Hid (N = (Q + K) * D + (R - D * K)) := by
            have := HE.out
            unfold Hid
            rw [Nat.add_mul, Nat.mul_comm K D]
            omega
          have HR5 : Hid (R - D * K < D * 2 ^ i) := by
            have := HR2.out
            unfold Hid
            rw [HKK.out]
            omega
          have HM5 : Hid ((Q + K) % 2 ^ i = 0) := by unfold Hid; rw [HKK.out]; exact HM2.out.2
          clear hN2 hm3 hB2 h5 hb HE HR2 HM2 HKK
          have hor2 := HOR.out
          go_wp2
          go_roundw
          case rel => exact ⟨i, Q + K, R - D * K, a5, l5, c5, by omega, rfl, ⟨(i : Int) - 1, by first | rfl | go_num, .inl rfl, by omega⟩, by first | rfl | go_num, HE5, HR5, HM5, HN5, HB5⟩
          case measure => simp [intOf]
        · have ht0 : ¬ t ≤ 0 := by rw [← ht]; unfold c3; rw [if_neg (by omega), if_pos (by omega)]; omega
          have HR5 : Hid (R < D * 2 ^ i) := by unfold Hid; rw [HKK.out]; omega
          have HM5 : Hid (Q % 2 ^ i = 0) := by unfold Hid; rw [HKK.out]; exact HM2.out.1
          have HN5 := Lib.hid hN2
          have HB5 := Lib.hid hB2
          clear ht hN2 hm3 hB2 HR2 HM2 HKK
          go_wp2
          go_roundw
          case rel => exact ⟨i, Q, R, a1, l1, c1, by omega, rfl, ⟨(i : Int) - 1, by first | rfl | go_num, .inl rfl, by omega⟩, rfl, HE, HR5, HM5, HN5, HB5⟩
          case measure => simp [intOf]
end Go.Proofs.Ytmnnpkmjamhmcab

namespace Go.Proofs.Ytmnnpkmjamhmcab
open Go.RowKit Go.PlainAid
set_option maxHeartbeats 1600000
set_option maxRecDepth 20000

theorem Na.keptD {W : World} {b N l c : Nat} {a : Option Addr} {z : Int} (h : Na .u64 18446744073709551616 W a l c N) (hb : W.cell? ⟨b, 0, none⟩ = some (.int .i64 z)) (x y : Value) : Na .u64 18446744073709551616 (putD W b x y) a l c N := ⟨h.1, h.2.1, fun j hj => by
  obtain ⟨g, e, hg, hc⟩ := h.2.2 j hj
  obtain ⟨g', e', _, hc'⟩ := h.2.2 0 (by omega)
  rw [e] at e'
  cases e'
  have hne : b ≠ g := fun e => by subst e; rw [hb] at hc'; cases hc'
  refine ⟨g, e, by rw [size_putD]; exact hg, ?_⟩
  unfold putD
  rw [cell_otherD (addr_neD (.inr hne)), cell_otherD (addr_neD (.inr hne))]
  exact hc⟩
theorem euc_high {N D n d h k hp kp : Nat} (E : Euc N D n d h k hp kp) (hn : 0 < n) (hD : 0 < D) (hb : ¬ (h ≤ 1000000000000000000 ∧ k ≤ 1000000000000000000)) : IsFr N D 0 0 false := by
  obtain ⟨b1, b2⟩ := E.bound hn hD
  obtain ⟨g1, g2, g3, g4, g5⟩ := gcd_low (N := N) hD
  have := IsFr.high g3 g2 1 (.inl rfl) (by omega)
  refine this.congr (by omega) (by omega) ?_
  rw [Int.one_mul]
  have e1 : (N : Int) = ((N / Nat.gcd N D : Nat) : Int) * (Nat.gcd N D : Nat) := by exact_mod_cast g4
  have e2 : (D : Int) = ((D / Nat.gcd N D : Nat) : Int) * (Nat.gcd N D : Nat) := by exact_mod_cast g5
  conv => { lhs; rw [e2] }
  conv => { rhs; rw [e1] }
  grind
theorem euc_low {N D n h k hp kp : Nat} (E : Euc N D n 0 h k hp kp) (hD : 0 < D) (h1 : h ≤ 1000000000000000000) (h2 : k ≤ 1000000000000000000) : IsFr N D h k true := by
  obtain ⟨e1, e2, e3⟩ := E.stop
  have hn : 0 < n := by
    rcases Nat.eq_zero_or_pos n with h0 | h0
    · subst h0; omega
    · exact h0
  have hk : 0 < k := by
    rcases Nat.eq_zero_or_pos k with h0 | h0
    · subst h0; omega
    · exact h0
  have := IsFr.low hk e3 1 (.inl rfl) h1 h2
  rw [Int.one_mul] at this
  refine this.congr (by omega) (by omega) ?_
  rw [e1, e2]
  push_cast
  grind
/-- a quotient that is too long makes a part that is too great -/
theorem euc_long {N D n d h k hp kp : Nat} (E : Euc N D n d h k hp kp) (hd : 0 < d) (hD : 0 < D) (hq : 1152921504606846976 * d ≤ n) : IsFr N D 0 0 false := by
  have E2 := E.step
  refine euc_high E2 hd hD fun hb => ?_
  have h1 : 1152921504606846976 ≤ n / d := (Nat.le_div_iff_mul_le hd).2 hq
  have h3 : 0 < h ∨ 0 < k := by
    obtain ⟨_, _, e⟩ := E
    rcases Nat.eq_zero_or_pos h with r1 | r1
    · rcases Nat.eq_zero_or_pos k with r2 | r2
      · subst r1 r2
        simp at e
      · exact .inr r2
    · exact .inl r1
  rcases h3 with h3 | h3
  · have : n / d * 1 ≤ n / d * h := Nat.mul_le_mul_left _ h3
    omega
  · have : n / d * 1 ≤ n / d * k := Nat.mul_le_mul_left _ h3
    omega
theorem nover_any (a b : Option Addr) (l c m d N D e : Nat) (w : World) (h1 : Na .u64 18446744073709551616 w a l c N) (h2 : Na .u64 18446744073709551616 w b m d D) (hD : 0 < D) (z1 : Sz N e) (z2 : Sz D e) (he : e ≤ 20000000) :
    Calls Try.prog 143 #[.slice a l c, .slice b m d] w fun x w' => ∃ n' d' ok, x = .returned (.tuple #[.agg #[.int .i64 n', .int .i64 d'], .bool ok]) ∧ IsFr N D n' d' ok ∧ Below w.heap.size w w' := by
  have A4 := D2.new w (.int .i64 0) (.int .i64 0) 27
  have B := (Below.refl w.heap.size w).alloc (Nat.le_refl _) (.cells #[.int .i64 0, .int .i64 0] 27)
  have H1 := h1.far ((Below.refl w.heap.size w).alloc (Nat.le_refl _) (.cells #[.int .i64 0, .int .i64 0] 27))
  have H2 := h2.far ((Below.refl w.heap.size w).alloc (Nat.le_refl _) (.cells #[.int .i64 0, .int .i64 0] 27))
  have e1 : (w.alloc (.cells #[.int .i64 0, .int .i64 0] 27)).heap.size = w.heap.size + 1 := by simp
  generalize hw1 : w.alloc (.cells #[.int .i64 0, .int .i64 0] 27) = w1 at A4 B H1 H2 e1
  have A6 := D2.new w1 (.int .i64 0) (.int .i64 1) 27
  have bA : Below w1.heap.size w1 (w1.alloc (.cells #[.int .i64 0, .int .i64 1] 27)) := (Below.refl _ _).alloc (Nat.le_refl _) _
  have e2 : (w1.alloc (.cells #[.int .i64 0, .int .i64 1] 27)).heap.size = w.heap.size + 1 + 1 := by simp [e1]
  rw [e1] at A6
  replace A4 := A4.far bA
  replace H1 := H1.far bA
  replace H2 := H2.far bA
  replace B := B.trans (bA.mono B.size)
  clear bA
  generalize hw2 : w1.alloc (.cells #[.int .i64 0, .int .i64 1] 27) = w2 at A4 A6 B H1 H2 e2
  have A7 := D2.new w2 (.int .i64 1) (.int .i64 0) 27
  have bA : Below w2.heap.size w2 (w2.alloc (.cells #[.int .i64 1, .int .i64 0] 27)) := (Below.refl _ _).alloc (Nat.le_refl _) _
  rw [e2] at A7
  replace A4 := A4.far bA
  replace A6 := A6.far bA
  replace H1 := H1.far bA
  replace H2 := H2.far bA
  replace B := B.trans (bA.mono B.size)
  clear bA
  generalize hw3 : w2.alloc (.cells #[.int .i64 1, .int .i64 0] 27) = w3 at A4 A6 A7 B H1 H2
  have HZ1 := Lib.hid z1
  have HZ2 := Lib.hid z2
  have HA4 := Lib.hid A4
  have HA6 := Lib.hid A6
  have HA7 := Lib.hid A7
  have HB := Lib.hid B
  have HH1 := Lib.hid H1
  have HH2 := Lib.hid H2
  clear h1 h2 z1 z2 A4 A6 A7 B H1 H2 e1 e2
  replace hw1 := Lib.hid hw1
  replace hw2 := Lib.hid hw2
  replace hw3 := Lib.hid hw3
  go_enter Try.func143, Try.ntmps143
  go_wp2
  rw [hw1.out, hw2.out, hw3.out]
  clear hw1 hw2 hw3
  go_loopg [0, 1] D (fun dG nv dv wr => ∃ (n : Nat) (a1 : Option Addr) (l1 c1 : Nat) (b1 : Option Addr) (m1 d1 h k hp kp : Nat), nv = .slice a1 l1 c1 ∧ dv = .slice b1 m1 d1 ∧ Hid (Euc N D n dG h k hp kp) ∧ (h ≤ 1000000000000000000 ∧ k ≤ 1000000000000000000 ∧ hp ≤ 1000000000000000000 ∧ kp ≤ 1000000000000000000) ∧ Hid (Sz n e) ∧ Hid (Sz dG e) ∧ Hid (Na .u64 18446744073709551616 wr a1 l1 c1 n) ∧ Hid (Na .u64 18446744073709551616 wr b1 m1 d1 dG) ∧ Hid (D2 wr w.heap.size (.int .i64 0) (.int .i64 0)) ∧ Hid (D2 wr (w.heap.size + 1) (.int .i64 hp) (.int .i64 kp)) ∧ Hid (D2 wr (w.heap.size + 1 + 1) (.int .i64 h) (.int .i64 k)) ∧ Hid (Below w.heap.size w wr))
  case atStart => exact ⟨N, _, _, _, _, _, _, 1, 0, 0, 1, rfl, rfl, Euc.start N D, by omega, HZ1, HZ2, HH1, HH2, HA4, HA6, HA7, HB⟩
  case round =>
    clear HH1 HH2 HA4 HA6 HA7 HB
    obtain ⟨n, a1, l1, c1, b1, m1, d1, h, k, hp, kp, rfl, rfl, HE, ⟨hb1, hb2, hb3, hb4⟩, HS1, HS2, HN, HDn, HA4, HA6, HA7, HB⟩ := hrel
    have hl1 := HS1.out.len64 (K := 900000) (by omega) HN.out.2.1
    have hm1 := HS2.out.len64 (K := 900000) (by omega) HDn.out.2.1
    rcases Nat.eq_zero_or_pos gk with h0 | h0
    · subst h0
      obtain rfl : m1 = 0 := by
        have := HDn.out.pos
        omega
      have HI := Lib.hid (euc_low HE.out hD hb1 hb2)
      obtain ⟨⟨x0, x1⟩, _⟩ := id HA7.out
      obtain ⟨⟨y0, y1⟩, y2, y3⟩ := id HA4.out
      have HP2 := HA4.out.put (.int .i64 h) (.int .i64 k)
      have HB9 := below_putD HB.out (Nat.le_refl _) (.int .i64 h) (.int .i64 k)
      clear HA4 HA6 HA7 HB HN HDn HE
      unfold putD at HP2 HB9
      go_wp2
      clear y0 y1 y2 y3 x0 x1
      generalize World.setCell _ ⟨w.heap.size, 1, none⟩ _ = V at HP2 HB9 ⊢
      obtain ⟨⟨y0, y1⟩, _, _⟩ := id HP2
      refine bodyPost_ret (v := .tuple #[.agg #[.int .i64 h, .int .i64 k], .bool true]) (by simp [results, Try.results143, go_sem, y0, y1]) rfl ⟨h, k, true, rfl, HI.out, HB9⟩
    · have hm0 : 0 < m1 := HDn.out.pos.2 h0
      go_wp2_with fail
      refine (dlong_any a1 b1 l1 c1 m1 d1 n gk _ HN.out HDn.out hl1 hm1 h0).mono ?_
      rintro x w5 ⟨⟨rfl, hbig⟩ | ⟨a3, l3, c3, rfl, hq61, hR⟩, hb⟩
      · have HI := Lib.hid (euc_long HE.out h0 hD (by have e : (1152921504606846976 : Nat) = 2 ^ 60 := by decide
                                                      rw [e]; exact hbig))
        have A4 := HA4.out.far hb
        have B := HB.out.trans (hb.mono HB.out.size)
        clear HA4 HA6 HA7 HB HN HDn HE hb hbig
        obtain ⟨⟨y0, y1⟩, y2, y3⟩ := id A4
        have HP2 := A4.put (.int .i64 0) (.int .i64 0)
        have HB9 := below_putD B (Nat.le_refl _) (.int .i64 0) (.int .i64 0)
        clear A4 B
        unfold putD at HP2 HB9
        go_wp2
        clear y0 y1 y2 y3
        generalize World.setCell _ ⟨w.heap.size, 1, none⟩ _ = V at HP2 HB9 ⊢
        obtain ⟨⟨y0, y1⟩, _, _⟩ := id HP2
        refine bodyPost_ret (v := .tuple #[.agg #[.int .i64 0, .int .i64 0], .bool false]) (by simp [results, Try.results143, go_sem, y0, y1]) rfl ⟨0, 0, false, rfl, HI.out, HB9⟩
      · have A4 := HA4.out.far hb
        have A6 := HA6.out.far hb
        have A7 := HA7.out.far hb
        have B := HB.out.trans (hb.mono HB.out.size)
        have hD2 := HDn.out.far hb
        have E2 := HE.out.step
        have hlt := Nat.mod_lt n h0
        have HSr : Hid (Sz (n % gk) e) := HS2.out.le (Nat.le_of_lt hlt)
        obtain ⟨q, hqv⟩ : ∃ q, n / gk = q := ⟨_, rfl⟩
        have hq : q ≤ 2305843009213693951 := by
          have e : (2305843009213693952 : Nat) = 2 ^ 61 := by decide
          rw [← hqv]
          omega
        rw [hqv] at E2 ⊢
        have HE2 := Lib.hid E2
        clear HA4 HA6 HA7 HB HN HDn HE hb hq61 hqv E2
        have hp1 : q * h ≤ 2305843009213693951 * 1000000000000000000 := Nat.mul_le_mul hq hb1
        have hp2 : q * k ≤ 2305843009213693951 * 1000000000000000000 := Nat.mul_le_mul hq hb2
        obtain ⟨X, hX⟩ : ∃ X : Int, (q : Int) * h + 1 * hp = X := ⟨_, rfl⟩
        obtain ⟨Y, hY⟩ : ∃ Y : Int, (q : Int) * k + 1 * kp = Y := ⟨_, rfl⟩
        have hXn : X = ((q * h + hp : Nat) : Int) := by rw [← hX]; push_cast; omega
        have hYn : Y = ((q * k + kp : Nat) : Int) := by rw [← hY]; push_cast; omega
        have HM1 : Hid (∀ W : World, Calls Try.prog 147 #[.int .i64 q, .int .i64 h] W fun e w' => e = .returned (.agg #[.int .u64 (hiU ((q : Int) * h)), .int .u64 (loU ((q : Int) * h))]) ∧ Below W.heap.size W w') := fun W => multiply_any q h W (by omega) (by omega) (by omega) (by omega)
        have HM2 : Hid (∀ W : World, Calls Try.prog 147 #[.int .i64 1, .int .i64 hp] W fun e w' => e = .returned (.agg #[.int .u64 (hiU (1 * (hp : Int))), .int .u64 (loU (1 * (hp : Int)))]) ∧ Below W.heap.size W w') := fun W => multiply_any 1 hp W (by omega) (by omega) (by omega) (by omega)
        have HM3 : Hid (∀ W : World, Calls Try.prog 148 #[.agg #[.int .u64 (hiU ((q : Int) * h)), .int .u64 (loU ((q : Int) * h))], .agg #[.int .u64 (hiU (1 * (hp : Int))), .int .u64 (loU (1 * (hp : Int)))]] W fun e w' => e = .returned (.agg #[.int .u64 (hiU X), .int .u64 (loU X)]) ∧ Below W.heap.size W w') := fun W => by
          rw [← hX]
          exact plus_any ((q : Int) * h) (1 * hp) _ _ _ _ W rfl rfl rfl rfl
        have HM4 : Hid (∀ W : World, Calls Try.prog 147 #[.int .i64 q, .int .i64 k] W fun e w' => e = .returned (.agg #[.int .u64 (hiU ((q : Int) * k)), .int .u64 (loU ((q : Int) * k))]) ∧ Below W.heap.size W w') := fun W => multiply_any q k W (by omega) (by omega) (by omega) (by omega)
        have HM5 : Hid (∀ W : World, Calls Try.prog 147 #[.int .i64 1, .int .i64 kp] W fun e w' => e = .returned (.agg #[.int .u64 (hiU (1 * (kp : Int))), .int .u64 (loU (1 * (kp : Int)))]) ∧ Below W.heap.size W w') := fun W => multiply_any 1 kp W (by omega) (by omega) (by omega) (by omega)
        have HM6 : Hid (∀ W : World, Calls Try.prog 148 #[.agg #[.int .u64 (hiU ((q : Int) * k)), .int .u64 (loU ((q : Int) * k))], .agg #[.int .u64 (hiU (1 * (kp : Int))), .int .u64 (loU (1 * (kp : Int)))]] W fun e w' => e = .returned (.agg #[.int .u64 (hiU Y), .int .u64 (loU Y)]) ∧ Below W.heap.size W w') := fun W => by
          rw [← hY]
          exact plus_any ((q : Int) * k) (1 * kp) _ _ _ _ W rfl rfl rfl rfl
        generalize hiU ((q : Int) * h) = r1 at HM1 HM3
        generalize loU ((q : Int) * h) = r2 at HM1 HM3
        generalize hiU (1 * (hp : Int)) = r3 at HM2 HM3
        generalize loU (1 * (hp : Int)) = r4 at HM2 HM3
        generalize hiU ((q : Int) * k) = r5 at HM4 HM6
        generalize loU ((q : Int) * k) = r6 at HM4 HM6
        generalize hiU (1 * (kp : Int)) = r7 at HM5 HM6
        generalize loU (1 * (kp : Int)) = r8 at HM5 HM6
        obtain ⟨nn, dd, ok, hfr, hfc⟩ := fracOf_fix X Y _ _ _ _ rfl rfl rfl rfl (by unfold In128; omega) (by unfold In128; omega)
        have HFC := Lib.hid hfc
        have HFR := Lib.hid hfr
        have HXn := Lib.hid hXn
        have HYn := Lib.hid hYn
        clear hfc hfr hX hY hXn hYn hp1 hp2
        generalize hiU X = p1 at HM3 HFC
        generalize loU X = p2 at HM3 HFC
        generalize hiU Y = p3 at HM6 HFC
        generalize loU Y = p4 at HM6 HFC
        go_upto_region 6 with fail
        have hL6 := A7.lt

        have z1 := (A7.drew).gr (rw := none) (by simp)
        have z2 := (A6.drew).gr (rw := none) (by simp)
        obtain ⟨u0, u1⟩ := z1
        obtain ⟨v0, v1⟩ := z2
        refine wp_region_mix (none) [0, 1, 2, 3, 4, 5, 6, 7] [8, 9] (by kernel_rfl) (by kernel_rfl) ?_
        simp only [pickOps, List.filterMap_cons, List.filterMap_nil, List.getElem?_toArray, List.getElem?_cons_succ, List.getElem?_cons_zero]
        repeat (refine wpQuietG_step (fun K hK => ?_); go_simp; first | (refine hK _ ?_; clear hK K) | (apply Exists.intro; refine ⟨fun _ => ?_, hK _ ?_⟩; (first | (with_reducible exact HM1.out _) | (with_reducible exact HM2.out _) | (with_reducible exact HM3.out _)); clear hK K))
        refine wpQuietG_nil ?_
        clear u0 u1 v0 v1
        intro W6 hG hb
        replace A4 := A4.far (of_drew hb)
        replace A6 := A6.far (of_drew hb)
        replace A7 := A7.far (of_drew hb)
        replace hD2 := hD2.far (of_drew hb)
        replace hR := hR.far (of_drew hb)
        replace B := B.trans ((of_drew hb).mono B.size)
        clear hb
        have A11 := D2.new W6 (.int .u64 0) (.int .u64 0) 197
        have hbA : Below W6.heap.size W6 (W6.alloc (.cells #[.int .u64 0, .int .u64 0] 197)) := (Below.refl _ _).alloc (Nat.le_refl _) _
        have hz6 : w.heap.size ≤ W6.heap.size := B.size
        have hw6 := hG.size
        have hLe6 := Nat.lt_of_lt_of_le hL6 hw6

        replace A4 := A4.far hbA
        replace A6 := A6.far hbA
        replace A7 := A7.far hbA
        replace B := B.trans (hbA.mono B.size)
        have hG5 := gr_alloc hG (.cells #[.int .u64 0, .int .u64 0] 197)
        clear hG
        go_wp2
        try refine ⟨hG5, ?_⟩
        clear hG5
        generalize W6.alloc (.cells _ _) = W62 at *
        intro W63 hG hb
        replace A4 := A4.far hb
        replace A6 := A6.far hb
        replace A7 := A7.far hb
        replace A11 := A11.far hb
        replace B := B.trans (hb.mono B.size)
        have hbC := hbA.trans (hb.mono hbA.size)
        clear hb hbA
        obtain ⟨⟨y0, y1⟩, y2, y3⟩ := id A11
        have HP9 := A11.put (.int .u64 p1) (.int .u64 p2)
        have HB9 := below_putD B hz6 (.int .u64 p1) (.int .u64 p2)
        have hbE := below_putD hbC (Nat.le_refl _) (.int .u64 p1) (.int .u64 p2)
        have hGp := gr_put hG (.inr hw6) (.int .u64 p1) (.int .u64 p2)
        have K4 := A4.away (c := W6.heap.size) (by omega) (.int .u64 p1) (.int .u64 p2)
        have K6 := A6.away (c := W6.heap.size) (by omega) (.int .u64 p1) (.int .u64 p2)
        have K7 := A7.away (c := W6.heap.size) (by omega) (.int .u64 p1) (.int .u64 p2)

        have KN1 := hR.far hbE
        have KN2 := hD2.far hbE
        clear A4 A6 A7 B hR hD2 A11  hG hbC hbE
        unfold putD at HP9 HB9 hGp K4 K6 K7 KN1 KN2 
        go_wp2
        try refine ⟨hGp, ?_⟩
        clear hGp y0 y1 y2 y3
        generalize World.setCell _ ⟨W6.heap.size, 1, none⟩ _ = W64 at HP9 HB9 K4 K6 K7 KN1 KN2  ⊢
        intro W65 hG hb
        have A4 := K4.far hb
        have A6 := K6.far hb
        have A7 := K7.far hb
        have A11 := HP9.far hb

        have hR := KN1.far hb
        have hD2 := KN2.far hb
        have B := HB9.trans (hb.mono HB9.size)
        clear K4 K6 K7 HP9 KN1 KN2 HB9 hG hb 
        go_upto_region 7 with fail
        have hL7 := A7.lt
        have hLb := A11.lt
        have z1 := (A7.drew).gr (rw := none) (by simp)
        have z2 := (A6.drew).gr (rw := none) (by simp)
        obtain ⟨u0, u1⟩ := z1
        obtain ⟨v0, v1⟩ := z2
        refine wp_region_mix (none) [0, 1, 2, 3, 4, 5, 6, 7] [8, 9] (by kernel_rfl) (by kernel_rfl) ?_
        simp only [pickOps, List.filterMap_cons, List.filterMap_nil, List.getElem?_toArray, List.getElem?_cons_succ, List.getElem?_cons_zero]
        repeat (refine wpQuietG_step (fun K hK => ?_); go_simp; first | (refine hK _ ?_; clear hK K) | (apply Exists.intro; refine ⟨fun _ => ?_, hK _ ?_⟩; (first | (with_reducible exact HM4.out _) | (with_reducible exact HM5.out _) | (with_reducible exact HM6.out _)); clear hK K))
        refine wpQuietG_nil ?_
        clear u0 u1 v0 v1
        intro W7 hG hb
        replace A4 := A4.far (of_drew hb)
        replace A6 := A6.far (of_drew hb)
        replace A7 := A7.far (of_drew hb)
        replace A11 := A11.far (of_drew hb)
        replace hD2 := hD2.far (of_drew hb)
        replace hR := hR.far (of_drew hb)
        replace B := B.trans ((of_drew hb).mono B.size)
        clear hb
        have A12 := D2.new W7 (.int .u64 0) (.int .u64 0) 197
        have hbA : Below W7.heap.size W7 (W7.alloc (.cells #[.int .u64 0, .int .u64 0] 197)) := (Below.refl _ _).alloc (Nat.le_refl _) _
        have hz7 : w.heap.size ≤ W7.heap.size := B.size
        have hw7 := hG.size
        have hLe7 := Nat.lt_of_lt_of_le hL7 hw7
        have hLbe := Nat.lt_of_lt_of_le hLb hw7
        replace A4 := A4.far hbA
        replace A6 := A6.far hbA
        replace A7 := A7.far hbA
        replace A11 := A11.far hbA
        replace B := B.trans (hbA.mono B.size)
        have hG5 := gr_alloc hG (.cells #[.int .u64 0, .int .u64 0] 197)
        clear hG
        go_wp2
        try refine ⟨hG5, ?_⟩
        clear hG5
        generalize W7.alloc (.cells _ _) = W72 at *
        intro W73 hG hb
        replace A4 := A4.far hb
        replace A6 := A6.far hb
        replace A7 := A7.far hb
        replace A11 := A11.far hb
        replace A12 := A12.far hb
        replace B := B.trans (hb.mono B.size)
        have hbC := hbA.trans (hb.mono hbA.size)
        clear hb hbA
        obtain ⟨⟨y0, y1⟩, y2, y3⟩ := id A12
        have HP9 := A12.put (.int .u64 p3) (.int .u64 p4)
        have HB9 := below_putD B hz7 (.int .u64 p3) (.int .u64 p4)
        have hbE := below_putD hbC (Nat.le_refl _) (.int .u64 p3) (.int .u64 p4)
        have hGp := gr_put hG (.inr hw7) (.int .u64 p3) (.int .u64 p4)
        have K4 := A4.away (c := W7.heap.size) (by omega) (.int .u64 p3) (.int .u64 p4)
        have K6 := A6.away (c := W7.heap.size) (by omega) (.int .u64 p3) (.int .u64 p4)
        have K7 := A7.away (c := W7.heap.size) (by omega) (.int .u64 p3) (.int .u64 p4)
        have K11 := A11.away (c := W7.heap.size) (by omega) (.int .u64 p3) (.int .u64 p4)
        have KN1 := hR.far hbE
        have KN2 := hD2.far hbE
        clear A4 A6 A7 B hR hD2 A12 A11 hG hbC hbE
        unfold putD at HP9 HB9 hGp K4 K6 K7 KN1 KN2 K11
        go_wp2
        try refine ⟨hGp, ?_⟩
        clear hGp y0 y1 y2 y3
        generalize World.setCell _ ⟨W7.heap.size, 1, none⟩ _ = W74 at HP9 HB9 K4 K6 K7 KN1 KN2 K11 ⊢
        intro W75 hG hb
        have A4 := K4.far hb
        have A6 := K6.far hb
        have A7 := K7.far hb
        have A12 := HP9.far hb
        have A11 := K11.far hb
        have hR := KN1.far hb
        have hD2 := KN2.far hb
        have B := HB9.trans (hb.mono HB9.size)
        clear K4 K6 K7 HP9 KN1 KN2 HB9 hG hb K11
        obtain ⟨⟨x0, x1⟩, _⟩ := id A11
        obtain ⟨⟨x2, x3⟩, _⟩ := id A12
        have hz7b := A7.lt
        go_upto_region 8 with fail
        go_wp2_with fail
        refine (HFC.out _).mono ?_
        rintro x w8 ⟨rfl, hb⟩
        clear x0 x1 x2 x3 A11 A12
        replace A4 := A4.far hb
        replace A6 := A6.far hb
        replace A7 := A7.far hb
        replace hR := hR.far hb
        replace hD2 := hD2.far hb
        replace B := B.trans (hb.mono B.size)
        clear hb
        have A13 := D2.new w8 (.int .i64 nn) (.int .i64 dd) 27
        have hbA : Below w8.heap.size w8 (w8.alloc (.cells #[.int .i64 nn, .int .i64 dd] 27)) := (Below.refl _ _).alloc (Nat.le_refl _) _
        have h74 := A7.lt
        replace A4 := A4.far hbA
        replace A6 := A6.far hbA
        replace A7 := A7.far hbA
        replace hR := hR.far hbA
        replace hD2 := hD2.far hbA
        replace B := B.trans (hbA.mono B.size)
        clear hbA
        rcases HFR.out with ⟨s1, s2, rfl, rfl, rfl⟩ | ⟨s1, rfl, rfl, rfl⟩
        · have hX0 := HXn.out
          have hY0 := HYn.out
          unfold Small at s1 s2
          have hX1 : q * h + hp ≤ 1000000000000000000 := by omega
          have hY1 : q * k + kp ≤ 1000000000000000000 := by omega
          obtain ⟨xn, hxn⟩ : ∃ xn, q * h + hp = xn := ⟨_, rfl⟩
          obtain ⟨yn, hyn⟩ : ∃ yn, q * k + kp = yn := ⟨_, rfl⟩
          rw [hxn] at hX0 hX1 HE2
          rw [hyn] at hY0 hY1 HE2
          subst hX0 hY0
          clear hxn hyn HXn HYn HFR HFC s1 s2
          go_upto_region 11 with fail
          generalize w8.alloc (.cells _ _) = w9 at A4 A6 A7 A13 B hR hD2 ⊢
          generalize w8.heap.size = b13 at A13 h74 ⊢
          obtain ⟨⟨x0, x1⟩, _⟩ := id A13
          obtain ⟨⟨y0, y1⟩, y2, y3⟩ := id A6
          obtain ⟨⟨y4, y5⟩, y6, y7⟩ := id A7
          have J4 := (A4.away (c := w.heap.size + 1) (by omega) (.int .i64 h) (.int .i64 k)).away (c := w.heap.size + 1 + 1) (by omega) (.int .i64 xn) (.int .i64 yn)
          have J6 := (A6.put (.int .i64 h) (.int .i64 k)).away (c := w.heap.size + 1 + 1) (by omega) (.int .i64 xn) (.int .i64 yn)
          have J7a := A7.away (c := w.heap.size + 1) (by omega) (.int .i64 h) (.int .i64 k)
          have J7 := J7a.put (.int .i64 xn) (.int .i64 yn)
          have JR := (hR.keptD y0 (.int .i64 h) (.int .i64 k)).keptD J7a.1.1 (.int .i64 xn) (.int .i64 yn)
          have JD := (hD2.keptD y0 (.int .i64 h) (.int .i64 k)).keptD J7a.1.1 (.int .i64 xn) (.int .i64 yn)
          have JB := below_putD (below_putD B (show w.heap.size ≤ w.heap.size + 1 by omega) (.int .i64 h) (.int .i64 k)) (show w.heap.size ≤ w.heap.size + 1 + 1 by omega) (.int .i64 xn) (.int .i64 yn)
          clear A4 A6 A7 A13 hR hD2 B J7a
          unfold putD at J4 J6 J7 JR JD JB
          go_region
          clear y0 y1 y2 y3 y4 y5 y6 y7
          generalize World.setCell _ ⟨w.heap.size + 1 + 1, 1, none⟩ _ = V9 at J4 J6 J7 JR JD JB ⊢
          have HJ4 := Lib.hid J4.drew
          have HJ6 := Lib.hid J6.drew
          have HJ7 := Lib.hid J7.drew
          have HJR := Lib.hid JR.drew
          have HJD := Lib.hid JD.drew
          have HJB := Lib.hid JB.drew
          clear J4 J6 J7 JR JD JB
          generalize V9.drew = V10 at HJ4 HJ6 HJ7 HJR HJD HJB ⊢
          go_wp2
          go_roundg (n % gk)
          case rel => exact ⟨gk, _, _, _, _, _, _, xn, yn, h, k, rfl, rfl, HE2, ⟨hX1, hY1, hb1, hb2⟩, HS2, HSr, HJD, HJR, HJ4, HJ6, HJ7, HJB⟩
          case measure => exact hlt
        · have HI := Lib.hid (euc_high HE2.out h0 hD (fun hh => s1 (by unfold Small; rw [HXn.out, HYn.out]; omega)))
          clear A6 A7 A13 hR hD2 HFR HFC
          go_upto_region 10 with fail
          generalize w8.alloc (.cells _ _) = w9 at A4 B ⊢
          obtain ⟨⟨y0, y1⟩, y2, y3⟩ := id A4
          have HP2 := A4.put (.int .i64 0) (.int .i64 0)
          have HB9 := below_putD B (Nat.le_refl _) (.int .i64 0) (.int .i64 0)
          clear A4 B
          unfold putD at HP2 HB9
          go_wp2
          clear y0 y1 y2 y3
          generalize World.setCell _ ⟨w.heap.size, 1, none⟩ _ = V at HP2 HB9 ⊢
          obtain ⟨⟨y0, y1⟩, _, _⟩ := id HP2
          refine bodyPost_ret (v := .tuple #[.agg #[.int .i64 0, .int .i64 0], .bool false]) (by simp [results, Try.results143, go_sem, y0, y1]) rfl ⟨0, 0, false, rfl, HI.out, HB9⟩
end Go.Proofs.Ytmnnpkmjamhmcab

namespace Go.Proofs.Ytmnnpkmjamhmcab
open Go.RowKit Go.PlainAid
set_option maxHeartbeats 1600000
set_option maxRecDepth 20000

theorem or_30 (x d : Nat) (hx : x ≤ 4294967295) (hd : d < 1073741824) : bits .or .i64 ((x * 1073741824 : Nat) : Int) (d : Int) = ((x * 1073741824 + d : Nat) : Int) := by
  have e1 : x * 1073741824 ||| d = x * 1073741824 + d := by
    have := Nat.two_pow_add_eq_or_of_lt (i := 30) (show d < 2 ^ 30 by omega) x
    rw [Nat.mul_comm]
    exact this.symm
  show IntKind.i64.wrap ((BitVec.ofInt 64 ((x * 1073741824 : Nat) : Int) ||| BitVec.ofInt 64 (d : Int)).toNat : Int) = _
  rw [BitVec.toNat_or, BitVec.ofInt_natCast, BitVec.ofInt_natCast, BitVec.toNat_ofNat, BitVec.toNat_ofNat, Nat.mod_eq_of_lt (by omega), Nat.mod_eq_of_lt (by omega), e1, IntKind.wrap_i64]
  omega
theorem bsmall_any (a : Option Addr) (l c N : Nat) (w : World) (h : Na .i64 1073741824 w a l c N) (hl : l ≤ 1000000) :
    Calls Try.prog 131 #[.slice a l c] w fun e w' => ((N ≤ 1000000000000000000 ∧ e = .returned (.tuple #[.int .i64 N, .bool true])) ∨ (1000000000000000000 < N ∧ e = .returned (.tuple #[.int .i64 0, .bool false]))) ∧ Below w.heap.size w w' := by
  have H := Lib.hid h
  clear h
  by_cases h2 : 2 < l
  · have HN : Hid (1000000000000000000 < N) := by
      have e1 := H.out.2.1.2.resolve_left (by omega)
      have e2 : (1073741824 : Nat) ^ 2 ≤ 1073741824 ^ (l - 1) := Nat.pow_le_pow_right (by omega) (by omega)
      unfold Hid
      omega
    go_enter Try.func131, Try.ntmps131
    go_wp2
    go_ret2
    exact ⟨.inr ⟨HN.out, rfl⟩, Below.refl _ _⟩
  · go_enter Try.func131, Try.ntmps131
    go_wp2_with fail
    refine (bigOf_any 1000000000000000000 w (by omega)).mono ?_
    rintro e w1 ⟨g1, l1, c1, rfl, hm, hb⟩
    have hN := H.out.far hb
    have B := hb
    clear hb
    go_wp2_with fail
    refine (bcmp_any _ _ _ _ _ _ N 1000000000000000000 w1 hN hm (by omega)).mono ?_
    rintro e w2 ⟨rfl, hb⟩
    have HNa := Lib.hid (hN.far hb)
    have HB := Lib.hid (B.trans (hb.mono B.size))
    clear hb hN hm B
    by_cases hbig : 1000000000000000000 < N
    · rw [c3_gt hbig]
      go_wp2
      go_ret2
      exact ⟨.inr ⟨hbig, rfl⟩, HB.out⟩
    · obtain ⟨t, ht⟩ : ∃ t, c3 N 1000000000000000000 = t := ⟨_, rfl⟩
      have ht0 : ¬ 0 < t := by rw [← ht]; unfold c3; split <;> (try split) <;> omega
      have hNs : N ≤ 1000000000000000000 := by omega
      rw [ht]
      clear ht hbig
      go_wp2
      go_loopw [4, 5] (fun nv iv wr => ∃ k x : Nat, k ≤ l ∧ iv = .int .i64 ((k : Int) - 1) ∧ nv = .int .i64 x ∧ Hid (x = N / 1073741824 ^ k) ∧ w2 = wr) (fun _ iv _ => (intOf iv + 1).toNat)
      case atStart => exact ⟨l, 0, Nat.le_refl _, rfl, rfl, by unfold Hid; rw [Nat.div_eq_of_lt H.out.2.1.1], rfl⟩
      case round =>
        obtain ⟨k, x, hk, rfl, rfl, HX, rfl⟩ := hrel
        rcases k with _ | k
        · have HX2 : Hid (x = N) := by
            have := HX.out
            rwa [Nat.pow_zero, Nat.div_one] at this
          rw [show (((0 : Nat) : Int) - 1) = -1 from rfl]
          clear HX
          go_wp2
          go_ret2
          exact ⟨.inl ⟨hNs, by rw [← HX2.out]; rfl⟩, HB.out⟩
        · obtain ⟨g, rfl, hg, hc⟩ := HNa.out.2.2 k (by omega)
          have hd1 := dig_lt (B := 1073741824) (by omega) N k
          obtain ⟨d, hd⟩ : ∃ d, dig 1073741824 N k = d := ⟨_, rfl⟩
          rw [hd] at hc hd1
          have hxs : x ≤ 4294967295 := by
            have e1 : 1073741824 ^ 1 ≤ 1073741824 ^ (k + 1) := Nat.pow_le_pow_right (by omega) (by omega)
            have e2 : N / 1073741824 ^ (k + 1) ≤ N / 1073741824 ^ 1 := Nat.div_le_div_left e1 (by omega)
            rw [← HX.out] at e2
            omega
          have hor := or_30 x d hxs hd1
          obtain ⟨y, hy⟩ : ∃ y, x * 1073741824 + d = y := ⟨_, rfl⟩
          have HY : Hid (y = N / 1073741824 ^ k) := by
            have e1 := Nat.div_add_mod (N / 1073741824 ^ k) 1073741824
            rw [Nat.div_div_eq_div_mul, ← Nat.pow_succ] at e1
            have e2 : d = N / 1073741824 ^ k % 1073741824 := hd.symm
            have e3 : x = N / 1073741824 ^ k.succ := HX.out
            unfold Hid
            rw [← hy, e3, e2, Nat.mul_comm (N / 1073741824 ^ k.succ)]
            exact e1
          rw [hy] at hor
          obtain ⟨z, hz⟩ : ∃ z, x * 1073741824 = z := ⟨_, rfl⟩
          rw [hz] at hor
          have hzI : (x : Int) * 1073741824 = z := by omega
          have hzb : z ≤ 9223372036854775807 := by omega
          have hi1 : ((k + 1 : Nat) : Int) - 1 = k := by omega
          rw [hi1]
          have hk0 : (0 : Int) ≤ k := by omega
          clear hd hy hz HX
          go_wp2
          go_roundw
          case rel => exact ⟨k, y, by omega, by go_num, by first | rfl | (rw [hor]) | go_num, HY, by first | rfl | trivial⟩
          case measure => simp [intOf]
theorem give_any (v1 : Value) (P Q : Int) (e1 : Nat) (w : World) (h1 : Wd w v1 P Q e1) (c1 : e1 ≤ 5000000) (hQ : Q ≠ 0) :
    Calls Try.prog 81 #[v1] w fun e w' => ∃ n d ok, e = .returned (.tuple #[.agg #[.int .i64 n, .int .i64 d], .bool ok]) ∧ IsFr P Q n d ok ∧ Below w.heap.size w w' := by
  obtain ⟨s1, ga, la, ca, N, gb, lb, cb, D, f1, fn, fd, rfl, hW1, hE1⟩ := h1
  have HW1 := Lib.hid hW1
  have HE1 := Lib.hid hE1
  obtain ⟨A0, A1, B⟩ := DL.two w (.bool s1) (.int .i64 0) [.slice (some ⟨ga, 0, none⟩) la ca, .slice (some ⟨gb, 0, none⟩) lb cb, .bool f1, .int .i64 fn, .int .i64 fd] [.int .i64 0] 115 27
  have A : D2 _ (w.heap.size + 1) (.int .i64 0) (.int .i64 0) := ⟨⟨A1.1 0 _ rfl, A1.1 1 _ rfl⟩, A1.2 0, A1.2 1⟩
  clear hW1 hE1 A1
  go_enter Try.func81, Try.ntmps81
  go_upto_region 1 with fail
  generalize (w.alloc (.cells _ _)).alloc (.cells _ _) = w1 at A0 A B ⊢
  obtain ⟨⟨x0, x1, x2, x3, x4, x5⟩, _⟩ := A0.six
  by_cases q1 : f1 = true
  · subst q1
    have HI : Hid (IsFr P Q fn fd true) := by
      obtain ⟨k1, k2, k3⟩ := HW1.out.2.2.2.2.2 rfl
      have k4 := k1.1
      refine (IsFr.of_VF k1).congr (by omega) hQ ?_
      rw [k2, k3]
      exact HE1.out
    obtain ⟨⟨y0, y1⟩, y2, y3⟩ := id A
    have HP2 := A.put (.int .i64 fn) (.int .i64 fd)
    have HB9 := below_putD B (show w.heap.size ≤ w.heap.size + 1 by omega) (.int .i64 fn) (.int .i64 fd)
    clear A B
    unfold putD at HP2 HB9
    go_wp2
    clear y0 y1 y2 y3
    generalize World.setCell _ ⟨w.heap.size + 1, 1, none⟩ _ = V at HP2 HB9 ⊢
    obtain ⟨⟨y0, y1⟩, _, _⟩ := id HP2
    refine bodyPost_ret (v := .tuple #[.agg #[.int .i64 fn, .int .i64 fd], .bool true]) (by simp [results, Try.results81, go_sem, y0, y1]) rfl ⟨_, _, _, rfl, HI.out, HB9⟩
  · have q3 : f1 = false := by simpa using q1
    subst q3
    have hV : Wd w1 (.agg #[.bool s1, .slice (some ⟨ga, 0, none⟩) la ca, .slice (some ⟨gb, 0, none⟩) lb cb, .bool false, .int .i64 fn, .int .i64 fd]) P Q e1 := ⟨s1, ga, la, ca, N, gb, lb, cb, D, false, fn, fd, rfl, HW1.out.far B, HE1.out⟩
    go_wp2_with fail
    refine (wlow_any _ _ _ _ _ hV c1).mono ?_
    rintro e w2 ⟨v, rfl, hq, hb⟩
    clear x0 x1 x2 x3 x4 x5 hV A0
    replace A := A.far hb
    replace B := B.trans (hb.mono B.size)
    clear hb
    have HQ := Lib.hid hq
    obtain ⟨s, g1, l1, c1', N', g2, l2, c2', D', fine, fn', fd', rfl, hWc, hE, hcop⟩ := hq
    have hl1 := hWc.2.2.2.1.len30 (K := 200000) (by omega) hWc.1.2.1
    have hl2 := hWc.2.2.2.2.1.len30 (K := 200000) (by omega) hWc.2.1.2.1
    have hD0 := hWc.2.2.1
    have X6 : List Value := []
    clear X6
    have A4 := DL.new w2 [.bool s, .slice (some ⟨g1, 0, none⟩) l1 c1', .slice (some ⟨g2, 0, none⟩) l2 c2', .bool fine, .int .i64 fn', .int .i64 fd'] 115
    have hbA : Below w2.heap.size w2 (w2.alloc (.cells [.bool s, .slice (some ⟨g1, 0, none⟩) l1 c1', .slice (some ⟨g2, 0, none⟩) l2 c2', .bool fine, .int .i64 fn', .int .i64 fd'].toArray 115)) := (Below.refl _ _).alloc (Nat.le_refl _) _
    replace A := A.far hbA
    replace B := B.trans (hbA.mono B.size)
    have hN := hWc.1.far hbA
    have hDn := hWc.2.1.far hbA
    clear hbA hWc HQ
    go_upto_region 4 with fail
    generalize w2.alloc (.cells _ _) = w3 at A A4 B hN hDn ⊢
    generalize w2.heap.size = g4 at A4 ⊢
    obtain ⟨⟨x0, x1, x2, x3, x4, x5⟩, _⟩ := A4.six
    go_wp2_with fail
    refine (bsmall_any _ _ _ N' w3 hN (by omega)).mono ?_
    rintro e w4 ⟨hr1, hb⟩
    clear x0 x1 x2 x3 x4 x5
    replace A := A.far hb
    replace A4 := A4.far hb
    replace B := B.trans (hb.mono B.size)
    replace hDn := hDn.far hb
    clear hb hN
    obtain ⟨⟨x0, x1, x2, x3, x4, x5⟩, _⟩ := A4.six
    obtain ⟨one, nv, rfl, hone⟩ : ∃ (one : Bool) (nv : Nat), e = .returned (.tuple #[.int .i64 nv, .bool one]) ∧ ((one = true ∧ nv = N' ∧ N' ≤ 1000000000000000000) ∨ (one = false ∧ nv = 0 ∧ 1000000000000000000 < N')) := by
      rcases hr1 with ⟨r1, r2⟩ | ⟨r1, r2⟩
      · exact ⟨true, N', r2, .inl ⟨rfl, rfl, r1⟩⟩
      · exact ⟨false, 0, r2, .inr ⟨rfl, rfl, r1⟩⟩
    clear hr1
    go_wp2_with fail
    refine (bsmall_any _ _ _ D' w4 hDn (by omega)).mono ?_
    rintro e w5 ⟨hr2, hb⟩
    clear x0 x1 x2 x3 x4 x5
    replace A := A.far hb
    replace A4 := A4.far hb
    replace B := B.trans (hb.mono B.size)
    clear hb hDn
    obtain ⟨⟨x0, x1, x2, x3, x4, x5⟩, _⟩ := A4.six
    obtain ⟨two, dv, rfl, htwo⟩ : ∃ (two : Bool) (dv : Nat), e = .returned (.tuple #[.int .i64 dv, .bool two]) ∧ ((two = true ∧ dv = D' ∧ D' ≤ 1000000000000000000) ∨ (two = false ∧ dv = 0 ∧ 1000000000000000000 < D')) := by
      rcases hr2 with ⟨r1, r2⟩ | ⟨r1, r2⟩
      · exact ⟨true, D', r2, .inl ⟨rfl, rfl, r1⟩⟩
      · exact ⟨false, 0, r2, .inr ⟨rfl, rfl, r1⟩⟩
    clear hr2 A4
    have HE := Lib.hid hE
    have HC := Lib.hid hcop
    clear hE hcop
    have HNo : Hid (¬ (N' ≤ 1000000000000000000 ∧ D' ≤ 1000000000000000000) → IsFr P Q 0 0 false) := fun hno => by
      have := IsFr.high hD0 HC.out (sg s) (by cases s; exact .inl rfl; exact .inr rfl) hno
      exact this.congr (by omega) hQ HE.out
    have HYes : Hid (N' ≤ 1000000000000000000 → D' ≤ 1000000000000000000 → IsFr P Q (sg s * N') D' true) := fun a1 a2 => by
      have := IsFr.low hD0 HC.out (sg s) (by cases s; exact .inl rfl; exact .inr rfl) a1 a2
      exact this.congr (by omega) hQ HE.out
    clear HE HC
    rcases hone with ⟨rfl, rfl, ho⟩ | ⟨rfl, rfl, ho⟩
    · rcases htwo with ⟨rfl, rfl, hw⟩ | ⟨rfl, rfl, hw⟩
      · have HI := Lib.hid (HYes.out ho hw)
        clear HYes HNo
        cases s
        · have e : sg false * (nv : Int) = nv := by show (1 : Int) * nv = nv; omega
          rw [e] at HI
          obtain ⟨⟨y0, y1⟩, y2, y3⟩ := id A
          have HP2 := A.put (.int .i64 nv) (.int .i64 dv)
          have HB9 := below_putD B (show w.heap.size ≤ w.heap.size + 1 by omega) (.int .i64 nv) (.int .i64 dv)
          clear A B
          unfold putD at HP2 HB9
          go_wp2
          clear y0 y1 y2 y3
          generalize World.setCell _ ⟨w.heap.size + 1, 1, none⟩ _ = V at HP2 HB9 ⊢
          obtain ⟨⟨y0, y1⟩, _, _⟩ := id HP2
          refine bodyPost_ret (v := .tuple #[.agg #[.int .i64 nv, .int .i64 dv], .bool true]) (by simp [results, Try.results81, go_sem, y0, y1]) rfl ⟨_, _, _, rfl, HI.out, HB9⟩
        · have e : sg true * (nv : Int) = -(nv : Int) := by show (-1 : Int) * nv = -nv; omega
          rw [e] at HI
          obtain ⟨⟨y0, y1⟩, y2, y3⟩ := id A
          have HP2 := A.put (.int .i64 (-(nv : Int))) (.int .i64 dv)
          have HB9 := below_putD B (show w.heap.size ≤ w.heap.size + 1 by omega) (.int .i64 (-(nv : Int))) (.int .i64 dv)
          clear A B
          unfold putD at HP2 HB9
          go_wp2
          clear y0 y1 y2 y3
          generalize World.setCell _ ⟨w.heap.size + 1, 1, none⟩ _ = V at HP2 HB9 ⊢
          obtain ⟨⟨y0, y1⟩, _, _⟩ := id HP2
          refine bodyPost_ret (v := .tuple #[.agg #[.int .i64 (-(nv : Int)), .int .i64 dv], .bool true]) (by simp [results, Try.results81, go_sem, y0, y1]) rfl ⟨_, _, _, rfl, HI.out, HB9⟩
      · have HI := Lib.hid (HNo.out (by omega))
        clear HYes HNo
        obtain ⟨⟨y0, y1⟩, y2, y3⟩ := id A
        have HP2 := A.put (.int .i64 0) (.int .i64 0)
        have HB9 := below_putD B (show w.heap.size ≤ w.heap.size + 1 by omega) (.int .i64 0) (.int .i64 0)
        clear A B
        unfold putD at HP2 HB9
        go_wp2
        clear y0 y1 y2 y3
        generalize World.setCell _ ⟨w.heap.size + 1, 1, none⟩ _ = V at HP2 HB9 ⊢
        obtain ⟨⟨y0, y1⟩, _, _⟩ := id HP2
        refine bodyPost_ret (v := .tuple #[.agg #[.int .i64 0, .int .i64 0], .bool false]) (by simp [results, Try.results81, go_sem, y0, y1]) rfl ⟨_, _, _, rfl, HI.out, HB9⟩
    · have HI := Lib.hid (HNo.out (by omega))
      clear HYes HNo
      obtain ⟨⟨y0, y1⟩, y2, y3⟩ := id A
      have HP2 := A.put (.int .i64 0) (.int .i64 0)
      have HB9 := below_putD B (show w.heap.size ≤ w.heap.size + 1 by omega) (.int .i64 0) (.int .i64 0)
      clear A B
      unfold putD at HP2 HB9
      go_wp2
      clear y0 y1 y2 y3
      generalize World.setCell _ ⟨w.heap.size + 1, 1, none⟩ _ = V at HP2 HB9 ⊢
      obtain ⟨⟨y0, y1⟩, _, _⟩ := id HP2
      refine bodyPost_ret (v := .tuple #[.agg #[.int .i64 0, .int .i64 0], .bool false]) (by simp [results, Try.results81, go_sem, y0, y1]) rfl ⟨_, _, _, rfl, HI.out, HB9⟩
end Go.Proofs.Ytmnnpkmjamhmcab

namespace Go.Proofs.Ytmnnpkmjamhmcab
open Go.RowKit Go.PlainAid
set_option maxHeartbeats 1600000
set_option maxRecDepth 20000

/-- the sum of the first k squares -/
def csm (f : Nat → Nat) : Nat → Nat
  | 0 => 0
  | k + 1 => csm f k + f k * f k
theorem csm_sz {f : Nat → Nat} {e n : Nat} (h : ∀ i, i < n → Sz (f i) e) : ∀ k, k ≤ n → Sz (csm f k) (e + e + k)
  | 0, _ => Sz.nil _
  | k + 1, hk => (csm_sz h k (by omega)).add (((h k (by omega)).mul (h k (by omega))).up (by omega))
theorem csm_rats {T : Nat} {xs : List (Int × Int)} {k : Nat} (h : ∀ i, i < k → 1 ≤ (xs.getD i (0, 1)).2 ∧ 0 ≤ (xs.getD i (0, 1)).1 ∧ (xs.getD i (0, 1)).2.toNat ∣ T) :
    ((T * T : Nat) : Int) * (rats (fun i => ((xs.getD i (0, 1)).1 * (xs.getD i (0, 1)).1, (xs.getD i (0, 1)).2 * (xs.getD i (0, 1)).2)) k).1 = (rats (fun i => ((xs.getD i (0, 1)).1 * (xs.getD i (0, 1)).1, (xs.getD i (0, 1)).2 * (xs.getD i (0, 1)).2)) k).2 * (csm (fun i => wgt T (xs.getD i (0, 1))) k : Nat) := by
  induction k with
  | zero => simp [rats, csm]
  | succ k ih =>
    obtain ⟨h1, h2, h3⟩ := h k (by omega)
    have h4 := ih fun i hi => h i (by omega)
    have h5 := wgt_eq h3
    have h6 : ((wgt T (xs.getD k (0, 1)) : Nat) : Int) * (xs.getD k (0, 1)).2 = T * (xs.getD k (0, 1)).1 := by
      have e1 : (((xs.getD k (0, 1)).2.toNat : Nat) : Int) = (xs.getD k (0, 1)).2 := by omega
      have e2 : (((xs.getD k (0, 1)).1.toNat : Nat) : Int) = (xs.getD k (0, 1)).1 := by omega
      rw [← e1, ← e2]
      exact_mod_cast h5
    simp only [rats, csm]
    push_cast at h4 ⊢
    generalize ((wgt T (xs.getD k (0, 1)) : Nat) : Int) = w at *
    generalize (rats _ k).1 = P at *
    generalize (rats _ k).2 = Q at *
    generalize (xs.getD k (0, 1)).1 = a at *
    generalize (xs.getD k (0, 1)).2 = b at *
    generalize ((csm _ k : Nat) : Int) = S at *
    generalize (T : Int) = t at *
    have h7 : w * b * (w * b) = t * a * (t * a) := by rw [h6]
    clear h h5 h6 ih h3
    grind
/-- what the sum of the squares of a list of fractions is -/
def CollFr (xs : List (Int × Int)) (n d : Int) (ok : Bool) : Prop := (∃ m, 0 < m ∧ SrcB xs m ∧ IsFr (csm (fun i => wgt (scl xs xs.length) (xs.getD i (0, 1))) xs.length : Nat) ((scl xs xs.length * scl xs xs.length : Nat) : Int) n d ok) ∨ (SrcB xs 0 ∧ n = 0 ∧ d = 0 ∧ ok = false)
theorem CollFr.uniq {xs : List (Int × Int)} {n d n' d' : Int} {ok ok' : Bool} (hT : ∀ m, 0 < m → SrcB xs m → 0 < scl xs xs.length) (h : CollFr xs n d ok) (h' : CollFr xs n' d' ok') : n = n' ∧ d = d' ∧ ok = ok' := by
  rcases h with ⟨m, h0, h1, h2⟩ | ⟨h1, rfl, rfl, rfl⟩ <;> rcases h' with ⟨m', k0, k1, k2⟩ | ⟨k1, rfl, rfl, rfl⟩
  · have := hT m h0 h1
    have := Nat.mul_pos this this
    exact h2.uniq (by omega) k2
  · have := h1.uniq k1
    omega
  · have := h1.uniq k1
    omega
  · exact ⟨rfl, rfl, rfl⟩
theorem isFr_ex (P Q : Int) : ∃ n d ok, IsFr P Q n d ok := by
  by_cases h : ∃ x y, VF x y ∧ x * Q = P * y
  · obtain ⟨x, y, h1, h2⟩ := h
    exact ⟨x, y, true, .inl ⟨rfl, h1, h2⟩⟩
  · exact ⟨0, 0, false, .inr ⟨rfl, rfl, rfl, fun x y h1 h2 => h ⟨x, y, h1, h2⟩⟩⟩
theorem coll_ex (xs : List (Int × Int)) : ∃ n d ok, CollFr xs n d ok := by
  obtain ⟨m, hm⟩ := src_ex xs
  rcases Nat.eq_zero_or_pos m with h | h
  · subst h
    exact ⟨0, 0, false, .inr ⟨hm, rfl, rfl, rfl⟩⟩
  · obtain ⟨n, d, ok, hf⟩ := isFr_ex (csm (fun i => wgt (scl xs xs.length) (xs.getD i (0, 1))) xs.length : Nat) ((scl xs xs.length * scl xs xs.length : Nat) : Int)
    exact ⟨n, d, ok, .inl ⟨m, h, hm, hf⟩⟩
theorem src_scl {xs : List (Int × Int)} (m : Nat) (h0 : 0 < m) (h : SrcB xs m) : 0 < scl xs xs.length := by
  rcases h with ⟨_, _, _, h⟩ | ⟨h, _⟩
  · exact scl_pos fun i hi => (h.2.2.1.getD hi).1
  · omega
end Go.Proofs.Ytmnnpkmjamhmcab

namespace Go.Proofs.Ytmnnpkmjamhmcab
open Go.RowKit Go.PlainAid
set_option maxHeartbeats 1600000
set_option maxRecDepth 20000

/-- the absolute difference -/
def dif (a b : Nat) : Nat := (a - b) + (b - a)
theorem dif_le {a b : Nat} (h : b ≤ a) : dif a b = a - b := by unfold dif; omega
theorem dif_lt {a b : Nat} (h : a < b) : dif a b = b - a := by unfold dif; omega
theorem dif_sz {a b e : Nat} (h : Sz a e) (h' : Sz b e) : Sz (dif a b) e := by unfold Sz dif at *; omega
theorem idif_any (a b : Option Addr) (l c m d N M : Nat) (w : World) (h1 : Na .u64 18446744073709551616 w a l c N) (h2 : Na .u64 18446744073709551616 w b m d M) (hl : l ≤ 1000000) (hm : m ≤ 1000000) :
    Calls Try.prog 140 #[.slice a l c, .slice b m d] w fun e w' => ∃ a' l' c', e = .returned (.slice a' l' c') ∧ Na .u64 18446744073709551616 w' a' l' c' (dif N M) ∧ Below w.heap.size w w' := by
  rcases Nat.lt_trichotomy N M with h | h | h
  · rw [dif_lt h]
    have hc := c3_lt h
    go_enter Try.func140, Try.ntmps140
    go_upto_region 1 with fail
    go_wp2_with fail
    refine (compare_any a b l c m d N M _ h1 h2 (by omega)).mono ?_
    rintro e w1 ⟨rfl, hb⟩
    have h1 := h1.far hb
    have h2 := h2.far hb
    rw [hc]
    clear hc
    go_wp2_with fail
    refine (nminus_any b a m d l c M N _ h2 h1 hm (by omega)).mono ?_
    rintro e w2 ⟨a', l', c', rfl, h3, hb2⟩
    have hb3 := hb.trans (hb2.mono hb.size)
    clear hb hb2 h1 h2
    go_wp2
    go_ret
    exact ⟨a', l', c', rfl, h3, hb3⟩
  · subst h
    rw [dif_le (Nat.le_refl _)]
    have hc := c3_eq N
    go_enter Try.func140, Try.ntmps140
    go_upto_region 1 with fail
    go_wp2_with fail
    refine (compare_any a b l c m d N N _ h1 h2 (by omega)).mono ?_
    rintro e w1 ⟨rfl, hb⟩
    have h1 := h1.far hb
    have h2 := h2.far hb
    rw [hc]
    clear hc
    go_wp2_with fail
    refine (nminus_any a b l c m d N N _ h1 h2 hl (by omega)).mono ?_
    rintro e w2 ⟨a', l', c', rfl, h3, hb2⟩
    have hb3 := hb.trans (hb2.mono hb.size)
    clear hb hb2 h1 h2
    go_wp2
    go_ret
    exact ⟨a', l', c', rfl, h3, hb3⟩
  · rw [dif_le (by omega)]
    have hc := c3_gt h
    go_enter Try.func140, Try.ntmps140
    go_upto_region 1 with fail
    go_wp2_with fail
    refine (compare_any a b l c m d N M _ h1 h2 (by omega)).mono ?_
    rintro e w1 ⟨rfl, hb⟩
    have h1 := h1.far hb
    have h2 := h2.far hb
    rw [hc]
    clear hc
    go_wp2_with fail
    refine (nminus_any a b l c m d N M _ h1 h2 hl (by omega)).mono ?_
    rintro e w2 ⟨a', l', c', rfl, h3, hb2⟩
    have hb3 := hb.trans (hb2.mono hb.size)
    clear hb hb2 h1 h2
    go_wp2
    go_ret
    exact ⟨a', l', c', rfl, h3, hb3⟩
/-- the sum of the differences, crosswise -/
def dsm (f g : Nat → Nat) (T U : Nat) : Nat → Nat
  | 0 => 0
  | k + 1 => dsm f g T U k + dif (f k * U) (g k * T)
theorem dsm_sz {f g : Nat → Nat} {T U e n : Nat} (hf : ∀ i, i < n → Sz (f i) e) (hg : ∀ i, i < n → Sz (g i) e) (hT : Sz T e) (hU : Sz U e) : ∀ k, k ≤ n → Sz (dsm f g T U k) (e + e + k)
  | 0, _ => Sz.nil _
  | k + 1, h => ((dsm_sz hf hg hT hU k (by omega)).add ((dif_sz ((hf k h).mul hU) ((hg k h).mul hT)).up (by omega))).up (by omega)
theorem idist_any (g1 g2 n : Nat) (a1 a2 : Option Addr) (l1 c1 l2 c2 T U e : Nat) (f g : Nat → Nat) (w : World) (h1 : NL w g1 n f) (t1 : Na .u64 18446744073709551616 w a1 l1 c1 T) (h2 : NL w g2 n g) (t2 : Na .u64 18446744073709551616 w a2 l2 c2 U)
    (zf : ∀ i, i < n → Sz (f i) e) (zg : ∀ i, i < n → Sz (g i) e) (zT : Sz T e) (zU : Sz U e) (he : e ≤ 100000) (hn : n ≤ 1000) :
    Calls Try.prog 86 #[.agg #[.slice (some ⟨g1, 0, none⟩) n n, .slice a1 l1 c1], .agg #[.slice (some ⟨g2, 0, none⟩) n n, .slice a2 l2 c2]] w fun x w' => ∃ a l c a' l' c', x = .returned (.agg #[.slice a l c, .slice a' l' c']) ∧ Na .u64 18446744073709551616 w' a l c (dsm f g T U n) ∧ Na .u64 18446744073709551616 w' a' l' c' (2 * T * U) ∧ Below w.heap.size w w' := by
  have HZf := Lib.hid zf
  have HZg := Lib.hid zg
  have HZT := Lib.hid zT
  have HZU := Lib.hid zU
  have HSz : Hid (∀ k, k ≤ n → Sz (dsm f g T U k) (e + e + k)) := dsm_sz zf zg zT zU
  clear zf zg zT zU
  have A1 := D2.new w (.slice (some ⟨g1, 0, none⟩) n n) (.slice a1 l1 c1) 125
  have B := (Below.refl w.heap.size w).alloc (Nat.le_refl _) (.cells #[.slice (some ⟨g1, 0, none⟩) n n, .slice a1 l1 c1] 125)
  have hbA : Below w.heap.size w (w.alloc (.cells #[.slice (some ⟨g1, 0, none⟩) n n, .slice a1 l1 c1] 125)) := (Below.refl _ _).alloc (Nat.le_refl _) _
  replace h1 := h1.far hbA
  replace h2 := h2.far hbA
  replace t1 := t1.far hbA
  replace t2 := t2.far hbA
  clear hbA
  go_enter Try.func86, Try.ntmps86
  go_upto_region 1 with fail
  have e1 : (w.alloc (.cells #[.slice (some ⟨g1, 0, none⟩) n n, .slice a1 l1 c1] 125)).heap.size = w.heap.size + 1 := by simp [go_sem]
  generalize w.alloc (.cells #[.slice (some ⟨g1, 0, none⟩) n n, .slice a1 l1 c1] _) = w1 at A1 B h1 h2 t1 t2 e1 ⊢
  have A2 := D2.new w1 (.slice (some ⟨g2, 0, none⟩) n n) (.slice a2 l2 c2) 125
  have hbA : Below w1.heap.size w1 (w1.alloc (.cells #[.slice (some ⟨g2, 0, none⟩) n n, .slice a2 l2 c2] 125)) := (Below.refl _ _).alloc (Nat.le_refl _) _
  replace h1 := h1.far hbA
  replace h2 := h2.far hbA
  replace t1 := t1.far hbA
  replace t2 := t2.far hbA
  replace A1 := A1.far hbA
  replace B := B.trans (hbA.mono B.size)
  clear hbA
  have e2 : (w1.alloc (.cells #[.slice (some ⟨g2, 0, none⟩) n n, .slice a2 l2 c2] 125)).heap.size = w.heap.size + 1 + 1 := by simp [go_sem, e1]
  generalize w1.alloc (.cells #[.slice (some ⟨g2, 0, none⟩) n n, .slice a2 l2 c2] _) = w2 at A1 A2 B h1 h2 t1 t2 e2 ⊢
  rw [e1] at A2
  have A3 := D2.new w2 (.slice none 0 0) (.slice none 0 0) 129
  have hbA : Below w2.heap.size w2 (w2.alloc (.cells #[.slice none 0 0, .slice none 0 0] 129)) := (Below.refl _ _).alloc (Nat.le_refl _) _
  replace h1 := h1.far hbA
  replace h2 := h2.far hbA
  replace t1 := t1.far hbA
  replace t2 := t2.far hbA
  replace A1 := A1.far hbA
  replace A2 := A2.far hbA
  replace B := B.trans (hbA.mono B.size)
  clear hbA
  generalize w2.alloc (.cells #[.slice none 0 0, .slice none 0 0] _) = w3 at A1 A2 A3 B h1 h2 t1 t2 ⊢
  rw [e2] at A3
  clear e1 e2
  have x0 := A1.1.1
  have x1 := A1.1.2
  have HA1 := Lib.hid A1
  have HA2 := Lib.hid A2
  have HA3 := Lib.hid A3
  have HB := Lib.hid B
  have HN1 := Lib.hid h1
  have HN2 := Lib.hid h2
  have HT1 := Lib.hid t1
  have HT2 := Lib.hid t2
  have HS0 : Hid (Na .u64 18446744073709551616 w3 none 0 0 (dsm f g T U 0)) := Na.zero _ _ _ _ _
  clear A1 A2 A3 B h1 h2 t1 t2
  go_wp2
  clear x0 x1
  go_loopw [5, 11] (fun v iv wr => ∃ (k : Nat) (p : Option Addr) (l c : Nat), k ≤ n ∧ iv = .int .i64 k ∧ v = .slice p l c ∧ Hid (Na .u64 18446744073709551616 wr p l c (dsm f g T U k)) ∧ Hid (NL wr g1 n f) ∧ Hid (NL wr g2 n g) ∧ Hid (Na .u64 18446744073709551616 wr a1 l1 c1 T) ∧ Hid (Na .u64 18446744073709551616 wr a2 l2 c2 U) ∧ Hid (D2 wr w.heap.size (.slice (some ⟨g1, 0, none⟩) n n) (.slice a1 l1 c1)) ∧ Hid (D2 wr (w.heap.size + 1) (.slice (some ⟨g2, 0, none⟩) n n) (.slice a2 l2 c2)) ∧ Hid (D2 wr (w.heap.size + 1 + 1) (.slice none 0 0) (.slice none 0 0)) ∧ Hid (Below w.heap.size w wr)) (fun _ iv _ => n - (intOf iv).toNat)
  case atStart => exact ⟨0, _, _, _, Nat.zero_le _, rfl, rfl, HS0, HN1, HN2, HT1, HT2, HA1, HA2, HA3, HB⟩
  case round =>
    clear HS0 HN1 HN2 HT1 HT2 HA1 HA2 HA3 HB
    obtain ⟨k, p, l, c, hk, rfl, rfl, HS, HN1, HN2, HT1, HT2, HA1, HA2, HA3, HB⟩ := hrel
    have hl0 := (HSz.out k hk).len64 (K := 1000000) (by omega) HS.out.2.1
    have hlt1 := HZT.out.len64 (K := 1000000) (by omega) HT1.out.2.1
    have hlt2 := HZU.out.len64 (K := 1000000) (by omega) HT2.out.2.1
    by_cases hlt : k < n
    · obtain ⟨hg1, a', l', c', hc, hN'⟩ := HN1.out k hlt
      obtain ⟨hg2, b', m', d', hd, hM'⟩ := HN2.out k hlt
      have hlN := (HZf.out k hlt).len64 (K := 1000000) (by omega) hN'.2.1
      have hlM := (HZg.out k hlt).len64 (K := 1000000) (by omega) hM'.2.1
      have HN' := Lib.hid hN'
      have HM' := Lib.hid hM'
      clear hN' hM'
      have z3 : ∀ q : GR wr.drew none, q.w.cell? ⟨g2, k, none⟩ = some (.slice b' m' d') := fun q => (World.cell?_of_block (a := ⟨g2, k, none⟩) (q.h.block g2 hg2 (by simp))).trans hd
      have HZ3 := Lib.hid z3
      clear hd z3
      go_upto_region 5 with fail
      have z1 := (HA1.out.drew).gr (rw := none) (by simp)
      have z2 := (HA2.out.drew).gr (rw := none) (by simp)
      obtain ⟨u0, u1⟩ := z1
      obtain ⟨v0, v1⟩ := z2
      have z3 := HZ3.out
      clear hc
      refine wp_region_mix (none) [0, 1, 2, 3, 5, 6, 7, 8, 9, 10, 11] [4, 12, 13, 14, 15] (by kernel_rfl) (by kernel_rfl) ?_
      simp only [pickOps, List.filterMap_cons, List.filterMap_nil, List.getElem?_toArray, List.getElem?_cons_succ, List.getElem?_cons_zero]
      repeat (refine wpQuietG_step (fun K hK => ?_); go_simp; first | (refine hK _ ?_; clear hK K) | (apply Exists.intro; refine ⟨fun _ => ?_, hK _ ?_⟩; (fail); clear hK K))
      refine wpQuietG_nil ?_
      clear u0 u1 v0 v1 z3 HZ3
      have hS := HS.out
      have hN1 := HN1.out
      have hN2 := HN2.out
      have hT1 := HT1.out
      have hT2 := HT2.out
      have A1 := HA1.out
      have A2 := HA2.out
      have A3 := HA3.out
      have B := HB.out
      have hN := HN'.out
      have hM := HM'.out
      clear HS HN1 HN2 HT1 HT2 HA1 HA2 HA3 HB HN' HM'
      intro V1 hG1 hb
      replace hS := hS.far (of_drew hb)
      replace hN1 := hN1.far (of_drew hb)
      replace hN2 := hN2.far (of_drew hb)
      replace hT1 := hT1.far (of_drew hb)
      replace hT2 := hT2.far (of_drew hb)
      replace A1 := A1.far (of_drew hb)
      replace A2 := A2.far (of_drew hb)
      replace A3 := A3.far (of_drew hb)
      replace B := B.trans ((of_drew hb).mono B.size)
      replace hN := hN.far (of_drew hb)
      replace hM := hM.far (of_drew hb)
      clear hb
      go_wp2_with fail
      refine (ntimes_any a' a2 l' c' l2 c2 _ _ _ hN hT2 hlN hlt2).mono ?_
      rintro x V2 ⟨a3, l3, c3, rfl, h3, hb⟩
      replace hS := hS.far hb
      replace hN1 := hN1.far hb
      replace hN2 := hN2.far hb
      replace hT1 := hT1.far hb
      replace hT2 := hT2.far hb
      replace A1 := A1.far hb
      replace A2 := A2.far hb
      replace A3 := A3.far hb
      replace B := B.trans ((hb).mono B.size)
      replace hM := hM.far (hb)
      replace hG1 := gr_step hG1 hb
      have z4 := ((HZf.out k hlt).mul HZU.out).up (f := 200000) (by omega)
      have hl3 := z4.len64 (K := 1000000) (by omega) h3.2.1
      clear hb hN
      go_wp2
      try refine ⟨hG1, ?_⟩
      clear hG1
      intro V3 hG1 hb
      replace hS := hS.far hb
      replace hN1 := hN1.far hb
      replace hN2 := hN2.far hb
      replace hT1 := hT1.far hb
      replace hT2 := hT2.far hb
      replace A1 := A1.far hb
      replace A2 := A2.far hb
      replace A3 := A3.far hb
      replace B := B.trans ((hb).mono B.size)
      replace hM := hM.far (hb)
      replace h3 := h3.far (hb)
      clear hb
      go_wp2_with fail
      refine (ntimes_any b' a1 m' d' l1 c1 _ _ _ hM hT1 hlM hlt1).mono ?_
      rintro x V4 ⟨a4, l4, c4, rfl, h4, hb⟩
      replace hS := hS.far hb
      replace hN1 := hN1.far hb
      replace hN2 := hN2.far hb
      replace hT1 := hT1.far hb
      replace hT2 := hT2.far hb
      replace A1 := A1.far hb
      replace A2 := A2.far hb
      replace A3 := A3.far hb
      replace B := B.trans ((hb).mono B.size)
      replace h3 := h3.far (hb)
      replace hG1 := gr_step hG1 hb
      have z5 := ((HZg.out k hlt).mul HZT.out).up (f := 200000) (by omega)
      have hl4 := z5.len64 (K := 1000000) (by omega) h4.2.1
      clear hb hM
      go_wp2
      try refine ⟨hG1, ?_⟩
      clear hG1
      intro V5 hG1 hb
      replace hS := hS.far hb
      replace hN1 := hN1.far hb
      replace hN2 := hN2.far hb
      replace hT1 := hT1.far hb
      replace hT2 := hT2.far hb
      replace A1 := A1.far hb
      replace A2 := A2.far hb
      replace A3 := A3.far hb
      replace B := B.trans ((hb).mono B.size)
      replace h3 := h3.far (hb)
      replace h4 := h4.far (hb)
      clear hb
      go_wp2_with fail
      refine (idif_any a3 a4 l3 c3 l4 c4 _ _ _ h3 h4 hl3 hl4).mono ?_
      rintro x V6 ⟨a5, l5, c5, rfl, h5, hb⟩
      replace hS := hS.far hb
      replace hN1 := hN1.far hb
      replace hN2 := hN2.far hb
      replace hT1 := hT1.far hb
      replace hT2 := hT2.far hb
      replace A1 := A1.far hb
      replace A2 := A2.far hb
      replace A3 := A3.far hb
      replace B := B.trans ((hb).mono B.size)
      replace hG1 := gr_step hG1 hb
      have hl5 := (dif_sz z4 z5).len64 (K := 1000000) (by omega) h5.2.1
      clear hb h3 h4 z4 z5
      go_wp2
      try refine ⟨hG1, ?_⟩
      clear hG1
      intro V7 hG1 hb
      replace hS := hS.far hb
      replace hN1 := hN1.far hb
      replace hN2 := hN2.far hb
      replace hT1 := hT1.far hb
      replace hT2 := hT2.far hb
      replace A1 := A1.far hb
      replace A2 := A2.far hb
      replace A3 := A3.far hb
      replace B := B.trans ((hb).mono B.size)
      replace h5 := h5.far (hb)
      clear hb
      go_wp2_with fail
      refine (nplus_any p a5 l c l5 c5 _ _ _ hS h5 hl0 hl5).mono ?_
      rintro x V8 ⟨a6, l6, c6, rfl, h6, hb⟩
      replace hN1 := hN1.far hb
      replace hN2 := hN2.far hb
      replace hT1 := hT1.far hb
      replace hT2 := hT2.far hb
      replace A1 := A1.far hb
      replace A2 := A2.far hb
      replace A3 := A3.far hb
      replace B := B.trans ((hb).mono B.size)
      replace hG1 := gr_step hG1 hb
      clear hb h5 hS
      go_wp2
      try refine ⟨hG1, ?_⟩
      clear hG1
      intro V9 hG1 hb
      replace hN1 := hN1.far hb
      replace hN2 := hN2.far hb
      replace hT1 := hT1.far hb
      replace hT2 := hT2.far hb
      replace A1 := A1.far hb
      replace A2 := A2.far hb
      replace A3 := A3.far hb
      replace B := B.trans ((hb).mono B.size)
      replace h6 := h6.far (hb)
      clear hb
      go_wp2
      try refine ⟨hG1, ?_⟩
      intro V10 hG2 hb
      replace hN1 := hN1.far hb
      replace hN2 := hN2.far hb
      replace hT1 := hT1.far hb
      replace hT2 := hT2.far hb
      replace A1 := A1.far hb
      replace A2 := A2.far hb
      replace A3 := A3.far hb
      replace B := B.trans ((hb).mono B.size)
      replace h6 := h6.far (hb)
      clear hb hG1 hG2
      have HS1 : Hid (Na .u64 18446744073709551616 _ a6 l6 c6 (dsm f g T U (k + 1))) := h6
      have HN1 := Lib.hid hN1
      have HN2 := Lib.hid hN2
      have HT1 := Lib.hid hT1
      have HT2 := Lib.hid hT2
      have HA1 := Lib.hid A1
      have HA2 := Lib.hid A2
      have HA3 := Lib.hid A3
      have HB := Lib.hid B
      clear h6 hN1 hN2 hT1 hT2 A1 A2 A3 B
      go_wp2
      go_roundw
      case rel => exact ⟨k + 1, a6, l6, c6, hlt, by go_num, rfl, HS1, HN1, HN2, HT1, HT2, HA1, HA2, HA3, HB⟩
      case measure => simp [intOf]; omega
    · have hkn : k = n := by omega
      subst hkn
      clear HN1 HN2
      go_upto_region 7 with fail
      have hS := HS.out
      have hT1 := HT1.out
      have hT2 := HT2.out
      have A3 := HA3.out
      have B := HB.out
      obtain ⟨u0, u1⟩ := (HA1.out.drew).gr (rw := some (w.heap.size + 1 + 1)) (by simp; omega)
      obtain ⟨v0, v1⟩ := (HA2.out.drew).gr (rw := some (w.heap.size + 1 + 1)) (by simp)
      clear HS HT1 HT2 HA1 HA2 HA3 HB
      refine wp_region_mix (some (w.heap.size + 1 + 1)) [0, 2, 3, 5, 6] [1, 4, 7, 8, 9] (by kernel_rfl) (by kernel_rfl) ?_
      simp only [pickOps, List.filterMap_cons, List.filterMap_nil, List.getElem?_toArray, List.getElem?_cons_succ, List.getElem?_cons_zero]
      repeat (refine wpQuietG_step (fun K hK => ?_); go_simp; first | (refine hK _ ?_; clear hK K) | (apply Exists.intro; refine ⟨fun _ => ?_, hK _ ?_⟩; (fail); clear hK K))
      refine wpQuietG_nil ?_
      clear u0 u1 v0 v1
      intro V1 hG1 hb
      replace hS := hS.far (of_drew hb)
      replace hT1 := hT1.far (of_drew hb)
      replace hT2 := hT2.far (of_drew hb)
      replace A3 := A3.far (of_drew hb)
      replace B := B.trans ((of_drew hb).mono B.size)
      clear hb
      go_wp2_with fail
      refine (natOf_any 2 _ (by omega)).mono ?_
      rintro x V2 ⟨a3, l3, c3, rfl, h3, hb⟩
      replace hS := hS.far (hb)
      replace hT1 := hT1.far (hb)
      replace hT2 := hT2.far (hb)
      replace A3 := A3.far (hb)
      replace B := B.trans ((hb).mono B.size)
      replace hG1 := gr_step hG1 hb
      have hl3 : l3 ≤ 1000000 := by
        have hq2 : 2 < 18446744073709551616 ^ 1 := by omega
        have := h3.2.1.le (by omega) hq2
        omega
      clear hb
      go_wp2
      try refine ⟨hG1, ?_⟩
      clear hG1
      intro V3 hG1 hb
      replace hS := hS.far (hb)
      replace hT1 := hT1.far (hb)
      replace hT2 := hT2.far (hb)
      replace A3 := A3.far (hb)
      replace h3 := h3.far (hb)
      replace B := B.trans ((hb).mono B.size)
      clear hb
      go_wp2_with fail
      refine (ntimes_any a3 a1 l3 c3 l1 c1 2 T _ h3 hT1 hl3 hlt1).mono ?_
      rintro x V4 ⟨a4, l4, c4, rfl, h4, hb⟩
      replace hS := hS.far (hb)
      replace hT2 := hT2.far (hb)
      replace A3 := A3.far (hb)
      replace B := B.trans ((hb).mono B.size)
      replace hG1 := gr_step hG1 hb
      have hl4 : l4 ≤ 1000000 := (Sz.mul (show Sz 2 2 by unfold Sz; omega) HZT.out).len64 (K := 1000000) (by omega) h4.2.1
      clear hb h3 hT1
      go_wp2
      try refine ⟨hG1, ?_⟩
      clear hG1
      intro V5 hG1 hb
      replace hS := hS.far (hb)
      replace hT2 := hT2.far (hb)
      replace A3 := A3.far (hb)
      replace h4 := h4.far (hb)
      replace B := B.trans ((hb).mono B.size)
      clear hb
      go_wp2_with fail
      refine (ntimes_any a4 a2 l4 c4 l2 c2 (2 * T) U _ h4 hT2 hl4 hlt2).mono ?_
      rintro x V6 ⟨a5, l5, c5, rfl, h5, hb⟩
      replace hS := hS.far (hb)
      replace A3 := A3.far (hb)
      replace B := B.trans ((hb).mono B.size)
      replace hG1 := gr_step hG1 hb
      clear hb h4 hT2
      go_wp2
      try refine ⟨hG1, ?_⟩
      clear hG1
      intro V7 hG1 hb
      replace hS := hS.far (hb)
      replace A3 := A3.far (hb)
      replace h5 := h5.far (hb)
      replace B := B.trans ((hb).mono B.size)
      clear hb
      go_wp2
      try refine ⟨hG1, ?_⟩
      clear hG1
      intro V8 hG1 hb
      replace hS := hS.far (hb)
      replace A3 := A3.far (hb)
      replace h5 := h5.far (hb)
      replace B := B.trans ((hb).mono B.size)
      clear hb
      obtain ⟨⟨y0, y1⟩, y2, y3⟩ := id A3
      have HP2 := A3.put (.slice p l c) (.slice a5 l5 c5)
      have HB9 := below_putD B (b := w.heap.size + 1 + 1) (by omega) (.slice p l c) (.slice a5 l5 c5)
      have hS9 := hS.kept2 A3 ⟨_, _, _, rfl⟩ (l := l) (c := c) (p := p) (.slice a5 l5 c5)
      have h59 := h5.kept2 A3 ⟨_, _, _, rfl⟩ (l := l) (c := c) (p := p) (.slice a5 l5 c5)
      go_wp2
      refine ⟨gr_put hG1 (.inl rfl) _ _, ?_⟩
      clear hG1 hS h5 A3 B y0 y1 y2 y3
      unfold putD at HP2 HB9 hS9 h59
      generalize World.setCell _ ⟨w.heap.size + 1 + 1, 1, none⟩ _ = V at HP2 HB9 hS9 h59 ⊢
      intro V9 hG1 hb
      replace HP2 := HP2.far hb
      replace hS9 := hS9.far hb
      replace h59 := h59.far hb
      replace HB9 := HB9.trans (hb.mono HB9.size)
      clear hb hG1
      obtain ⟨⟨y0, y1⟩, _, _⟩ := id HP2
      go_wp2
      refine bodyPost_ret (v := .agg #[.slice p l c, .slice a5 l5 c5]) (by simp [results, Try.results86, go_sem, y0, y1]) rfl ⟨_, _, _, _, _, _, rfl, hS9, h59, HB9⟩
theorem qfrac_any (a b : Option Addr) (l c m d N D e : Nat) (w : World) (h1 : Na .u64 18446744073709551616 w a l c N) (h2 : Na .u64 18446744073709551616 w b m d D) (hD : 0 < D) (z1 : Sz N e) (z2 : Sz D e) (he : e ≤ 20000000) :
    Calls Try.prog 87 #[.agg #[.slice a l c, .slice b m d]] w fun x w' => ∃ n' d' ok, x = .returned (.tuple #[.agg #[.int .i64 n', .int .i64 d'], .bool ok]) ∧ IsFr (N : Int) (D : Int) n' d' ok ∧ Below w.heap.size w w' := by
  have HZ1 := Lib.hid z1
  have HZ2 := Lib.hid z2
  have A1 := D2.new w (.slice a l c) (.slice b m d) 129
  have B := (Below.refl w.heap.size w).alloc (Nat.le_refl _) (.cells #[.slice a l c, .slice b m d] 129)
  have hbA : Below w.heap.size w (w.alloc (.cells #[.slice a l c, .slice b m d] 129)) := (Below.refl _ _).alloc (Nat.le_refl _) _
  replace h1 := h1.far hbA
  replace h2 := h2.far hbA
  have e1 : (w.alloc (.cells #[.slice a l c, .slice b m d] 129)).heap.size = w.heap.size + 1 := by simp [go_sem]
  clear hbA z1 z2
  go_enter Try.func87, Try.ntmps87
  go_upto_region 1 with fail
  generalize w.alloc (.cells #[.slice a l c, .slice b m d] _) = w1 at A1 B h1 h2 e1 ⊢
  have A2 := D2.new w1 (.int .i64 0) (.int .i64 0) 27
  have hbA : Below w1.heap.size w1 (w1.alloc (.cells #[.int .i64 0, .int .i64 0] 27)) := (Below.refl _ _).alloc (Nat.le_refl _) _
  replace h1 := h1.far hbA
  replace h2 := h2.far hbA
  replace A1 := A1.far hbA
  replace B := B.trans (hbA.mono B.size)
  clear hbA
  rw [e1] at A2
  clear e1
  generalize w1.alloc (.cells _ _) = w2 at A1 A2 B h1 h2 ⊢
  have x0 := A1.1.1
  have x1 := A1.1.2
  go_wp2_with fail
  refine (nover_any a b l c m d N D e w2 h1 h2 hD HZ1.out HZ2.out he).mono ?_
  rintro x w3 ⟨n', d', ok, rfl, hfr, hb⟩
  have HI := Lib.hid hfr
  replace A2 := A2.far hb
  replace B := B.trans (hb.mono B.size)
  clear hb hfr A1 x0 x1 h1 h2
  obtain ⟨⟨y0, y1⟩, y2, y3⟩ := id A2
  have HP2 := A2.put (.int .i64 n') (.int .i64 d')
  have HB9 := below_putD B (b := w.heap.size + 1) (by omega) (.int .i64 n') (.int .i64 d')
  clear A2 B
  unfold putD at HP2 HB9
  go_wp2
  clear y0 y1 y2 y3
  generalize World.setCell _ ⟨w.heap.size + 1, 1, none⟩ _ = V at HP2 HB9 ⊢
  obtain ⟨⟨y0, y1⟩, _, _⟩ := id HP2
  refine bodyPost_ret (v := .tuple #[.agg #[.int .i64 n', .int .i64 d'], .bool ok]) (by simp [results, Try.results87, go_sem, y0, y1]) rfl ⟨n', d', ok, rfl, HI.out, HB9⟩
/-- what the distance of two lists of fractions is -/
def DistFr (xs ys : List (Int × Int)) (n d : Int) (ok : Bool) : Prop := (IsCh xs ∧ IsCh ys ∧ xs.length = ys.length ∧ IsFr (dsm (fun i => wgt (scl xs xs.length) (xs.getD i (0, 1))) (fun i => wgt (scl ys xs.length) (ys.getD i (0, 1))) (scl xs xs.length) (scl ys xs.length) xs.length : Nat) ((2 * scl xs xs.length * scl ys xs.length : Nat) : Int) n d ok) ∨ (¬ (IsCh xs ∧ IsCh ys ∧ xs.length = ys.length) ∧ n = 0 ∧ d = 0 ∧ ok = false)
theorem idistOf_any (a b : Option Addr) (n cap m capb : Nat) (xs ys : List (Int × Int)) (w : World) (hx : FIn w a n xs) (hy : FIn w b m ys) (hn : n ≤ 1048576) (hm : m ≤ 1048576) :
    Calls Try.prog 42 #[.slice a n cap, .slice b m capb] w fun e w' => ∃ n' d' ok, e = .returned (.tuple #[.agg #[.int .i64 n', .int .i64 d'], .bool ok]) ∧ DistFr xs ys n' d' ok ∧ Below w.heap.size w w' := by
  have hlx := hx.1
  have hly := hy.1
  have A := D2.new w (.int .i64 0) (.int .i64 0) 27
  have B := (Below.refl w.heap.size w).alloc (Nat.le_refl _) (.cells #[.int .i64 0, .int .i64 0] 27)
  replace hx := hx.far ((Below.refl w.heap.size w).alloc (Nat.le_refl _) (.cells #[.int .i64 0, .int .i64 0] 27))
  replace hy := hy.far ((Below.refl w.heap.size w).alloc (Nat.le_refl _) (.cells #[.int .i64 0, .int .i64 0] 27))
  by_cases hc1 : IsCh xs <;> by_cases hc2 : IsCh ys
  · have HC1 := Lib.hid hc1
    have HC2 := Lib.hid hc2
    by_cases hnm : n = m
    · subst hnm
      have hn16 : n ≤ 16 := by have := hc1.2.1; omega
      have hvx : ∀ i, i < n → VF (xs.getD i (0, 1)).1 (xs.getD i (0, 1)).2 := fun i hi => hc1.2.2.1.getD (by omega)
      have hvy : ∀ i, i < n → VF (ys.getD i (0, 1)).1 (ys.getD i (0, 1)).2 := fun i hi => hc2.2.2.1.getD (by omega)
      have HT1 : Hid (Sz (scl xs n) 5000) := (scl_sz (xs := xs) (k := n) fun i hi => (hvx i hi).2.1).up (by omega)
      have HT2 : Hid (Sz (scl ys n) 5000) := (scl_sz (xs := ys) (k := n) fun i hi => (hvy i hi).2.1).up (by omega)
      have z1 : Sz (scl xs n) 4000 := (scl_sz (xs := xs) (k := n) fun i hi => (hvx i hi).2.1).up (by omega)
      have z2 : Sz (scl ys n) 4000 := (scl_sz (xs := ys) (k := n) fun i hi => (hvy i hi).2.1).up (by omega)
      have HF1 : Hid (∀ i, i < n → Sz (wgt (scl xs n) (xs.getD i (0, 1))) 5000) := fun i hi => (wsm_sz z1 i (hvx i hi).2.2.2.1).up (by omega)
      have HF2 : Hid (∀ i, i < n → Sz (wgt (scl ys n) (ys.getD i (0, 1))) 5000) := fun i hi => (wsm_sz z2 i (hvy i hi).2.2.2.1).up (by omega)
      have p1 : 0 < scl xs n := scl_pos fun i hi => (hvx i hi).1
      have p2 : 0 < scl ys n := scl_pos fun i hi => (hvy i hi).1
      have HTp : Hid (0 < 2 * scl xs n * scl ys n) := Nat.mul_pos (Nat.mul_pos (by omega) p1) p2
      have HS1 : Hid (Sz (dsm (fun i => wgt (scl xs n) (xs.getD i (0, 1))) (fun i => wgt (scl ys n) (ys.getD i (0, 1))) (scl xs n) (scl ys n) n) 15100) := (dsm_sz HF1.out HF2.out HT1.out HT2.out n (Nat.le_refl _)).up (by omega)
      have HS2 : Hid (Sz (2 * scl xs n * scl ys n) 15100) := (((show Sz 2 2 by unfold Sz; omega).mul HT1.out).mul HT2.out).up (by omega)
      clear hc1 hc2 hvx hvy z1 z2 p1 p2
      go_enter Try.func42, Try.ntmps42
      go_upto_region 1 with fail
      generalize w.alloc (.cells _ _) = w1 at A B hx hy ⊢
      go_wp2_with fail
      refine (shares_yes a n cap xs w1 hx HC1.out).mono ?_
      rintro e w2 ⟨g1, a1, l1, c1, rfl, hN, hT, hb⟩
      replace A := A.far hb
      replace B := B.trans (hb.mono B.size)
      replace hy := hy.far hb
      clear hb hx
      have A6 := D2.new w2 (.slice (some ⟨g1, 0, none⟩) n n) (.slice a1 l1 c1) 125
      have hbA : Below w2.heap.size w2 (w2.alloc (.cells #[.slice (some ⟨g1, 0, none⟩) n n, .slice a1 l1 c1] 125)) := (Below.refl _ _).alloc (Nat.le_refl _) _
      replace A := A.far hbA
      replace B := B.trans (hbA.mono B.size)
      replace hy := hy.far hbA
      replace hN := hN.far hbA
      replace hT := hT.far hbA
      clear hbA
      go_upto_region 2 with fail
      generalize w2.alloc (.cells _ _) = w3 at A A6 B hy hN hT ⊢
      generalize w2.heap.size = k6 at A6 ⊢
      go_wp2_with fail
      refine (shares_yes b n capb ys w3 hy HC2.out).mono ?_
      rintro e w4 ⟨g2, a2, l2, c2, rfl, hM, hU, hb⟩
      replace A := A.far hb
      replace B := B.trans (hb.mono B.size)
      replace A6 := A6.far hb
      replace hN := hN.far hb
      replace hT := hT.far hb
      clear hb hy
      have A8 := D2.new w4 (.slice (some ⟨g2, 0, none⟩) n n) (.slice a2 l2 c2) 125
      have hbA : Below w4.heap.size w4 (w4.alloc (.cells #[.slice (some ⟨g2, 0, none⟩) n n, .slice a2 l2 c2] 125)) := (Below.refl _ _).alloc (Nat.le_refl _) _
      replace A := A.far hbA
      replace A6 := A6.far hbA
      replace B := B.trans (hbA.mono B.size)
      replace hN := hN.far hbA
      replace hT := hT.far hbA
      replace hM := hM.far hbA
      replace hU := hU.far hbA
      clear hbA
      go_upto_region 3 with fail
      generalize w4.alloc (.cells _ _) = w5 at A A6 A8 B hN hT hM hU ⊢
      generalize w4.heap.size = k8 at A8 ⊢
      have h8 := A8.1
      have h6 := A6.1
      obtain ⟨u0, u1⟩ := h6
      obtain ⟨v0, v1⟩ := h8
      clear A6 A8
      go_wp2_with fail
      refine (idist_any g1 g2 n a1 a2 l1 c1 l2 c2 (scl xs n) (scl ys n) 5000 (fun i => wgt (scl xs n) (xs.getD i (0, 1))) (fun i => wgt (scl ys n) (ys.getD i (0, 1))) w5 hN hT hM hU HF1.out HF2.out HT1.out HT2.out (by omega) (by omega)).mono ?_
      rintro x w6 ⟨a3, l3, c3, a4, l4, c4, rfl, h3, h4, hb⟩
      replace A := A.far hb
      replace B := B.trans (hb.mono B.size)
      clear hb hN hT hM hU u0 u1 v0 v1
      go_wp2_with fail
      refine (qfrac_any a3 a4 l3 c3 l4 c4 _ _ 15100 w6 h3 h4 HTp.out HS1.out HS2.out (by omega)).mono ?_
      rintro x w7 ⟨n', d', ok, rfl, hfr, hb⟩
      have HI : Hid (DistFr xs ys n' d' ok) := .inl ⟨HC1.out, HC2.out, by rw [hlx, hly], by rw [hlx]; exact hfr⟩
      replace A := A.far hb
      replace B := B.trans (hb.mono B.size)
      clear hb h3 h4 hfr
      obtain ⟨⟨y0, y1⟩, y2, y3⟩ := id A
      have HP2 := A.put (.int .i64 n') (.int .i64 d')
      have HB9 := below_putD B (Nat.le_refl _) (.int .i64 n') (.int .i64 d')
      clear A B
      unfold putD at HP2 HB9
      go_wp2
      clear y0 y1 y2 y3
      generalize World.setCell _ ⟨w.heap.size, 1, none⟩ _ = V at HP2 HB9 ⊢
      obtain ⟨⟨y0, y1⟩, _, _⟩ := id HP2
      refine bodyPost_ret (v := .tuple #[.agg #[.int .i64 n', .int .i64 d'], .bool ok]) (by simp [results, Try.results42, go_sem, y0, y1]) rfl ⟨n', d', ok, rfl, HI.out, HB9⟩
    · have HI : Hid (DistFr xs ys 0 0 false) := .inr ⟨fun h => hnm (by have := h.2.2; omega), rfl, rfl, rfl⟩
      have hnm2 : ¬ (n : Int) = m := by omega
      have hnm3 : ((n : Int) != (m : Int)) = true := by simp; omega
      clear hc1 hc2
      go_enter Try.func42, Try.ntmps42
      go_upto_region 1 with fail
      generalize w.alloc (.cells _ _) = w1 at A B hx hy ⊢
      go_wp2_with fail
      refine (shares_yes a n cap xs w1 hx HC1.out).mono ?_
      rintro e w2 ⟨g1, a1, l1, c1, rfl, hN, hT, hb⟩
      replace A := A.far hb
      replace B := B.trans (hb.mono B.size)
      replace hy := hy.far hb
      clear hb hx
      have A6 := D2.new w2 (.slice (some ⟨g1, 0, none⟩) n n) (.slice a1 l1 c1) 125
      have hbA : Below w2.heap.size w2 (w2.alloc (.cells #[.slice (some ⟨g1, 0, none⟩) n n, .slice a1 l1 c1] 125)) := (Below.refl _ _).alloc (Nat.le_refl _) _
      replace A := A.far hbA
      replace B := B.trans (hbA.mono B.size)
      replace hy := hy.far hbA
      replace hN := hN.far hbA
      replace hT := hT.far hbA
      clear hbA
      go_upto_region 2 with fail
      generalize w2.alloc (.cells _ _) = w3 at A A6 B hy hN hT ⊢
      generalize w2.heap.size = k6 at A6 ⊢
      go_wp2_with fail
      refine (shares_yes b m capb ys w3 hy HC2.out).mono ?_
      rintro e w4 ⟨g2, a2, l2, c2, rfl, hM, hU, hb⟩
      replace A := A.far hb
      replace B := B.trans (hb.mono B.size)
      replace A6 := A6.far hb
      replace hN := hN.far hb
      replace hT := hT.far hb
      clear hb hy
      have A8 := D2.new w4 (.slice (some ⟨g2, 0, none⟩) m m) (.slice a2 l2 c2) 125
      have hbA : Below w4.heap.size w4 (w4.alloc (.cells #[.slice (some ⟨g2, 0, none⟩) m m, .slice a2 l2 c2] 125)) := (Below.refl _ _).alloc (Nat.le_refl _) _
      replace A := A.far hbA
      replace A6 := A6.far hbA
      replace B := B.trans (hbA.mono B.size)
      replace hN := hN.far hbA
      replace hT := hT.far hbA
      replace hM := hM.far hbA
      replace hU := hU.far hbA
      clear hbA
      go_upto_region 3 with fail
      generalize w4.alloc (.cells _ _) = w5 at A A6 A8 B hN hT hM hU ⊢
      generalize w4.heap.size = k8 at A8 ⊢
      obtain ⟨⟨y0, y1⟩, y2, y3⟩ := id A
      have HP2 := A.put (.int .i64 0) (.int .i64 0)
      have HB9 := below_putD B (Nat.le_refl _) (.int .i64 0) (.int .i64 0)
      clear A B A6 A8 hN hT hM hU
      unfold putD at HP2 HB9
      go_wp2
      clear y0 y1 y2 y3
      generalize World.setCell _ ⟨w.heap.size, 1, none⟩ _ = V at HP2 HB9 ⊢
      obtain ⟨⟨y0, y1⟩, _, _⟩ := id HP2
      refine bodyPost_ret (v := .tuple #[.agg #[.int .i64 0, .int .i64 0], .bool false]) (by simp [results, Try.results42, go_sem, y0, y1]) rfl ⟨0, 0, false, rfl, HI.out, HB9⟩
  · have HC1 := Lib.hid hc1
    have HC2 := Lib.hid hc2
    have HI : Hid (DistFr xs ys 0 0 false) := .inr ⟨fun h => hc2 h.2.1, rfl, rfl, rfl⟩
    clear hc1 hc2
    go_enter Try.func42, Try.ntmps42
    go_upto_region 1 with fail
    generalize w.alloc (.cells _ _) = w1 at A B hx hy ⊢
    go_wp2_with fail
    refine (shares_yes a n cap xs w1 hx HC1.out).mono ?_
    rintro e w2 ⟨g1, a1, l1, c1, rfl, hN, hT, hb⟩
    replace A := A.far hb
    replace B := B.trans (hb.mono B.size)
    replace hy := hy.far hb
    clear hb hx
    have A6 := D2.new w2 (.slice (some ⟨g1, 0, none⟩) n n) (.slice a1 l1 c1) 125
    have hbA : Below w2.heap.size w2 (w2.alloc (.cells #[.slice (some ⟨g1, 0, none⟩) n n, .slice a1 l1 c1] 125)) := (Below.refl _ _).alloc (Nat.le_refl _) _
    replace A := A.far hbA
    replace B := B.trans (hbA.mono B.size)
    replace hy := hy.far hbA
    replace hN := hN.far hbA
    replace hT := hT.far hbA
    clear hbA
    go_upto_region 2 with fail
    generalize w2.alloc (.cells _ _) = w3 at A A6 B hy hN hT ⊢
    generalize w2.heap.size = k6 at A6 ⊢
    go_wp2_with fail
    refine (shares_no b m capb ys w3 hy hm HC2.out).mono ?_
    rintro e w4 ⟨rfl, hb⟩
    replace A := A.far hb
    replace B := B.trans (hb.mono B.size)
    replace A6 := A6.far hb
    replace hN := hN.far hb
    replace hT := hT.far hb
    clear hb hy
    have A8 := D2.new w4 (.slice none 0 0) (.slice none 0 0) 125
    have hbA : Below w4.heap.size w4 (w4.alloc (.cells #[.slice none 0 0, .slice none 0 0] 125)) := (Below.refl _ _).alloc (Nat.le_refl _) _
    replace A := A.far hbA
    replace A6 := A6.far hbA
    replace B := B.trans (hbA.mono B.size)
    replace hN := hN.far hbA
    replace hT := hT.far hbA
    clear hbA
    go_upto_region 3 with fail
    generalize w4.alloc (.cells _ _) = w5 at A A6 A8 B hN hT ⊢
    generalize w4.heap.size = k8 at A8 ⊢
    obtain ⟨⟨y0, y1⟩, y2, y3⟩ := id A
    have HP2 := A.put (.int .i64 0) (.int .i64 0)
    have HB9 := below_putD B (Nat.le_refl _) (.int .i64 0) (.int .i64 0)
    clear A B A6 A8 hN hT
    unfold putD at HP2 HB9
    go_wp2
    clear y0 y1 y2 y3
    generalize World.setCell _ ⟨w.heap.size, 1, none⟩ _ = V at HP2 HB9 ⊢
    obtain ⟨⟨y0, y1⟩, _, _⟩ := id HP2
    refine bodyPost_ret (v := .tuple #[.agg #[.int .i64 0, .int .i64 0], .bool false]) (by simp [results, Try.results42, go_sem, y0, y1]) rfl ⟨0, 0, false, rfl, HI.out, HB9⟩
  · have HC1 := Lib.hid hc1
    have HC2 := Lib.hid hc2
    have HI : Hid (DistFr xs ys 0 0 false) := .inr ⟨fun h => hc1 h.1, rfl, rfl, rfl⟩
    clear hc1 hc2
    go_enter Try.func42, Try.ntmps42
    go_upto_region 1 with fail
    generalize w.alloc (.cells _ _) = w1 at A B hx hy ⊢
    go_wp2_with fail
    refine (shares_no a n cap xs w1 hx hn HC1.out).mono ?_
    rintro e w2 ⟨rfl, hb⟩
    replace A := A.far hb
    replace B := B.trans (hb.mono B.size)
    replace hy := hy.far hb
    clear hb hx
    have A6 := D2.new w2 (.slice none 0 0) (.slice none 0 0) 125
    have hbA : Below w2.heap.size w2 (w2.alloc (.cells #[.slice none 0 0, .slice none 0 0] 125)) := (Below.refl _ _).alloc (Nat.le_refl _) _
    replace A := A.far hbA
    replace B := B.trans (hbA.mono B.size)
    replace hy := hy.far hbA
    clear hbA
    go_upto_region 2 with fail
    generalize w2.alloc (.cells _ _) = w3 at A A6 B hy  ⊢
    generalize w2.heap.size = k6 at A6 ⊢
    go_wp2_with fail
    refine (shares_yes b m capb ys w3 hy HC2.out).mono ?_
    rintro e w4 ⟨g2, a2, l2, c2, rfl, hM, hU, hb⟩
    replace A := A.far hb
    replace B := B.trans (hb.mono B.size)
    replace A6 := A6.far hb
    clear hb hy
    have A8 := D2.new w4 (.slice (some ⟨g2, 0, none⟩) m m) (.slice a2 l2 c2) 125
    have hbA : Below w4.heap.size w4 (w4.alloc (.cells #[.slice (some ⟨g2, 0, none⟩) m m, .slice a2 l2 c2] 125)) := (Below.refl _ _).alloc (Nat.le_refl _) _
    replace A := A.far hbA
    replace A6 := A6.far hbA
    replace B := B.trans (hbA.mono B.size)
    replace hM := hM.far hbA
    replace hU := hU.far hbA
    clear hbA
    go_upto_region 3 with fail
    generalize w4.alloc (.cells _ _) = w5 at A A6 A8 B hM hU ⊢
    generalize w4.heap.size = k8 at A8 ⊢
    obtain ⟨⟨y0, y1⟩, y2, y3⟩ := id A
    have HP2 := A.put (.int .i64 0) (.int .i64 0)
    have HB9 := below_putD B (Nat.le_refl _) (.int .i64 0) (.int .i64 0)
    clear A B A6 A8 hM hU
    unfold putD at HP2 HB9
    go_wp2
    clear y0 y1 y2 y3
    generalize World.setCell _ ⟨w.heap.size, 1, none⟩ _ = V at HP2 HB9 ⊢
    obtain ⟨⟨y0, y1⟩, _, _⟩ := id HP2
    refine bodyPost_ret (v := .tuple #[.agg #[.int .i64 0, .int .i64 0], .bool false]) (by simp [results, Try.results42, go_sem, y0, y1]) rfl ⟨0, 0, false, rfl, HI.out, HB9⟩
  · have HC1 := Lib.hid hc1
    have HC2 := Lib.hid hc2
    have HI : Hid (DistFr xs ys 0 0 false) := .inr ⟨fun h => hc1 h.1, rfl, rfl, rfl⟩
    clear hc1 hc2
    go_enter Try.func42, Try.ntmps42
    go_upto_region 1 with fail
    generalize w.alloc (.cells _ _) = w1 at A B hx hy ⊢
    go_wp2_with fail
    refine (shares_no a n cap xs w1 hx hn HC1.out).mono ?_
    rintro e w2 ⟨rfl, hb⟩
    replace A := A.far hb
    replace B := B.trans (hb.mono B.size)
    replace hy := hy.far hb
    clear hb hx
    have A6 := D2.new w2 (.slice none 0 0) (.slice none 0 0) 125
    have hbA : Below w2.heap.size w2 (w2.alloc (.cells #[.slice none 0 0, .slice none 0 0] 125)) := (Below.refl _ _).alloc (Nat.le_refl _) _
    replace A := A.far hbA
    replace B := B.trans (hbA.mono B.size)
    replace hy := hy.far hbA
    clear hbA
    go_upto_region 2 with fail
    generalize w2.alloc (.cells _ _) = w3 at A A6 B hy  ⊢
    generalize w2.heap.size = k6 at A6 ⊢
    go_wp2_with fail
    refine (shares_no b m capb ys w3 hy hm HC2.out).mono ?_
    rintro e w4 ⟨rfl, hb⟩
    replace A := A.far hb
    replace B := B.trans (hb.mono B.size)
    replace A6 := A6.far hb
    clear hb hy
    have A8 := D2.new w4 (.slice none 0 0) (.slice none 0 0) 125
    have hbA : Below w4.heap.size w4 (w4.alloc (.cells #[.slice none 0 0, .slice none 0 0] 125)) := (Below.refl _ _).alloc (Nat.le_refl _) _
    replace A := A.far hbA
    replace A6 := A6.far hbA
    replace B := B.trans (hbA.mono B.size)
    clear hbA
    go_upto_region 3 with fail
    generalize w4.alloc (.cells _ _) = w5 at A A6 A8 B  ⊢
    generalize w4.heap.size = k8 at A8 ⊢
    obtain ⟨⟨y0, y1⟩, y2, y3⟩ := id A
    have HP2 := A.put (.int .i64 0) (.int .i64 0)
    have HB9 := below_putD B (Nat.le_refl _) (.int .i64 0) (.int .i64 0)
    clear A B A6 A8 
    unfold putD at HP2 HB9
    go_wp2
    clear y0 y1 y2 y3
    generalize World.setCell _ ⟨w.heap.size, 1, none⟩ _ = V at HP2 HB9 ⊢
    obtain ⟨⟨y0, y1⟩, _, _⟩ := id HP2
    refine bodyPost_ret (v := .tuple #[.agg #[.int .i64 0, .int .i64 0], .bool false]) (by simp [results, Try.results42, go_sem, y0, y1]) rfl ⟨0, 0, false, rfl, HI.out, HB9⟩
end Go.Proofs.Ytmnnpkmjamhmcab

namespace Go.Proofs.Ytmnnpkmjamhmcab
open Go.RowKit Go.PlainAid
set_option maxHeartbeats 800000
theorem isCh_scl {xs : List (Int × Int)} (h : IsCh xs) : 0 < scl xs xs.length := scl_pos fun _ hi => (h.2.2.1.getD hi).1
theorem DistFr.uniq {xs ys : List (Int × Int)} {n d n' d' : Int} {ok ok' : Bool} (h : DistFr xs ys n d ok) (h' : DistFr xs ys n' d' ok') : n = n' ∧ d = d' ∧ ok = ok' := by
  rcases h with ⟨h1, h2, h3, h4⟩ | ⟨h1, rfl, rfl, rfl⟩ <;> rcases h' with ⟨k1, k2, k3, k4⟩ | ⟨k1, rfl, rfl, rfl⟩
  · have p1 := isCh_scl h1
    have p2 := isCh_scl h2
    rw [← h3] at p2
    have := Nat.mul_pos (Nat.mul_pos (show 0 < 2 by omega) p1) p2
    exact h4.uniq (by omega) k4
  · exact absurd ⟨h1, h2, h3⟩ k1
  · exact absurd ⟨k1, k2, k3⟩ h1
  · exact ⟨rfl, rfl, rfl⟩
theorem dist_ex (xs ys : List (Int × Int)) : ∃ n d ok, DistFr xs ys n d ok := by
  by_cases h : IsCh xs ∧ IsCh ys ∧ xs.length = ys.length
  · obtain ⟨n, d, ok, hf⟩ := isFr_ex (dsm (fun i => wgt (scl xs xs.length) (xs.getD i (0, 1))) (fun i => wgt (scl ys xs.length) (ys.getD i (0, 1))) (scl xs xs.length) (scl ys xs.length) xs.length : Nat) ((2 * scl xs xs.length * scl ys xs.length : Nat) : Int)
    exact ⟨n, d, ok, .inl ⟨h.1, h.2.1, h.2.2, hf⟩⟩
  · exact ⟨0, 0, false, .inr ⟨h, rfl, rfl, rfl⟩⟩
theorem dif_abs (a b : Nat) : dif a b = ((a : Int) - b).natAbs := by unfold dif; omega
/-- one difference over the scale of both -/
theorem dif_over {T U w v : Nat} {a b y e : Int} (hb : 1 ≤ b) (he : 1 ≤ e) (h1 : (w : Int) * b = T * a) (h2 : (v : Int) * e = U * y) : b * e * (dif (w * U) (v * T) : Nat) = (T * U : Nat) * ((a * e - y * b).natAbs : Int) := by
  have h3 : b * e * (((w * U : Nat) : Int) - ((v * T : Nat) : Int)) = (T * U : Nat) * (a * e - y * b) := by
    push_cast
    grind
  have h4 := congrArg Int.natAbs h3
  rw [Int.natAbs_mul (b * e), Int.natAbs_mul ((T * U : Nat) : Int)] at h4
  have h5 : (((b * e).natAbs : Nat) : Int) = b * e := by
    have := Int.mul_pos (show 0 < b by omega) (show 0 < e by omega)
    omega
  have h6 : ((T * U : Nat) : Int).natAbs = T * U := Int.natAbs_natCast _
  rw [h6, ← dif_abs] at h4
  have h7 : (((b * e).natAbs * dif (w * U) (v * T) : Nat) : Int) = ((T * U * (a * e - y * b).natAbs : Nat) : Int) := congrArg _ h4
  rw [Int.natCast_mul, h5] at h7
  rw [h7]
  push_cast
  rfl
/-- the absolute difference of two entries -/
def dfp (xs ys : List (Int × Int)) (i : Nat) : Int × Int := (((xs.getD i (0, 1)).1 * (ys.getD i (0, 1)).2 - (ys.getD i (0, 1)).1 * (xs.getD i (0, 1)).2).natAbs, (xs.getD i (0, 1)).2 * (ys.getD i (0, 1)).2)
theorem dsm_rats {T U : Nat} {xs ys : List (Int × Int)} {k : Nat} (h : ∀ i, i < k → 1 ≤ (xs.getD i (0, 1)).2 ∧ 0 ≤ (xs.getD i (0, 1)).1 ∧ (xs.getD i (0, 1)).2.toNat ∣ T) (h' : ∀ i, i < k → 1 ≤ (ys.getD i (0, 1)).2 ∧ 0 ≤ (ys.getD i (0, 1)).1 ∧ (ys.getD i (0, 1)).2.toNat ∣ U) :
    ((T * U : Nat) : Int) * (rats (dfp xs ys) k).1 = (rats (dfp xs ys) k).2 * (dsm (fun i => wgt T (xs.getD i (0, 1))) (fun i => wgt U (ys.getD i (0, 1))) T U k : Nat) := by
  induction k with
  | zero => simp [rats, dsm]
  | succ k ih =>
    obtain ⟨h1, h2, h3⟩ := h k (by omega)
    obtain ⟨g1, g2, g3⟩ := h' k (by omega)
    have h4 := ih (fun i hi => h i (by omega)) (fun i hi => h' i (by omega))
    have h6 : ((wgt T (xs.getD k (0, 1)) : Nat) : Int) * (xs.getD k (0, 1)).2 = T * (xs.getD k (0, 1)).1 := by
      have h5 := wgt_eq h3
      have e1 : (((xs.getD k (0, 1)).2.toNat : Nat) : Int) = (xs.getD k (0, 1)).2 := by omega
      have e2 : (((xs.getD k (0, 1)).1.toNat : Nat) : Int) = (xs.getD k (0, 1)).1 := by omega
      rw [← e1, ← e2]
      exact_mod_cast h5
    have h7 : ((wgt U (ys.getD k (0, 1)) : Nat) : Int) * (ys.getD k (0, 1)).2 = U * (ys.getD k (0, 1)).1 := by
      have h5 := wgt_eq g3
      have e1 : (((ys.getD k (0, 1)).2.toNat : Nat) : Int) = (ys.getD k (0, 1)).2 := by omega
      have e2 : (((ys.getD k (0, 1)).1.toNat : Nat) : Int) = (ys.getD k (0, 1)).1 := by omega
      rw [← e1, ← e2]
      exact_mod_cast h5
    have h8 := dif_over h1 g1 h6 h7
    simp only [rats, dsm, dfp]
    rw [Int.natCast_add]
    clear h h' ih h6 h7 h1 h2 h3 g1 g2 g3
    generalize ((dif (wgt T (xs.getD k (0, 1)) * U) (wgt U (ys.getD k (0, 1)) * T) : Nat) : Int) = D at *
    generalize (((xs.getD k (0, 1)).1 * (ys.getD k (0, 1)).2 - (ys.getD k (0, 1)).1 * (xs.getD k (0, 1)).2).natAbs : Int) = A at *
    generalize (xs.getD k (0, 1)).2 * (ys.getD k (0, 1)).2 = b at *
    change _ * ((rats (dfp xs ys) k).1 * _ + _ * (rats (dfp xs ys) k).2) = (rats (dfp xs ys) k).2 * _ * _
    generalize (rats (dfp xs ys) k).1 = P at *
    generalize (rats (dfp xs ys) k).2 = Q at *
    generalize ((dsm _ _ T U k : Nat) : Int) = S at *
    generalize ((T * U : Nat) : Int) = t at *
    grind
end Go.Proofs.Ytmnnpkmjamhmcab

namespace Go.Proofs.Ytmnnpkmjamhmcab
open Go.RowKit Go.PlainAid
set_option maxHeartbeats 1600000
set_option maxRecDepth 20000
theorem half_any (v1 : Value) (P Q : Int) (e1 : Nat) (w : World) (h1 : Wd w v1 P Q e1) (b1 : 60 ≤ e1) (c1 : e1 ≤ 4000000) (hQ : Q ≠ 0) :
    Calls Try.prog 134 #[v1] w fun e w' => ∃ v, e = .returned v ∧ Wd w' v (P * 1) (Q * 2) (e1 + 60) ∧ Below w.heap.size w w' := by
  have hv : VF 1 2 := by unfold VF; decide
  have HW := Lib.hid h1
  have HV := Lib.hid hv
  obtain ⟨s1, ga, la, ca, N, gb, lb, cb, D, f1, fn, fd, rfl, _, _⟩ := h1
  clear hv
  obtain ⟨A0, A1, B⟩ := DL.two w (.bool s1) (.bool false) [.slice (some ⟨ga, 0, none⟩) la ca, .slice (some ⟨gb, 0, none⟩) lb cb, .bool f1, .int .i64 fn, .int .i64 fd] [.slice none 0 0, .slice none 0 0, .bool false, .int .i64 0, .int .i64 0] 115 115
  go_enter Try.func134, Try.ntmps134
  go_upto_region 1 with fail
  generalize (w.alloc (.cells _ _)).alloc (.cells _ _) = w1 at A0 A1 B ⊢
  have hW := HW.out.far B
  have x0 := A0.drew.gr (rw := some (w.heap.size + 1)) (by simp) 0 rfl
  have x1 := A0.drew.gr (rw := some (w.heap.size + 1)) (by simp) 1 rfl
  have x2 := A0.drew.gr (rw := some (w.heap.size + 1)) (by simp) 2 rfl
  have x3 := A0.drew.gr (rw := some (w.heap.size + 1)) (by simp) 3 rfl
  have x4 := A0.drew.gr (rw := some (w.heap.size + 1)) (by simp) 4 rfl
  have x5 := A0.drew.gr (rw := some (w.heap.size + 1)) (by simp) 5 rfl
  refine wp_region_mix (some (w.heap.size + 1)) [0, 1] [2, 3, 4] (by kernel_rfl) (by kernel_rfl) ?_
  simp only [pickOps, List.filterMap_cons, List.filterMap_nil, List.getElem?_toArray, List.getElem?_cons_succ, List.getElem?_cons_zero]
  repeat (refine wpQuietG_step (fun K hK => ?_); go_simp; first | (refine hK _ ?_; clear hK K) | (apply Exists.intro; refine ⟨fun _ => ?_, hK _ ?_⟩; (fail); clear hK K))
  refine wpQuietG_nil ?_
  clear x0 x1 x2 x3 x4 x5 A0 HW
  intro V1 hG1 hb
  replace hW := hW.far (of_drew hb)
  replace A1 := A1.far (of_drew hb)
  replace B := B.trans ((of_drew hb).mono B.size)
  clear hb
  go_wp2_with fail
  refine (wideOf_any 1 2 HV.out _).mono ?_
  rintro x V2 ⟨v2, rfl, h2, hb⟩
  replace hW := hW.far hb
  replace A1 := A1.far hb
  replace B := B.trans (hb.mono B.size)
  replace hG1 := gr_step hG1 hb
  clear hb
  go_wp2
  try refine ⟨hG1, ?_⟩
  clear hG1
  intro V3 hG1 hb
  replace hW := hW.far hb
  replace h2 := h2.far hb
  replace A1 := A1.far hb
  replace B := B.trans (hb.mono B.size)
  clear hb
  go_wp2_with fail
  refine (wmul_any _ v2 P Q 1 2 e1 60 _ hW h2 b1 (by omega) (by omega) (by omega) hQ (by omega)).mono ?_
  rintro x V4 ⟨v3, rfl, h3, hb⟩
  replace A1 := A1.far hb
  replace B := B.trans (hb.mono B.size)
  replace hG1 := gr_step hG1 hb
  clear hb hW h2
  go_wp2
  try refine ⟨hG1, ?_⟩
  clear hG1
  intro V5 hG1 hb
  replace h3 := h3.far hb
  replace A1 := A1.far hb
  replace B := B.trans (hb.mono B.size)
  clear hb
  have h4 := h3
  obtain ⟨s3, g3, l3, c3, N3, g4, l4, c4, D4, f4, m3, d3, rfl, _, _⟩ := h4
  obtain ⟨⟨k0, k1, k2, k3, k4, k5⟩, t0, t1, t2, t3, t4, t5⟩ := A1.six
  have HP := A1.put6 (.bool s3) (.slice (some ⟨g3, 0, none⟩) l3 c3) (.slice (some ⟨g4, 0, none⟩) l4 c4) (.bool f4) (.int .i64 m3) (.int .i64 d3)
  have HB9 := below_put6 B (show w.heap.size ≤ w.heap.size + 1 by omega) (.bool s3) (.slice (some ⟨g3, 0, none⟩) l3 c3) (.slice (some ⟨g4, 0, none⟩) l4 c4) (.bool f4) (.int .i64 m3) (.int .i64 d3)
  have HWD := h3.kept6 k0 (.bool s3) (.slice (some ⟨g3, 0, none⟩) l3 c3) (.slice (some ⟨g4, 0, none⟩) l4 c4) (.bool f4) (.int .i64 m3) (.int .i64 d3)
  go_wp2
  refine ⟨gr_put6 hG1 (.inl rfl) _ _ _ _ _ _, ?_⟩
  clear hG1 h3 A1 B k0 k1 k2 k3 k4 k5 t0 t1 t2 t3 t4 t5
  unfold put6 at HP HB9 HWD
  generalize World.setCell _ ⟨w.heap.size + 1, 5, none⟩ _ = V at HP HB9 HWD ⊢
  intro V9 hG1 hb
  replace HP := HP.far hb
  replace HWD := HWD.far hb
  replace HB9 := HB9.trans (hb.mono HB9.size)
  clear hb hG1
  obtain ⟨⟨k0, k1, k2, k3, k4, k5⟩, _⟩ := HP.six
  go_wp2
  refine bodyPost_ret (v := .agg #[.bool s3, .slice (some ⟨g3, 0, none⟩) l3 c3, .slice (some ⟨g4, 0, none⟩) l4 c4, .bool f4, .int .i64 m3, .int .i64 d3]) (by simp [results, Try.results134, go_sem, k0, k1, k2, k3, k4, k5]) rfl ⟨_, rfl, HWD, HB9⟩
end Go.Proofs.Ytmnnpkmjamhmcab

namespace Go.Proofs.Ytmnnpkmjamhmcab
open Go.RowKit Go.PlainAid
set_option maxHeartbeats 3200000
set_option maxRecDepth 20000
theorem abs_false {w : World} {s : Bool} {g1 l1 c1 N g2 l2 c2 D : Nat} {fine : Bool} {fn fd : Int} {e : Nat} {P Q : Int} (h : Wc w s g1 l1 c1 N g2 l2 c2 D fine fn fd e) (he : sg s * N * Q = P * D) (hQ : 0 < Q) : (s = false → 0 ≤ P) ∧ (s = true → P ≤ 0) := by
  have hD : 0 < D := h.2.2.1
  constructor
  · rintro rfl
    have h1 : (0 : Int) ≤ (N : Int) * Q := Int.mul_nonneg (by omega) (by omega)
    have h2 : sg false * N * Q = (N : Int) * Q := by simp [sg]
    rw [h2] at he
    rw [he] at h1
    exact Int.nonneg_of_mul_nonneg_left h1 (by omega)
  · rintro rfl
    have h1 : (0 : Int) ≤ (N : Int) * Q := Int.mul_nonneg (by omega) (by omega)
    have h2 : sg true * N * Q = -((N : Int) * Q) := by simp [sg, Int.neg_mul]
    rw [h2] at he
    have h3 : 0 ≤ -P * D := by rw [Int.neg_mul]; omega
    have := Int.nonneg_of_mul_nonneg_left h3 (show (0 : Int) < D by omega)
    omega

theorem sdist_any (ga n ca gb cb : Nat) (F G : Nat → Nat → Value) (xs ys : List (Int × Int)) (w : World) (h1 : WL w ga n F (fun i => xs.getD i (0, 1)) 60) (h2 : WL w gb n G (fun i => ys.getD i (0, 1)) 60) (hn : n ≤ 16) (hx : ∀ i, i < n → VF (xs.getD i (0, 1)).1 (xs.getD i (0, 1)).2) (hy : ∀ i, i < n → VF (ys.getD i (0, 1)).1 (ys.getD i (0, 1)).2) :
    Calls Try.prog 82 #[.slice (some ⟨ga, 0, none⟩) n ca, .slice (some ⟨gb, 0, none⟩) n cb] w fun e w' => ∃ v, e = .returned v ∧ Wd w' v ((rats (dfp xs ys) n).1 * 1) ((rats (dfp xs ys) n).2 * 2) 5000 ∧ Below w.heap.size w w' := by
  obtain ⟨i0, hi, hz0, hz1, hz2⟩ := info_parts Try.info115
  have H1 := Lib.hid h1
  have H2 := Lib.hid h2
  have HVX := Lib.hid hx
  have HVY := Lib.hid hy
  have hV1 : VF (-1) 1 := ⟨by decide, by decide, by decide, by decide, by decide⟩
  have HVM := Lib.hid hV1
  have A := DL.new w [.bool false, .slice none 0 0, .slice none 0 0, .bool false, .int .i64 0, .int .i64 0] 115
  have B := (Below.refl w.heap.size w).alloc (Nat.le_refl _) (.cells [.bool false, .slice none 0 0, .slice none 0 0, .bool false, .int .i64 0, .int .i64 0].toArray 115)
  have hs1 : (w.alloc (.cells [.bool false, .slice none 0 0, .slice none 0 0, .bool false, .int .i64 0, .int .i64 0].toArray 115)).heap.size = w.heap.size + 1 := by simp
  clear h1 h2 hx hy hV1
  go_enter Try.func82, Try.ntmps82
  go_upto_region 1 with fail
  generalize w.alloc (.cells _ _) = w1 at A B hs1 ⊢
  have hbA : Below w1.heap.size w1 (w1.alloc (.cells #[] 115)) := (Below.refl _ _).alloc (Nat.le_refl _) _
  have HO : Hid ((w1.alloc (.cells #[] 115)).ownsRow w1.heap.size 115 6 (.slice (some ⟨w1.heap.size, 0, none⟩) 0 0) 0 (flat6 (fun _ _ => undef) 0)) := ownsRow_empty w1 115 6
  have HA := Lib.hid (A.far hbA)
  have HB := Lib.hid (B.trans (hbA.mono B.size))
  clear A B hbA
  go_wp2
  generalize w1.alloc (.cells _ _) = w3 at HO HA HB ⊢
  rw [hs1] at HO
  clear hs1
  go_loopw [5, 6, 7] (fun v iv _ wr => ∃ (k g cp : Nat) (H : Nat → Nat → Value), k ≤ n ∧ (k = 0 → cp = 0) ∧ iv = .int .i64 k ∧ v = .slice (some ⟨g, 0, none⟩) k cp ∧ Hid (wr.ownsRow (w.heap.size + 1) 115 6 (.slice (some ⟨g, 0, none⟩) k cp) k (flat6 H k)) ∧ Hid (∀ i, i < k → Wd wr (.agg #[H i 0, H i 1, H i 2, H i 3, H i 4, H i 5]) (dfp xs ys i).1 (dfp xs ys i).2 241) ∧ Hid (DL wr w.heap.size [.bool false, .slice none 0 0, .slice none 0 0, .bool false, .int .i64 0, .int .i64 0]) ∧ Hid (Below w.heap.size w wr)) (fun _ iv _ _ => n - (intOf iv).toNat)
  case atStart => exact ⟨0, _, _, _, Nat.zero_le _, fun _ => rfl, rfl, rfl, HO, fun i hi => absurd hi (by omega), HA, HB⟩
  case round =>
    clear HO HA HB
    obtain ⟨k, g, cp, H, hk, hcp0, rfl, rfl, HR, HW, HA, HB⟩ := hrel
    by_cases hlt : k < n
    · obtain ⟨hg, hc, hEl⟩ := (H1.out.far HB.out) k hlt
      obtain ⟨hg', hc', hEl'⟩ := (H2.out.far HB.out) k hlt
      have hvx := HVX.out k hlt
      have hvy := HVY.out k hlt
      have HDF : Hid (dfp xs ys k = ((((xs.getD k (0, 1)).1 * (ys.getD k (0, 1)).2 - (ys.getD k (0, 1)).1 * (xs.getD k (0, 1)).2).natAbs : Int), (xs.getD k (0, 1)).2 * (ys.getD k (0, 1)).2)) := rfl
      change Wd wr _ (xs.getD k (0, 1)).1 (xs.getD k (0, 1)).2 60 at hEl
      change Wd wr _ (ys.getD k (0, 1)).1 (ys.getD k (0, 1)).2 60 at hEl'
      generalize (xs.getD k (0, 1)).1 = x at hEl hvx HDF
      generalize (xs.getD k (0, 1)).2 = d at hEl hvx HDF
      generalize (ys.getD k (0, 1)).1 = y at hEl' hvy HDF
      generalize (ys.getD k (0, 1)).2 = d' at hEl' hvy HDF
      have hd1 : 1 ≤ d := hvx.1
      have hd2 : 1 ≤ d' := hvy.1
      have m0 : wr.cell? ⟨ga, k * 6, none⟩ = some (F k 0) := hc 0 (by omega)
      have n0 : wr.cell? ⟨gb, k * 6, none⟩ = some (G k 0) := hc' 0 (by omega)

      have m1 := hc 1 (by omega)
      have n1 := hc' 1 (by omega)
      have m2 := hc 2 (by omega)
      have n2 := hc' 2 (by omega)
      have m3 := hc 3 (by omega)
      have n3 := hc' 3 (by omega)
      have m4 := hc 4 (by omega)
      have n4 := hc' 4 (by omega)
      have m5 := hc 5 (by omega)
      have n5 := hc' 5 (by omega)
      clear hc hc' hvx hvy
      have HX := Lib.hid hEl
      have HY := Lib.hid hEl'
      clear hEl hEl'
      generalize F k 0 = y0 at m0 HX
      generalize G k 0 = z0 at n0 HY
      generalize F k 1 = y1 at m1 HX
      generalize G k 1 = z1 at n1 HY
      generalize F k 2 = y2 at m2 HX
      generalize G k 2 = z2 at n2 HY
      generalize F k 3 = y3 at m3 HX
      generalize G k 3 = z3 at n3 HY
      generalize F k 4 = y4 at m4 HX
      generalize G k 4 = z4 at n4 HY
      generalize F k 5 = y5 at m5 HX
      generalize G k 5 = z5 at n5 HY
      have q0 : ∀ q : GR wr.drew none, q.w.cell? ⟨ga, k * 6, none⟩ = some y0 := fun q => gt_cell (W0 := wr.drew) m0 ⟨q.w, (Below.refl _ wr.drew).grown q.h (Nat.le_refl _) (by simp)⟩
      have r0 : ∀ q : GR wr.drew none, q.w.cell? ⟨gb, k * 6, none⟩ = some z0 := fun q => gt_cell (W0 := wr.drew) n0 ⟨q.w, (Below.refl _ wr.drew).grown q.h (Nat.le_refl _) (by simp)⟩
      have q1 : ∀ q : GR wr.drew none, q.w.cell? ⟨ga, k * 6 + 1, none⟩ = some y1 := fun q => gt_cell (W0 := wr.drew) m1 ⟨q.w, (Below.refl _ wr.drew).grown q.h (Nat.le_refl _) (by simp)⟩
      have r1 : ∀ q : GR wr.drew none, q.w.cell? ⟨gb, k * 6 + 1, none⟩ = some z1 := fun q => gt_cell (W0 := wr.drew) n1 ⟨q.w, (Below.refl _ wr.drew).grown q.h (Nat.le_refl _) (by simp)⟩
      have q2 : ∀ q : GR wr.drew none, q.w.cell? ⟨ga, k * 6 + 2, none⟩ = some y2 := fun q => gt_cell (W0 := wr.drew) m2 ⟨q.w, (Below.refl _ wr.drew).grown q.h (Nat.le_refl _) (by simp)⟩
      have r2 : ∀ q : GR wr.drew none, q.w.cell? ⟨gb, k * 6 + 2, none⟩ = some z2 := fun q => gt_cell (W0 := wr.drew) n2 ⟨q.w, (Below.refl _ wr.drew).grown q.h (Nat.le_refl _) (by simp)⟩
      have q3 : ∀ q : GR wr.drew none, q.w.cell? ⟨ga, k * 6 + 3, none⟩ = some y3 := fun q => gt_cell (W0 := wr.drew) m3 ⟨q.w, (Below.refl _ wr.drew).grown q.h (Nat.le_refl _) (by simp)⟩
      have r3 : ∀ q : GR wr.drew none, q.w.cell? ⟨gb, k * 6 + 3, none⟩ = some z3 := fun q => gt_cell (W0 := wr.drew) n3 ⟨q.w, (Below.refl _ wr.drew).grown q.h (Nat.le_refl _) (by simp)⟩
      have q4 : ∀ q : GR wr.drew none, q.w.cell? ⟨ga, k * 6 + 4, none⟩ = some y4 := fun q => gt_cell (W0 := wr.drew) m4 ⟨q.w, (Below.refl _ wr.drew).grown q.h (Nat.le_refl _) (by simp)⟩
      have r4 : ∀ q : GR wr.drew none, q.w.cell? ⟨gb, k * 6 + 4, none⟩ = some z4 := fun q => gt_cell (W0 := wr.drew) n4 ⟨q.w, (Below.refl _ wr.drew).grown q.h (Nat.le_refl _) (by simp)⟩
      have q5 : ∀ q : GR wr.drew none, q.w.cell? ⟨ga, k * 6 + 5, none⟩ = some y5 := fun q => gt_cell (W0 := wr.drew) m5 ⟨q.w, (Below.refl _ wr.drew).grown q.h (Nat.le_refl _) (by simp)⟩
      have r5 : ∀ q : GR wr.drew none, q.w.cell? ⟨gb, k * 6 + 5, none⟩ = some z5 := fun q => gt_cell (W0 := wr.drew) n5 ⟨q.w, (Below.refl _ wr.drew).grown q.h (Nat.le_refl _) (by simp)⟩
      clear m0 m1 m2 m3 m4 m5 n0 n1 n2 n3 n4 n5
      go_upto_region 5 with fail
      have HQ := Lib.hid (And.intro HX HY)
      go_cut [7] from 15 to 26 (fun pv wx => ∃ (b7 : Nat) (s : Bool) (g1 l1 c1 g2 l2 c2 : Nat) (fine : Bool) (fn fd : Int), pv = .pointer (some ⟨b7, 0, none⟩) ∧ wr.heap.size ≤ b7 ∧ Hid (wr.grownBy wx none) ∧ Hid (DL wx b7 [.bool s, .slice (some ⟨g1, 0, none⟩) l1 c1, .slice (some ⟨g2, 0, none⟩) l2 c2, .bool fine, .int .i64 fn, .int .i64 fd]) ∧ Hid (Wd wx (.agg #[.bool s, .slice (some ⟨g1, 0, none⟩) l1 c1, .slice (some ⟨g2, 0, none⟩) l2 c2, .bool fine, .int .i64 fn, .int .i64 fd]) (x * (1 * d') + -1 * y * d) (d * (1 * d')) 181) ∧ Hid ((s = false → 0 ≤ x * (1 * d') + -1 * y * d) ∧ (s = true → x * (1 * d') + -1 * y * d ≤ 0)))
      case first =>
        clear HQ
        refine wp_region_mixT none [0, 1, 2, 3, 4, 6, 7, 8, 9] 5 (by kernel_rfl) (by kernel_rfl) ?_
        simp only [pickOps, List.filterMap_cons, List.filterMap_nil, List.getElem?_toArray, List.getElem?_cons_succ, List.getElem?_cons_zero]
        repeat (refine wpQuietG_step (fun K hK => ?_); go_simp; first | (refine hK _ ?_; clear hK K) | (apply Exists.intro; refine ⟨fun _ => ?_, hK _ ?_⟩; (fail); clear hK K))
        refine wpQuietG_nil ?_
        clear q0 q1 q2 q3 q4 q5 r0 r1 r2 r3 r4 r5
        refine anyG_two 5 12 _ _ (by kernel_rfl) rfl rfl ?_ ?_
        · intro V hG hb
          replace HX := Lib.hid (HX.out.far (of_drew hb))
          replace HY := Lib.hid (HY.out.far (of_drew hb))
          clear hb
          go_wp2_with fail
          refine (wideOf_any (-1) 1 HVM.out _).mono ?_
          rintro e U ⟨v1, rfl, hv1, hb⟩
          replace HX := Lib.hid (HX.out.far hb)
          replace HY := Lib.hid (HY.out.far hb)
          replace hG := gr_step hG hb
          clear hb 
          go_wp2
          try refine ⟨hG, ?_⟩
          clear hG
          refine anyG_two 10 12 _ _ (by kernel_rfl) rfl rfl ?_ ?_
          · intro V hG hb
            replace HX := Lib.hid (HX.out.far hb)
            replace HY := Lib.hid (HY.out.far hb)
            replace hv1 := hv1.far hb
            clear hb
            go_wp2_with fail
            refine (wmul_any _ _ _ _ _ _ _ _ _ hv1 HY.out (by omega) (by omega) (by omega) (by omega) (by omega) (by omega)).mono ?_
            rintro e U ⟨v2, rfl, hv2, hb⟩
            replace HX := Lib.hid (HX.out.far hb)
            replace hG := gr_step hG hb
            clear hb hv1 HY
            go_wp2
            try refine ⟨hG, ?_⟩
            clear hG
            refine anyG_two 11 12 _ _ (by kernel_rfl) rfl rfl ?_ ?_
            · intro V hG hb
              replace HX := Lib.hid (HX.out.far hb)
              replace hv2 := hv2.far hb
              clear hb
              go_wp2_with fail
              have hdd : (1 : Int) * d' ≠ 0 := by omega
              refine (wadd_any _ _ _ _ _ _ _ _ _ HX.out hv2 (by omega) (by omega) (by omega) (by omega) (by omega) hdd).mono ?_
              rintro e U ⟨v3, rfl, hv3, hb⟩
              replace hG := gr_step hG hb
              clear hb HX hv2 hdd
              go_wp2
              try refine ⟨hG, ?_⟩
              clear hG
              refine anyG_one 12 _ (by kernel_rfl) rfl ?_
              intro V hG hb
              replace hv3 := hv3.far hb
              clear hb
              have s7 : wr.heap.size ≤ V.heap.size := hG.size
              have A9 := DL.new V [.bool false, .slice none 0 0, .slice none 0 0, .bool false, .int .i64 0, .int .i64 0] 115
              have hbA := (Below.refl V.heap.size V).alloc (Nat.le_refl _) (.cells ([.bool false, .slice none 0 0, .slice none 0 0, .bool false, .int .i64 0, .int .i64 0] : List Value).toArray 115)
              replace hv3 := hv3.far hbA
              have hG5 := gr_alloc hG (.cells ([.bool false, .slice none 0 0, .slice none 0 0, .bool false, .int .i64 0, .int .i64 0] : List Value).toArray 115)
              clear hbA hG
              go_wp2
              try refine ⟨hG5, ?_⟩
              clear hG5
              generalize V.alloc (.cells _ _) = V5 at *
              generalize V.heap.size = b7 at *
              refine anyG_one 13 _ (by kernel_rfl) rfl ?_
              intro V hG hb
              replace hv3 := hv3.far hb
              replace A9 := A9.far hb
              clear hb
              have HWd := Lib.hid hv3
              obtain ⟨s, g1, l1, c1, N, g2, l2, c2, D, fine, fn, fd, rfl, hWc, hWe⟩ := hv3
              have HSG := Lib.hid (abs_false hWc hWe (Int.mul_pos (by omega) (by omega)))
              clear hWc hWe
              obtain ⟨⟨k0, k1, k2, k3, k4, k5⟩, t0, t1, t2, t3, t4, t5⟩ := A9.six
              have HP := A9.put6 (.bool s) (.slice (some ⟨g1, 0, none⟩) l1 c1) (.slice (some ⟨g2, 0, none⟩) l2 c2) (.bool fine) (.int .i64 fn) (.int .i64 fd)
              have HW8 := HWd.out.kept6 k0 (.bool s) (.slice (some ⟨g1, 0, none⟩) l1 c1) (.slice (some ⟨g2, 0, none⟩) l2 c2) (.bool fine) (.int .i64 fn) (.int .i64 fd)
              have HG9 := gr_put6 hG (.inr s7) (.bool s) (.slice (some ⟨g1, 0, none⟩) l1 c1) (.slice (some ⟨g2, 0, none⟩) l2 c2) (.bool fine) (.int .i64 fn) (.int .i64 fd)
              clear A9 hG HWd
              go_wp2
              try refine ⟨HG9, ?_⟩
              refine anyG_done (by kernel_rfl) ?_
              clear HG9 k0 k1 k2 k3 k4 k5 t0 t1 t2 t3 t4 t5
              unfold put6 at HP HW8
              generalize World.setCell _ ⟨b7, 5, none⟩ _ = V9 at HP HW8 ⊢
              intro V10 hG hb
              replace HP := HP.far hb
              replace HW8 := HW8.far hb
              replace hG := gr_undrew hG
              clear hb
              go_wp2
              go_meet
              case rel => exact ⟨b7, s, g1, l1, c1, g2, l2, c2, fine, fn, fd, rfl, s7, hG, HP, HW8, HSG⟩
            · intro V hG hb
              replace HX := Lib.hid (HX.out.far hb)
              replace hv2 := hv2.far hb
              clear hb
              have s7 : wr.heap.size ≤ V.heap.size := hG.size
              have A9 := DL.new V [.bool false, .slice none 0 0, .slice none 0 0, .bool false, .int .i64 0, .int .i64 0] 115
              have hbA := (Below.refl V.heap.size V).alloc (Nat.le_refl _) (.cells ([.bool false, .slice none 0 0, .slice none 0 0, .bool false, .int .i64 0, .int .i64 0] : List Value).toArray 115)
              replace HX := Lib.hid (HX.out.far hbA)
              replace hv2 := hv2.far hbA
              have hG5 := gr_alloc hG (.cells ([.bool false, .slice none 0 0, .slice none 0 0, .bool false, .int .i64 0, .int .i64 0] : List Value).toArray 115)
              clear hbA hG
              go_wp2
              try refine ⟨hG5, ?_⟩
              clear hG5
              generalize V.alloc (.cells _ _) = V5 at *
              generalize V.heap.size = b7 at *
              refine anyG_one 11 _ (by kernel_rfl) rfl ?_
              intro V hG hb
              replace HX := Lib.hid (HX.out.far hb)
              replace hv2 := hv2.far hb
              replace A9 := A9.far hb
              clear hb
              go_wp2_with fail
              have hdd : (1 : Int) * d' ≠ 0 := by omega
              refine (wadd_any _ _ _ _ _ _ _ _ _ HX.out hv2 (by omega) (by omega) (by omega) (by omega) (by omega) hdd).mono ?_
              rintro e U ⟨v3, rfl, hv3, hb⟩
              replace A9 := A9.far hb
              replace hG := gr_step hG hb
              clear hb HX hv2 hdd
              go_wp2
              try refine ⟨hG, ?_⟩
              clear hG
              refine anyG_one 13 _ (by kernel_rfl) rfl ?_
              intro V hG hb
              replace hv3 := hv3.far hb
              replace A9 := A9.far hb
              clear hb
              have HWd := Lib.hid hv3
              obtain ⟨s, g1, l1, c1, N, g2, l2, c2, D, fine, fn, fd, rfl, hWc, hWe⟩ := hv3
              have HSG := Lib.hid (abs_false hWc hWe (Int.mul_pos (by omega) (by omega)))
              clear hWc hWe
              obtain ⟨⟨k0, k1, k2, k3, k4, k5⟩, t0, t1, t2, t3, t4, t5⟩ := A9.six
              have HP := A9.put6 (.bool s) (.slice (some ⟨g1, 0, none⟩) l1 c1) (.slice (some ⟨g2, 0, none⟩) l2 c2) (.bool fine) (.int .i64 fn) (.int .i64 fd)
              have HW8 := HWd.out.kept6 k0 (.bool s) (.slice (some ⟨g1, 0, none⟩) l1 c1) (.slice (some ⟨g2, 0, none⟩) l2 c2) (.bool fine) (.int .i64 fn) (.int .i64 fd)
              have HG9 := gr_put6 hG (.inr s7) (.bool s) (.slice (some ⟨g1, 0, none⟩) l1 c1) (.slice (some ⟨g2, 0, none⟩) l2 c2) (.bool fine) (.int .i64 fn) (.int .i64 fd)
              clear A9 hG HWd
              go_wp2
              try refine ⟨HG9, ?_⟩
              refine anyG_done (by kernel_rfl) ?_
              clear HG9 k0 k1 k2 k3 k4 k5 t0 t1 t2 t3 t4 t5
              unfold put6 at HP HW8
              generalize World.setCell _ ⟨b7, 5, none⟩ _ = V9 at HP HW8 ⊢
              intro V10 hG hb
              replace HP := HP.far hb
              replace HW8 := HW8.far hb
              replace hG := gr_undrew hG
              clear hb
              go_wp2
              go_meet
              case rel => exact ⟨b7, s, g1, l1, c1, g2, l2, c2, fine, fn, fd, rfl, s7, hG, HP, HW8, HSG⟩
          · intro V hG hb
            replace HX := Lib.hid (HX.out.far hb)
            replace HY := Lib.hid (HY.out.far hb)
            replace hv1 := hv1.far hb
            clear hb
            have s7 : wr.heap.size ≤ V.heap.size := hG.size
            have A9 := DL.new V [.bool false, .slice none 0 0, .slice none 0 0, .bool false, .int .i64 0, .int .i64 0] 115
            have hbA := (Below.refl V.heap.size V).alloc (Nat.le_refl _) (.cells ([.bool false, .slice none 0 0, .slice none 0 0, .bool false, .int .i64 0, .int .i64 0] : List Value).toArray 115)
            replace HX := Lib.hid (HX.out.far hbA)
            replace HY := Lib.hid (HY.out.far hbA)
            replace hv1 := hv1.far hbA
            have hG5 := gr_alloc hG (.cells ([.bool false, .slice none 0 0, .slice none 0 0, .bool false, .int .i64 0, .int .i64 0] : List Value).toArray 115)
            clear hbA hG
            go_wp2
            try refine ⟨hG5, ?_⟩
            clear hG5
            generalize V.alloc (.cells _ _) = V5 at *
            generalize V.heap.size = b7 at *
            refine anyG_one 10 _ (by kernel_rfl) rfl ?_
            intro V hG hb
            replace HX := Lib.hid (HX.out.far hb)
            replace HY := Lib.hid (HY.out.far hb)
            replace hv1 := hv1.far hb
            replace A9 := A9.far hb
            clear hb
            go_wp2_with fail
            refine (wmul_any _ _ _ _ _ _ _ _ _ hv1 HY.out (by omega) (by omega) (by omega) (by omega) (by omega) (by omega)).mono ?_
            rintro e U ⟨v2, rfl, hv2, hb⟩
            replace HX := Lib.hid (HX.out.far hb)
            replace A9 := A9.far hb
            replace hG := gr_step hG hb
            clear hb hv1 HY
            go_wp2
            try refine ⟨hG, ?_⟩
            clear hG
            refine anyG_one 11 _ (by kernel_rfl) rfl ?_
            intro V hG hb
            replace HX := Lib.hid (HX.out.far hb)
            replace hv2 := hv2.far hb
            replace A9 := A9.far hb
            clear hb
            go_wp2_with fail
            have hdd : (1 : Int) * d' ≠ 0 := by omega
            refine (wadd_any _ _ _ _ _ _ _ _ _ HX.out hv2 (by omega) (by omega) (by omega) (by omega) (by omega) hdd).mono ?_
            rintro e U ⟨v3, rfl, hv3, hb⟩
            replace A9 := A9.far hb
            replace hG := gr_step hG hb
            clear hb HX hv2 hdd
            go_wp2
            try refine ⟨hG, ?_⟩
            clear hG
            refine anyG_one 13 _ (by kernel_rfl) rfl ?_
            intro V hG hb
            replace hv3 := hv3.far hb
            replace A9 := A9.far hb
            clear hb
            have HWd := Lib.hid hv3
            obtain ⟨s, g1, l1, c1, N, g2, l2, c2, D, fine, fn, fd, rfl, hWc, hWe⟩ := hv3
            have HSG := Lib.hid (abs_false hWc hWe (Int.mul_pos (by omega) (by omega)))
            clear hWc hWe
            obtain ⟨⟨k0, k1, k2, k3, k4, k5⟩, t0, t1, t2, t3, t4, t5⟩ := A9.six
            have HP := A9.put6 (.bool s) (.slice (some ⟨g1, 0, none⟩) l1 c1) (.slice (some ⟨g2, 0, none⟩) l2 c2) (.bool fine) (.int .i64 fn) (.int .i64 fd)
            have HW8 := HWd.out.kept6 k0 (.bool s) (.slice (some ⟨g1, 0, none⟩) l1 c1) (.slice (some ⟨g2, 0, none⟩) l2 c2) (.bool fine) (.int .i64 fn) (.int .i64 fd)
            have HG9 := gr_put6 hG (.inr s7) (.bool s) (.slice (some ⟨g1, 0, none⟩) l1 c1) (.slice (some ⟨g2, 0, none⟩) l2 c2) (.bool fine) (.int .i64 fn) (.int .i64 fd)
            clear A9 hG HWd
            go_wp2
            try refine ⟨HG9, ?_⟩
            refine anyG_done (by kernel_rfl) ?_
            clear HG9 k0 k1 k2 k3 k4 k5 t0 t1 t2 t3 t4 t5
            unfold put6 at HP HW8
            generalize World.setCell _ ⟨b7, 5, none⟩ _ = V9 at HP HW8 ⊢
            intro V10 hG hb
            replace HP := HP.far hb
            replace HW8 := HW8.far hb
            replace hG := gr_undrew hG
            clear hb
            go_wp2
            go_meet
            case rel => exact ⟨b7, s, g1, l1, c1, g2, l2, c2, fine, fn, fd, rfl, s7, hG, HP, HW8, HSG⟩
        · intro V hG hb
          replace HX := Lib.hid (HX.out.far (of_drew hb))
          replace HY := Lib.hid (HY.out.far (of_drew hb))
          clear hb
          have s7 : wr.heap.size ≤ V.heap.size := hG.size
          have A9 := DL.new V [.bool false, .slice none 0 0, .slice none 0 0, .bool false, .int .i64 0, .int .i64 0] 115
          have hbA := (Below.refl V.heap.size V).alloc (Nat.le_refl _) (.cells ([.bool false, .slice none 0 0, .slice none 0 0, .bool false, .int .i64 0, .int .i64 0] : List Value).toArray 115)
          replace HX := Lib.hid (HX.out.far hbA)
          replace HY := Lib.hid (HY.out.far hbA)
          have hG5 := gr_alloc hG (.cells ([.bool false, .slice none 0 0, .slice none 0 0, .bool false, .int .i64 0, .int .i64 0] : List Value).toArray 115)
          clear hbA hG
          go_wp2
          try refine ⟨hG5, ?_⟩
          clear hG5
          generalize V.alloc (.cells _ _) = V5 at *
          generalize V.heap.size = b7 at *
          refine anyG_one 5 _ (by kernel_rfl) rfl ?_
          intro V hG hb
          replace HX := Lib.hid (HX.out.far hb)
          replace HY := Lib.hid (HY.out.far hb)
          replace A9 := A9.far hb
          clear hb
          go_wp2_with fail
          refine (wideOf_any (-1) 1 HVM.out _).mono ?_
          rintro e U ⟨v1, rfl, hv1, hb⟩
          replace HX := Lib.hid (HX.out.far hb)
          replace HY := Lib.hid (HY.out.far hb)
          replace A9 := A9.far hb
          replace hG := gr_step hG hb
          clear hb 
          go_wp2
          try refine ⟨hG, ?_⟩
          clear hG
          refine anyG_one 10 _ (by kernel_rfl) rfl ?_
          intro V hG hb
          replace HX := Lib.hid (HX.out.far hb)
          replace HY := Lib.hid (HY.out.far hb)
          replace hv1 := hv1.far hb
          replace A9 := A9.far hb
          clear hb
          go_wp2_with fail
          refine (wmul_any _ _ _ _ _ _ _ _ _ hv1 HY.out (by omega) (by omega) (by omega) (by omega) (by omega) (by omega)).mono ?_
          rintro e U ⟨v2, rfl, hv2, hb⟩
          replace HX := Lib.hid (HX.out.far hb)
          replace A9 := A9.far hb
          replace hG := gr_step hG hb
          clear hb hv1 HY
          go_wp2
          try refine ⟨hG, ?_⟩
          clear hG
          refine anyG_one 11 _ (by kernel_rfl) rfl ?_
          intro V hG hb
          replace HX := Lib.hid (HX.out.far hb)
          replace hv2 := hv2.far hb
          replace A9 := A9.far hb
          clear hb
          go_wp2_with fail
          have hdd : (1 : Int) * d' ≠ 0 := by omega
          refine (wadd_any _ _ _ _ _ _ _ _ _ HX.out hv2 (by omega) (by omega) (by omega) (by omega) (by omega) hdd).mono ?_
          rintro e U ⟨v3, rfl, hv3, hb⟩
          replace A9 := A9.far hb
          replace hG := gr_step hG hb
          clear hb HX hv2 hdd
          go_wp2
          try refine ⟨hG, ?_⟩
          clear hG
          refine anyG_one 13 _ (by kernel_rfl) rfl ?_
          intro V hG hb
          replace hv3 := hv3.far hb
          replace A9 := A9.far hb
          clear hb
          have HWd := Lib.hid hv3
          obtain ⟨s, g1, l1, c1, N, g2, l2, c2, D, fine, fn, fd, rfl, hWc, hWe⟩ := hv3
          have HSG := Lib.hid (abs_false hWc hWe (Int.mul_pos (by omega) (by omega)))
          clear hWc hWe
          obtain ⟨⟨k0, k1, k2, k3, k4, k5⟩, t0, t1, t2, t3, t4, t5⟩ := A9.six
          have HP := A9.put6 (.bool s) (.slice (some ⟨g1, 0, none⟩) l1 c1) (.slice (some ⟨g2, 0, none⟩) l2 c2) (.bool fine) (.int .i64 fn) (.int .i64 fd)
          have HW8 := HWd.out.kept6 k0 (.bool s) (.slice (some ⟨g1, 0, none⟩) l1 c1) (.slice (some ⟨g2, 0, none⟩) l2 c2) (.bool fine) (.int .i64 fn) (.int .i64 fd)
          have HG9 := gr_put6 hG (.inr s7) (.bool s) (.slice (some ⟨g1, 0, none⟩) l1 c1) (.slice (some ⟨g2, 0, none⟩) l2 c2) (.bool fine) (.int .i64 fn) (.int .i64 fd)
          clear A9 hG HWd
          go_wp2
          try refine ⟨HG9, ?_⟩
          refine anyG_done (by kernel_rfl) ?_
          clear HG9 k0 k1 k2 k3 k4 k5 t0 t1 t2 t3 t4 t5
          unfold put6 at HP HW8
          generalize World.setCell _ ⟨b7, 5, none⟩ _ = V9 at HP HW8 ⊢
          intro V10 hG hb
          replace HP := HP.far hb
          replace HW8 := HW8.far hb
          replace hG := gr_undrew hG
          clear hb
          go_wp2
          go_meet
          case rel => exact ⟨b7, s, g1, l1, c1, g2, l2, c2, fine, fn, fd, rfl, s7, hG, HP, HW8, HSG⟩
      case rest =>
        clear q0 q1 q2 q3 q4 q5 r0 r1 r2 r3 r4 r5 HX HY HQ
        obtain ⟨b7, s, g1, l1, c1, g2, l2, c2, fine, fn, fd, rfl, s7, hG, HP, HW8, HSG⟩ := hcut
        rename World => V10
        have HBG : Hid (Below wr.heap.size wr V10) := (Below.refl _ wr).grown hG.out (Nat.le_refl _) (by simp)
        clear hG
        obtain ⟨⟨k0, k1, k2, k3, k4, k5⟩, _⟩ := HP.out.six
        go_upto_if 28 with fail
        clear k0 k1 k2 k3 k4 k5
        go_cut [] from 29 to 32 (fun wx => ∃ (s : Bool) (g1 l1 c1 g2 l2 c2 : Nat) (fine : Bool) (fn fd : Int), Hid (Below wr.heap.size wr wx) ∧ Hid (DL wx b7 [.bool s, .slice (some ⟨g1, 0, none⟩) l1 c1, .slice (some ⟨g2, 0, none⟩) l2 c2, .bool fine, .int .i64 fn, .int .i64 fd]) ∧ Hid (Wd wx (.agg #[.bool s, .slice (some ⟨g1, 0, none⟩) l1 c1, .slice (some ⟨g2, 0, none⟩) l2 c2, .bool fine, .int .i64 fn, .int .i64 fd]) (dfp xs ys k).1 (dfp xs ys k).2 241))
        case first =>
          have e2 : x * (1 * d') + -1 * y * d = x * d' - y * d := by grind
          have e3 : d * (1 * d') = d * d' := by grind
          obtain ⟨⟨k0, k1, k2, k3, k4, k5⟩, _⟩ := HP.out.six
          rcases s with _ | _
          · have HWk : Hid (Wd V10 (.agg #[.bool false, .slice (some ⟨g1, 0, none⟩) l1 c1, .slice (some ⟨g2, 0, none⟩) l2 c2, .bool fine, .int .i64 fn, .int .i64 fd]) (dfp xs ys k).1 (dfp xs ys k).2 241) := by
              have h1 := HSG.out.1 rfl
              have h8 := HW8.out
              rw [e2, e3] at h8
              rw [e2] at h1
              rw [HDF.out]
              have e1 : x * d' - y * d = (((x * d' - y * d).natAbs : Nat) : Int) := by omega
              rw [e1] at h8
              exact h8.up (by omega)
            clear HW8 HSG HDF e2 e3 HR HW HA HB
            go_wp2
            go_meet
            case rel => exact ⟨false, g1, l1, c1, g2, l2, c2, fine, fn, fd, HBG, HP, HWk⟩
          · have hQ9 : d * (1 * d') ≠ 0 := by rw [e3]; exact Int.mul_ne_zero (by omega) (by omega)
            have HE : Hid ((-1 : Int) * (x * (1 * d') + -1 * y * d) = (dfp xs ys k).1 ∧ (1 : Int) * (d * (1 * d')) = (dfp xs ys k).2) := by
              have h1 := HSG.out.2 rfl
              rw [e2] at h1
              rw [HDF.out, e2, e3]
              exact ⟨by show (-1 : Int) * (x * d' - y * d) = (((x * d' - y * d).natAbs : Nat) : Int); omega, by show (1 : Int) * (d * d') = d * d'; omega⟩
            have A9 := HP.out
            have HV8 := HW8.out
            have HK := HBG.out
            clear HW8 HSG HDF e2 e3 HP HBG HR HW HA HB
            go_upto_region 7 with fail
            clear k0 k1 k2 k3 k4 k5
            refine wp_region_mixT (some b7) [0] 4 (by kernel_rfl) (by kernel_rfl) ?_
            simp only [pickOps, List.filterMap_cons, List.filterMap_nil, List.getElem?_toArray, List.getElem?_cons_zero]
            repeat (refine wpQuietG_step (fun K hK => ?_); go_simp; first | (refine hK _ ?_; clear hK K) | (apply Exists.intro; refine ⟨fun _ => ?_, hK _ ?_⟩; (fail); clear hK K))
            refine wpQuietG_nil ?_
            refine anyG_two 1 2 _ _ (by kernel_rfl) rfl rfl ?_ ?_
            · intro V hG hb
              replace A9 := A9.far (of_drew hb)
              replace HV8 := HV8.far (of_drew hb)
              replace HK := HK.trans ((of_drew hb).mono HK.size)
              clear hb
              go_wp2_with fail
              refine (wideOf_any (-1) 1 HVM.out _).mono ?_
              rintro e U ⟨v1, rfl, hv1, hb⟩
              replace A9 := A9.far hb
              replace HV8 := HV8.far hb
              replace HK := HK.trans (hb.mono HK.size)
              replace hG := gr_step hG hb
              clear hb
              go_wp2
              try refine ⟨hG, ?_⟩
              clear hG
              refine anyG_one 2 _ (by kernel_rfl) rfl ?_
              intro V hG hb
              replace A9 := A9.far hb
              replace HV8 := HV8.far hb
              replace hv1 := hv1.far hb
              replace HK := HK.trans (hb.mono HK.size)
              clear hb
              obtain ⟨⟨k0, k1, k2, k3, k4, k5⟩, _⟩ := A9.six
              go_wp2
              try refine ⟨hG, ?_⟩
              clear hG k0 k1 k2 k3 k4 k5
              refine anyG_one 3 _ (by kernel_rfl) rfl ?_
              intro V hG hb
              replace A9 := A9.far hb
              replace HV8 := HV8.far hb
              replace hv1 := hv1.far hb
              replace HK := HK.trans (hb.mono HK.size)
              clear hb
              go_wp2_with fail
              refine (wmul_any _ _ _ _ _ _ _ _ _ hv1 HV8 (by omega) (by omega) (by omega) (by omega) (by omega) hQ9).mono ?_
              rintro e U ⟨v2, rfl, hv2, hb⟩
              replace A9 := A9.far hb
              replace HK := HK.trans (hb.mono HK.size)
              replace hG := gr_step hG hb
              clear hb hv1 HV8
              go_wp2
              try refine ⟨hG, ?_⟩
              clear hG
              refine anyG_one 4 _ (by kernel_rfl) rfl ?_
              intro V hG hb
              replace A9 := A9.far hb
              replace hv2 := hv2.far hb
              replace HK := HK.trans (hb.mono HK.size)
              clear hb
              rw [HE.out.1, HE.out.2] at hv2
              have HWd := Lib.hid hv2
              obtain ⟨s, g5, l5, c5, N, g6, l6, c6, D, fine4, fn4, fd4, rfl, _, _⟩ := hv2
              obtain ⟨⟨k0, k1, k2, k3, k4, k5⟩, t0, t1, t2, t3, t4, t5⟩ := A9.six
              have HP := A9.put6 (.bool s) (.slice (some ⟨g5, 0, none⟩) l5 c5) (.slice (some ⟨g6, 0, none⟩) l6 c6) (.bool fine4) (.int .i64 fn4) (.int .i64 fd4)
              have HW8 := HWd.out.kept6 k0 (.bool s) (.slice (some ⟨g5, 0, none⟩) l5 c5) (.slice (some ⟨g6, 0, none⟩) l6 c6) (.bool fine4) (.int .i64 fn4) (.int .i64 fd4)
              have HG9 := gr_put6 hG (.inl rfl) (.bool s) (.slice (some ⟨g5, 0, none⟩) l5 c5) (.slice (some ⟨g6, 0, none⟩) l6 c6) (.bool fine4) (.int .i64 fn4) (.int .i64 fd4)
              have HK9 := below_put6 HK s7 (.bool s) (.slice (some ⟨g5, 0, none⟩) l5 c5) (.slice (some ⟨g6, 0, none⟩) l6 c6) (.bool fine4) (.int .i64 fn4) (.int .i64 fd4)
              clear A9 hG HWd HK
              go_wp2
              try refine ⟨HG9, ?_⟩
              refine anyG_done (by kernel_rfl) ?_
              clear HG9 k0 k1 k2 k3 k4 k5 t0 t1 t2 t3 t4 t5
              unfold put6 at HP HW8 HK9
              generalize World.setCell _ ⟨b7, 5, none⟩ _ = V9 at HP HW8 HK9 ⊢
              intro V hG hb
              replace HP := HP.far hb
              replace HW8 := HW8.far hb
              replace HK9 := HK9.trans (hb.mono HK9.size)
              clear hb hG
              go_wp2
              go_meet
              case rel => exact ⟨s, g5, l5, c5, g6, l6, c6, fine4, fn4, fd4, HK9, HP, HW8.up (by omega)⟩
            · intro V hG hb
              replace A9 := A9.far (of_drew hb)
              replace HV8 := HV8.far (of_drew hb)
              replace HK := HK.trans ((of_drew hb).mono HK.size)
              clear hb
              obtain ⟨⟨k0, k1, k2, k3, k4, k5⟩, _⟩ := A9.six
              go_wp2
              try refine ⟨hG, ?_⟩
              clear hG k0 k1 k2 k3 k4 k5
              refine anyG_one 1 _ (by kernel_rfl) rfl ?_
              intro V hG hb
              replace A9 := A9.far hb
              replace HV8 := HV8.far hb
              replace HK := HK.trans (hb.mono HK.size)
              clear hb
              go_wp2_with fail
              refine (wideOf_any (-1) 1 HVM.out _).mono ?_
              rintro e U ⟨v1, rfl, hv1, hb⟩
              replace A9 := A9.far hb
              replace HV8 := HV8.far hb
              replace HK := HK.trans (hb.mono HK.size)
              replace hG := gr_step hG hb
              clear hb
              go_wp2
              try refine ⟨hG, ?_⟩
              clear hG
              refine anyG_one 3 _ (by kernel_rfl) rfl ?_
              intro V hG hb
              replace A9 := A9.far hb
              replace HV8 := HV8.far hb
              replace hv1 := hv1.far hb
              replace HK := HK.trans (hb.mono HK.size)
              clear hb
              go_wp2_with fail
              refine (wmul_any _ _ _ _ _ _ _ _ _ hv1 HV8 (by omega) (by omega) (by omega) (by omega) (by omega) hQ9).mono ?_
              rintro e U ⟨v2, rfl, hv2, hb⟩
              replace A9 := A9.far hb
              replace HK := HK.trans (hb.mono HK.size)
              replace hG := gr_step hG hb
              clear hb hv1 HV8
              go_wp2
              try refine ⟨hG, ?_⟩
              clear hG
              refine anyG_one 4 _ (by kernel_rfl) rfl ?_
              intro V hG hb
              replace A9 := A9.far hb
              replace hv2 := hv2.far hb
              replace HK := HK.trans (hb.mono HK.size)
              clear hb
              rw [HE.out.1, HE.out.2] at hv2
              have HWd := Lib.hid hv2
              obtain ⟨s, g5, l5, c5, N, g6, l6, c6, D, fine4, fn4, fd4, rfl, _, _⟩ := hv2
              obtain ⟨⟨k0, k1, k2, k3, k4, k5⟩, t0, t1, t2, t3, t4, t5⟩ := A9.six
              have HP := A9.put6 (.bool s) (.slice (some ⟨g5, 0, none⟩) l5 c5) (.slice (some ⟨g6, 0, none⟩) l6 c6) (.bool fine4) (.int .i64 fn4) (.int .i64 fd4)
              have HW8 := HWd.out.kept6 k0 (.bool s) (.slice (some ⟨g5, 0, none⟩) l5 c5) (.slice (some ⟨g6, 0, none⟩) l6 c6) (.bool fine4) (.int .i64 fn4) (.int .i64 fd4)
              have HG9 := gr_put6 hG (.inl rfl) (.bool s) (.slice (some ⟨g5, 0, none⟩) l5 c5) (.slice (some ⟨g6, 0, none⟩) l6 c6) (.bool fine4) (.int .i64 fn4) (.int .i64 fd4)
              have HK9 := below_put6 HK s7 (.bool s) (.slice (some ⟨g5, 0, none⟩) l5 c5) (.slice (some ⟨g6, 0, none⟩) l6 c6) (.bool fine4) (.int .i64 fn4) (.int .i64 fd4)
              clear A9 hG HWd HK
              go_wp2
              try refine ⟨HG9, ?_⟩
              refine anyG_done (by kernel_rfl) ?_
              clear HG9 k0 k1 k2 k3 k4 k5 t0 t1 t2 t3 t4 t5
              unfold put6 at HP HW8 HK9
              generalize World.setCell _ ⟨b7, 5, none⟩ _ = V9 at HP HW8 HK9 ⊢
              intro V hG hb
              replace HP := HP.far hb
              replace HW8 := HW8.far hb
              replace HK9 := HK9.trans (hb.mono HK9.size)
              clear hb hG
              go_wp2
              go_meet
              case rel => exact ⟨s, g5, l5, c5, g6, l6, c6, fine4, fn4, fd4, HK9, HP, HW8.up (by omega)⟩
        case rest =>
          obtain ⟨s, g1, l1, c1, g2, l2, c2, fine, fn, fd, HBG, HP, HWk⟩ := hcut
          rename World => V11
          have hGB := HBG.out
          replace HR := Lib.hid (own_belowO HR.out hGB)
          replace HW := Lib.hid (fun i hi => (HW.out i hi).far hGB)
          have B := HB.out.trans (hGB.mono HB.out.size)
          have A := HA.out.far hGB
          have hz9 := HB.out.size
          obtain ⟨⟨k0, k1, k2, k3, k4, k5⟩, _⟩ := HP.out.six
          clear hGB HA HB HP HBG HW8 HSG HDF
          have A9 := DL.new V11 [.bool s, .slice (some ⟨g1, 0, none⟩) l1 c1, .slice (some ⟨g2, 0, none⟩) l2 c2, .bool fine, .int .i64 fn, .int .i64 fd] 115
          have hbA : Below V11.heap.size V11 (V11.alloc (.cells [.bool s, .slice (some ⟨g1, 0, none⟩) l1 c1, .slice (some ⟨g2, 0, none⟩) l2 c2, .bool fine, .int .i64 fn, .int .i64 fd].toArray 115)) := (Below.refl _ _).alloc (Nat.le_refl _) _
          replace HR := Lib.hid (own_belowO HR.out hbA)
          replace HW := Lib.hid (fun i hi => (HW.out i hi).far hbA)
          replace B := B.trans (hbA.mono B.size)
          replace A := A.far hbA
          have hWk := HWk.out.far hbA
          have HC : Hid (∀ j u, ([.bool s, .slice (some ⟨g1, 0, none⟩) l1 c1, .slice (some ⟨g2, 0, none⟩) l2 c2, .bool fine, .int .i64 fn, .int .i64 fd] : List Value)[j]? = some u → (V11.alloc (.cells [.bool s, .slice (some ⟨g1, 0, none⟩) l1 c1, .slice (some ⟨g2, 0, none⟩) l2 c2, .bool fine, .int .i64 fn, .int .i64 fd].toArray 115)).cell? ((⟨V11.heap.size, 0, none⟩ : Addr).add j) = some u) := fun j u hj => by
            have := A9.1 j u hj
            rcases j with _ | j <;> simpa [Addr.add] using this
          have hge := own_block HR.out g rfl
          have hz := B.size
          have h1c := six_one hWk
          obtain ⟨WX, hWX⟩ : ∃ WX, V11.alloc (.cells [.bool s, .slice (some ⟨g1, 0, none⟩) l1 c1, .slice (some ⟨g2, 0, none⟩) l2 c2, .bool fine, .int .i64 fn, .int .i64 fd].toArray 115) = WX := ⟨_, rfl⟩
          rw [hWX] at HR HW B A hWk HC hz
          have hne : ∀ x, WX.cell? ⟨g, 0, none⟩ ≠ some (.int .i64 x) := fun x hc => by
            rcases Nat.eq_zero_or_pos k with h0 | h0
            · obtain ⟨_, ⟨h, _⟩ | ⟨g', cap', cur, hv, hg, hh, q1, q2, q3, q4⟩⟩ := HR.out
              · cases h
              · cases hv
                rw [hcp0 h0] at q3
                have e0 : cur = #[] := Array.eq_empty_of_size_eq_zero (by omega)
                subst e0
                simp [World.cell?, hh] at hc
            · have h1 := World.ownsRow.cellAt HR.out (0 * 6 + 0) (by omega)
              rw [flat6_get H h0 (by omega)] at h1
              have h2 := h1.symm.trans hc
              obtain ⟨s', _, _, _, _, _, _, _, _, _, _, _, h3, _⟩ := HW.out 0 h0
              have h4 : H 0 0 = .bool s' := by
                have := congrArg (fun v => match v with | .agg c => c[0]? | _ => none) h3
                simpa using this
              rw [h4] at h2
              cases h2
          have HWX := Lib.hid hWX
          clear A9 hWX hbA HWk
          go_wp2_with (at_builtin; rw [HWX.out]; refine wpList_append_own _ rfl _ _ 117 rfl (w.heap.size + 1) 115 i0 (.agg #[.bool false, .slice none 0 0, .slice none 0 0, .bool false, .int .i64 0, .int .i64 0]) 6 80 Try.underlying117 hi hz0 hz1 hz2 rfl (by decide) _ _ _ rfl HR.out ⟨V11.heap.size, 0, none⟩ 1 1 [.bool s, .slice (some ⟨g1, 0, none⟩) l1 c1, .slice (some ⟨g2, 0, none⟩) l2 c2, .bool fine, .int .i64 fn, .int .i64 fd] rfl rfl HC.out h1c (by unfold maxLen; omega) (by omega) (by have := A.lt; omega) ?_; intro v1 w2 hown1 hgrow _)
          obtain ⟨g3, cp3, rfl, hg3⟩ := own_shape hown1 (by omega)
          have B2 := B.grown hgrow hz (fun q e => by cases e; show w.heap.size ≤ g; omega)
          have A2 := A.grow hgrow (fun e => by have h : g = w.heap.size := Option.some.inj e; omega)
          have hGr : ∀ {v : Value} {P Q : Int} {e : Nat}, Wd WX v P Q e → Wd w2 v P Q e := fun h => h.grown6 hgrow hne
          have HR2 : Hid (w2.ownsRow (w.heap.size + 1) 115 6 (.slice (some ⟨g3, 0, none⟩) (k + 1) cp3) (k + 1) (flat6 (fun i j => if i = k then ([.bool s, .slice (some ⟨g1, 0, none⟩) l1 c1, .slice (some ⟨g2, 0, none⟩) l2 c2, .bool fine, .int .i64 fn, .int .i64 fd] : List Value).getD j undef else H i j) (k + 1))) := by
            unfold Hid
            rw [flat6_succ H _ k (fun i j hi => if_neg (by omega))]
            simpa using hown1
          have HW2 : Hid (∀ i, i < k + 1 → Wd w2 (.agg #[(fun i j => if i = k then ([.bool s, .slice (some ⟨g1, 0, none⟩) l1 c1, .slice (some ⟨g2, 0, none⟩) l2 c2, .bool fine, .int .i64 fn, .int .i64 fd] : List Value).getD j undef else H i j) i 0, (fun i j => if i = k then ([.bool s, .slice (some ⟨g1, 0, none⟩) l1 c1, .slice (some ⟨g2, 0, none⟩) l2 c2, .bool fine, .int .i64 fn, .int .i64 fd] : List Value).getD j undef else H i j) i 1, (fun i j => if i = k then ([.bool s, .slice (some ⟨g1, 0, none⟩) l1 c1, .slice (some ⟨g2, 0, none⟩) l2 c2, .bool fine, .int .i64 fn, .int .i64 fd] : List Value).getD j undef else H i j) i 2, (fun i j => if i = k then ([.bool s, .slice (some ⟨g1, 0, none⟩) l1 c1, .slice (some ⟨g2, 0, none⟩) l2 c2, .bool fine, .int .i64 fn, .int .i64 fd] : List Value).getD j undef else H i j) i 3, (fun i j => if i = k then ([.bool s, .slice (some ⟨g1, 0, none⟩) l1 c1, .slice (some ⟨g2, 0, none⟩) l2 c2, .bool fine, .int .i64 fn, .int .i64 fd] : List Value).getD j undef else H i j) i 4, (fun i j => if i = k then ([.bool s, .slice (some ⟨g1, 0, none⟩) l1 c1, .slice (some ⟨g2, 0, none⟩) l2 c2, .bool fine, .int .i64 fn, .int .i64 fd] : List Value).getD j undef else H i j) i 5]) (dfp xs ys i).1 (dfp xs ys i).2 241) := fun i hi => by
            by_cases e : i = k
            · subst e
              simpa using hGr hWk
            · simpa [e] using hGr (HW.out i (by omega))
          have HB2 := Lib.hid B2
          have HA2 := Lib.hid A2
          clear hown1 hgrow HR HW hWk HC h1c hGr hne A B A2 B2
          go_wp2
          go_roundw
          case rel => exact ⟨k + 1, g3, cp3, _, hlt, fun h => by omega, by go_num, by first | rfl | go_num, HR2, HW2, HA2, HB2⟩
          case measure => simp [intOf]; omega
    · obtain rfl : k = n := by omega
      have HL : Hid (WL wr g k H (dfp xs ys) 241) := fun i hi => by
        have hlt2 : g < wr.heap.size := by
          obtain ⟨_, ⟨h, _⟩ | ⟨g', cap', cur, hv, hg, hh, _⟩⟩ := HR.out
          · cases h
          · cases hv
            exact (Array.getElem?_eq_some_iff.1 hh).1
        refine ⟨hlt2, fun j hj => ?_, HW.out i hi⟩
        have := World.ownsRow.cellAt HR.out (i * 6 + j) (by omega)
        rw [this, flat6_get H hi hj]
      have A := HA.out
      have B := HB.out
      have hqn : ∀ i, i < k → (dfp xs ys i).2 ≠ 0 := fun i hi => by
        have h1 := (HVX.out i hi).1
        have h2 := (HVY.out i hi).1
        exact Int.mul_ne_zero (by omega) (by omega)
      clear HR HW HA HB
      have hQ0 := rats_ne (p := dfp xs ys) hqn
      have hek : k * (241 + 1) ≤ 16 * 242 := Nat.mul_le_mul (by omega) (by omega)
      have HQN := Lib.hid hqn
      clear hqn
      go_wp2_with fail
      refine (wsum_any g k cp H (dfp xs ys) 241 wr HL.out (by omega) (by omega) (by omega) HQN.out).mono ?_
      rintro e w4 ⟨v, rfl, hS, hb⟩
      replace A := A.far hb
      replace B := B.trans (hb.mono B.size)
      clear hb HL HQN
      obtain ⟨P, hP⟩ : ∃ P, (rats (dfp xs ys) k).1 = P := ⟨_, rfl⟩
      obtain ⟨Q, hQ⟩ : ∃ Q, (rats (dfp xs ys) k).2 = Q := ⟨_, rfl⟩
      rw [hP, hQ] at hS
      rw [hQ] at hQ0
      have HPQ := Lib.hid (And.intro hP hQ)
      clear hP hQ
      go_wp2_with fail
      refine (half_any v P Q _ w4 hS (by omega) (by omega) hQ0).mono ?_
      rintro e w5 ⟨v2, rfl, hS2, hb⟩
      replace A := A.far hb
      replace B := B.trans (hb.mono B.size)
      clear hb hS
      go_wp2_with fail
      refine (wlow_any v2 (P * 1) (Q * 2) _ w5 hS2 (by omega)).mono ?_
      rintro e w6 ⟨v3, rfl, hS3, hb⟩
      replace A := A.far hb
      replace B := B.trans (hb.mono B.size)
      clear hb hS2
      have h4 := hS3.wd.up (show _ ≤ 5000 by omega)
      clear hS3
      have h5 := h4
      obtain ⟨s3, g3, l3, c3, N3, g4, l4, c4, D4, f4, m3, d3, rfl, _, _⟩ := h5
      obtain ⟨⟨k0, k1, k2, k3, k4, k5⟩, t0, t1, t2, t3, t4, t5⟩ := A.six
      have HP := A.put6 (.bool s3) (.slice (some ⟨g3, 0, none⟩) l3 c3) (.slice (some ⟨g4, 0, none⟩) l4 c4) (.bool f4) (.int .i64 m3) (.int .i64 d3)
      have HB9 := below_put6 B (Nat.le_refl _) (.bool s3) (.slice (some ⟨g3, 0, none⟩) l3 c3) (.slice (some ⟨g4, 0, none⟩) l4 c4) (.bool f4) (.int .i64 m3) (.int .i64 d3)
      have HWD := h4.kept6 k0 (.bool s3) (.slice (some ⟨g3, 0, none⟩) l3 c3) (.slice (some ⟨g4, 0, none⟩) l4 c4) (.bool f4) (.int .i64 m3) (.int .i64 d3)
      clear A B h4
      unfold put6 at HP HB9 HWD
      go_wp2
      clear k0 k1 k2 k3 k4 k5 t0 t1 t2 t3 t4 t5
      generalize World.setCell _ ⟨w.heap.size, 5, none⟩ _ = V at HP HB9 HWD ⊢
      obtain ⟨⟨k0, k1, k2, k3, k4, k5⟩, _⟩ := HP.six
      refine bodyPost_ret (v := .agg #[.bool s3, .slice (some ⟨g3, 0, none⟩) l3 c3, .slice (some ⟨g4, 0, none⟩) l4 c4, .bool f4, .int .i64 m3, .int .i64 d3]) (by simp [results, Try.results82, go_sem, k0, k1, k2, k3, k4, k5]) rfl ⟨_, rfl, by rw [HPQ.out.1, HPQ.out.2]; exact HWD, HB9⟩
end Go.Proofs.Ytmnnpkmjamhmcab

namespace Go.Proofs.Ytmnnpkmjamhmcab
open Go.RowKit Go.PlainAid
set_option maxHeartbeats 1600000
set_option maxRecDepth 20000
theorem sdistOf_any (a b : Option Addr) (n cap m capb : Nat) (xs ys : List (Int × Int)) (w : World) (hx : FIn w a n xs) (hy : FIn w b m ys) (hn : n ≤ 1048576) (hm : m ≤ 1048576) :
    Calls Try.prog 40 #[.slice a n cap, .slice b m capb] w fun e w' => ∃ n' d' ok, e = .returned (.tuple #[.agg #[.int .i64 n', .int .i64 d'], .bool ok]) ∧ DistFr xs ys n' d' ok ∧ Below w.heap.size w w' := by
  obtain ⟨b1, hb1⟩ : ∃ b : Bool, b = true ↔ IsCh xs := by
    by_cases h : IsCh xs
    · exact ⟨true, by simp [h]⟩
    · exact ⟨false, by simp [h]⟩
  obtain ⟨b2, hb2⟩ : ∃ b : Bool, b = true ↔ IsCh ys := by
    by_cases h : IsCh ys
    · exact ⟨true, by simp [h]⟩
    · exact ⟨false, by simp [h]⟩
  have HX := Lib.hid hx
  have HY := Lib.hid hy
  have hl := hx.1
  have hl2 := hy.1
  have K1 := Lib.hid (fun (W : World) (h : FIn W a n xs) => is_any a n cap xs W h hn b1 hb1)
  have K2 := Lib.hid (fun (W : World) (h : FIn W b m ys) => is_any b m capb ys W h hm b2 hb2)
  have HL := Lib.hid (And.intro hl hl2)
  clear hx hy hl hl2
  have A := D2.new w (.int .i64 0) (.int .i64 0) 27
  have B : Below w.heap.size w (w.alloc (.cells #[.int .i64 0, .int .i64 0] 27)) := (Below.refl _ w).alloc (Nat.le_refl _) _

  rcases b1 with _ | _
  · have HI : Hid (DistFr xs ys 0 0 false) := .inr ⟨fun h => Bool.noConfusion (hb1.2 h.1), rfl, rfl, rfl⟩
    clear hb1 hb2
    go_enter Try.func40, Try.ntmps40
    go_wp2_with fail
    generalize w.alloc (.cells #[.int .i64 0, .int .i64 0] 27) = w1 at A B ⊢
    refine (K1.out w1 (HX.out.far B)).mono ?_
    rintro e w2 ⟨rfl, hb⟩
    replace A := A.far hb
    replace B := B.trans (hb.mono B.size)
    clear hb
    clear K1 K2 HX HY HL
    obtain ⟨⟨y0, y1⟩, y2, y3⟩ := id A
    have HP2 := A.put (.int .i64 0) (.int .i64 0)
    have HB9 := below_putD B (Nat.le_refl _) (.int .i64 0) (.int .i64 0)
    clear A B
    unfold putD at HP2 HB9
    go_wp2
    clear y0 y1 y2 y3
    generalize World.setCell _ ⟨w.heap.size, 1, none⟩ _ = V at HP2 HB9 ⊢
    obtain ⟨⟨y0, y1⟩, _, _⟩ := id HP2
    refine bodyPost_ret (v := .tuple #[.agg #[.int .i64 0, .int .i64 0], .bool false]) (by simp [results, Try.results40, go_sem, y0, y1]) rfl ⟨0, 0, false, rfl, HI.out, HB9⟩
  rcases b2 with _ | _
  · have HI : Hid (DistFr xs ys 0 0 false) := .inr ⟨fun h => Bool.noConfusion (hb2.2 h.2.1), rfl, rfl, rfl⟩
    clear hb1 hb2
    go_enter Try.func40, Try.ntmps40
    go_wp2_with fail
    generalize w.alloc (.cells #[.int .i64 0, .int .i64 0] 27) = w1 at A B ⊢
    refine (K1.out w1 (HX.out.far B)).mono ?_
    rintro e w2 ⟨rfl, hb⟩
    replace A := A.far hb
    replace B := B.trans (hb.mono B.size)
    clear hb
    go_wp2_with fail
    refine (K2.out w2 (HY.out.far B)).mono ?_
    rintro e w3 ⟨rfl, hb⟩
    replace A := A.far hb
    replace B := B.trans (hb.mono B.size)
    clear hb
    clear K1 K2 HX HY HL
    obtain ⟨⟨y0, y1⟩, y2, y3⟩ := id A
    have HP2 := A.put (.int .i64 0) (.int .i64 0)
    have HB9 := below_putD B (Nat.le_refl _) (.int .i64 0) (.int .i64 0)
    clear A B
    unfold putD at HP2 HB9
    go_wp2
    clear y0 y1 y2 y3
    generalize World.setCell _ ⟨w.heap.size, 1, none⟩ _ = V at HP2 HB9 ⊢
    obtain ⟨⟨y0, y1⟩, _, _⟩ := id HP2
    refine bodyPost_ret (v := .tuple #[.agg #[.int .i64 0, .int .i64 0], .bool false]) (by simp [results, Try.results40, go_sem, y0, y1]) rfl ⟨0, 0, false, rfl, HI.out, HB9⟩
  by_cases hnm : n = m
  · subst hnm
    have HC := Lib.hid (And.intro (hb1.1 rfl) (hb2.1 rfl))
    clear hb1 hb2
    have hne : ((n : Int) != (n : Int)) = false := by simp
    go_enter Try.func40, Try.ntmps40
    go_wp2_with fail
    generalize w.alloc (.cells #[.int .i64 0, .int .i64 0] 27) = w1 at A B ⊢
    refine (K1.out w1 (HX.out.far B)).mono ?_
    rintro e w2 ⟨rfl, hb⟩
    replace A := A.far hb
    replace B := B.trans (hb.mono B.size)
    clear hb
    go_wp2_with fail
    refine (K2.out w2 (HY.out.far B)).mono ?_
    rintro e w3 ⟨rfl, hb⟩
    replace A := A.far hb
    replace B := B.trans (hb.mono B.size)
    clear hb
    obtain ⟨hc1, hc2⟩ := HC.out
    have hn16 : n ≤ 16 := by have := hc1.2.1; have := HL.out.1; omega
    have hv : ∀ i, i < n → VF (xs.getD i (0, 1)).1 (xs.getD i (0, 1)).2 := fun i hi => hc1.2.2.1.getD (by have := HL.out.1; omega)
    have hv2 : ∀ i, i < n → VF (ys.getD i (0, 1)).1 (ys.getD i (0, 1)).2 := fun i hi => hc2.2.2.1.getD (by have := HL.out.2; omega)
    have HV := Lib.hid hv
    have HV2 := Lib.hid hv2
    clear hv hv2 hc1 hc2 K1 K2
    go_wp2_with fail
    refine (wides_any a n cap xs w3 (HX.out.far B) (by omega) HV.out).mono ?_
    rintro e w4 ⟨g1, c1, F, rfl, hF, hb⟩
    replace A := A.far hb
    replace B := B.trans (hb.mono B.size)
    clear hb
    go_wp2_with fail
    refine (wides_any b n capb ys w4 (HY.out.far B) (by omega) HV2.out).mono ?_
    rintro e w5 ⟨g2, c2, G, rfl, hG, hb⟩
    replace A := A.far hb
    replace B := B.trans (hb.mono B.size)
    replace hF := hF.far hb
    clear hb
    go_wp2_with fail
    refine (sdist_any g1 n c1 g2 c2 F G xs ys w5 hF hG hn16 HV.out HV2.out).mono ?_
    rintro e w6 ⟨v, rfl, hS, hb⟩
    replace A := A.far hb
    replace B := B.trans (hb.mono B.size)
    clear hb hF hG
    have hqn : ∀ i, i < n → (dfp xs ys i).2 ≠ 0 := fun i hi => by
      have h1 := (HV.out i hi).1
      have h2 := (HV2.out i hi).1
      exact Int.mul_ne_zero (by omega) (by omega)
    have hQ0 := rats_ne (p := dfp xs ys) hqn
    have hQ2 : (rats (dfp xs ys) n).2 * 2 ≠ 0 := by omega
    go_wp2_with fail
    refine (give_any _ _ _ _ w6 hS (by omega) hQ2).mono ?_
    rintro e w7 ⟨n', d', ok, rfl, hfr, hb⟩
    replace A := A.far hb
    replace B := B.trans (hb.mono B.size)
    clear hb hS
    have HI : Hid (DistFr xs ys n' d' ok) := by
      obtain ⟨hc1, hc2⟩ := HC.out
      refine .inl ⟨hc1, hc2, by have := HL.out; omega, ?_⟩
      have T0 := isCh_scl hc1
      have U0 := isCh_scl hc2
      have e1 : ys.length = n := HL.out.2
      have e2 : xs.length = n := HL.out.1
      rw [e1] at U0
      rw [e2] at T0 ⊢
      have hd1 : ∀ i, i < n → 1 ≤ (xs.getD i (0, 1)).2 ∧ 0 ≤ (xs.getD i (0, 1)).1 ∧ (xs.getD i (0, 1)).2.toNat ∣ scl xs n := fun i hi => ⟨(HV.out i hi).1, hc1.2.2.2.1 i (by omega), scl_den hi⟩
      have hd2 : ∀ i, i < n → 1 ≤ (ys.getD i (0, 1)).2 ∧ 0 ≤ (ys.getD i (0, 1)).1 ∧ (ys.getD i (0, 1)).2.toNat ∣ scl ys n := fun i hi => ⟨(HV2.out i hi).1, hc2.2.2.2.1 i (by omega), scl_den hi⟩
      have hk := dsm_rats hd1 hd2
      have hTU := Nat.mul_pos (Nat.mul_pos (show 0 < 2 by omega) T0) U0
      refine hfr.congr hQ2 (by omega) ?_
      generalize ((dsm _ _ _ _ _ : Nat) : Int) = S at *
      generalize (rats (dfp xs ys) n).1 = P at *
      generalize (rats (dfp xs ys) n).2 = Q at *
      generalize scl xs n = T at *
      generalize scl ys n = U at *
      push_cast at hk ⊢
      grind
    clear hfr hQ0 hQ2 hqn
    obtain ⟨⟨y0, y1⟩, y2, y3⟩ := id A
    have HP2 := A.put (.int .i64 n') (.int .i64 d')
    have HB9 := below_putD B (Nat.le_refl _) (.int .i64 n') (.int .i64 d')
    clear A B
    unfold putD at HP2 HB9
    go_wp2
    clear y0 y1 y2 y3
    generalize World.setCell _ ⟨w.heap.size, 1, none⟩ _ = V at HP2 HB9 ⊢
    obtain ⟨⟨y0, y1⟩, _, _⟩ := id HP2
    refine bodyPost_ret (v := .tuple #[.agg #[.int .i64 n', .int .i64 d'], .bool ok]) (by simp [results, Try.results40, go_sem, y0, y1]) rfl ⟨n', d', ok, rfl, HI.out, HB9⟩
  · have HI : Hid (DistFr xs ys 0 0 false) := .inr ⟨fun h => hnm (by have h1 := h.2.2; have h2 := HL.out; omega), rfl, rfl, rfl⟩
    clear hb1 hb2
    have hne : ((n : Int) != (m : Int)) = true := by simp; omega
    go_enter Try.func40, Try.ntmps40
    go_wp2_with fail
    generalize w.alloc (.cells #[.int .i64 0, .int .i64 0] 27) = w1 at A B ⊢
    refine (K1.out w1 (HX.out.far B)).mono ?_
    rintro e w2 ⟨rfl, hb⟩
    replace A := A.far hb
    replace B := B.trans (hb.mono B.size)
    clear hb
    go_wp2_with fail
    refine (K2.out w2 (HY.out.far B)).mono ?_
    rintro e w3 ⟨rfl, hb⟩
    replace A := A.far hb
    replace B := B.trans (hb.mono B.size)
    clear hb
    clear K1 K2 HX HY HL
    obtain ⟨⟨y0, y1⟩, y2, y3⟩ := id A
    have HP2 := A.put (.int .i64 0) (.int .i64 0)
    have HB9 := below_putD B (Nat.le_refl _) (.int .i64 0) (.int .i64 0)
    clear A B
    unfold putD at HP2 HB9
    go_wp2
    clear y0 y1 y2 y3
    generalize World.setCell _ ⟨w.heap.size, 1, none⟩ _ = V at HP2 HB9 ⊢
    obtain ⟨⟨y0, y1⟩, _, _⟩ := id HP2
    refine bodyPost_ret (v := .tuple #[.agg #[.int .i64 0, .int .i64 0], .bool false]) (by simp [results, Try.results40, go_sem, y0, y1]) rfl ⟨0, 0, false, rfl, HI.out, HB9⟩
theorem lawDistanceOf (a b : Option Addr) (n cap m capb : Nat) (xs ys : List (Int × Int)) (w : World) (hx : FIn w a n xs) (hm : n ≤ maxLen) (hy : FIn w b m ys) (hm2 : m ≤ maxLen) :
    Calls Try.prog 10 #[.slice a n cap, .slice b m capb] w fun e w' => e = .returned (.bool true) ∧ Below w.heap.size w w' := by
  obtain ⟨N, D, ok, hE⟩ := dist_ex xs ys
  refine lawDistanceOf_core a n cap xs b m capb ys N D ok w hx hm hy hm2 (fun g c g2 c2 W hn hn2 hF hF2 => (sdistOf_any _ _ n c m c2 xs ys W hF hF2 hn hn2).mono ?_) (fun g c g2 c2 W hn hn2 hF hF2 => (idistOf_any _ _ n c m c2 xs ys W hF hF2 hn hn2).mono ?_)
  · rintro e w' ⟨n', d', ok', rfl, hS', hb⟩
    obtain ⟨rfl, rfl, rfl⟩ := hE.uniq hS'
    exact ⟨rfl, hb⟩
  · rintro e w' ⟨n', d', ok', rfl, hS', hb⟩
    obtain ⟨rfl, rfl, rfl⟩ := hE.uniq hS'
    exact ⟨rfl, hb⟩
end Go.Proofs.Ytmnnpkmjamhmcab
