/- spec.l10Cuts, spec.l10Counts, spec.BoxCounts, the law of box counts. -/
import Derived.Test.YtmnnpkmjamhmcaaBxA
namespace Go.Proofs.Ytmnnpkmjamhmcaa
open Go.RowKit Go.PlainAid
set_option maxHeartbeats 1600000
set_option maxRecDepth 20000

theorem cuts_any (a : Option Addr) (m cap : Nat) (f : Nat → List Int) (b : Int) (a2 : Option Addr) (n cap2 : Nat) (xs : List Int) (w : World) (h : RR w.heap.size w a m f) (hl : m + szl f m ≤ 1048576) (h2 : RO w.heap.size w a2 xs) (hn : xs.length = n) (hn2 : n ≤ 1048576) (ok : Bool) (hok : ok = true ↔ CutP m f b n xs) :
    Calls Try.prog 70 #[.slice a m cap, .int .i64 b, .slice a2 n cap2] w fun e w' => e = .returned (.bool ok) ∧ Below w.heap.size w w' := by
  have HR := Lib.hid h
  have HR2 := Lib.hid h2
  have HN := Lib.hid hn
  have HOK := Lib.hid hok
  clear h h2 hn hok
  by_cases hpt : PtsP m f b
  rotate_left
  · have HPT : Hid (∀ W : World, W = w → Calls Try.prog 68 #[.slice a m cap, .int .i64 b] W fun e w' => e = .returned (.bool false) ∧ Below W.heap.size W w') := fun W hW => by
      subst hW
      exact l10List_any a m cap f b W HR.out hl false (by simp [hpt])
    obtain rfl : ok = false := by
      have := HOK.out
      cases ok
      · rfl
      · exact absurd (this.1 rfl).1 hpt
    clear hpt hl
    go_enter Try.func70, Try.ntmps70
    go_wp2_with (go_at_call 68; with_reducible refine (HPT.out _ rfl).mono ?_; rintro e w1 ⟨rfl, hb⟩)
    go_ret
    exact ⟨rfl, hb⟩
  have HPT : Hid (∀ W : World, W = w → Calls Try.prog 68 #[.slice a m cap, .int .i64 b] W fun e w' => e = .returned (.bool true) ∧ Below W.heap.size W w') := fun W hW => by
    subst hW
    exact l10List_any a m cap f b W HR.out hl true (by simp [hpt])
  have HPP := Lib.hid hpt
  obtain ⟨hb, hm, hsd, hrow⟩ := hpt
  have hm1 := hm.1
  obtain ⟨g, off, rfl, hg, hrows⟩ := HR.out.get (by omega)
  obtain ⟨b0, c0, hc0, _, _⟩ := hrows 0 (by omega)
  obtain ⟨n0, hn0⟩ : ∃ n0, (f 0).length = n0 := ⟨_, rfl⟩
  have HN0 := Lib.hid hn0
  rw [hn0, Nat.add_zero] at hc0
  rw [hn0] at hsd
  have HC0 := Lib.hid hc0
  clear hrows hrow hn0 hc0
  by_cases he : n = n0
  rotate_left
  · have hne : ((n : Int) != (n0 : Int)) = true := by simp; omega
    obtain rfl : ok = false := by
      have := HOK.out
      cases ok
      · rfl
      · exact absurd ((this.1 rfl).2.1.trans HN0.out) he
    clear hl he hb hm hsd
    go_enter Try.func70, Try.ntmps70
    go_wp2_with (go_at_call 68; with_reducible refine (HPT.out _ rfl).mono ?_; rintro e w1 ⟨rfl, hb⟩; have hc1 := (hb.cell (p := ⟨g, off, none⟩) hg).trans HC0.out)
    go_ret
    exact ⟨rfl, hb⟩
  subst he
  have hne : ((n : Int) != (n : Int)) = false := by simp
  clear hl hm
  go_enter Try.func70, Try.ntmps70
  go_wp2_with (go_at_call 68; with_reducible refine (HPT.out _ rfl).mono ?_; rintro e w1 ⟨rfl, hb⟩; have hc1 := (hb.cell (p := ⟨g, off, none⟩) hg).trans HC0.out)
  have HB := Lib.hid hb
  go_loop [7, 8] (fun sv iv => ∃ k s : Nat, k ≤ n ∧ iv = .int .i64 k ∧ sv = .int .i64 s ∧ s ≤ 6 * k ∧ Hid (s = smc xs k ∧ ∀ (i : Nat) (c : Int), i < k → xs[i]? = some c → 0 ≤ c ∧ c ≤ b)) (fun _ iv => n - (intOf iv).toNat)
  case atStart => exact ⟨0, 0, Nat.zero_le _, rfl, rfl, by omega, rfl, fun i c h => by omega⟩
  case round =>
    obtain ⟨k, s, hk, rfl, rfl, hs, HK⟩ := hrel
    by_cases hlt : k < n
    · obtain ⟨c, hc⟩ : ∃ c, xs[k]? = some c := ⟨_, List.getElem?_eq_getElem (by have := HN.out; omega)⟩
      have HCC := Lib.hid hc
      obtain ⟨g2, o2, rfl, hg2, hc2⟩ := HR2.out k c hc
      replace hc2 := (HB.out.cell (p := ⟨g2, o2 + k, none⟩) hg2).trans hc2
      clear hc
      by_cases hin : 0 ≤ c ∧ c ≤ b
      · have HI : Hid (∀ W, Calls Try.prog 82 #[.int .i64 c, .int .i64 0, .int .i64 b] W fun e w' => e = .returned (.bool true) ∧ W = w') := l00In_b c 0 b true (decide_eq_true hin)
        have HIN := Lib.hid hin
        obtain ⟨c', rfl⟩ := Int.eq_ofNat_of_zero_le hin.1
        have hc6 : c' ≤ 6 := by omega
        have HS : Hid (smc xs (k + 1) = smc xs k + c') := by
          unfold Hid
          have := cn_of HCC.out hin.1
          rw [smc]; omega
        clear hin
        go_wp2_with (go_at_call 82; with_reducible refine (HI.out _).mono ?_; rintro e w2 ⟨rfl, rfl⟩)
        go_round
        case rel =>
          refine ⟨k + 1, s + c', by omega, by go_num, by first | rfl | go_num, by omega, by rw [HS.out, HK.out.1], fun i y h1 h2 => ?_⟩
          by_cases e : i = k
          · subst e
            rw [HCC.out] at h2
            cases h2
            exact HIN.out
          · exact HK.out.2 i y (by omega) h2
        case measure => simp [intOf]; omega
      · have HI : Hid (∀ W, Calls Try.prog 82 #[.int .i64 c, .int .i64 0, .int .i64 b] W fun e w' => e = .returned (.bool false) ∧ W = w') := l00In_b c 0 b false (decide_eq_false hin)
        obtain rfl : ok = false := by
          have := HOK.out
          cases ok
          · rfl
          · exact absurd ((this.1 rfl).2.2.1 k c HCC.out) hin
        clear hin
        go_wp2_with (go_at_call 82; with_reducible refine (HI.out _).mono ?_; rintro e w2 ⟨rfl, rfl⟩)
        go_ret
        exact ⟨rfl, HB.out⟩
    · obtain rfl : k = n := by omega
      have hd : decide ((s : Int) ≤ 6) = ok := by
        have h1 := HOK.out
        have h2 := HK.out
        have key : CutP m f b k xs ↔ s ≤ 6 := by
          constructor
          · intro h3; have := h3.2.2.2; omega
          · intro h3
            exact ⟨HPP.out, HN0.out.symm, fun i c hc => h2.2 i c (by have := (List.getElem?_eq_some_iff.1 hc).1; have := HN.out; omega) hc, by omega⟩
        rw [key] at h1
        cases ok
        · simp only [decide_eq_false_iff_not]
          intro h3
          have := h1.2 (by omega)
          cases this
        · simp only [decide_eq_true_iff]
          have := h1.1 rfl
          omega
      go_wp2
      go_ret
      exact ⟨rfl, HB.out⟩
theorem counts_any (a : Option Addr) (m cap : Nat) (f : Nat → List Int) (b : Nat) (a2 : Option Addr) (n cap2 : Nat) (xs : List Int) (w : World) (h : RR w.heap.size w a m f) (h2 : RO w.heap.size w a2 xs) (hn : xs.length = n) (hP : CutP m f b n xs) :
    Calls Try.prog 71 #[.slice a m cap, .int .i64 b, .slice a2 n cap2] w fun e w' => ∃ v, e = .returned v ∧ SL w.heap.size w'.heap.size w' v (bcl f xs b n m) ∧ Below w.heap.size w w' := by
  obtain ⟨i0, hi, hz0, hz1, hz2⟩ := info_parts Try.info2
  have HR := Lib.hid h
  have HR2 := Lib.hid h2
  have HP := Lib.hid hP
  obtain ⟨⟨hb, hm, hsd, hrow⟩, hnf, hcut, hsum⟩ := hP
  have hb6 : b ≤ 6 := by omega
  have hn4 : n ≤ 4 := by omega
  have HC : Hid (∀ i, i < n → ∃ c : Nat, xs[i]? = some (c : Int) ∧ cn xs i = c ∧ c ≤ b) := fun i hi => by
    obtain ⟨c, hc⟩ : ∃ c, xs[i]? = some c := ⟨_, List.getElem?_eq_getElem (by omega)⟩
    have h1 := hcut i c hc
    have h2 := cn_of hc h1.1
    exact ⟨cn xs i, by rw [hc, h2], rfl, by omega⟩
  have HX : Hid (∀ d, d < m → ∀ i, i < n → ∃ x : Nat, (f d)[i]? = some (x : Int) ∧ cn (f d) i = x ∧ x < 2 ^ b) := fun d hd i hi => by
    obtain ⟨h0, h1⟩ := hrow d hd
    obtain ⟨x, hx⟩ : ∃ x, (f d)[i]? = some x := ⟨_, List.getElem?_eq_getElem (by omega)⟩
    have h3 := h1 i x hx
    have h2 := cn_of hx h3.1
    refine ⟨cn (f d) i, by rw [hx, h2], rfl, ?_⟩
    have h4 := h3.2
    unfold mx at h4
    have e : ((2 ^ b : Nat) : Int) = (2 : Int) ^ b := by simp
    rw [Int.toNat_natCast, ← e] at h4
    omega
  have HBX : Hid (∀ d, d < m → ∀ k, k ≤ n → bx (f d) xs b k < 2 ^ smc xs k) := fun d hd k hk => bx_lt (fun i hi => by obtain ⟨x, _, e, h⟩ := HX.out d hd i hi; omega) (fun i hi => by obtain ⟨x, _, e, h⟩ := HC.out i hi; omega) k hk
  have HSM : Hid (∀ k, k ≤ n → smc xs k ≤ 6) := fun k hk => Nat.le_trans (smc_mono xs hk) hsum
  obtain ⟨N, hNe⟩ : ∃ N, 2 ^ smc xs n = N := ⟨_, rfl⟩
  have HNN := Lib.hid hNe
  have hN64 : N ≤ 64 := by
    rw [← hNe]
    exact Nat.pow_le_pow_right (by omega) hsum
  obtain ⟨g, off, rfl, hg, hrows⟩ := HR.out.get (by omega)
  have HRW : Hid (∀ d, d < m → ∃ bd cd, w.cell? ⟨g, off + d, none⟩ = some (.slice bd n cd) ∧ RO w.heap.size w bd (f d)) := fun d hd => by
    obtain ⟨bd, cd, h1, _, h3⟩ := hrows d hd
    rw [(hrow d hd).1, ← hnf] at h1
    exact ⟨bd, cd, h1, h3⟩
  have hm1 := hm.1
  have hm2 := hm.2
  clear h h2 hn hb hm hsd hrow hnf hcut hsum hrows hNe
  go_enter Try.func71, Try.ntmps71
  go_wp2_with fail
  go_loop [7, 8] (fun sv iv => ∃ k : Nat, k ≤ n ∧ iv = .int .i64 k ∧ ∃ P : Nat, sv = .int .i64 (P : Nat) ∧ P ≤ 64 ∧ Hid (2 ^ smc xs k = P)) (fun _ iv => n - (intOf iv).toNat)
  case atStart => exact ⟨0, Nat.zero_le _, rfl, 1, rfl, by omega, rfl⟩
  case round =>
    obtain ⟨k, hk, rfl, P, rfl, hP64, HPe⟩ := hrel
    by_cases hlt : k < n
    · obtain ⟨c, hc, hcn, hcb⟩ := HC.out k hlt
      obtain ⟨g2, o2, rfl, hg2, hc2⟩ := HR2.out k c hc
      have h6 := HSM.out (k + 1) hlt
      obtain ⟨P2, hP2⟩ : ∃ P2, 2 ^ smc xs (k + 1) = P2 := ⟨_, rfl⟩
      have HP2 := Lib.hid hP2
      have hP264 : P2 ≤ 64 := by
        rw [← hP2]
        exact Nat.pow_le_pow_right (by omega) h6
      have HW : Hid (wrap64 ((P : Int) * 2 ^ c) = (P2 : Int)) := by
        unfold Hid
        have e : (P : Int) * 2 ^ c = ((P2 : Nat) : Int) := by
          rw [← hP2, smc, hcn, Nat.pow_add, HPe.out]
          push_cast
          rfl
        rw [e]
        unfold wrap64; omega
      clear hc hcn hP2 h6
      go_wp2
      go_round
      case rel => exact ⟨k + 1, by omega, by go_num, P2, by rw [HW.out], hP264, HP2⟩
      case measure => simp [intOf]; omega
    · obtain rfl : k = n := by omega
      obtain rfl : P = N := HPe.out.symm.trans HNN.out
      go_wp2_with (at_make; refine wpList_make_full _ rfl _ _ 35 rfl w.heap.size 2 i0 _ 1 Try.underlying35 hi hz0 hz1 _ _ _ _ P rfl rfl rfl rfl (by rw [hz2]; omega) (by unfold maxLen; omega) (Nat.le_refl _) ?_; intro w3 hown hgrow)
      have HRw0 : Hid (Rw w.heap.size w.heap.size P P (bcl f xs b k 0) w3) := by
        unfold Hid Rw
        rw [pad_made] at hown
        have e : pad [] P = bcl f xs b k 0 := by simp [pad, bcl, HNN.out]
        rw [e] at hown
        exact hown
      have HB3 : Hid (Below w.heap.size w w3) := (Below.refl w.heap.size w).grown hgrow (Nat.le_refl _) (by simp)
      clear hown hgrow
      go_loopw [10] (fun iv wr => ∃ d : Nat, d ≤ m ∧ iv = .int .i64 d ∧ Hid (Rw w.heap.size w.heap.size P P (bcl f xs b k d) wr) ∧ Hid (Below w.heap.size w wr)) (fun iv _ => m - (intOf iv).toNat)
      case atStart => exact ⟨0, Nat.zero_le _, rfl, HRw0, HB3⟩
      case round =>
        obtain ⟨d, hd, rfl, HRd, HBd⟩ := hrel
        clear HRw0 HB3
        by_cases hlt2 : d < m
        · obtain ⟨bd, cd, hcd, hrd⟩ := HRW.out d hlt2
          have HRD := Lib.hid (hrd.below HBd.out)
          replace hcd := (HBd.out.cell (p := ⟨g, off + d, none⟩) hg).trans hcd
          obtain ⟨wo, rfl⟩ : ∃ wo, wo = wr := ⟨_, rfl⟩
          clear hrd
          go_wp2
          go_loopw [11, 12] (fun bv iv w2 => ∃ i j : Nat, i ≤ k ∧ iv = .int .i64 i ∧ bv = .int .i64 (bx (f d) xs b i : Nat) ∧ w2 = wo.drewN j) (fun _ iv _ => k - (intOf iv).toNat)
          case atStart => exact ⟨0, 0, Nat.zero_le _, rfl, rfl, rfl⟩
          case round =>
            obtain ⟨i, j, hi2, rfl, rfl, rfl⟩ := hrel
            by_cases hlt3 : i < k
            · obtain ⟨c, hxc, hcn, hcb⟩ := HC.out i hlt3
              obtain ⟨x, hxx, hxn, hxb⟩ := HX.out d hlt2 i hlt3
              obtain ⟨g2, o2, rfl, hg2, hc2⟩ := HR2.out i c hxc
              obtain ⟨g3, o3, rfl, hg3, hc3⟩ := HRD.out i x hxx
              replace hc2 := (HBd.out.cell (p := ⟨g2, o2 + i, none⟩) hg2).trans hc2
              have hc6 := HSM.out (i + 1) hlt3
              have HST : Hid (bits .or .i64 (wrap64 (((bx (f d) xs b i : Nat) : Int) * 2 ^ c)) ((x : Int) / 2 ^ (b - c)) = ((bx (f d) xs b (i + 1) : Nat) : Int)) := bx_step hcn hxn hcb hb6 hxb hc6 (HBX.out d hlt2 i hi2)
              clear hxc hxx
              go_wp2
              go_quiet (fail)
              go_wp2
              go_roundw
              case rel => exact ⟨i + 1, j + nq, by omega, by go_num, by rw [HST.out], rfl⟩
              case measure => simp [intOf]; omega
            · obtain rfl : i = k := by omega
              obtain ⟨B, hB⟩ : ∃ B, bx (f d) xs b i = B := ⟨_, rfl⟩
              have hBN : B < P := by
                rw [← hB, ← HNN.out]
                exact HBX.out d hlt2 i (Nat.le_refl _)
              have hcl := HRd.out.cell hBN
              have hfz := HRd.out.frz B
              obtain ⟨q, hq⟩ : ∃ q, (bcl f xs b i d).getD B 0 = q := ⟨_, rfl⟩
              have hq2 := bcl_in f xs b i d B
              have HB2 : Hid (bcl f xs b i (d + 1) = (bcl f xs b i d).set B (q + 1)) := by unfold Hid; rw [bcl, hB, hq]
              rw [hq] at hcl hq2
              have HRn : Hid (Rw w.heap.size w.heap.size P P (bcl f xs b i (d + 1)) ((wo.drewN j).setCell ⟨w.heap.size, B, none⟩ (.int .i64 (q + 1)))) := by
                unfold Hid
                rw [HB2.out]
                exact (HRd.out.drewN j).set B (q + 1)
              have HBn : Hid (Below w.heap.size w ((wo.drewN j).setCell ⟨w.heap.size, B, none⟩ (.int .i64 (q + 1)))) := (below_drewN HBd.out j).setCell (p := ⟨w.heap.size, B, none⟩) (Nat.le_refl _) _
              rw [hB]
              clear hB hq HB2 HRd HBd
              go_wp2
              go_roundw
              case rel => exact ⟨d + 1, by omega, by go_num, HRn, HBn⟩
              case measure => simp [intOf]; omega
        · obtain rfl : d = m := by omega
          go_wp2
          go_ret
          exact ⟨_, rfl, HRd.out.sl, HBd.out⟩
theorem specBox_yes (a : Option Addr) (m cap : Nat) (f : Nat → List Int) (b : Nat) (a2 : Option Addr) (n cap2 : Nat) (xs : List Int) (w : World) (h : RR w.heap.size w a m f) (hl : m + szl f m ≤ 1048576) (h2 : RO w.heap.size w a2 xs) (hn : xs.length = n) (hn2 : n ≤ 1048576) (hP : CutP m f b n xs) :
    Calls Try.prog 25 #[.slice a m cap, .int .i64 b, .slice a2 n cap2] w fun e w' => ∃ v, e = .returned (.tuple #[v, .bool true]) ∧ SL w.heap.size w'.heap.size w' v (bcl f xs b n m) ∧ Below w.heap.size w w' := by
  have HC := Lib.hid (cuts_any a m cap f b a2 n cap2 xs w h hl h2 hn hn2 true (by simp [hP]))
  have HD : Hid (∀ W, Below w.heap.size w W → Calls Try.prog 71 #[.slice a m cap, .int .i64 b, .slice a2 n cap2] W fun e w' => ∃ v, e = .returned v ∧ SL W.heap.size w'.heap.size w' v (bcl f xs b n m) ∧ Below W.heap.size W w') := fun W hW => counts_any a m cap f b a2 n cap2 xs W (h.far hW) ((h2.below hW).up hW.size) hn hP
  clear h hl h2 hn hn2 hP
  go_enter Try.func25, Try.ntmps25
  go_wp2_with fail
  refine HC.out.mono ?_
  rintro e w1 ⟨rfl, hb⟩
  have z := hb.size
  have HB := Lib.hid hb
  go_wp2_with fail
  refine (HD.out w1 hb).mono ?_
  rintro e w2 ⟨v, rfl, hs, hb2⟩
  have HS := Lib.hid (hs.lower7 z)
  have HB2 := Lib.hid (HB.out.trans (hb2.mono z))
  clear hs hb2 hb
  go_wp2
  go_ret2
  exact ⟨_, rfl, HS.out, HB2.out⟩
theorem specBox_no (a : Option Addr) (m cap : Nat) (f : Nat → List Int) (b : Int) (a2 : Option Addr) (n cap2 : Nat) (xs : List Int) (w : World) (h : RR w.heap.size w a m f) (hl : m + szl f m ≤ 1048576) (h2 : RO w.heap.size w a2 xs) (hn : xs.length = n) (hn2 : n ≤ 1048576) (hP : ¬ CutP m f b n xs) :
    Calls Try.prog 25 #[.slice a m cap, .int .i64 b, .slice a2 n cap2] w fun e w' => e = .returned (.tuple #[.slice none 0 0, .bool false]) ∧ Below w.heap.size w w' := by
  have HC := Lib.hid (cuts_any a m cap f b a2 n cap2 xs w h hl h2 hn hn2 false (by simp [hP]))
  clear h hl h2 hn hn2 hP
  go_enter Try.func25, Try.ntmps25
  go_wp2_with fail
  refine HC.out.mono ?_
  rintro e w1 ⟨rfl, hb⟩
  have HB := Lib.hid hb
  clear hb
  go_wp2
  go_ret2
  exact ⟨rfl, HB.out⟩
theorem lawBox (a : Option Addr) (m cap : Nat) (f : Nat → List Int) (b : Int) (a2 : Option Addr) (n cap2 : Nat) (zs : List Int) (w : World) (h : RR w.heap.size w a m f ∧ m ≤ maxLen ∧ ∀ d, (f d).length ≤ maxLen) (h2 : RowIn .i64 w a2 n zs) :
    Calls Try.prog 5 #[.slice a m cap, .int .i64 b, .slice a2 n cap2] w fun e w' => e = .returned (.bool true) ∧ Below w.heap.size w w' := by
  obtain ⟨xs, hn, hro⟩ := h2.ro
  by_cases hP : CutP m f b n xs
  · obtain ⟨b', rfl⟩ := Int.eq_ofNat_of_zero_le hP.1.1.1
    have hy : (bcl f xs b' n m).length ≤ 1048576 := by
      rw [bcl_length]
      exact Nat.le_trans (Nat.pow_le_pow_right (by omega) hP.2.2.2) (by omega)
    exact lawBoxCounts_core a m cap f b' a2 n cap2 xs _ true w h.1 h.2.1 h.2.2 hro hn hy
      (fun hc hn2 W b1 c1 b2 c2 hr _ hr2 _ => specBox_yes b1 m c1 f b' b2 n c2 xs W hr hc hr2 hn hn2 hP)
      (fun hc hn2 W b1 c1 b2 c2 hr _ hr2 _ => box_yes b1 m c1 f b' b2 n c2 xs W hr hc hr2 hn hP)
  · exact lawBoxCounts_core a m cap f b a2 n cap2 xs [] false w h.1 h.2.1 h.2.2 hro hn (by simp)
      (fun hc hn2 W b1 c1 b2 c2 hr _ hr2 _ => (specBox_no b1 m c1 f b b2 n c2 xs W hr hc hr2 hn hn2 hP).mono fun e w' ⟨h1, h3⟩ => ⟨_, h1, .inl ⟨rfl, rfl⟩, h3⟩)
      (fun hc hn2 W b1 c1 b2 c2 hr _ hr2 _ => (box_no b1 m c1 f b b2 n c2 xs W hr hc hr2 hn hn2 hP).mono fun e w' ⟨h1, h3⟩ => by subst h3; exact ⟨_, h1, .inl ⟨rfl, rfl⟩, Below.refl _ _⟩)
end Go.Proofs.Ytmnnpkmjamhmcaa
