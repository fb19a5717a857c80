/- impl.BoxCounts. -/
import Derived.Test.YtmnnpkmjamhmcaaBxM
namespace Go.Proofs.Ytmnnpkmjamhmcaa
open Go.RowKit Go.PlainAid
set_option maxHeartbeats 1600000
set_option maxRecDepth 20000

theorem box_yes (a : Option Addr) (m cap : Nat) (f : Nat → List Int) (b : Nat) (a2 : Option Addr) (n cap2 : Nat) (xs : List Int) (w : World) (h : RR w.heap.size w a m f) (hl : m + szl f m ≤ 1048576) (h2 : RO w.heap.size w a2 xs) (hn : xs.length = n) (hP : CutP m f b n xs) :
    Calls Try.prog 27 #[.slice a m cap, .int .i64 b, .slice a2 n cap2] w fun e w' => ∃ v, e = .returned (.tuple #[v, .bool true]) ∧ SL w.heap.size w'.heap.size w' v (bcl f xs b n m) ∧ Below w.heap.size w w' := by
  obtain ⟨i0, hi, hz0, hz1, hz2⟩ := info_parts Try.info2
  have HR := Lib.hid h
  have HR2 := Lib.hid h2
  have HN := Lib.hid hn
  have HP := Lib.hid hP
  obtain ⟨⟨hb, hm, hsd, hrow⟩, hnf, hcut, hsum⟩ := hP
  have HPT : Hid (∀ W : World, W = w → Calls Try.prog 23 #[.slice a m cap, .int .i64 b] W fun e w' => e = .returned (.bool true) ∧ W = w') := fun W hW => by
    subst hW
    exact isPts_any a m cap f b W HR.out hl true (by simp; exact HP.out.1)
  have HAB : Hid (∀ W : World, W = w → Calls Try.prog 65 #[.slice a2 n cap2, .int .i64 0, .int .i64 b] W fun e w' => e = .returned (.bool true) ∧ W = w') := fun W hW => by
    subst hW
    exact areB_any a2 n cap2 xs 0 b W HR2.out HN.out (by omega) true (by simp; exact hcut)
  have hb6 : b ≤ 6 := by omega
  have hn4 : n ≤ 4 := by omega
  have HC : Hid (∀ i, i < n → ∃ c : Nat, xs[i]? = some (c : Int) ∧ cn xs i = c ∧ c ≤ b) := fun i hi => by
    obtain ⟨c, hc⟩ : ∃ c, xs[i]? = some c := ⟨_, List.getElem?_eq_getElem (by omega)⟩
    have h1 := hcut i c hc
    have h2 := cn_of hc h1.1
    exact ⟨cn xs i, by rw [hc, h2], rfl, by omega⟩
  have HX : Hid (∀ d, d < m → ∀ i, i < n → ∃ x : Nat, (f d)[i]? = some (x : Int) ∧ cn (f d) i = x ∧ x < 2 ^ b) := fun d hd i hi => by
    obtain ⟨h0, h1⟩ := hrow d hd
    obtain ⟨x, hx⟩ : ∃ x, (f d)[i]? = some x := ⟨_, List.getElem?_eq_getElem (by omega)⟩
    have h3 := h1 i x hx
    have h2 := cn_of hx h3.1
    refine ⟨cn (f d) i, by rw [hx, h2], rfl, ?_⟩
    have h4 := h3.2
    unfold mx at h4
    have e : ((2 ^ b : Nat) : Int) = (2 : Int) ^ b := by simp
    rw [Int.toNat_natCast, ← e] at h4
    omega
  have HBX : Hid (∀ d, d < m → ∀ k, k ≤ n → bx (f d) xs b k < 2 ^ smc xs k) := fun d hd k hk => bx_lt (fun i hi => by obtain ⟨x, _, e, h⟩ := HX.out d hd i hi; omega) (fun i hi => by obtain ⟨x, _, e, h⟩ := HC.out i hi; omega) k hk
  have HSM : Hid (∀ k, k ≤ n → smc xs k ≤ 6) := fun k hk => Nat.le_trans (smc_mono xs hk) hsum
  obtain ⟨N, hNe⟩ : ∃ N, 2 ^ smc xs n = N := ⟨_, rfl⟩
  have HNN := Lib.hid hNe
  have hN64 : N ≤ 64 := by
    rw [← hNe]
    exact Nat.pow_le_pow_right (by omega) hsum
  have HE : Hid (wrap64 ((2 : Int) ^ smc xs n) = (N : Int)) := by
    unfold Hid
    rw [← hNe]
    have : ((2 ^ smc xs n : Nat) : Int) = (2 : Int) ^ smc xs n := by simp
    rw [← this]
    unfold wrap64; omega
  obtain ⟨g, off, rfl, hg, hrows⟩ := HR.out.get (by omega)
  obtain ⟨b0, c0, hc0, _, _⟩ := hrows 0 (by omega)
  rw [← hnf, Nat.add_zero] at hc0
  have HRW : Hid (∀ d, d < m → ∃ bd cd, w.cell? ⟨g, off + d, none⟩ = some (.slice bd n cd) ∧ RO w.heap.size w bd (f d)) := fun d hd => by
    obtain ⟨bd, cd, h1, _, h3⟩ := hrows d hd
    rw [(hrow d hd).1, ← hnf] at h1
    exact ⟨bd, cd, h1, h3⟩
  have hne : ((n : Int) != (n : Int)) = false := by simp
  have hm1 := hm.1
  have hm2 := hm.2
  clear h h2 hn hl hb hm hsd hrow hnf hcut hsum hrows hNe
  go_enter Try.func27, Try.ntmps27
  go_wp2_with (first | (go_at_call 23; with_reducible refine (HPT.out _ rfl).mono ?_; rintro e w1 ⟨rfl, rfl⟩) | (go_at_call 65; with_reducible refine (HAB.out _ rfl).mono ?_; rintro e w1 ⟨rfl, rfl⟩))
  go_loop [8, 38] (fun sv iv => ∃ k : Nat, k ≤ n ∧ iv = .int .i64 k ∧ sv = .int .i64 (smc xs k : Nat)) (fun _ iv => n - (intOf iv).toNat)
  case atStart => exact ⟨0, Nat.zero_le _, rfl, rfl⟩
  case round =>
    obtain ⟨k, hk, rfl, rfl⟩ := hrel
    by_cases hlt : k < n
    · obtain ⟨c, hc, hcn, hcb⟩ := HC.out k hlt
      obtain ⟨g2, o2, rfl, hg2, hc2⟩ := HR2.out k c hc
      have HS : Hid (smc xs (k + 1) = smc xs k + c) := by unfold Hid; rw [smc, hcn]
      have h6 := HSM.out (k + 1) hlt
      have h60 := HSM.out k hk
      rw [HS.out] at h6
      generalize smc xs k = s at h6 h60 HS
      clear hc hcn
      go_wp2
      go_round
      case rel => exact ⟨k + 1, by omega, by go_num, by rw [HS.out]; first | rfl | go_num⟩
      case measure => simp [intOf]; omega
    · obtain rfl : k = n := by omega
      have h6 := HSM.out k (Nat.le_refl _)
      go_wp2_with (at_make; clear h6; refine wpList_make_full _ rfl _ _ 35 rfl w.heap.size 2 i0 _ 1 Try.underlying35 hi hz0 hz1 _ _ _ _ N rfl rfl HE.out HE.out (by rw [hz2]; omega) (by unfold maxLen; omega) (Nat.le_refl _) ?_; intro w3 hown hgrow)
      have HRw0 : Hid (Rw w.heap.size w.heap.size N N (bcl f xs b k 0) w3) := by
        unfold Hid Rw
        rw [pad_made] at hown
        have e : pad [] N = bcl f xs b k 0 := by simp [pad, bcl, HNN.out]
        rw [e] at hown
        exact hown
      have HB3 : Hid (Below w.heap.size w w3) := (Below.refl w.heap.size w).grown hgrow (Nat.le_refl _) (by simp)
      clear hown hgrow
      go_loopw [53] (fun iv wr => ∃ d : Nat, d ≤ m ∧ iv = .int .i64 d ∧ Hid (Rw w.heap.size w.heap.size N N (bcl f xs b k d) wr) ∧ Hid (Below w.heap.size w wr)) (fun iv _ => m - (intOf iv).toNat)
      case atStart => exact ⟨0, Nat.zero_le _, rfl, HRw0, HB3⟩
      case round =>
        obtain ⟨d, hd, rfl, HRd, HBd⟩ := hrel
        clear HRw0 HB3
        by_cases hlt2 : d < m
        · obtain ⟨bd, cd, hcd, hrd⟩ := HRW.out d hlt2
          have HRD := Lib.hid (hrd.below HBd.out)
          replace hcd := (HBd.out.cell (p := ⟨g, off + d, none⟩) hg).trans hcd
          obtain ⟨wo, rfl⟩ : ∃ wo, wo = wr := ⟨_, rfl⟩
          clear hrd
          go_wp2
          go_loopw [14, 59] (fun bv iv w2 => ∃ i j : Nat, i ≤ k ∧ iv = .int .i64 i ∧ bv = .int .i64 (bx (f d) xs b i : Nat) ∧ w2 = wo.drewN j) (fun _ iv _ => k - (intOf iv).toNat)
          case atStart => exact ⟨0, 0, Nat.zero_le _, rfl, rfl, rfl⟩
          case round =>
            obtain ⟨i, j, hi2, rfl, rfl, rfl⟩ := hrel
            by_cases hlt3 : i < k
            · obtain ⟨c, hxc, hcn, hcb⟩ := HC.out i hlt3
              obtain ⟨x, hxx, hxn, hxb⟩ := HX.out d hlt2 i hlt3
              obtain ⟨g2, o2, rfl, hg2, hc2⟩ := HR2.out i c hxc
              obtain ⟨g3, o3, rfl, hg3, hc3⟩ := HRD.out i x hxx
              replace hc2 := (HBd.out.cell (p := ⟨g2, o2 + i, none⟩) hg2).trans hc2
              have hc6 := HSM.out (i + 1) hlt3
              have HST : Hid (bits .or .i64 (wrap64 (((bx (f d) xs b i : Nat) : Int) * 2 ^ c)) ((x : Int) / 2 ^ (b - c)) = ((bx (f d) xs b (i + 1) : Nat) : Int)) := bx_step hcn hxn hcb hb6 hxb hc6 (HBX.out d hlt2 i hi2)
              clear hxc hxx
              go_wp2
              go_quiet (fail)
              go_wp2
              go_roundw
              case rel => exact ⟨i + 1, j + nq, by omega, by go_num, by rw [HST.out], rfl⟩
              case measure => simp [intOf]; omega
            · obtain rfl : i = k := by omega
              obtain ⟨B, hB⟩ : ∃ B, bx (f d) xs b i = B := ⟨_, rfl⟩
              have hBN : B < N := by
                rw [← hB, ← HNN.out]
                exact HBX.out d hlt2 i (Nat.le_refl _)
              have hcl := HRd.out.cell hBN
              have hfz := HRd.out.frz B
              obtain ⟨q, hq⟩ : ∃ q, (bcl f xs b i d).getD B 0 = q := ⟨_, rfl⟩
              have hq2 := bcl_in f xs b i d B
              have HB2 : Hid (bcl f xs b i (d + 1) = (bcl f xs b i d).set B (q + 1)) := by unfold Hid; rw [bcl, hB, hq]
              rw [hq] at hcl hq2
              have HRn : Hid (Rw w.heap.size w.heap.size N N (bcl f xs b i (d + 1)) ((wo.drewN j).setCell ⟨w.heap.size, B, none⟩ (.int .i64 (q + 1)))) := by
                unfold Hid
                rw [HB2.out]
                exact (HRd.out.drewN j).set B (q + 1)
              have HBn : Hid (Below w.heap.size w ((wo.drewN j).setCell ⟨w.heap.size, B, none⟩ (.int .i64 (q + 1)))) := (below_drewN HBd.out j).setCell (p := ⟨w.heap.size, B, none⟩) (Nat.le_refl _) _
              rw [hB]
              clear hB hq HB2 HRd HBd
              go_wp2
              go_roundw
              case rel => exact ⟨d + 1, by omega, by go_num, HRn, HBn⟩
              case measure => simp [intOf]; omega
        · obtain rfl : d = m := by omega
          go_wp2
          go_ret2
          exact ⟨_, rfl, HRd.out.sl, HBd.out⟩
theorem smc_le {xs : List Int} {n : Nat} (h : ∀ i, i < n → cn xs i ≤ 6) : ∀ k, k ≤ n → smc xs k ≤ 6 * k := by
  intro k
  induction k with
  | zero => intro _; simp [smc]
  | succ k ih =>
    intro hk
    have := ih (by omega)
    have := h k (by omega)
    simp only [smc]; omega
theorem box_no (a : Option Addr) (m cap : Nat) (f : Nat → List Int) (b : Int) (a2 : Option Addr) (n cap2 : Nat) (xs : List Int) (w : World) (h : RR w.heap.size w a m f) (hl : m + szl f m ≤ 1048576) (h2 : RO w.heap.size w a2 xs) (hn : xs.length = n) (hn2 : n ≤ 1048576) (hP : ¬ CutP m f b n xs) :
    Calls Try.prog 27 #[.slice a m cap, .int .i64 b, .slice a2 n cap2] w fun e w' => e = .returned (.tuple #[.slice none 0 0, .bool false]) ∧ w = w' := by
  have HR := Lib.hid h
  have HR2 := Lib.hid h2
  have HN := Lib.hid hn
  have HP := Lib.hid hP
  clear h h2 hn
  by_cases hpt : PtsP m f b
  rotate_left
  · have HPT : Hid (∀ W : World, W = w → Calls Try.prog 23 #[.slice a m cap, .int .i64 b] W fun e w' => e = .returned (.bool false) ∧ W = w') := fun W hW => by
      subst hW
      exact isPts_any a m cap f b W HR.out hl false (by simp [hpt])
    clear hpt hP hl
    go_enter Try.func27, Try.ntmps27
    go_wp2_with (go_at_call 23; with_reducible refine (HPT.out _ rfl).mono ?_; rintro e w1 ⟨rfl, rfl⟩)
    go_ret2
    exact ⟨rfl, rfl⟩
  have HPT : Hid (∀ W : World, W = w → Calls Try.prog 23 #[.slice a m cap, .int .i64 b] W fun e w' => e = .returned (.bool true) ∧ W = w') := fun W hW => by
    subst hW
    exact isPts_any a m cap f b W HR.out hl true (by simp [hpt])
  have HPP := Lib.hid hpt
  obtain ⟨hb, hm, hsd, hrow⟩ := hpt
  have hm1 := hm.1
  obtain ⟨g, off, rfl, hg, hrows⟩ := HR.out.get (by omega)
  obtain ⟨b0, c0, hc0, _, _⟩ := hrows 0 (by omega)
  obtain ⟨n0, hn0⟩ : ∃ n0, (f 0).length = n0 := ⟨_, rfl⟩
  have HN0 := Lib.hid hn0
  rw [hn0, Nat.add_zero] at hc0
  rw [hn0] at hsd
  clear hrows hrow hn0
  by_cases he : n = n0
  rotate_left
  · have hne : ((n : Int) != (n0 : Int)) = true := by simp; omega
    clear hP hl he hb hm hsd
    go_enter Try.func27, Try.ntmps27
    go_wp2_with (go_at_call 23; with_reducible refine (HPT.out _ rfl).mono ?_; rintro e w1 ⟨rfl, rfl⟩)
    go_ret2
    exact ⟨rfl, rfl⟩
  subst he
  have hne : ((n : Int) != (n : Int)) = false := by simp
  by_cases hcut : ∀ (i : Nat) (c : Int), xs[i]? = some c → 0 ≤ c ∧ c ≤ b
  rotate_left
  · have HAB : Hid (∀ W : World, W = w → Calls Try.prog 65 #[.slice a2 n cap2, .int .i64 0, .int .i64 b] W fun e w' => e = .returned (.bool false) ∧ W = w') := fun W hW => by
      subst hW
      exact areB_any a2 n cap2 xs 0 b W HR2.out HN.out (by omega) false ⟨fun e => (by cases e), fun e => absurd e hcut⟩
    clear hP hl hb hm hcut
    go_enter Try.func27, Try.ntmps27
    go_wp2_with (first | (go_at_call 23; with_reducible refine (HPT.out _ rfl).mono ?_; rintro e w1 ⟨rfl, rfl⟩) | (go_at_call 65; with_reducible refine (HAB.out _ rfl).mono ?_; rintro e w1 ⟨rfl, rfl⟩))
    go_ret2
    exact ⟨rfl, rfl⟩
  have HAB : Hid (∀ W : World, W = w → Calls Try.prog 65 #[.slice a2 n cap2, .int .i64 0, .int .i64 b] W fun e w' => e = .returned (.bool true) ∧ W = w') := fun W hW => by
    subst hW
    exact areB_any a2 n cap2 xs 0 b W HR2.out HN.out (by omega) true (by simp; exact hcut)
  have hgt : 6 < smc xs n := by
    by_cases h6 : smc xs n ≤ 6
    · exact absurd ⟨HPP.out, HN0.out.symm, hcut, h6⟩ HP.out
    · omega
  have HGT := Lib.hid hgt
  have HC : Hid (∀ i, i < n → ∃ c : Nat, xs[i]? = some (c : Int) ∧ cn xs i = c ∧ c ≤ 6) := fun i hi => by
    obtain ⟨c, hc⟩ : ∃ c, xs[i]? = some c := ⟨_, List.getElem?_eq_getElem (by have := HN.out; omega)⟩
    have h1 := hcut i c hc
    have h2 := cn_of hc h1.1
    exact ⟨cn xs i, by rw [hc, h2], rfl, by omega⟩
  have HSM : Hid (∀ k, k ≤ n → smc xs k ≤ 24) := fun k hk => by
    have := smc_le (xs := xs) (n := n) (fun i hi => by obtain ⟨c, _, e, h⟩ := HC.out i hi; omega) k hk
    omega
  clear hP hl hb hm hcut hgt
  go_enter Try.func27, Try.ntmps27
  go_wp2_with (first | (go_at_call 23; with_reducible refine (HPT.out _ rfl).mono ?_; rintro e w1 ⟨rfl, rfl⟩) | (go_at_call 65; with_reducible refine (HAB.out _ rfl).mono ?_; rintro e w1 ⟨rfl, rfl⟩))
  go_loop [8, 38] (fun sv iv => ∃ k : Nat, k ≤ n ∧ iv = .int .i64 k ∧ sv = .int .i64 (smc xs k : Nat)) (fun _ iv => n - (intOf iv).toNat)
  case atStart => exact ⟨0, Nat.zero_le _, rfl, rfl⟩
  case round =>
    obtain ⟨k, hk, rfl, rfl⟩ := hrel
    by_cases hlt : k < n
    · obtain ⟨c, hc, hcn, hcb⟩ := HC.out k hlt
      obtain ⟨g2, o2, rfl, hg2, hc2⟩ := HR2.out k c hc
      have HS : Hid (smc xs (k + 1) = smc xs k + c) := by unfold Hid; rw [smc, hcn]
      have h6 := HSM.out (k + 1) hlt
      have h60 := HSM.out k hk
      rw [HS.out] at h6
      generalize smc xs k = s at h6 h60 HS
      clear hc hcn
      go_wp2
      go_round
      case rel => exact ⟨k + 1, by omega, by go_num, by rw [HS.out]; first | rfl | go_num⟩
      case measure => simp [intOf]; omega
    · obtain rfl : k = n := by omega
      have h6 := HGT.out
      go_wp2
      go_ret2
      exact ⟨rfl, rfl⟩
end Go.Proofs.Ytmnnpkmjamhmcaa
