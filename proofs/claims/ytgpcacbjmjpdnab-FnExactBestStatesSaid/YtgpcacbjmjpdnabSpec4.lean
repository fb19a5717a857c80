/- The spectrum: impl.function.spectrum, tally.transform, spec.l04Spectrum. -/
import Derived.Test.YtgpcacbjmjpdnabTabSpec
import Derived.Test.YtgpcacbjmjpdnabGT
import Derived.Test.YtgpcacbjmjpdnabNorm
import Derived.Test.YtgpcacbjmjpdnabRowW
import Derived.Test.YtgpcacbjmjpdnabWsp
import Derived.Test.YtgpcacbjmjpdnabSmall
import Derived.Test.YtgpcacbjmjpdnabSlice64
import Derived.WalkSmall
import Derived.BigRegion
namespace Go.Proofs.Ytgpcacbjmjpdnab
open Go.RowKit Go.PlainAid
open Wt (row spe)
set_option maxHeartbeats 800000

theorem i64_orT (a b : Nat) (ha : a < 9223372036854775808) (hb : b < 9223372036854775808) : bits .or .i64 (a : Int) (b : Int) = ((a ||| b : Nat) : Int) := i64_orN a b ha hb
theorem and_pow (x i : Nat) : x &&& 2 ^ i = (x.testBit i).toNat * 2 ^ i := by
  apply Nat.eq_of_testBit_eq
  intro j
  rw [Nat.testBit_and, Nat.testBit_two_pow, Wh.bitmul_bit]
  by_cases e : i = j
  · subst e; simp
  · have : ¬ j = i := fun h => e h.symm
    simp [e, this]
theorem two_set {w : World} {B G N cap x y : Nat} {f f' : Nat → Int} {a b : Int} (h : w.ownsRow B 2 1 (.slice (some ⟨G, 0, none⟩) N cap) N ((row f N).map (Value.int .i64))) (hr : ((row f N).set x a).set y b = row f' N) :
    ((w.setCell ⟨G, x, none⟩ (.int .i64 a)).setCell ⟨G, y, none⟩ (.int .i64 b)).ownsRow B 2 1 (.slice (some ⟨G, 0, none⟩) N cap) N ((row f' N).map (Value.int .i64)) := by
  rw [← hr, List.map_set, List.map_set]
  exact ((h.stored x (.int .i64 a)).1.stored y (.int .i64 b)).1
theorem pow10 {n : Nat} (h : n ≤ 10) : 1 ≤ 2 ^ n ∧ 2 ^ n ≤ 1024 := ⟨Nat.one_le_two_pow, Nat.pow_le_pow_right (n := 2) (by omega) h⟩

set_option maxRecDepth 8000 in
theorem trans_any (n N B G cap : Nat) (g : Nat → Int) (b : Int) (w : World) (hn : n ≤ 10) (hN : 2 ^ n = N) (hb0 : 0 ≤ b) (hb4 : b ≤ 400) (hb : ∀ x, -b ≤ g x ∧ g x ≤ b) (h : w.ownsRow B 2 1 (.slice (some ⟨G, 0, none⟩) N cap) N ((row g N).map (Value.int .i64))) :
    Calls Try.prog 76 #[.slice (some ⟨G, 0, none⟩) N cap] w fun e w' => e = .returned (.tuple #[]) ∧ w'.ownsRow B 2 1 (.slice (some ⟨G, 0, none⟩) N cap) N ((row (Wh.tr g n) N).map (Value.int .i64)) ∧ Below B w w' := by
  have hp := pow10 hn
  have HN := Lib.hid hN
  rw [hN] at hp
  have hcap := roww_cap h
  obtain ⟨hBG, hGw⟩ := roww_lt h
  have HB := Lib.hid hb
  clear hN hb
  go_enter Try.func76, Try.ntmps76
  go_wp2
  go_loopw [2, 3, 12] (fun bv _ _ wr => ∃ i : Nat, i ≤ n ∧ bv = .int .i64 (2 ^ i : Nat) ∧ wr.ownsRow B 2 1 (.slice (some ⟨G, 0, none⟩) N cap) N ((row (Wh.tr g i) N).map (Value.int .i64)) ∧ Below B w wr) (fun bv _ _ _ => N - (intOf bv).toNat)
  case atStart => exact ⟨0, Nat.zero_le _, rfl, h, Below.refl _ _⟩
  case round =>
    obtain ⟨i, hi, rfl, hown, hbel⟩ := hrel
    have hw2 := hcap
    by_cases hlt : i < n
    · have hlt2 : 2 ^ i < N := by rw [← HN.out]; exact Nat.pow_lt_pow_right (by omega) hlt
      have hdb : 2 ^ (i + 1) ≤ N := by rw [← HN.out]; exact Nat.pow_le_pow_right (by omega) hlt
      have h2i : 2 ^ (i + 1) = 2 * 2 ^ i := by rw [Nat.pow_succ]; omega
      obtain ⟨P, hP⟩ : ∃ P, 2 ^ i = P := ⟨_, rfl⟩
      have h1P : 1 ≤ P := by rw [← hP]; exact Nat.one_le_two_pow
      have HP := Lib.hid hP
      have HE : Hid (∀ p, p < N → Wh.mid g i N p = Wh.tr g (i + 1) p) := fun p hp => by
        rw [← HN.out] at hp ⊢
        exact Wh.mid_end hp
      have HF : Hid (∀ x, x < N → x ^^^ P < N) := fun x hx => by
        rw [← HN.out] at hx ⊢
        rw [← HP.out]
        exact Wh.flip_lt hx hlt
      have HL : Hid (∀ x p, -409600 ≤ Wh.mid g i x p ∧ Wh.mid g i x p ≤ 409600) := fun x p => by
        have h1 := Wt.mid_le g b hb0 HB.out i x p
        have h3 : ((2 ^ (i + 1) : Nat) : Int) * b ≤ 1024 * 400 := Int.mul_le_mul (by omega) hb4 hb0 (by omega)
        omega
      have HQ : Hid (2 ^ (i + 1) = 2 * P) := by unfold Hid; rw [h2i, hP]
      rw [hP] at hlt2 ⊢
      obtain ⟨wo, hwo⟩ : ∃ x, wr = x := ⟨_, rfl⟩
      rw [hwo] at hown hbel ⊢
      have hown0 : wo.ownsRow B 2 1 (.slice (some ⟨G, 0, none⟩) N cap) N ((row (Wh.mid g i 0) N).map (Value.int .i64)) := by
        rw [Wt.row_congr (g := Wh.tr g i) (fun y _ => Wh.mid_start g i y)]
        exact hown
      clear hwo hown h2i hP hdb
      go_wp2
      go_loopw [3, 12] (fun _ xv wi => ∃ x : Nat, x ≤ N ∧ xv = .int .i64 x ∧ wi.ownsRow B 2 1 (.slice (some ⟨G, 0, none⟩) N cap) N ((row (Wh.mid g i x) N).map (Value.int .i64)) ∧ Below B w wi) (fun _ xv _ => N - (intOf xv).toNat)
      case atStart => exact ⟨0, Nat.zero_le _, rfl, hown0, hbel⟩
      case round =>
        obtain ⟨x, hx, rfl, howni, hbeli⟩ := hrel
        clear hown0 hbel
        by_cases hxt : x < N
        · have ha := i64_andT x P (by omega) (by omega)
          cases hbit : x.testBit i with
          | true =>
            have hz : ((x &&& P : Nat) : Int) ≠ 0 := by
              rw [← HP.out, and_pow, hbit]
              have := Nat.one_le_two_pow (n := i)
              simp only [Bool.toNat_true, Nat.one_mul]
              omega
            have hc : (((x &&& P : Nat) : Int) == 0) = false := by rw [beq_eq_false_iff_ne]; exact hz
            have HK : Hid (Wh.mid g i (x + 1) = Wh.mid g i x) := funext fun p => Wh.mid_skip hbit p
            obtain ⟨q, hq⟩ : ∃ q, x &&& P = q := ⟨_, rfl⟩
            rw [hq] at ha hc
            clear hz hbit hq
            go_wp2
            go_roundw
            case rel => exact ⟨x + 1, by omega, by go_num, by rw [HK.out]; exact howni, hbeli⟩
            case measure => simp [intOf]; omega
          | false =>
            have hz : x &&& P = 0 := by
              rw [← HP.out, and_pow, hbit]
              simp
            have ho := i64_orT x P (by omega) (by omega)
            have hox : x ||| P = x ^^^ P := by rw [← HP.out]; exact Wh.or_flip hbit
            have hfl := HF.out x hxt
            have HR := Wt.mid_row (g := g) (N := N) hbit
            rw [HP.out] at HR
            rw [hox] at ho
            rw [hz] at ha
            obtain ⟨y, hy⟩ : ∃ y, x ^^^ P = y := ⟨_, rfl⟩
            have hxy : ¬ x = y := fun e => by
              have := Wh.flip_up hbit
              rw [HP.out, hy] at this
              omega
            rw [hy] at ho hfl HR
            have hu := HL.out x x
            have hv := HL.out x y
            obtain ⟨c0, f0⟩ := roww_at howni hxt
            obtain ⟨c1, f1⟩ := roww_at howni hfl
            have HO := Lib.hid (And.intro howni hbeli)
            obtain ⟨u, hu2⟩ : ∃ u, Wh.mid g i x x = u := ⟨_, rfl⟩
            obtain ⟨v, hv2⟩ : ∃ v, Wh.mid g i x y = v := ⟨_, rfl⟩
            rw [hu2] at hu c0 HR
            rw [hv2] at hv c1 HR
            have HR := Lib.hid HR
            clear hz hbit hox hy hu2 hv2 howni hbeli
            go_wp2
            go_region
            go_wp2
            go_roundw
            case rel => exact ⟨x + 1, by omega, by go_num, two_set HO.out.1 HR.out, ((HO.out.2.setCell (p := ⟨G, x, none⟩) hBG _).setCell (p := ⟨G, y, none⟩) hBG _).drew⟩
            case measure => simp [intOf]; omega
        · obtain rfl : x = N := by omega
          rw [Wt.row_congr (fun p hp => HE.out p hp)] at howni
          go_wp2
          go_roundw
          case rel => exact ⟨i + 1, by omega, by rw [HQ.out]; go_num, howni, hbeli⟩
          case measure => simp [intOf]; omega
    · obtain rfl : i = n := by omega
      rw [HN.out]
      go_wp2
      go_end0
      exact ⟨rfl, hown, hbel⟩
set_option maxRecDepth 8000 in
theorem spectrum_any (n : Nat) (g : Nat → Bool) (w : World) (hn : n ≤ 6) :
    Calls Try.prog 44 #[.agg #[.int .i64 n, .int .u64 (Wh.ob g (2 ^ n))]] w fun e w' => ∃ G, e = .returned (.slice (some ⟨G, 0, none⟩) (2 ^ n) (2 ^ n)) ∧ w'.ownsRow w.heap.size 2 1 (.slice (some ⟨G, 0, none⟩) (2 ^ n) (2 ^ n)) (2 ^ n) ((row (Wh.tr (Wt.sv g) n) (2 ^ n)).map (Value.int .i64)) ∧ Below w.heap.size w w' := by
  obtain ⟨N, hN⟩ : ∃ N, 2 ^ n = N := ⟨_, rfl⟩
  have hp := pow6 hn
  have HZ : Hid (∀ (V : Nat) (W : World), Calls Try.prog 51 #[.agg #[.int .i64 n, .int .u64 V]] W fun e w' => e = .returned (.int .i64 N) ∧ Below W.heap.size W w') := fun V W => by
    have := size_any n V W hn
    rwa [hN] at this
  rw [hN] at hp ⊢
  have HT : Hid (∀ (B G : Nat) (W : World), W.ownsRow B 2 1 (.slice (some ⟨G, 0, none⟩) N N) N ((row (Wt.sv g) N).map (Value.int .i64)) →
      Calls Try.prog 76 #[.slice (some ⟨G, 0, none⟩) N N] W fun e w' => e = .returned (.tuple #[]) ∧ w'.ownsRow B 2 1 (.slice (some ⟨G, 0, none⟩) N N) N ((row (Wh.tr (Wt.sv g) n) N).map (Value.int .i64)) ∧ Below B W w') := fun B G W h =>
    trans_any n N B G N (Wt.sv g) 1 W (by omega) hN (by omega) (by omega) (fun x => by rcases Wt.sv_one g x with h | h <;> rw [h] <;> omega) h
  clear hN
  have HA : Hid (∀ (x : Nat) (W : World), x < N → Calls Try.prog 75 #[.agg #[.int .i64 n, .int .u64 (Wh.ob g N)], .int .i64 x] W fun e w' => e = .returned (.int .u64 (g x).toNat) ∧ Below W.heap.size W w') := fun u W hu => by
    have h1 := Wh.ob_lt g N
    have h2 : 2 ^ N ≤ 2 ^ 64 := Nat.pow_le_pow_right (by omega) hp.2
    have := at_any n (Wh.ob g N) u W (by omega) (by omega)
    rwa [Wh.ob_bit, decide_eq_true hu, Bool.true_and] at this
  obtain ⟨V, hV⟩ : ∃ V, Wh.ob g N = V := ⟨_, rfl⟩
  rw [hV] at HA ⊢
  clear hV
  have A0 := P2.new w (.int .i64 n) (.int .u64 V) 54
  have B0 := (Below.refl w.heap.size w).alloc (Nat.le_refl _) (.cells #[.int .i64 n, .int .u64 V] 54)
  obtain ⟨i0, hi, hz0, hz1, hz2⟩ := info_parts Try.info2
  go_enter Try.func44, Try.ntmps44
  go_wp2_with fail
  refine (HZ.out _ _).mono ?_
  rintro e w2 ⟨rfl, hb2⟩
  have A2 := A0.far hb2
  have B2 := B0.trans (hb2.mono B0.size)
  have hne2 : ¬ w2.heap.size = w.heap.size := by have := A2.lt; omega
  have hz9 := B2.size
  clear hb2 A0 B0
  go_wp2_with (at_make; refine wpList_make_full _ rfl _ _ 57 rfl w.heap.size 2 i0 _ 1 Try.underlying57 hi hz0 hz1 _ _ _ _ N rfl rfl rfl rfl (by rw [hz2]; omega) (by unfold maxLen; omega) B2.size ?_; intro w3 hown hgrow; have hb3 := grown_far hgrow; have A3 := A2.far hb3; have A3' := A3; obtain ⟨⟨c0, c1⟩, _⟩ := A3')
  have B3 := B2.trans (hb3.mono B2.size)
  have hown3 : w3.ownsRow w.heap.size 2 1 (.slice (some ⟨w2.heap.size, 0, none⟩) N N) N ((pad (row (Wt.sv g) 0) N).map (Value.int .i64)) := by rw [pad_made] at hown; exact hown
  clear hown hgrow hb3 A2 B2 c0 c1
  go_wp2
  go_loopw [4, 10] (fun _ kv wr => ∃ k : Nat, k ≤ N ∧ kv = .int .i64 k ∧ wr.ownsRow w.heap.size 2 1 (.slice (some ⟨w2.heap.size, 0, none⟩) N N) N ((pad (row (Wt.sv g) k) N).map (Value.int .i64)) ∧ P2 wr w.heap.size (.int .i64 n) (.int .u64 V) ∧ Below w.heap.size w wr) (fun _ kv _ => N - (intOf kv).toNat)
  case atStart => exact ⟨0, Nat.zero_le _, rfl, hown3, A3, B3⟩
  case round =>
    obtain ⟨k, hk, rfl, hown, A, B⟩ := hrel
    clear hown3 A3 B3
    by_cases hlt : k < N
    · have hb1 : (g k).toNat ≤ 1 := Bool.toNat_le _
      have HS : Hid (row (Wt.sv g) (k + 1) = row (Wt.sv g) k ++ [1 - 2 * ((g k).toNat : Int)]) := Wt.row_succ (Wt.sv g) k
      have HDk := HA.out k
      obtain ⟨b, hb⟩ : ∃ b, (g k).toNat = b := ⟨_, rfl⟩
      rw [hb] at hb1 HS HDk
      have HDk := Lib.hid HDk
      clear hb
      have A' := A
      obtain ⟨⟨c0, c1⟩, _⟩ := A'
      go_wp2_with fail
      refine (HDk.out _ hlt).mono ?_
      rintro e w5 ⟨rfl, hb5⟩
      have A5 := A.far hb5
      have B5 := B.trans (hb5.mono B.size)
      have hown5 := own_far hown hb5
      clear hb5 A B hown c0 c1 HDk
      obtain ⟨hd, hf⟩ := own_next hown5 (Wt.row_length (Wt.sv g) k) hlt
      have HO := Lib.hid (own_step hown5 (Wt.row_length (Wt.sv g) k) hlt (1 - 2 * (b : Int)))
      rw [← HS.out] at HO
      have A6 := A5.away hne2 k (.int .i64 (1 - 2 * (b : Int)))
      have B6 := B5.setCell (p := ⟨w2.heap.size, k, none⟩) hz9 (.int .i64 (1 - 2 * (b : Int)))
      have HAB := Lib.hid (And.intro A6 B6)
      clear hown5 A5 B5 A6 B6
      go_wp2
      go_roundw
      case rel => exact ⟨k + 1, by omega, by go_num, HO.out, HAB.out.1, HAB.out.2⟩
      case measure => simp [intOf]; omega
    · obtain rfl : k = N := by omega
      have hp : Hid (pad (row (Wt.sv g) k) k = row (Wt.sv g) k) := by
        unfold Hid
        have := pad_full (row (Wt.sv g) k)
        rwa [Wt.row_length] at this
      rw [hp.out] at hown
      have HB := Lib.hid B
      clear A B
      go_wp2_with (go_at_call 76; refine (HT.out _ _ _ hown).mono ?_; rintro e w6 ⟨rfl, hown6, hb6⟩)
      go_ret
      exact ⟨_, rfl, hown6, HB.out.trans hb6⟩
end Go.Proofs.Ytgpcacbjmjpdnab
