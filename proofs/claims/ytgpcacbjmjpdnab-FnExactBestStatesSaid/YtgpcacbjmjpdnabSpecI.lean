/- The transform of a tally of ints: (impl.tally[int]).transform. -/
import Derived.Test.YtgpcacbjmjpdnabSpec4
import Derived.BigRegion
namespace Go.Proofs.Ytgpcacbjmjpdnab
open Go.RowKit Go.PlainAid
open Wt (row spe)
set_option maxHeartbeats 800000

theorem two_setI {w : World} {B G N cap x y : Nat} {f f' : Nat → Int} {a b : Int} (h : w.ownsRow B 3 1 (.slice (some ⟨G, 0, none⟩) N cap) N ((row f N).map (Value.int .i64))) (hr : ((row f N).set x a).set y b = row f' N) :
    ((w.setCell ⟨G, x, none⟩ (.int .i64 a)).setCell ⟨G, y, none⟩ (.int .i64 b)).ownsRow B 3 1 (.slice (some ⟨G, 0, none⟩) N cap) N ((row f' N).map (Value.int .i64)) := by
  rw [← hr, List.map_set, List.map_set]
  exact ((h.stored x (.int .i64 a)).1.stored y (.int .i64 b)).1
set_option maxRecDepth 8000 in
theorem transI_any (n N B G cap : Nat) (g : Nat → Int) (b : Int) (w : World) (hn : n ≤ 10) (hN : 2 ^ n = N) (hb0 : 0 ≤ b) (hb4 : b ≤ 400) (hb : ∀ x, -b ≤ g x ∧ g x ≤ b) (h : w.ownsRow B 3 1 (.slice (some ⟨G, 0, none⟩) N cap) N ((row g N).map (Value.int .i64))) :
    Calls Try.prog 87 #[.slice (some ⟨G, 0, none⟩) N cap] w fun e w' => e = .returned (.tuple #[]) ∧ w'.ownsRow B 3 1 (.slice (some ⟨G, 0, none⟩) N cap) N ((row (Wh.tr g n) N).map (Value.int .i64)) ∧ Below B w w' := by
  have hp := pow10 hn
  have HN := Lib.hid hN
  rw [hN] at hp
  have hcap := roww_cap h
  obtain ⟨hBG, hGw⟩ := roww_lt h
  have HB := Lib.hid hb
  clear hN hb
  go_enter Try.func87, Try.ntmps87
  go_wp2
  go_loopw [2, 3, 12] (fun bv _ _ wr => ∃ i : Nat, i ≤ n ∧ bv = .int .i64 (2 ^ i : Nat) ∧ wr.ownsRow B 3 1 (.slice (some ⟨G, 0, none⟩) N cap) N ((row (Wh.tr g i) N).map (Value.int .i64)) ∧ Below B w wr) (fun bv _ _ _ => N - (intOf bv).toNat)
  case atStart => exact ⟨0, Nat.zero_le _, rfl, h, Below.refl _ _⟩
  case round =>
    obtain ⟨i, hi, rfl, hown, hbel⟩ := hrel
    have hw2 := hcap
    by_cases hlt : i < n
    · have hlt2 : 2 ^ i < N := by rw [← HN.out]; exact Nat.pow_lt_pow_right (by omega) hlt
      have hdb : 2 ^ (i + 1) ≤ N := by rw [← HN.out]; exact Nat.pow_le_pow_right (by omega) hlt
      have h2i : 2 ^ (i + 1) = 2 * 2 ^ i := by rw [Nat.pow_succ]; omega
      obtain ⟨P, hP⟩ : ∃ P, 2 ^ i = P := ⟨_, rfl⟩
      have h1P : 1 ≤ P := by rw [← hP]; exact Nat.one_le_two_pow
      have HP := Lib.hid hP
      have HE : Hid (∀ p, p < N → Wh.mid g i N p = Wh.tr g (i + 1) p) := fun p hp => by
        rw [← HN.out] at hp ⊢
        exact Wh.mid_end hp
      have HF : Hid (∀ x, x < N → x ^^^ P < N) := fun x hx => by
        rw [← HN.out] at hx ⊢
        rw [← HP.out]
        exact Wh.flip_lt hx hlt
      have HL : Hid (∀ x p, -409600 ≤ Wh.mid g i x p ∧ Wh.mid g i x p ≤ 409600) := fun x p => by
        have h1 := Wt.mid_le g b hb0 HB.out i x p
        have h3 : ((2 ^ (i + 1) : Nat) : Int) * b ≤ 1024 * 400 := Int.mul_le_mul (by omega) hb4 hb0 (by omega)
        omega
      have HQ : Hid (2 ^ (i + 1) = 2 * P) := by unfold Hid; rw [h2i, hP]
      rw [hP] at hlt2 ⊢
      obtain ⟨wo, hwo⟩ : ∃ x, wr = x := ⟨_, rfl⟩
      rw [hwo] at hown hbel ⊢
      have hown0 : wo.ownsRow B 3 1 (.slice (some ⟨G, 0, none⟩) N cap) N ((row (Wh.mid g i 0) N).map (Value.int .i64)) := by
        rw [Wt.row_congr (g := Wh.tr g i) (fun y _ => Wh.mid_start g i y)]
        exact hown
      clear hwo hown h2i hP hdb
      go_wp2
      go_loopw [3, 12] (fun _ xv wi => ∃ x : Nat, x ≤ N ∧ xv = .int .i64 x ∧ wi.ownsRow B 3 1 (.slice (some ⟨G, 0, none⟩) N cap) N ((row (Wh.mid g i x) N).map (Value.int .i64)) ∧ Below B w wi) (fun _ xv _ => N - (intOf xv).toNat)
      case atStart => exact ⟨0, Nat.zero_le _, rfl, hown0, hbel⟩
      case round =>
        obtain ⟨x, hx, rfl, howni, hbeli⟩ := hrel
        clear hown0 hbel
        by_cases hxt : x < N
        · have ha := i64_andT x P (by omega) (by omega)
          cases hbit : x.testBit i with
          | true =>
            have hz : ((x &&& P : Nat) : Int) ≠ 0 := by
              rw [← HP.out, and_pow, hbit]
              have := Nat.one_le_two_pow (n := i)
              simp only [Bool.toNat_true, Nat.one_mul]
              omega
            have hc : (((x &&& P : Nat) : Int) == 0) = false := by rw [beq_eq_false_iff_ne]; exact hz
            have HK : Hid (Wh.mid g i (x + 1) = Wh.mid g i x) := funext fun p => Wh.mid_skip hbit p
            obtain ⟨q, hq⟩ : ∃ q, x &&& P = q := ⟨_, rfl⟩
            rw [hq] at ha hc
            clear hz hbit hq
            go_wp2
            go_roundw
            case rel => exact ⟨x + 1, by omega, by go_num, by rw [HK.out]; exact howni, hbeli⟩
            case measure => simp [intOf]; omega
          | false =>
            have hz : x &&& P = 0 := by
              rw [← HP.out, and_pow, hbit]
              simp
            have ho := i64_orT x P (by omega) (by omega)
            have hox : x ||| P = x ^^^ P := by rw [← HP.out]; exact Wh.or_flip hbit
            have hfl := HF.out x hxt
            have HR := Wt.mid_row (g := g) (N := N) hbit
            rw [HP.out] at HR
            rw [hox] at ho
            rw [hz] at ha
            obtain ⟨y, hy⟩ : ∃ y, x ^^^ P = y := ⟨_, rfl⟩
            have hxy : ¬ x = y := fun e => by
              have := Wh.flip_up hbit
              rw [HP.out, hy] at this
              omega
            rw [hy] at ho hfl HR
            have hu := HL.out x x
            have hv := HL.out x y
            obtain ⟨c0, f0⟩ := roww_at howni hxt
            obtain ⟨c1, f1⟩ := roww_at howni hfl
            have HO := Lib.hid (And.intro howni hbeli)
            obtain ⟨u, hu2⟩ : ∃ u, Wh.mid g i x x = u := ⟨_, rfl⟩
            obtain ⟨v, hv2⟩ : ∃ v, Wh.mid g i x y = v := ⟨_, rfl⟩
            rw [hu2] at hu c0 HR
            rw [hv2] at hv c1 HR
            have HR := Lib.hid HR
            clear hz hbit hox hy hu2 hv2 howni hbeli
            go_wp2
            go_region
            go_wp2
            go_roundw
            case rel => exact ⟨x + 1, by omega, by go_num, two_setI HO.out.1 HR.out, ((HO.out.2.setCell (p := ⟨G, x, none⟩) hBG _).setCell (p := ⟨G, y, none⟩) hBG _).drew⟩
            case measure => simp [intOf]; omega
        · obtain rfl : x = N := by omega
          rw [Wt.row_congr (fun p hp => HE.out p hp)] at howni
          go_wp2
          go_roundw
          case rel => exact ⟨i + 1, by omega, by rw [HQ.out]; go_num, howni, hbeli⟩
          case measure => simp [intOf]; omega
    · obtain rfl : i = n := by omega
      rw [HN.out]
      go_wp2
      go_end0
      exact ⟨rfl, hown, hbel⟩
end Go.Proofs.Ytgpcacbjmjpdnab
