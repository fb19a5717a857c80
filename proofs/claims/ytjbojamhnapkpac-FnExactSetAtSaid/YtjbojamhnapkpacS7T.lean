/- Sets by their ranks: impl.SetAt, spec.SetAt, the law. -/
import Derived.Test.YtjbojamhnapkpacS7Y
import Derived.Test.YtjbojamhnapkpacS7P
namespace Go.Proofs.Ytjbojamhnapkpac
open Go.RowKit Go.PlainAid
set_option maxHeartbeats 800000

theorem saD_take {n size rank k : Nat} (h : (saD n size rank k).2 < wayS (n - 1 - k) (size - (saD n size rank k).1.length)) : saD n size rank (k + 1) = ((saD n size rank k).1 ++ [(k : Int)], (saD n size rank k).2) := by
  simp only [saD]
  rw [if_pos h]
theorem saD_skip {n size rank k : Nat} (h : ¬ (saD n size rank k).2 < wayS (n - 1 - k) (size - (saD n size rank k).1.length)) : saD n size rank (k + 1) = ((saD n size rank k).1, (saD n size rank k).2 - wayS (n - 1 - k) (size - (saD n size rank k).1.length)) := by
  simp only [saD]
  rw [if_neg h]
/-- all that is asked of the arguments -/
def SaP (n size rank : Int) : Prop := (1 ≤ n ∧ n ≤ 60) ∧ (0 ≤ size ∧ size ≤ n) ∧ 0 ≤ rank ∧ rank < Choose.ch n.toNat size.toNat
set_option maxRecDepth 10000 in
theorem setAt_yes (n size rank : Nat) (w : World) (h1 : 1 ≤ n) (h2 : n ≤ 60) (h3 : size ≤ n) (h4 : rank < Choose.ch n size) :
    Calls Try.prog 18 #[.int .i64 n, .int .i64 size, .int .i64 rank] w (ListRet w (saD n size rank n).1 true) := by
  obtain ⟨i0, hi, hz0, hz1, hz2⟩ := info_parts Try.info2
  have HB : Hid (∀ W : World, Calls Try.prog 36 #[.int .i64 n, .int .i64 size] W fun e w' => e = .returned (.tuple #[.int .i64 (Choose.ch n size : Nat), .bool true]) ∧ W = w') := fun W => binom_yes n size W h2 h3
  have hc := ch_small size h2
  have HSA : Hid (∀ k, k ≤ n → (saD n size rank k).1.length ≤ size ∧ (saD n size rank k).2 < Choose.ch (n - k) (size - (saD n size rank k).1.length)) := saD_in h4
  obtain ⟨C, hC⟩ : ∃ C, Choose.ch n size = C := ⟨_, rfl⟩
  rw [hC] at HB hc h4
  have HI : Hid (∀ W : World, Calls Try.prog 22 #[.int .i64 rank, .int .i64 0, .int .i64 ((C : Int) - 1)] W fun e w' => e = .returned (.bool true) ∧ W = w') := fun W => btw64_yes _ _ _ W (by omega) (by omega)
  have HO : Hid (Rw w.heap.size w.heap.size 0 0 (saD n size rank 0).1 (w.alloc (.cells #[] 2)) ∧ Below w.heap.size w (w.alloc (.cells #[] 2))) := ⟨Rw.empty w, (Below.refl _ _).alloc (Nat.le_refl _) _⟩
  clear hC
  go_enter Try.func18, Try.ntmps18
  go_wp2_with (first | (go_at_call 36; with_reducible refine (HB.out _).mono ?_; rintro e w1 ⟨rfl, rfl⟩) | (go_at_call 22; with_reducible refine (HI.out _).mono ?_; rintro e w1 ⟨rfl, rfl⟩))
  go_loopw [2, 10, 11, 12, 34] (fun qv sv _ _ iv wr => ∃ k r L g cap : Nat, k ≤ n ∧ L ≤ size ∧ iv = .int .i64 k ∧ qv = .int .i64 r ∧ sv = .slice (some ⟨g, 0, none⟩) L cap ∧ r ≤ 1152921504606846976 ∧ Hid ((saD n size rank k).2 = r) ∧ Hid (Rw w.heap.size g L cap (saD n size rank k).1 wr ∧ Below w.heap.size w wr)) (fun _ _ _ _ iv _ => n - (intOf iv).toNat)
  case atStart => exact ⟨0, rank, 0, _, _, Nat.zero_le _, Nat.zero_le _, rfl, rfl, rfl, by omega, rfl, HO⟩
  case round =>
    obtain ⟨k, r, L, g, cap, hk, hL, rfl, rfl, rfl, hr, HE, HRw⟩ := hrel
    clear HO
    have hlen := HRw.out.1.len
    by_cases hlt : k < n
    · obtain ⟨q, hq⟩ : ∃ q, n - 1 - k = q := ⟨_, rfl⟩
      obtain ⟨m, hm⟩ : ∃ m, size - L = m := ⟨_, rfl⟩
      have hm2 : (size : Int) - (L : Int) = (m : Int) := by omega
      have HW : Hid (∀ W : World, Calls Try.prog 35 #[.int .i64 n, .int .i64 k, .int .i64 m] W fun e w' => e = .returned (.int .i64 (wayS q m : Nat)) ∧ W = w') := fun W => setsWith_any n k m q W hlt h2 (by omega) hq
      have hs := wayS_small (q := q) (m := m) (by omega)
      have hzz := HRw.out.2.size
      have hgl := HRw.out.1.le
      obtain ⟨hl1, hl2⟩ := HSA.out (k + 1) hlt
      by_cases ht : r < wayS q m
      · have HE2 : Hid (saD n size rank (k + 1) = ((saD n size rank k).1 ++ [(k : Int)], r)) := by
          unfold Hid
          rw [saD_take (by rw [HE.out, hlen, hq, hm]; exact ht), HE.out]
        have hL1 : L + 1 ≤ size := by
          rw [HE2.out] at hl1
          simpa [hlen] using hl1
        generalize wayS q m = s at HW hs ht
        clear hq hm hl1 hl2 hlen
        go_wp2_with (first | (go_at_call 35; with_reducible refine (HW.out _).mono ?_; rintro e w2 ⟨rfl, rfl⟩) | (at_builtin; refine wpList_append_own_at _ rfl _ _ 22 rfl w.heap.size 2 i0 (.int .i64 0) 1 8 Try.underlying22 hi hz0 hz1 hz2 rfl (by decide) _ _ _ rfl (World.ownsRow.alloc HRw.out.1 _) ⟨wr.heap.size, 0, none⟩ 1 1 [.int .i64 k] rfl rfl (cell_one_new _ _ _) (by intro u hu; simp at hu; subst hu; rfl) (by unfold maxLen; omega) (by omega) (by first | (simp; done) | (simp; omega)) ?_; intro v1 w1 hown1 hgrow1 hnil1 hat1))
        obtain ⟨g1, cap1, rfl, hr1, hg1, hgr⟩ := Rw.app HRw.out.1 hown1 hgrow1 hat1
        have HR2 : Hid (Rw w.heap.size g1 (L + 1) cap1 (saD n size rank (k + 1)).1 w1 ∧ Below w.heap.size w w1) := by
          unfold Hid
          rw [HE2.out]
          exact ⟨hr1, HRw.out.2.grown hgr hzz (fun q e => by cases e; exact hgl)⟩
        have HE3 : Hid ((saD n size rank (k + 1)).2 = r) := by unfold Hid; rw [HE2.out]
        clear hown1 hgrow1 hnil1 hat1 hr1 hg1 hgr HRw
        go_roundw
        case rel => exact ⟨k + 1, r, L + 1, g1, cap1, by omega, hL1, by go_num, rfl, by first | rfl | go_num, hr, HE3, HR2⟩
        case measure => first | (simp [intOf]; done) | (simp [intOf]; omega)
      · have HE2 : Hid (saD n size rank (k + 1) = ((saD n size rank k).1, r - wayS q m)) := by
          unfold Hid
          rw [saD_skip (by rw [HE.out, hlen, hq, hm]; exact ht), HE.out, hlen, hq, hm]
        obtain ⟨s, hs2⟩ : ∃ s, wayS q m = s := ⟨_, rfl⟩
        rw [hs2] at HW hs ht HE2
        obtain ⟨r2, hr2⟩ : ∃ r2, r - s = r2 := ⟨_, rfl⟩
        have hr3 : (r : Int) - (s : Int) = (r2 : Int) := by omega
        rw [hr2] at HE2
        have hr4 : r2 ≤ 1152921504606846976 := by omega
        have HR2 : Hid (Rw w.heap.size g L cap (saD n size rank (k + 1)).1 wr ∧ Below w.heap.size w wr) := by
          unfold Hid
          rw [HE2.out]
          exact HRw.out
        have HE3 : Hid ((saD n size rank (k + 1)).2 = r2) := by unfold Hid; rw [HE2.out]
        clear hq hm hl1 hl2 hlen hs2 hr2 HRw
        go_wp2_with (go_at_call 35; with_reducible refine (HW.out _).mono ?_; rintro e w2 ⟨rfl, rfl⟩)
        go_roundw
        case rel => exact ⟨k + 1, r2, L, g, cap, by omega, hL, by go_num, rfl, rfl, hr4, HE3, HR2⟩
        case measure => first | (simp [intOf]; done) | (simp [intOf]; omega)
    · obtain rfl : k = n := by omega
      go_wp2
      go_ret2
      exact ⟨_, rfl, HRw.out.1.sl, HRw.out.2⟩
theorem setAt_no (n size rank : Int) (w : World) (h : ¬ SaP n size rank) :
    Calls Try.prog 18 #[.int .i64 n, .int .i64 size, .int .i64 rank] w (ListRet w [] false) := by
  by_cases hb : (0 ≤ n ∧ n ≤ 60) ∧ 0 ≤ size ∧ size ≤ n
  · obtain ⟨N, rfl⟩ := Int.eq_ofNat_of_zero_le hb.1.1
    obtain ⟨S, rfl⟩ := Int.eq_ofNat_of_zero_le hb.2.1
    have HB : Hid (∀ W : World, Calls Try.prog 36 #[.int .i64 N, .int .i64 S] W fun e w' => e = .returned (.tuple #[.int .i64 (Choose.ch N S : Nat), .bool true]) ∧ W = w') := fun W => binom_yes N S W (by omega) (by omega)
    have hc := ch_small S (show N ≤ 60 by omega)
    by_cases h0 : N = 0
    · have hN : N < 1 := by omega
      obtain ⟨C, hC⟩ : ∃ C, Choose.ch N S = C := ⟨_, rfl⟩
      rw [hC] at HB
      clear h hb hc hC h0
      go_enter Try.func18, Try.ntmps18
      go_wp2_with (go_at_call 36; with_reducible refine (HB.out _).mono ?_; rintro e w1 ⟨rfl, rfl⟩)
      go_ret2
      exact ⟨_, rfl, .inl ⟨rfl, rfl⟩, Below.refl _ _⟩
    · have hr : ¬ (0 ≤ rank ∧ rank ≤ (Choose.ch N S : Int) - 1) := fun y => h ⟨by omega, by omega, y.1, by simp only [Int.toNat_natCast]; omega⟩
      obtain ⟨C, hC⟩ : ∃ C, Choose.ch N S = C := ⟨_, rfl⟩
      rw [hC] at HB hc hr
      have HI : Hid (∀ W : World, Calls Try.prog 22 #[.int .i64 rank, .int .i64 0, .int .i64 ((C : Int) - 1)] W fun e w' => e = .returned (.bool false) ∧ W = w') := fun W => btw64_no _ _ _ W hr
      have h1 : 1 ≤ N := by omega
      clear h hb hr hC h0
      go_enter Try.func18, Try.ntmps18
      go_wp2_with (first | (go_at_call 36; with_reducible refine (HB.out _).mono ?_; rintro e w1 ⟨rfl, rfl⟩) | (go_at_call 22; with_reducible refine (HI.out _).mono ?_; rintro e w1 ⟨rfl, rfl⟩))
      go_ret2
      exact ⟨_, rfl, .inl ⟨rfl, rfl⟩, Below.refl _ _⟩
  · have HB : Hid (∀ W : World, Calls Try.prog 36 #[.int .i64 n, .int .i64 size] W fun e w' => e = .returned (.tuple #[.int .i64 0, .bool false]) ∧ W = w') := fun W => binom_no n size W hb
    clear h hb
    go_enter Try.func18, Try.ntmps18
    go_wp2_with (go_at_call 36; with_reducible refine (HB.out _).mono ?_; rintro e w1 ⟨rfl, rfl⟩)
    go_ret2
    exact ⟨_, rfl, .inl ⟨rfl, rfl⟩, Below.refl _ _⟩
set_option maxRecDepth 10000 in
theorem specSetAt_yes (n size rank : Nat) (w : World) (h1 : 1 ≤ n) (h2 : n ≤ 60) (h3 : size ≤ n) (h4 : rank < Choose.ch n size) :
    Calls Try.prog 17 #[.int .i64 n, .int .i64 size, .int .i64 rank] w (ListRet w (saD n size rank n).1 true) := by
  obtain ⟨i0, hi, hz0, hz1, hz2⟩ := info_parts Try.info2
  have HL : Hid (∀ W : World, Calls Try.prog 30 #[.int .i64 n] W fun e w' => e = .returned (.bool true) ∧ W = w') := fun W => below_b n true W (decide_eq_true (by omega))
  have HI1 : Hid (∀ W : World, Calls Try.prog 21 #[.int .i64 size, .int .i64 0, .int .i64 n] W fun e w' => e = .returned (.bool true) ∧ W = w') := fun W => l00In_yes _ _ _ _ (by omega) (by omega)
  have HB : Hid (∀ W : World, Calls Try.prog 32 #[.int .i64 n, .int .i64 size] W fun e w' => e = .returned (.int .i64 (Choose.ch n size : Nat)) ∧ Below W.heap.size W w') := fun W => choose_any n size W h2 h3
  have hc := ch_small size h2
  have HSA : Hid (∀ k, k ≤ n → (saD n size rank k).1.length ≤ size ∧ (saD n size rank k).2 < Choose.ch (n - k) (size - (saD n size rank k).1.length)) := saD_in h4
  obtain ⟨C, hC⟩ : ∃ C, Choose.ch n size = C := ⟨_, rfl⟩
  rw [hC] at HB hc h4
  have HI2 : Hid (∀ W : World, Calls Try.prog 21 #[.int .i64 rank, .int .i64 0, .int .i64 ((C : Int) - 1)] W fun e w' => e = .returned (.bool true) ∧ W = w') := fun W => l00In_yes _ _ _ _ (by omega) (by omega)
  clear hC
  go_enter Try.func17, Try.ntmps17
  go_wp2_with (first | (go_at_call 30; with_reducible refine (HL.out _).mono ?_; rintro e w1 ⟨rfl, rfl⟩) | (go_at_call 21; with_reducible refine (HI1.out _).mono ?_; rintro e w1 ⟨rfl, rfl⟩) | (go_at_call 21; with_reducible refine (HI2.out _).mono ?_; rintro e w1 ⟨rfl, rfl⟩) | (go_at_call 32; with_reducible refine (HB.out _).mono ?_; rintro e w1 ⟨rfl, hb⟩))
  have HO : Hid (Rw w.heap.size w1.heap.size 0 0 (saD n size rank 0).1 (w1.alloc (.cells #[] 2)) ∧ Below w.heap.size w (w1.alloc (.cells #[] 2))) := ⟨(Rw.empty w1).base hb.size, hb.alloc hb.size _⟩
  clear hb
  go_loopw [2, 8, 9, 10, 11] (fun qv sv iv lv _ wr => ∃ k r L g cap m : Nat, k ≤ n ∧ L + m = size ∧ iv = .int .i64 k ∧ qv = .int .i64 r ∧ lv = .int .i64 m ∧ sv = .slice (some ⟨g, 0, none⟩) L cap ∧ r ≤ 1152921504606846976 ∧ Hid ((saD n size rank k).2 = r) ∧ Hid (Rw w.heap.size g L cap (saD n size rank k).1 wr ∧ Below w.heap.size w wr)) (fun _ _ iv _ _ _ => n - (intOf iv).toNat)
  case atStart => exact ⟨0, rank, 0, _, _, size, Nat.zero_le _, by omega, rfl, rfl, rfl, rfl, by omega, rfl, HO⟩
  case round =>
    obtain ⟨k, r, L, g, cap, m, hk, hL, rfl, rfl, rfl, rfl, hr, HE, HRw⟩ := hrel
    clear HO
    have hlen := HRw.out.1.len
    by_cases hm0 : 0 < m
    · obtain ⟨_, hroom⟩ := HSA.out k hk
      rw [HE.out, hlen, show size - L = m by omega] at hroom
      have hlt : k < n := by
        rcases Nat.lt_or_ge k n with y | y
        · exact y
        · rw [show n - k = 0 by omega, Choose.ch_out 0 m hm0] at hroom
          omega
      obtain ⟨q, hq⟩ : ∃ q, n - 1 - k = q := ⟨_, rfl⟩
      obtain ⟨p, hp⟩ : ∃ p, m - 1 = p := ⟨_, rfl⟩
      have hpq : p ≤ q := by
        rcases Nat.lt_or_ge q p with y | y
        · rw [Choose.ch_out (n - k) m (by omega)] at hroom
          omega
        · exact y
      have hq2 : (n : Int) - 1 - (k : Int) = (q : Int) := by omega
      have hp2 : (m : Int) - 1 = (p : Int) := by omega
      have HW : Hid (∀ W : World, Calls Try.prog 32 #[.int .i64 q, .int .i64 p] W fun e w' => e = .returned (.int .i64 (wayS q m : Nat)) ∧ Below W.heap.size W w') := fun W => by
        have := choose_any q p W (by omega) hpq
        rw [show wayS q m = Choose.ch q p by unfold wayS; rw [if_neg (by omega), hp]]
        exact this
      have hs := wayS_small (q := q) (m := m) (by omega)
      have hzz := HRw.out.2.size
      have hgl := HRw.out.1.le
      have hmm : size - (saD n size rank k).1.length = m := by omega
      by_cases ht : r < wayS q m
      · have HE2 : Hid (saD n size rank (k + 1) = ((saD n size rank k).1 ++ [(k : Int)], r)) := by
          unfold Hid
          rw [saD_take (by rw [HE.out, hmm, hq]; exact ht), HE.out]
        generalize wayS q m = s at HW hs ht
        obtain ⟨W0, hW0⟩ : ∃ W0, W0 = wr := ⟨_, rfl⟩
        rw [← hW0] at HRw hzz ⊢
        clear hq hp hlen hroom hmm hW0
        go_wp2_with fail
        refine (HW.out _).mono ?_
        rintro e w2 ⟨rfl, hb2⟩
        have HR2' := Lib.hid (And.intro (HRw.out.1.far hb2) (HRw.out.2.trans (hb2.mono hzz)))
        have hz2w := HR2'.out.2.size
        clear hb2 HRw
        go_wp2_with (at_builtin; refine wpList_append_own_at _ rfl _ _ 22 rfl w.heap.size 2 i0 (.int .i64 0) 1 8 Try.underlying22 hi hz0 hz1 hz2 rfl (by decide) _ _ _ rfl (World.ownsRow.alloc (HR2'.out.1) _) ⟨w2.heap.size, 0, none⟩ 1 1 [.int .i64 k] rfl rfl (cell_one_new _ _ _) (by intro u hu; simp at hu; subst hu; rfl) (by unfold maxLen; omega) (by omega) (by first | (simp; done) | (simp; omega)) ?_; intro v1 w1 hown1 hgrow1 hnil1 hat1)
        obtain ⟨g1, cap1, rfl, hr1, hg1, hgr⟩ := Rw.app HR2'.out.1 hown1 hgrow1 hat1
        have HR2 : Hid (Rw w.heap.size g1 (L + 1) cap1 (saD n size rank (k + 1)).1 w1 ∧ Below w.heap.size w w1) := by
          unfold Hid
          rw [HE2.out]
          exact ⟨hr1, HR2'.out.2.grown hgr hz2w (fun q e => by cases e; exact hgl)⟩
        have HE3 : Hid ((saD n size rank (k + 1)).2 = r) := by unfold Hid; rw [HE2.out]
        have hLp : L + 1 + p = size := by omega
        clear hown1 hgrow1 hnil1 hat1 hr1 hg1 hgr HR2'
        go_roundw
        case rel => exact ⟨k + 1, r, L + 1, g1, cap1, p, by omega, hLp, by go_num, rfl, by first | rfl | go_num, by first | rfl | go_num, hr, HE3, HR2⟩
        case measure => first | (simp [intOf]; done) | (simp [intOf]; omega)
      · have HE2 : Hid (saD n size rank (k + 1) = ((saD n size rank k).1, r - wayS q m)) := by
          unfold Hid
          rw [saD_skip (by rw [HE.out, hmm, hq]; exact ht), HE.out, hmm, hq]
        obtain ⟨s, hs2⟩ : ∃ s, wayS q m = s := ⟨_, rfl⟩
        rw [hs2] at HW hs ht HE2
        obtain ⟨r2, hr2⟩ : ∃ r2, r - s = r2 := ⟨_, rfl⟩
        have hr3 : (r : Int) - (s : Int) = (r2 : Int) := by omega
        rw [hr2] at HE2
        have hr4 : r2 ≤ 1152921504606846976 := by omega
        have HE3 : Hid ((saD n size rank (k + 1)).2 = r2) := by unfold Hid; rw [HE2.out]
        obtain ⟨W0, hW0⟩ : ∃ W0, W0 = wr := ⟨_, rfl⟩
        rw [← hW0] at HRw hzz ⊢
        clear hq hp hlen hs2 hr2 hroom hmm hW0
        go_wp2_with fail
        refine (HW.out _).mono ?_
        rintro e w2 ⟨rfl, hb2⟩
        have HR2 : Hid (Rw w.heap.size g L cap (saD n size rank (k + 1)).1 w2 ∧ Below w.heap.size w w2) := by
          unfold Hid
          rw [HE2.out]
          exact ⟨HRw.out.1.far hb2, HRw.out.2.trans (hb2.mono hzz)⟩
        clear hb2 HRw
        go_wp2
        go_roundw
        case rel => exact ⟨k + 1, r2, L, g, cap, m, by omega, hL, by go_num, rfl, rfl, rfl, hr4, HE3, HR2⟩
        case measure => first | (simp [intOf]; done) | (simp [intOf]; omega)
    · have hm1 : ¬ (0 : Int) < (m : Int) := by omega
      have hst := saD_stop (n := n) (size := size) (rank := rank) (k := k) (by omega) (n - k)
      rw [show k + (n - k) = n by omega] at hst
      have HF := Lib.hid hst
      clear hst hlen
      go_wp2
      go_ret2
      rw [HF.out]
      exact ⟨_, rfl, HRw.out.1.sl, HRw.out.2⟩
theorem specSetAt_no (n size rank : Int) (w : World) (h : ¬ SaP n size rank) :
    Calls Try.prog 17 #[.int .i64 n, .int .i64 size, .int .i64 rank] w (ListRet w [] false) := by
  by_cases h1 : 1 ≤ n ∧ n ≤ 60
  · have HL : Hid (∀ W : World, Calls Try.prog 30 #[.int .i64 n] W fun e w' => e = .returned (.bool true) ∧ W = w') := fun W => below_b n true W (decide_eq_true h1)
    by_cases h2 : 0 ≤ size ∧ size ≤ n
    · obtain ⟨N, rfl⟩ := Int.eq_ofNat_of_zero_le (show 0 ≤ n by omega)
      obtain ⟨S, rfl⟩ := Int.eq_ofNat_of_zero_le h2.1
      have HI1 : Hid (∀ W : World, Calls Try.prog 21 #[.int .i64 S, .int .i64 0, .int .i64 N] W fun e w' => e = .returned (.bool true) ∧ W = w') := fun W => l00In_yes _ _ _ _ (by omega) (by omega)
      have HB : Hid (∀ W : World, Calls Try.prog 32 #[.int .i64 N, .int .i64 S] W fun e w' => e = .returned (.int .i64 (Choose.ch N S : Nat)) ∧ Below W.heap.size W w') := fun W => choose_any N S W (by omega) (by omega)
      have hc := ch_small S (show N ≤ 60 by omega)
      have hr : ¬ (0 ≤ rank ∧ rank ≤ (Choose.ch N S : Int) - 1) := fun y => h ⟨h1, h2, y.1, by simp only [Int.toNat_natCast]; omega⟩
      obtain ⟨C, hC⟩ : ∃ C, Choose.ch N S = C := ⟨_, rfl⟩
      rw [hC] at HB hc hr
      have HI2 : Hid (∀ W : World, Calls Try.prog 21 #[.int .i64 rank, .int .i64 0, .int .i64 ((C : Int) - 1)] W fun e w' => e = .returned (.bool false) ∧ W = w') := fun W => l00In_no _ _ _ _ hr
      clear h h2 hr hC h1
      go_enter Try.func17, Try.ntmps17
      go_wp2_with (first | (go_at_call 30; with_reducible refine (HL.out _).mono ?_; rintro e w1 ⟨rfl, rfl⟩) | (go_at_call 21; with_reducible refine (HI1.out _).mono ?_; rintro e w1 ⟨rfl, rfl⟩) | (go_at_call 21; with_reducible refine (HI2.out _).mono ?_; rintro e w1 ⟨rfl, rfl⟩) | (go_at_call 32; with_reducible refine (HB.out _).mono ?_; rintro e w1 ⟨rfl, hb⟩))
      go_ret2
      exact ⟨_, rfl, .inl ⟨rfl, rfl⟩, hb⟩
    · have HI1 : Hid (∀ W : World, Calls Try.prog 21 #[.int .i64 size, .int .i64 0, .int .i64 n] W fun e w' => e = .returned (.bool false) ∧ W = w') := fun W => l00In_no _ _ _ _ h2
      clear h h2 h1
      go_enter Try.func17, Try.ntmps17
      go_wp2_with (first | (go_at_call 30; with_reducible refine (HL.out _).mono ?_; rintro e w1 ⟨rfl, rfl⟩) | (go_at_call 21; with_reducible refine (HI1.out _).mono ?_; rintro e w1 ⟨rfl, rfl⟩))
      go_ret2
      exact ⟨_, rfl, .inl ⟨rfl, rfl⟩, Below.refl _ _⟩
  · have HL : Hid (∀ W : World, Calls Try.prog 30 #[.int .i64 n] W fun e w' => e = .returned (.bool false) ∧ W = w') := fun W => below_b n false W (decide_eq_false h1)
    clear h h1
    go_enter Try.func17, Try.ntmps17
    go_wp2_with (go_at_call 30; with_reducible refine (HL.out _).mono ?_; rintro e w1 ⟨rfl, rfl⟩)
    go_ret2
    exact ⟨_, rfl, .inl ⟨rfl, rfl⟩, Below.refl _ _⟩
theorem lawSetAt (n size rank : Int) (w : World) :
    Calls Try.prog 6 #[.int .i64 n, .int .i64 size, .int .i64 rank] w fun e w' => e = .returned (.bool true) ∧ Below w.heap.size w w' := by
  by_cases h : SaP n size rank
  · obtain ⟨h1, h2, h3, h4⟩ := h
    obtain ⟨N, rfl⟩ := Int.eq_ofNat_of_zero_le (show 0 ≤ n by omega)
    obtain ⟨S, rfl⟩ := Int.eq_ofNat_of_zero_le h2.1
    obtain ⟨R, rfl⟩ := Int.eq_ofNat_of_zero_le h3
    simp only [Int.toNat_natCast] at h4
    have hl : (saD N S R N).1.length ≤ 400 := by have := (saD_in (n := N) (size := S) (rank := R) (by omega) N (Nat.le_refl _)).1; omega
    exact lawSetAt_core N S R (saD N S R N).1 true w hl (fun W => specSetAt_yes N S R W (by omega) (by omega) (by omega) (by omega)) (fun W => setAt_yes N S R W (by omega) (by omega) (by omega) (by omega))
  · exact lawSetAt_core n size rank [] false w (by simp) (fun W => specSetAt_no n size rank W h) (fun W => setAt_no n size rank W h)
end Go.Proofs.Ytjbojamhnapkpac
