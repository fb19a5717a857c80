/- How many orders have some cycles, some rising sequences: the laws. -/
import Derived.Test.YtjbojamhnapkpabS7K
import Derived.Test.YtjbojamhnapkpabS7Q
import Derived.Test.YtjbojamhnapkpabL7
namespace Go.Proofs.Ytjbojamhnapkpab
open Go.RowKit Go.PlainAid
set_option maxHeartbeats 800000

theorem many_b (n : Int) (b : Bool) (w : World) (h : decide (1 ≤ n ∧ n ≤ 12) = b) :
    Calls Try.prog 67 #[.int .i64 n] w fun e w' => e = .returned (.bool b) ∧ w = w' := by
  have HI : Hid (∀ W : World, Calls Try.prog 56 #[.int .i64 n, .int .i64 1, .int .i64 12] W fun e w' => e = .returned (.bool b) ∧ W = w') := fun W => l00In_b _ _ _ _ h W
  clear h
  go_enter Try.func67, Try.ntmps67
  go_wp2_with fail
  refine (HI.out _).mono ?_
  rintro e w1 ⟨rfl, rfl⟩
  go_wp2
  go_ret
  exact ⟨rfl, rfl⟩
theorem index_agg (l : List Int) {c : Nat} (hc : c < 13) (W : World) : (Instr.index 73 (aggOf l) (.int .i64 (c : Int))).run Try.prog W = .ok (.int .i64 (l.getD c 0)) W := by
  rcases lt13 hc with rfl | rfl | rfl | rfl | rfl | rfl | rfl | rfl | rfl | rfl | rfl | rfl | rfl <;> simp [go_sem, aggOf, Instr.index]
theorem countCycles_yes (n c : Nat) (w : World) (h1 : 1 ≤ n) (h2 : n ≤ 12) (hc : c ≤ 12) :
    Calls Try.prog 37 #[.int .i64 n, .int .i64 c] w fun e w' => e = .returned (.tuple #[.int .i64 ((cnRow kpC n).getD c 0), .bool true]) ∧ Below w.heap.size w w' := by
  have HI : Hid (∀ W : World, Calls Try.prog 63 #[.int .i64 n, .int .i64 1, .int .i64 12] W fun e w' => e = .returned (.bool true) ∧ W = w') := fun W => btw64_yes _ _ _ W (by omega) (by omega)
  have HJ : Hid (∀ W : World, Calls Try.prog 63 #[.int .i64 c, .int .i64 0, .int .i64 12] W fun e w' => e = .returned (.bool true) ∧ W = w') := fun W => btw64_yes _ _ _ W (by omega) (by omega)
  have HC := Lib.hid (byCycles_any n · h2)
  have hx := index_agg (cnRow kpC n) (show c < 13 by omega)
  generalize (cnRow kpC n).getD c 0 = r at hx ⊢
  generalize aggOf (cnRow kpC n) = v at hx HC
  clear h1 h2 hc
  go_enter Try.func37, Try.ntmps37
  go_wp2_with (go_at_call 63; first | (with_reducible refine (HI.out _).mono ?_; rintro e w1 ⟨rfl, rfl⟩) | (with_reducible refine (HJ.out _).mono ?_; rintro e w1 ⟨rfl, rfl⟩))
  refine (HC.out _).mono ?_
  rintro e w1 ⟨rfl, hb⟩
  have HB := Lib.hid hb
  clear hb HC
  go_wp2
  go_ret2
  exact ⟨rfl, HB.out⟩
theorem countCycles_no (n c : Int) (w : World) (h : ¬ ((1 ≤ n ∧ n ≤ 12) ∧ 0 ≤ c ∧ c ≤ 12)) :
    Calls Try.prog 37 #[.int .i64 n, .int .i64 c] w fun e w' => e = .returned (.tuple #[.int .i64 0, .bool false]) ∧ Below w.heap.size w w' := by
  by_cases h1 : 1 ≤ n ∧ n ≤ 12
  · have HI : Hid (∀ W : World, Calls Try.prog 63 #[.int .i64 n, .int .i64 1, .int .i64 12] W fun e w' => e = .returned (.bool true) ∧ W = w') := fun W => btw64_yes _ _ _ W h1.1 h1.2
    have HJ : Hid (∀ W : World, Calls Try.prog 63 #[.int .i64 c, .int .i64 0, .int .i64 12] W fun e w' => e = .returned (.bool false) ∧ W = w') := fun W => btw64_no _ _ _ W (fun y => h ⟨h1, y⟩)
    clear h1 h
    go_enter Try.func37, Try.ntmps37
    go_wp2_with (go_at_call 63; first | (with_reducible refine (HI.out _).mono ?_; rintro e w1 ⟨rfl, rfl⟩) | (with_reducible refine (HJ.out _).mono ?_; rintro e w1 ⟨rfl, rfl⟩))
    go_ret2
    exact ⟨rfl, Below.refl _ _⟩
  · have HI : Hid (∀ W : World, Calls Try.prog 63 #[.int .i64 n, .int .i64 1, .int .i64 12] W fun e w' => e = .returned (.bool false) ∧ W = w') := fun W => btw64_no _ _ _ W h1
    clear h1 h
    go_enter Try.func37, Try.ntmps37
    go_wp2_with (go_at_call 63; with_reducible refine (HI.out _).mono ?_; rintro e w1 ⟨rfl, rfl⟩)
    go_ret2
    exact ⟨rfl, Below.refl _ _⟩
theorem specCountCycles_no (n c : Int) (w : World) (h : ¬ ((1 ≤ n ∧ n ≤ 12) ∧ 0 ≤ c ∧ c ≤ 12)) :
    Calls Try.prog 36 #[.int .i64 n, .int .i64 c] w fun e w' => e = .returned (.tuple #[.int .i64 0, .bool false]) ∧ Below w.heap.size w w' := by
  by_cases h1 : 1 ≤ n ∧ n ≤ 12
  · have HI : Hid (∀ W : World, Calls Try.prog 67 #[.int .i64 n] W fun e w' => e = .returned (.bool true) ∧ W = w') := fun W => many_b n true W (decide_eq_true h1)
    have HJ : Hid (∀ W : World, Calls Try.prog 56 #[.int .i64 c, .int .i64 0, .int .i64 12] W fun e w' => e = .returned (.bool false) ∧ W = w') := fun W => l00In_no _ _ _ W (fun y => h ⟨h1, y⟩)
    clear h1 h
    go_enter Try.func36, Try.ntmps36
    go_wp2_with (first | (go_at_call 67; with_reducible refine (HI.out _).mono ?_; rintro e w1 ⟨rfl, rfl⟩) | (go_at_call 56; with_reducible refine (HJ.out _).mono ?_; rintro e w1 ⟨rfl, rfl⟩))
    go_ret2
    exact ⟨rfl, Below.refl _ _⟩
  · have HI : Hid (∀ W : World, Calls Try.prog 67 #[.int .i64 n] W fun e w' => e = .returned (.bool false) ∧ W = w') := fun W => many_b n false W (decide_eq_false h1)
    clear h1 h
    go_enter Try.func36, Try.ntmps36
    go_wp2_with (go_at_call 67; with_reducible refine (HI.out _).mono ?_; rintro e w1 ⟨rfl, rfl⟩)
    go_ret2
    exact ⟨rfl, Below.refl _ _⟩
theorem countRising_yes (n c : Nat) (w : World) (h1 : 1 ≤ n) (h2 : n ≤ 12) (hc : c ≤ 12) :
    Calls Try.prog 41 #[.int .i64 n, .int .i64 c] w fun e w' => e = .returned (.tuple #[.int .i64 ((cnRow kpR n).getD c 0), .bool true]) ∧ Below w.heap.size w w' := by
  have HI : Hid (∀ W : World, Calls Try.prog 63 #[.int .i64 n, .int .i64 1, .int .i64 12] W fun e w' => e = .returned (.bool true) ∧ W = w') := fun W => btw64_yes _ _ _ W (by omega) (by omega)
  have HJ : Hid (∀ W : World, Calls Try.prog 63 #[.int .i64 c, .int .i64 0, .int .i64 12] W fun e w' => e = .returned (.bool true) ∧ W = w') := fun W => btw64_yes _ _ _ W (by omega) (by omega)
  have HC := Lib.hid (byRising_any n · h2)
  have hx := index_agg (cnRow kpR n) (show c < 13 by omega)
  generalize (cnRow kpR n).getD c 0 = r at hx ⊢
  generalize aggOf (cnRow kpR n) = v at hx HC
  clear h1 h2 hc
  go_enter Try.func41, Try.ntmps41
  go_wp2_with (go_at_call 63; first | (with_reducible refine (HI.out _).mono ?_; rintro e w1 ⟨rfl, rfl⟩) | (with_reducible refine (HJ.out _).mono ?_; rintro e w1 ⟨rfl, rfl⟩))
  refine (HC.out _).mono ?_
  rintro e w1 ⟨rfl, hb⟩
  have HB := Lib.hid hb
  clear hb HC
  go_wp2
  go_ret2
  exact ⟨rfl, HB.out⟩
theorem countRising_no (n c : Int) (w : World) (h : ¬ ((1 ≤ n ∧ n ≤ 12) ∧ 0 ≤ c ∧ c ≤ 12)) :
    Calls Try.prog 41 #[.int .i64 n, .int .i64 c] w fun e w' => e = .returned (.tuple #[.int .i64 0, .bool false]) ∧ Below w.heap.size w w' := by
  by_cases h1 : 1 ≤ n ∧ n ≤ 12
  · have HI : Hid (∀ W : World, Calls Try.prog 63 #[.int .i64 n, .int .i64 1, .int .i64 12] W fun e w' => e = .returned (.bool true) ∧ W = w') := fun W => btw64_yes _ _ _ W h1.1 h1.2
    have HJ : Hid (∀ W : World, Calls Try.prog 63 #[.int .i64 c, .int .i64 0, .int .i64 12] W fun e w' => e = .returned (.bool false) ∧ W = w') := fun W => btw64_no _ _ _ W (fun y => h ⟨h1, y⟩)
    clear h1 h
    go_enter Try.func41, Try.ntmps41
    go_wp2_with (go_at_call 63; first | (with_reducible refine (HI.out _).mono ?_; rintro e w1 ⟨rfl, rfl⟩) | (with_reducible refine (HJ.out _).mono ?_; rintro e w1 ⟨rfl, rfl⟩))
    go_ret2
    exact ⟨rfl, Below.refl _ _⟩
  · have HI : Hid (∀ W : World, Calls Try.prog 63 #[.int .i64 n, .int .i64 1, .int .i64 12] W fun e w' => e = .returned (.bool false) ∧ W = w') := fun W => btw64_no _ _ _ W h1
    clear h1 h
    go_enter Try.func41, Try.ntmps41
    go_wp2_with (go_at_call 63; with_reducible refine (HI.out _).mono ?_; rintro e w1 ⟨rfl, rfl⟩)
    go_ret2
    exact ⟨rfl, Below.refl _ _⟩
theorem specCountRising_no (n c : Int) (w : World) (h : ¬ ((1 ≤ n ∧ n ≤ 12) ∧ 0 ≤ c ∧ c ≤ 12)) :
    Calls Try.prog 40 #[.int .i64 n, .int .i64 c] w fun e w' => e = .returned (.tuple #[.int .i64 0, .bool false]) ∧ Below w.heap.size w w' := by
  by_cases h1 : 1 ≤ n ∧ n ≤ 12
  · have HI : Hid (∀ W : World, Calls Try.prog 67 #[.int .i64 n] W fun e w' => e = .returned (.bool true) ∧ W = w') := fun W => many_b n true W (decide_eq_true h1)
    have HJ : Hid (∀ W : World, Calls Try.prog 56 #[.int .i64 c, .int .i64 0, .int .i64 12] W fun e w' => e = .returned (.bool false) ∧ W = w') := fun W => l00In_no _ _ _ W (fun y => h ⟨h1, y⟩)
    clear h1 h
    go_enter Try.func40, Try.ntmps40
    go_wp2_with (first | (go_at_call 67; with_reducible refine (HI.out _).mono ?_; rintro e w1 ⟨rfl, rfl⟩) | (go_at_call 56; with_reducible refine (HJ.out _).mono ?_; rintro e w1 ⟨rfl, rfl⟩))
    go_ret2
    exact ⟨rfl, Below.refl _ _⟩
  · have HI : Hid (∀ W : World, Calls Try.prog 67 #[.int .i64 n] W fun e w' => e = .returned (.bool false) ∧ W = w') := fun W => many_b n false W (decide_eq_false h1)
    clear h1 h
    go_enter Try.func40, Try.ntmps40
    go_wp2_with (go_at_call 67; with_reducible refine (HI.out _).mono ?_; rintro e w1 ⟨rfl, rfl⟩)
    go_ret2
    exact ⟨rfl, Below.refl _ _⟩
theorem Rw.one (w : World) (x : Int) : Rw w.heap.size w.heap.size 1 1 [x] (w.alloc (.cells #[.int .i64 x] 2)) :=
  ⟨by simp, .inr ⟨w.heap.size, 1, #[.int .i64 x], rfl, Nat.le_refl _, heap_alloc_new w _, Nat.le_refl _, by simp [maxLen], by simp, by simp⟩⟩
theorem Rw.two (w : World) (x y : Int) : Rw w.heap.size w.heap.size 2 2 [x, y] (w.alloc (.cells #[.int .i64 x, .int .i64 y] 2)) :=
  ⟨by simp, .inr ⟨w.heap.size, 2, #[.int .i64 x, .int .i64 y], rfl, Nat.le_refl _, heap_alloc_new w _, Nat.le_refl _, by simp [maxLen], by simp, by simp⟩⟩
/-- a row and the next one on its way -/
def Rows2 (B gr cr gn n1 n2 : Nat) (l l2 : List Int) (w W : World) : Prop := Rw B gr n1 cr l W ∧ Rw B gn n2 n2 l2 W ∧ gn ≠ gr ∧ Below B w W
theorem Rows2.far {B gr cr gn n1 n2 : Nat} {l l2 : List Int} {w W W' : World} (h : Rows2 B gr cr gn n1 n2 l l2 w W) (hb : Below W.heap.size W W') (hB : B ≤ W.heap.size) : Rows2 B gr cr gn n1 n2 l l2 w W' :=
  ⟨h.1.far hb, h.2.1.far hb, h.2.2.1, h.2.2.2.trans (hb.mono hB)⟩
theorem Rows2.set {B gr cr gn n1 n2 : Nat} {l l2 : List Int} {w W : World} (h : Rows2 B gr cr gn n1 n2 l l2 w W) (i : Nat) (v : Int) : Rows2 B gr cr gn n1 n2 l (l2.set i v) w (W.setCell ⟨gn, i, none⟩ (.int .i64 v)) :=
  ⟨h.1.grown (grow_set (World.grownBy.refl _ _) _ _) (fun e => by cases e; exact h.2.2.1 rfl), h.2.1.set i v, h.2.2.1, h.2.2.2.setCell (p := ⟨gn, i, none⟩) h.2.1.le _⟩
theorem mdB_in {kp : Nat → Nat → Int} (hO : KpOk kp) {t k : Nat} (ht : t < 12) (hk : k ≤ t) : 0 ≤ mdB kp t k ∧ mdB kp t k ≤ 5748019200 := by
  unfold mdB
  split
  · obtain ⟨q1, q2⟩ := hO.k2 t (k - 1) ht (by omega)
    obtain ⟨s1, s2, _⟩ := hO.row t (by omega) (k - 1) (by omega)
    exact mul_in q1 q2 s1 s2
  · omega
set_option maxRecDepth 10000 in
theorem specCountCycles_yes (n c : Nat) (w : World) (h1 : 1 ≤ n) (h2 : n ≤ 12) (hc : c ≤ 12) :
    Calls Try.prog 36 #[.int .i64 n, .int .i64 c] w fun e w' => e = .returned (.tuple #[.int .i64 ((cnRow kpC n).getD c 0), .bool true]) ∧ Below w.heap.size w w' := by
  obtain ⟨i0, hi, hz0, hz1, hz2⟩ := info_parts Try.info2
  obtain ⟨V, hV⟩ : ∃ V, (cnRow kpC n).getD c 0 = V := ⟨_, rfl⟩
  rw [hV]
  have HVV := Lib.hid hV
  clear hV
  have HI : Hid (∀ W : World, Calls Try.prog 67 #[.int .i64 n] W fun e w' => e = .returned (.bool true) ∧ W = w') := fun W => many_b n true W (decide_eq_true (by omega))
  have HJ : Hid (∀ W : World, Calls Try.prog 56 #[.int .i64 c, .int .i64 0, .int .i64 12] W fun e w' => e = .returned (.bool true) ∧ W = w') := fun W => l00In_yes _ _ _ W (by omega) (by omega)
  have HO : Hid (KpOk kpC) := kpC_ok
  have HR0 : Hid (Rw w.heap.size w.heap.size 1 1 (rowT kpC 0) (w.alloc (.cells #[.int .i64 1] 2)) ∧ Below w.heap.size w (w.alloc (.cells #[.int .i64 1] 2))) := ⟨Rw.one w 1, (Below.refl _ _).alloc (Nat.le_refl _) _⟩
  go_enter Try.func36, Try.ntmps36
  go_wp2_with (first | (go_at_call 67; with_reducible refine (HI.out _).mono ?_; rintro e w1 ⟨rfl, rfl⟩) | (go_at_call 56; with_reducible refine (HJ.out _).mono ?_; rintro e w1 ⟨rfl, rfl⟩))
  go_loopw [6, 7, 8, 9] (fun rv iv _ _ wr => ∃ t gr cr : Nat, t ≤ n ∧ iv = .int .i64 t ∧ rv = .slice (some ⟨gr, 0, none⟩) (t + 1) cr ∧ Hid (Rw w.heap.size gr (t + 1) cr (rowT kpC t) wr ∧ Below w.heap.size w wr)) (fun _ iv _ _ _ => n - (intOf iv).toNat)
  case atStart => exact ⟨0, _, _, Nat.zero_le _, rfl, rfl, HR0⟩
  case round =>
    obtain ⟨t, gr, cr, ht, rfl, rfl, HR⟩ := hrel
    clear HR0
    by_cases hlt : t < n
    · have hzz := HR.out.2.size
      have hgl := HR.out.1.lt
      obtain ⟨n1, hn1⟩ : ∃ n1, t + 1 = n1 := ⟨_, rfl⟩
      obtain ⟨n2, hn2⟩ : ∃ n2, t + 2 = n2 := ⟨_, rfl⟩
      have hm1 : (n1 : Int) + 1 = (n2 : Int) := by omega
      rw [hn1] at HR ⊢
      have e1 : t + 1 ≤ n1 := by omega
      have e2 : n1 ≤ t + 1 := by omega
      have e3 : t + 2 ≤ n2 := by omega
      have e4 : n2 ≤ t + 2 := by omega
      have HN1 := Lib.hid hn1
      have HN2 := Lib.hid hn2
      clear hn1 hn2
      go_wp2_with (at_make; refine wpList_make_full _ rfl _ _ 22 rfl w.heap.size 2 i0 _ 1 Try.underlying22 hi hz0 hz1 _ _ _ _ n2 rfl rfl rfl rfl (by rw [hz2]; omega) (by unfold maxLen; omega) hzz ?_; intro w3 hown hgrow)
      obtain ⟨gn, hgn⟩ : ∃ gn, wr.heap.size = gn := ⟨_, rfl⟩
      rw [hgn] at hown ⊢
      have HQ0 : Hid (Rows2 w.heap.size gr cr gn n1 n2 (rowT kpC t) (mdD kpC t 0) w w3) := by
        refine ⟨HR.out.1.grown hgrow (by simp), ?_, by omega, HR.out.2.grown hgrow hzz (by simp)⟩
        rw [mdD_zero, HN2.out]
        exact Rw.made hown
      clear hown hgrow HR hgn hgl hzz
      go_loopw [9] (fun kv wr => ∃ k : Nat, k ≤ n1 ∧ kv = .int .i64 k ∧ Hid (Rows2 w.heap.size gr cr gn n1 n2 (rowT kpC t) (mdD kpC t k) w wr)) (fun kv _ => n1 - (intOf kv).toNat)
      case atStart => exact ⟨0, Nat.zero_le _, rfl, HQ0⟩
      case round =>
        obtain ⟨k, hk, rfl, HQ⟩ := hrel
        clear HQ0
        by_cases hlt2 : k < n1
        · obtain ⟨b1, b2⟩ := mdB_in HO.out (t := t) (k := k) (by omega) (by omega)
          obtain ⟨r1, r2, _⟩ := HO.out.row t (by omega) k (by omega)
          obtain ⟨m1, m2⟩ := mdD_at (kp := kpC) (t := t) (k := k) (by omega)
          have g1 := rowT_get (kp := kpC) (t := t) (j := k) (by omega)
          have hst := mdD_step (kp := kpC) (t := t) (k := k)
          have c1 := HQ.out.1.cell (i := k) (by omega)
          have c2 := HQ.out.2.1.cell (i := k) (by omega)
          have f2 := HQ.out.2.1.frz k
          have hK : kpC (t + 1) k = (t : Int) := by unfold kpC; omega
          obtain ⟨R, hR⟩ : ∃ R, (cnRow kpC t).getD k 0 = R := ⟨_, rfl⟩
          have HRR : Hid ((rowT kpC t).getD k 0 = R) := g1.trans hR
          rw [g1, hR] at c1
          rw [m1] at c2
          rw [hR] at r1 r2
          rw [hK, hR, show (t : Int) + 1 - t = 1 by omega, Int.one_mul] at hst
          generalize mdB kpC t k = B at b1 b2 c2 hst
          obtain ⟨x1, x2⟩ := mul_in (a := (t : Int)) (by omega) (by omega) r1 r2
          obtain ⟨X, hX⟩ : ∃ X, (t : Int) * R = X := ⟨_, rfl⟩
          rw [hX] at x1 x2 hst
          have u1 : IntKind.i64.wrap ((t : Int) * R) = X := by rw [hX]; exact IntWalk.i64_in _ (by omega)
          have u2 : IntKind.i64.wrap (B + X) = B + X := IntWalk.i64_in _ (by omega)
          have u3 : IntKind.i64.wrap (0 + R) = R := by rw [Int.zero_add]; exact IntWalk.i64_in _ (by omega)
          have u5 : IntKind.i64.wrap R = R := IntWalk.i64_in _ (by omega)
          have u4 : IntKind.i64.wrap ((k : Int) + 1) = (k : Int) + 1 := IntWalk.i64_in _ (by omega)
          have HST := Lib.hid hst
          have HM2 := Lib.hid m2
          have hk2 : k < n2 := by omega
          have hk3 : k + 1 < n2 := by omega
          have hk4 : (k : Int) + 1 < (n2 : Int) := by omega
          have hk5 : (0 : Int) ≤ (k : Int) + 1 := by omega
          obtain ⟨W1, hW1⟩ : ∃ W1, W1 = wr := ⟨_, rfl⟩
          rw [← hW1] at HQ c1 c2 f2 ⊢
          clear hst hX m1 m2 g1 hK hW1 hR
          go_wp2
          have hmx : Try.prog.follows .mixedOrders = true := by kernel_rfl
          have k1 : ∀ q : GT W1, q.w.cell? ⟨gr, k, none⟩ = some (.int .i64 R) := gt_cell c1
          have k2 : ∀ q : GT W1, q.w.cell? ⟨gn, k, none⟩ = some (.int .i64 B) := gt_cell c2
          refine wp_region_quiet_tail (C := fun w' => ∃ q : GT W1, w' = q.w) 12 hmx (by kernel_rfl) ⟨⟨W1.drew, (Below.refl _ _).drew⟩, rfl⟩ ?_
          simp only [List.take_succ_cons, List.take_zero, List.drop_succ_cons, List.drop_zero]
          repeat (quiet_step (fail))
          refine wpQuiet_nil ?_
          rintro W2 ⟨⟨_, hW2⟩, rfl⟩
          have hB0 : w.heap.size ≤ W1.heap.size := HQ.out.2.2.2.size
          have HQ2 := Lib.hid (HQ.out.far hW2 hB0)
          have d2 := HQ2.out.2.1.cell (i := k) (by omega)
          have d3 := HQ2.out.2.1.frz k
          have HQ3 := Lib.hid (HQ2.out.set k (B + X))
          clear k1 k2 hW2 HQ c1 c2 f2 hB0
          go_wp2_with fail
          generalize W2.setCell ⟨gn, k, none⟩ (.int .i64 (B + X)) = W3 at HQ3 ⊢
          have c1 := HQ3.out.1.cell (i := k) (by omega)
          have c2 := HQ3.out.2.1.cell (i := k + 1) (by omega)
          have f2 := HQ3.out.2.1.frz (k + 1)
          rw [HRR.out] at c1
          rw [getD_set7 (by rw [mdD_length]; omega), if_neg (by omega), HM2.out] at c2
          have k1 : ∀ q : GT W3, q.w.cell? ⟨gr, k, none⟩ = some (.int .i64 R) := gt_cell c1
          have k2 : ∀ q : GT W3, q.w.cell? ⟨gn, k + 1, none⟩ = some (.int .i64 0) := gt_cell c2
          refine wp_region_quiet_tail (C := fun w' => ∃ q : GT W3, w' = q.w) 11 hmx (by kernel_rfl) ⟨⟨W3.drew, (Below.refl _ _).drew⟩, rfl⟩ ?_
          simp only [List.take_succ_cons, List.take_zero, List.drop_succ_cons, List.drop_zero]
          repeat (quiet_step (fail))
          refine wpQuiet_nil ?_
          rintro W4 ⟨⟨_, hW4⟩, rfl⟩
          have hB0 : w.heap.size ≤ W3.heap.size := HQ3.out.2.2.2.size
          have HQ4 := Lib.hid (HQ3.out.far hW4 hB0)
          have d2 := HQ4.out.2.1.cell (i := k + 1) (by omega)
          have d3 := HQ4.out.2.1.frz (k + 1)
          have HQ5 : Hid (Rows2 w.heap.size gr cr gn n1 n2 (rowT kpC t) (mdD kpC t (k + 1)) w (W4.setCell ⟨gn, k + 1, none⟩ (.int .i64 R))) := by
            have := HQ4.out.set (k + 1) R
            rwa [HST.out] at this
          clear k1 k2 hW4 HQ3 HQ4 c1 c2 f2 hB0 u1 u2 u3 u4 u5
          go_wp2
          go_roundw
          case rel => exact ⟨k + 1, by omega, by go_num, HQ5⟩
          case measure => simp [intOf]; omega
        · obtain rfl : k = n1 := by omega
          have HR2 : Hid (Rw w.heap.size gn (t + 1 + 1) n2 (rowT kpC (t + 1)) wr ∧ Below w.heap.size w wr) := by
            have h1 := HQ.out.2.1
            have h2 : mdD kpC t k = rowT kpC (t + 1) := by
              rw [← HN1.out]
              refine mdD_end (by omega) ?_ ((HO.out.row t (by omega) (t + 1) (by omega)).2.2 (by omega))
              have : kpC (t + 1) 0 = (t : Int) := by unfold kpC; omega
              rw [this]
              cases t with
              | zero => simp
              | succ t => rw [cnRow_succ (by omega), if_pos rfl, Int.mul_zero]
            rw [h2] at h1
            have h3 : n2 = t + 1 + 1 := by omega
            refine ⟨?_, HQ.out.2.2.2⟩
            rw [← h3]
            exact h1
          clear HQ
          go_wp2
          go_roundw
          case rel => exact ⟨t + 1, gn, n2, by omega, by go_num, by rw [show t + 1 + 1 = n2 by omega], HR2⟩
          case measure => simp [intOf]; omega
    · obtain rfl : t = n := by omega
      by_cases hct : c < t + 1
      · have hc2 := HR.out.1.cell hct
        rw [rowT_get hct] at hc2
        have hge : ¬ ((t : Int) + 1 ≤ (c : Int)) := by omega
        have hB := Lib.hid HR.out.2
        rw [HVV.out] at hc2
        clear HR
        go_wp2
        go_ret2
        exact ⟨rfl, hB.out⟩
      · have h0 := (HO.out.row t (by omega) c (by omega)).2.2 (by omega)
        have hge : ((t : Int) + 1 ≤ (c : Int)) := by omega
        rw [HVV.out] at h0
        subst h0
        have hB := Lib.hid HR.out.2
        clear HR
        go_wp2
        go_ret2
        exact ⟨rfl, hB.out⟩
set_option maxRecDepth 10000 in
theorem euler_any (n : Nat) (w : World) (h1 : 1 ≤ n) (h2 : n ≤ 12) :
    Calls Try.prog 74 #[.int .i64 n] w fun e w' => ∃ gr cr, e = .returned (.slice (some ⟨gr, 0, none⟩) (n + 1) cr) ∧ Rw w.heap.size gr (n + 1) cr (rowT kpR n) w' ∧ Below w.heap.size w w' := by
  obtain ⟨i0, hi, hz0, hz1, hz2⟩ := info_parts Try.info2
  have HO : Hid (KpOk kpR) := kpR_ok
  have HR0 : Hid (Rw w.heap.size w.heap.size 2 2 (rowT kpR 1) (w.alloc (.cells #[.int .i64 0, .int .i64 1] 2)) ∧ Below w.heap.size w (w.alloc (.cells #[.int .i64 0, .int .i64 1] 2))) := ⟨Rw.two w 0 1, (Below.refl _ _).alloc (Nat.le_refl _) _⟩
  go_enter Try.func74, Try.ntmps74
  go_wp2_with fail
  go_loopw [3, 4, 5, 6] (fun rv iv _ _ wr => ∃ t gr cr : Nat, t ≤ n ∧ 1 ≤ t ∧ iv = .int .i64 ((t : Int) + 1) ∧ rv = .slice (some ⟨gr, 0, none⟩) (t + 1) cr ∧ Hid (Rw w.heap.size gr (t + 1) cr (rowT kpR t) wr ∧ Below w.heap.size w wr)) (fun _ iv _ _ _ => n + 1 - (intOf iv).toNat)
  case atStart => exact ⟨1, _, _, h1, Nat.le_refl _, rfl, rfl, HR0⟩
  case round =>
    obtain ⟨t, gr, cr, ht, ht1, rfl, rfl, HR⟩ := hrel
    clear HR0
    by_cases hlt : t < n
    · have hzz := HR.out.2.size
      have hgl := HR.out.1.lt
      obtain ⟨n1, hn1⟩ : ∃ n1, t + 1 = n1 := ⟨_, rfl⟩
      obtain ⟨n2, hn2⟩ : ∃ n2, t + 2 = n2 := ⟨_, rfl⟩
      have hm1 : (n1 : Int) + 1 = (n2 : Int) := by omega
      rw [hn1] at HR ⊢
      have e1 : t + 1 ≤ n1 := by omega
      have e2 : n1 ≤ t + 1 := by omega
      have e3 : t + 2 ≤ n2 := by omega
      have e4 : n2 ≤ t + 2 := by omega
      have hle : (t : Int) + 1 ≤ (n : Int) := by omega
      have HN1 := Lib.hid hn1
      have HN2 := Lib.hid hn2
      clear hn1 hn2
      go_wp2_with (at_make; refine wpList_make_full _ rfl _ _ 22 rfl w.heap.size 2 i0 _ 1 Try.underlying22 hi hz0 hz1 _ _ _ _ n2 rfl rfl rfl rfl (by rw [hz2]; omega) (by unfold maxLen; omega) hzz ?_; intro w3 hown hgrow)
      obtain ⟨gn, hgn⟩ : ∃ gn, wr.heap.size = gn := ⟨_, rfl⟩
      rw [hgn] at hown ⊢
      have HQ0 : Hid (Rows2 w.heap.size gr cr gn n1 n2 (rowT kpR t) (mdD kpR t 1) w w3) := by
        refine ⟨HR.out.1.grown hgrow (by simp), ?_, by omega, HR.out.2.grown hgrow hzz (by simp)⟩
        rw [mdD_one (by obtain ⟨s, rfl⟩ : ∃ s, t = s + 1 := ⟨t - 1, by omega⟩; rw [cnRow_succ (by omega), if_pos rfl]), HN2.out]
        exact Rw.made hown
      clear hown hgrow HR hgn hgl hzz
      go_loopw [6] (fun kv wr => ∃ k : Nat, k ≤ n1 ∧ 1 ≤ k ∧ kv = .int .i64 k ∧ Hid (Rows2 w.heap.size gr cr gn n1 n2 (rowT kpR t) (mdD kpR t k) w wr)) (fun kv _ => n1 - (intOf kv).toNat)
      case atStart => exact ⟨1, by omega, Nat.le_refl _, rfl, HQ0⟩
      case round =>
        obtain ⟨k, hk, hk1, rfl, HQ⟩ := hrel
        clear HQ0
        by_cases hlt2 : k < n1
        · obtain ⟨b1, b2⟩ := mdB_in HO.out (t := t) (k := k) (by omega) (by omega)
          obtain ⟨r1, r2, _⟩ := HO.out.row t (by omega) k (by omega)
          obtain ⟨m1, m2⟩ := mdD_at (kp := kpR) (t := t) (k := k) (by omega)
          have g1 := rowT_get (kp := kpR) (t := t) (j := k) (by omega)
          have hst := mdD_step (kp := kpR) (t := t) (k := k)
          have c1 := HQ.out.1.cell (i := k) (by omega)
          have c2 := HQ.out.2.1.cell (i := k) (by omega)
          have f2 := HQ.out.2.1.frz k
          have hK : kpR (t + 1) k = (k : Int) := rfl
          obtain ⟨R, hR⟩ : ∃ R, (cnRow kpR t).getD k 0 = R := ⟨_, rfl⟩
          have HRR : Hid ((rowT kpR t).getD k 0 = R) := g1.trans hR
          rw [g1, hR] at c1
          rw [m1] at c2
          rw [hR] at r1 r2
          rw [hK, hR] at hst
          obtain ⟨S, hS⟩ : ∃ S, (t : Int) + 1 - (k : Int) = S := ⟨_, rfl⟩
          rw [hS] at hst
          obtain ⟨y1, y2⟩ := mul_in (a := S) (by omega) (by omega) r1 r2
          obtain ⟨Y, hY⟩ : ∃ Y, S * R = Y := ⟨_, rfl⟩
          rw [hY] at y1 y2 hst
          generalize mdB kpR t k = B at b1 b2 c2 hst
          obtain ⟨x1, x2⟩ := mul_in (a := (k : Int)) (by omega) (by omega) r1 r2
          obtain ⟨X, hX⟩ : ∃ X, (k : Int) * R = X := ⟨_, rfl⟩
          rw [hX] at x1 x2 hst
          have u1 : IntKind.i64.wrap ((k : Int) * R) = X := by rw [hX]; exact IntWalk.i64_in _ (by omega)
          have u2 : IntKind.i64.wrap (B + X) = B + X := IntWalk.i64_in _ (by omega)
          have u3 : IntKind.i64.wrap (S * R) = Y := by rw [hY]; exact IntWalk.i64_in _ (by omega)
          have u5 : IntKind.i64.wrap Y = Y := IntWalk.i64_in _ (by omega)
          have u6 : IntKind.i64.wrap ((t : Int) + 1 - (k : Int)) = S := by rw [hS]; exact IntWalk.i64_in _ (by omega)
          have u4 : IntKind.i64.wrap ((k : Int) + 1) = (k : Int) + 1 := IntWalk.i64_in _ (by omega)
          have HST := Lib.hid hst
          have HM2 := Lib.hid m2
          have hk2 : k < n2 := by omega
          have hk3 : k + 1 < n2 := by omega
          have hk4 : (k : Int) + 1 < (n2 : Int) := by omega
          have hk5 : (0 : Int) ≤ (k : Int) + 1 := by omega
          obtain ⟨W1, hW1⟩ : ∃ W1, W1 = wr := ⟨_, rfl⟩
          rw [← hW1] at HQ c1 c2 f2 ⊢
          clear hst hX m1 m2 g1 hK hW1 hR hY hS
          go_wp2
          have hmx : Try.prog.follows .mixedOrders = true := by kernel_rfl
          have k1 : ∀ q : GT W1, q.w.cell? ⟨gr, k, none⟩ = some (.int .i64 R) := gt_cell c1
          have k2 : ∀ q : GT W1, q.w.cell? ⟨gn, k, none⟩ = some (.int .i64 B) := gt_cell c2
          refine wp_region_quiet_tail (C := fun w' => ∃ q : GT W1, w' = q.w) 12 hmx (by kernel_rfl) ⟨⟨W1.drew, (Below.refl _ _).drew⟩, rfl⟩ ?_
          simp only [List.take_succ_cons, List.take_zero, List.drop_succ_cons, List.drop_zero]
          repeat (quiet_step (fail))
          refine wpQuiet_nil ?_
          rintro W2 ⟨⟨_, hW2⟩, rfl⟩
          have hB0 : w.heap.size ≤ W1.heap.size := HQ.out.2.2.2.size
          have HQ2 := Lib.hid (HQ.out.far hW2 hB0)
          have d2 := HQ2.out.2.1.cell (i := k) (by omega)
          have d3 := HQ2.out.2.1.frz k
          have HQ3 := Lib.hid (HQ2.out.set k (B + X))
          clear k1 k2 hW2 HQ c1 c2 f2 hB0
          go_wp2_with fail
          generalize W2.setCell ⟨gn, k, none⟩ (.int .i64 (B + X)) = W3 at HQ3 ⊢
          have c1 := HQ3.out.1.cell (i := k) (by omega)
          have c2 := HQ3.out.2.1.cell (i := k + 1) (by omega)
          have f2 := HQ3.out.2.1.frz (k + 1)
          rw [HRR.out] at c1
          rw [getD_set7 (by rw [mdD_length]; omega), if_neg (by omega), HM2.out] at c2
          have k1 : ∀ q : GT W3, q.w.cell? ⟨gr, k, none⟩ = some (.int .i64 R) := gt_cell c1
          have k2 : ∀ q : GT W3, q.w.cell? ⟨gn, k + 1, none⟩ = some (.int .i64 0) := gt_cell c2
          refine wp_region_quiet_tail (C := fun w' => ∃ q : GT W3, w' = q.w) 15 hmx (by kernel_rfl) ⟨⟨W3.drew, (Below.refl _ _).drew⟩, rfl⟩ ?_
          simp only [List.take_succ_cons, List.take_zero, List.drop_succ_cons, List.drop_zero]
          repeat (quiet_step (fail))
          refine wpQuiet_nil ?_
          rintro W4 ⟨⟨_, hW4⟩, rfl⟩
          have hB0 : w.heap.size ≤ W3.heap.size := HQ3.out.2.2.2.size
          have HQ4 := Lib.hid (HQ3.out.far hW4 hB0)
          have d2 := HQ4.out.2.1.cell (i := k + 1) (by omega)
          have d3 := HQ4.out.2.1.frz (k + 1)
          have HQ5 : Hid (Rows2 w.heap.size gr cr gn n1 n2 (rowT kpR t) (mdD kpR t (k + 1)) w (W4.setCell ⟨gn, k + 1, none⟩ (.int .i64 Y))) := by
            have := HQ4.out.set (k + 1) Y
            rwa [HST.out] at this
          clear k1 k2 hW4 HQ3 HQ4 c1 c2 f2 hB0 u1 u2 u3 u4 u5 u6
          go_wp2
          go_roundw
          case rel => exact ⟨k + 1, by omega, by omega, by go_num, HQ5⟩
          case measure => simp [intOf]; omega
        · obtain rfl : k = n1 := by omega
          have HR2 : Hid (Rw w.heap.size gn (t + 1 + 1) n2 (rowT kpR (t + 1)) wr ∧ Below w.heap.size w wr) := by
            have h1 := HQ.out.2.1
            have h2 : mdD kpR t k = rowT kpR (t + 1) := by
              rw [← HN1.out]
              refine mdD_end (by omega) ?_ ((HO.out.row t (by omega) (t + 1) (by omega)).2.2 (by omega))
              have : kpR (t + 1) 0 = 0 := rfl
              rw [this, Int.zero_mul]
            rw [h2] at h1
            have h3 : n2 = t + 1 + 1 := by omega
            refine ⟨?_, HQ.out.2.2.2⟩
            rw [← h3]
            exact h1
          clear HQ
          go_wp2
          go_roundw
          case rel => exact ⟨t + 1, gn, n2, by omega, by omega, by go_num, by rw [show t + 1 + 1 = n2 by omega], HR2⟩
          case measure => simp [intOf]; omega
    · obtain rfl : t = n := by omega
      have hge : ¬ ((t : Int) + 1 ≤ (t : Int)) := by omega
      go_wp2
      go_ret
      exact ⟨gr, cr, rfl, HR.out.1, HR.out.2⟩
theorem specCountRising_yes (n c : Nat) (w : World) (h1 : 1 ≤ n) (h2 : n ≤ 12) (hc : c ≤ 12) :
    Calls Try.prog 40 #[.int .i64 n, .int .i64 c] w fun e w' => e = .returned (.tuple #[.int .i64 ((cnRow kpR n).getD c 0), .bool true]) ∧ Below w.heap.size w w' := by
  obtain ⟨V, hV⟩ : ∃ V, (cnRow kpR n).getD c 0 = V := ⟨_, rfl⟩
  rw [hV]
  have HI : Hid (∀ W : World, Calls Try.prog 67 #[.int .i64 n] W fun e w' => e = .returned (.bool true) ∧ W = w') := fun W => many_b n true W (decide_eq_true (by omega))
  have HJ : Hid (∀ W : World, Calls Try.prog 56 #[.int .i64 c, .int .i64 0, .int .i64 12] W fun e w' => e = .returned (.bool true) ∧ W = w') := fun W => l00In_yes _ _ _ W (by omega) (by omega)
  have HE := Lib.hid (euler_any n · h1 h2)
  have HV : Hid (if c < n + 1 then (rowT kpR n).getD c 0 = V else V = 0) := by
    unfold Hid
    by_cases h : c < n + 1
    · rw [if_pos h, rowT_get h, hV]
    · rw [if_neg h, ← hV]
      exact (kpR_ok.row n (by omega) c (by omega)).2.2 (by omega)
  clear hV
  go_enter Try.func40, Try.ntmps40
  go_wp2_with (first | (go_at_call 67; with_reducible refine (HI.out _).mono ?_; rintro e w1 ⟨rfl, rfl⟩) | (go_at_call 56; with_reducible refine (HJ.out _).mono ?_; rintro e w1 ⟨rfl, rfl⟩))
  refine (HE.out _).mono ?_
  rintro e w1 ⟨gr, cr, rfl, hr, hb⟩
  have HB := Lib.hid hb
  have hV := HV.out
  by_cases hct : c < n + 1
  · have hc2 := hr.cell hct
    rw [if_pos hct] at hV
    rw [hV] at hc2
    have hge : ¬ ((n : Int) + 1 ≤ (c : Int)) := by omega
    clear hr hb hV HE
    go_wp2
    go_ret2
    exact ⟨rfl, HB.out⟩
  · rw [if_neg hct] at hV
    subst hV
    have hge : ((n : Int) + 1 ≤ (c : Int)) := by omega
    clear hr hb HE
    go_wp2
    go_ret2
    exact ⟨rfl, HB.out⟩
theorem lawCountCycles (n c : Int) (w : World) :
    Calls Try.prog 10 #[.int .i64 n, .int .i64 c] w fun e w' => e = .returned (.bool true) ∧ Below w.heap.size w w' := by
  by_cases h : (1 ≤ n ∧ n ≤ 12) ∧ 0 ≤ c ∧ c ≤ 12
  · obtain ⟨N, rfl⟩ := Int.eq_ofNat_of_zero_le (show 0 ≤ n by omega)
    obtain ⟨C, rfl⟩ := Int.eq_ofNat_of_zero_le h.2.1
    exact lawCountCycles_core N C _ true w (fun W => specCountCycles_yes N C W (by omega) (by omega) (by omega)) (fun W => countCycles_yes N C W (by omega) (by omega) (by omega))
  · exact lawCountCycles_core n c 0 false w (fun W => specCountCycles_no n c W h) (fun W => countCycles_no n c W h)
theorem lawCountRising (n c : Int) (w : World) :
    Calls Try.prog 12 #[.int .i64 n, .int .i64 c] w fun e w' => e = .returned (.bool true) ∧ Below w.heap.size w w' := by
  by_cases h : (1 ≤ n ∧ n ≤ 12) ∧ 0 ≤ c ∧ c ≤ 12
  · obtain ⟨N, rfl⟩ := Int.eq_ofNat_of_zero_le (show 0 ≤ n by omega)
    obtain ⟨C, rfl⟩ := Int.eq_ofNat_of_zero_le h.2.1
    exact lawCountRising_core N C _ true w (fun W => specCountRising_yes N C W (by omega) (by omega) (by omega)) (fun W => countRising_yes N C W (by omega) (by omega) (by omega))
  · exact lawCountRising_core n c 0 false w (fun W => specCountRising_no n c W h) (fun W => countRising_no n c W h)
end Go.Proofs.Ytjbojamhnapkpab
