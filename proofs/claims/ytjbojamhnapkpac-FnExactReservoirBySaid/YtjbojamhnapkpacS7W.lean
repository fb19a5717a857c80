/- Reservoirs: impl.ReservoirBy, spec.ReservoirBy, the law. -/
import Derived.Test.YtjbojamhnapkpacS7B
import Derived.Test.YtjbojamhnapkpacS7S
import Derived.Test.YtjbojamhnapkpacL7
namespace Go.Proofs.Ytjbojamhnapkpac
open Go.RowKit Go.PlainAid
set_option maxHeartbeats 800000

theorem rvD_yes {n k : Nat} {cs : List Int} {x : Int} (hx : cs.getD k 0 = x) (h : 0 ≤ x ∧ x ≤ (n : Int) + k) (h2 : x < n) : rvD n cs (k + 1) = ((rvD n cs k).1.set x.toNat ((n : Int) + k), (rvD n cs k).2) := by
  simp only [rvD]
  rw [hx, if_pos (by omega), if_pos h2]
  congr 3
theorem rvD_skip {n k : Nat} {cs : List Int} {x : Int} (hx : cs.getD k 0 = x) (h : 0 ≤ x ∧ x ≤ (n : Int) + k) (h2 : ¬ x < n) : rvD n cs (k + 1) = rvD n cs k := by
  simp only [rvD]
  rw [hx, if_pos (by omega), if_neg h2]
theorem rvD_no {n k : Nat} {cs : List Int} {x : Int} (hx : cs.getD k 0 = x) (h : ¬ (0 ≤ x ∧ x ≤ (n : Int) + k)) : rvD n cs (k + 1) = ((rvD n cs k).1.set 0 ((n : Int) + k), true) := by
  simp only [rvD]
  rw [hx, if_neg (by omega)]
  congr 3
/-- what a reservoir returns -/
def rvRes (n : Nat) (cs : List Int) : List Int × Bool := if ((1 ≤ n ∧ n ≤ 12) ∧ cs.length ≤ 12) ∧ (rvD n cs cs.length).2 = false then ((rvD n cs cs.length).1, true) else ([], false)
theorem rvRes_length (n : Nat) (cs : List Int) : (rvRes n cs).1.length ≤ 12 := by
  unfold rvRes
  split
  · rename_i h
    rw [rvD_length]
    omega
  · exact Nat.zero_le _
/-- a reader, a list that is kept, and no more -/
def Rv (B b g n top : Nat) (xs cs : List Int) (f : Bool) (w W : World) : Prop := CR b 0 top cs f W ∧ Rw B g n n xs W ∧ g ≠ b ∧ top ≤ B ∧ B ≤ b ∧ Below B w W
theorem Rv.set {B b g n top : Nat} {xs cs : List Int} {f : Bool} {w W : World} (h : Rv B b g n top xs cs f w W) (i : Nat) (v : Int) : Rv B b g n top (xs.set i v) cs f w (W.setCell ⟨g, i, none⟩ (.int .i64 v)) := by
  obtain ⟨h1, h2, h3, h4, h5, h6⟩ := h
  have hg := h2.le
  have G : W.grownBy (W.setCell ⟨g, i, none⟩ (.int .i64 v)) (some g) := grow_set (World.grownBy.refl _ _) _ _
  exact ⟨h1.grown G (by simpa using h3) (fun q e => by cases e; omega), h2.set i v, h3, h4, h5, h6.setCell (p := ⟨g, i, none⟩) hg _⟩
theorem Rv.took {B b g n top : Nat} {xs cs cs2 : List Int} {f f2 : Bool} {w W W2 : World} (h : Rv B b g n top xs cs f w W) (hc : CR b 0 top cs2 f2 W2) (hg : W.grownBy W2 (some b)) : Rv B b g n top xs cs2 f2 w W2 := by
  obtain ⟨h1, h2, h3, h4, h5, h6⟩ := h
  have hl := h1.lt
  exact ⟨hc, h2.grown hg (by simp; omega), h3, h4, h5, h6.grown hg (by omega) (fun q e => by cases e; exact h5)⟩
theorem many7_b (n : Int) (b : Bool) (w : World) (h : decide (1 ≤ n ∧ n ≤ 12) = b) :
    Calls Try.prog 19 #[.int .i64 n] w fun e w' => e = .returned (.bool b) ∧ w = w' := by
  have HI : Hid (∀ W : World, Calls Try.prog 21 #[.int .i64 n, .int .i64 1, .int .i64 12] W fun e w' => e = .returned (.bool b) ∧ W = w') := fun W => l00In_b _ _ _ _ h W
  clear h
  go_enter Try.func19, Try.ntmps19
  go_wp2_with fail
  refine (HI.out _).mono ?_
  rintro e w1 ⟨rfl, rfl⟩
  go_wp2
  go_ret
  exact ⟨rfl, rfl⟩
theorem reservoir_yes (n : Nat) (a : Option Addr) (m cap : Nat) (cs : List Int) (w : World) (h : RO w.heap.size w a cs) (hm : cs.length = m) (hc : m ≤ cap) (h1 : 1 ≤ n) (h2 : n ≤ 12) (h3 : m ≤ 12) :
    Calls Try.prog 9 #[.int .i64 n, .slice a m cap] w fun e w' => ∃ g, e = .returned (.tuple #[pickL (rvD n cs m).2 (.slice (some ⟨g, 0, none⟩) n n), .bool (!(rvD n cs m).2)]) ∧ Rw w.heap.size g n n (rvD n cs m).1 w' ∧ Below w.heap.size w w' := by
  have HM := Lib.hid hm
  have HR := Lib.hid h
  have HI : Hid (∀ W : World, Calls Try.prog 22 #[.int .i64 n, .int .i64 1, .int .i64 12] W fun e w' => e = .returned (.bool true) ∧ W = w') := fun W => btw64_yes _ _ _ W (by omega) (by omega)
  have HA : Hid (∀ W : World, Calls Try.prog 23 #[.int .i64 n] W fun e w' => e = .returned (.slice (some ⟨W.heap.size, 0, none⟩) n n) ∧ Rw W.heap.size W.heap.size n n (asc n) w' ∧ Below W.heap.size W w') := fun W => asc_any n W h2
  clear h hm
  go_enter Try.func9, Try.ntmps9
  go_wp2_with (first | (go_at_call 22; with_reducible refine (HI.out _).mono ?_; rintro e w1 ⟨rfl, rfl⟩) | (go_at_call 23; with_reducible refine (HA.out _).mono ?_; rintro e w1 ⟨rfl, hr, hb⟩))
  obtain ⟨b, hb0⟩ : ∃ b, w1.heap.size = b := ⟨_, rfl⟩
  have HV0 : Hid (Rv w.heap.size b w.heap.size n w.heap.size (rvD n cs 0).1 (cs.drop 0) (rvD n cs 0).2 w (w1.alloc (.cells #[.slice a m cap, .bool false] 36))) := by
    have hl := hr.lt
    have hz := hb.size
    refine ⟨⟨by omega, a, cap, ⟨?_, ?_⟩, ⟨?_, ?_⟩, HR.out.below (hb.alloc hb.size _), by rw [List.drop_zero, HM.out]; exact hc⟩, hr.far ((Below.refl _ _).alloc (Nat.le_refl _) _), by omega, Nat.le_refl _, by omega, hb.alloc hb.size _⟩
    · rw [List.drop_zero, HM.out, ← hb0]
      simp [go_sem]
    · rw [← hb0]
      simp [go_sem]
    · rw [← hb0]
      simp [go_sem, rvD]
    · rw [← hb0]
      simp [go_sem]
  rw [hb0]
  generalize w1.alloc (.cells #[.slice a m cap, .bool false] 36) = w2 at HV0 ⊢
  clear hr hb hb0 HA HI
  go_loopw [8, 9] (fun nv _ wr => ∃ k : Nat, k ≤ m ∧ nv = .int .i64 ((n : Int) + k) ∧ Hid (Rv w.heap.size b w.heap.size n w.heap.size (rvD n cs k).1 (cs.drop k) (rvD n cs k).2 w wr)) (fun nv _ _ => n + m - (intOf nv).toNat)
  case atStart => exact ⟨0, Nat.zero_le _, by first | rfl | simp, HV0⟩
  case round =>
    obtain ⟨k, hk, rfl, HV⟩ := hrel
    clear HV0
    obtain ⟨⟨_, a2, c2, ⟨q1, q2⟩, _⟩, _⟩ := HV.out
    by_cases hlt : k < m
    · obtain ⟨r, hr⟩ : ∃ r, (cs.drop k).length = r := ⟨_, rfl⟩
      have hr2 : 0 < r := by rw [← hr, List.length_drop, HM.out]; omega
      obtain ⟨x, hx⟩ : ∃ x, cs.getD k 0 = x := ⟨_, rfl⟩
      have hd := drop_cons (cs := cs) (k := k) (by have := HM.out; omega)
      rw [hx] at hd
      have HNx := Lib.hid (next7_any b 0 w.heap.size x (cs.drop (k + 1)) (rvD n cs k).2 ((n : Int) + k) wr (by rw [← hd]; exact HV.out.1))
      have HX := Lib.hid hx
      rw [hr] at q1
      clear hr hx hd
      by_cases hin : 0 ≤ x ∧ x ≤ (n : Int) + k
      · rw [if_pos hin, if_pos hin] at HNx
        obtain ⟨X, rfl⟩ := Int.eq_ofNat_of_zero_le hin.1
        have HIN := Lib.hid hin
        clear hin
        go_wp2_with fail
        refine (HNx.out).mono ?_
        rintro e w3 ⟨rfl, hcr, hgr, _⟩
        have HV3 := Lib.hid (HV.out.took hcr hgr)
        clear hcr hgr HNx q1 q2 HV
        by_cases hxn : X < n
        · have HE : Hid (rvD n cs (k + 1) = ((rvD n cs k).1.set X ((n : Int) + k), (rvD n cs k).2)) := rvD_yes HX.out HIN.out (by omega)
          have HV4 : Hid (Rv w.heap.size b w.heap.size n w.heap.size (rvD n cs (k + 1)).1 (cs.drop (k + 1)) (rvD n cs (k + 1)).2 w (w3.setCell ⟨w.heap.size, X, none⟩ (.int .i64 ((n : Int) + k)))) := by
            unfold Hid
            rw [HE.out]
            exact HV3.out.set X _
          have d1 := HV3.out.2.1.cell (i := X) hxn
          have d2 := HV3.out.2.1.frz X
          clear HV3
          go_wp2
          go_roundw
          case rel => exact ⟨k + 1, by omega, by go_num, HV4⟩
          case measure => simp [intOf]; omega
        · have HE : Hid (rvD n cs (k + 1) = rvD n cs k) := rvD_skip HX.out HIN.out (by omega)
          rw [← HE.out] at HV3
          go_wp2
          go_roundw
          case rel => exact ⟨k + 1, by omega, by go_num, HV3⟩
          case measure => simp [intOf]; omega
      · rw [if_neg hin, if_neg hin] at HNx
        have HE : Hid (rvD n cs (k + 1) = ((rvD n cs k).1.set 0 ((n : Int) + k), true)) := rvD_no HX.out hin
        clear hin
        go_wp2_with fail
        refine (HNx.out).mono ?_
        rintro e w3 ⟨rfl, hcr, hgr, _⟩
        have HV3 := Lib.hid (HV.out.took hcr hgr)
        have HV4 : Hid (Rv w.heap.size b w.heap.size n w.heap.size (rvD n cs (k + 1)).1 (cs.drop (k + 1)) (rvD n cs (k + 1)).2 w (w3.setCell ⟨w.heap.size, 0, none⟩ (.int .i64 ((n : Int) + k)))) := by
          unfold Hid
          rw [HE.out]
          exact HV3.out.set 0 _
        have d1 := HV3.out.2.1.cell (i := 0) (by omega)
        have d2 := HV3.out.2.1.frz 0
        clear hcr hgr HNx q1 q2 HV HV3
        go_wp2
        go_roundw
        case rel => exact ⟨k + 1, by omega, by go_num, HV4⟩
        case measure => simp [intOf]; omega
    · obtain rfl : k = m := by omega
      have hr : (cs.drop k).length = 0 := by rw [List.length_drop, HM.out]; omega
      rw [hr] at q1
      obtain ⟨hcr, hrw, _, _, _, hbl⟩ := HV.out
      have HC : Hid (∀ W, W = wr → Calls Try.prog 25 #[.pointer (some ⟨b, 0, none⟩), .slice (some ⟨w.heap.size, 0, none⟩) n n] W fun e w' => e = .returned (.tuple #[pickL (rvD n cs k).2 (.slice (some ⟨w.heap.size, 0, none⟩) n n), .bool (!(rvD n cs k).2)]) ∧ W = w') := fun W hW => chosen_any b 0 _ _ _ _ W (hW ▸ hcr)
      have HRW := Lib.hid (And.intro hrw hbl)
      obtain ⟨fl, hfl⟩ : ∃ fl, (rvD n cs k).2 = fl := ⟨_, rfl⟩
      rw [hfl] at HC
      have HF := Lib.hid hfl
      clear hfl HV hcr hrw hbl hr
      go_wp2_with fail
      refine (HC.out _ rfl).mono ?_
      rintro e w3 ⟨rfl, rfl⟩
      go_wp2
      go_ret2
      rw [HF.out]
      exact ⟨_, rfl, HRW.out.1, HRW.out.2⟩
theorem reservoir_no (n : Int) (a : Option Addr) (m cap : Nat) (w : World) (hl : m ≤ 1048576) (h : ¬ ((1 ≤ n ∧ n ≤ 12) ∧ m ≤ 12)) :
    Calls Try.prog 9 #[.int .i64 n, .slice a m cap] w (ListRet w [] false) := by
  by_cases h1 : 1 ≤ n ∧ n ≤ 12
  · have HI : Hid (∀ W : World, Calls Try.prog 22 #[.int .i64 n, .int .i64 1, .int .i64 12] W fun e w' => e = .returned (.bool true) ∧ W = w') := fun W => btw64_yes _ _ _ W h1.1 h1.2
    have hm : ¬ m ≤ 12 := fun y => h ⟨h1, y⟩
    clear h h1
    go_enter Try.func9, Try.ntmps9
    go_wp2_with (go_at_call 22; with_reducible refine (HI.out _).mono ?_; rintro e w1 ⟨rfl, rfl⟩)
    go_ret2
    exact ⟨_, rfl, .inl ⟨rfl, rfl⟩, Below.refl _ _⟩
  · have HI : Hid (∀ W : World, Calls Try.prog 22 #[.int .i64 n, .int .i64 1, .int .i64 12] W fun e w' => e = .returned (.bool false) ∧ W = w') := fun W => btw64_no _ _ _ W h1
    clear h h1
    go_enter Try.func9, Try.ntmps9
    go_wp2_with (go_at_call 22; with_reducible refine (HI.out _).mono ?_; rintro e w1 ⟨rfl, rfl⟩)
    go_ret2
    exact ⟨_, rfl, .inl ⟨rfl, rfl⟩, Below.refl _ _⟩
theorem reservoir_any (n : Nat) (a : Option Addr) (m cap : Nat) (cs : List Int) (w : World) (h : RO w.heap.size w a cs) (hm : cs.length = m) (hl : m ≤ 1048576) (hc : m ≤ cap) :
    Calls Try.prog 9 #[.int .i64 n, .slice a m cap] w (ListRet w (rvRes n cs).1 (rvRes n cs).2) := by
  by_cases h1 : (1 ≤ n ∧ n ≤ 12) ∧ m ≤ 12
  · refine (reservoir_yes n a m cap cs w h hm hc h1.1.1 h1.1.2 h1.2).mono ?_
    rintro e w' ⟨g, he, hr, hb⟩
    have := listRet_pick he hr (Nat.le_refl _) hb
    unfold rvRes
    rw [hm]
    cases hf : (rvD n cs m).2
    · rw [if_pos ⟨h1, rfl⟩]
      rw [hf] at this
      exact this
    · rw [if_neg (fun y => by cases y.2)]
      rw [hf] at this
      exact this
  · have hr : rvRes n cs = ([], false) := by
      unfold rvRes
      rw [hm, if_neg (fun y => h1 y.1)]
    rw [hr]
    exact reservoir_no n a m cap w hl (fun y => h1 ⟨by omega, y.2⟩)
theorem specReservoir_yes (n : Nat) (a : Option Addr) (m cap : Nat) (cs : List Int) (w : World) (h : RO w.heap.size w a cs) (hm : cs.length = m) (h1 : 1 ≤ n) (h2 : n ≤ 12) (h3 : m ≤ 12) :
    Calls Try.prog 7 #[.int .i64 n, .slice a m cap] w (ListRet w (orNil (rvD n cs m)) (!(rvD n cs m).2)) := by
  have HM := Lib.hid hm
  have HR := Lib.hid h
  have HI : Hid (∀ W : World, Calls Try.prog 19 #[.int .i64 n] W fun e w' => e = .returned (.bool true) ∧ W = w') := fun W => many7_b n true W (decide_eq_true (by omega))
  have HA : Hid (∀ W : World, Calls Try.prog 20 #[.int .i64 n] W fun e w' => ∃ g cap, e = .returned (.slice (some ⟨g, 0, none⟩) n cap) ∧ Rw W.heap.size g n cap (asc n) w' ∧ Below W.heap.size W w') := fun W => first_any n W h2
  clear h hm
  go_enter Try.func7, Try.ntmps7
  go_wp2_with (first | (go_at_call 19; with_reducible refine (HI.out _).mono ?_; rintro e w1 ⟨rfl, rfl⟩) | (go_at_call 20; with_reducible refine (HA.out _).mono ?_; rintro e w1 ⟨g, c, rfl, hr, hb⟩))
  have HV0 : Hid ((Rw w.heap.size g n c (rvD n cs 0).1 w1 ∧ (rvD n cs 0).2 = false) ∧ Below w.heap.size w w1) := ⟨⟨hr, rfl⟩, hb⟩
  clear hr hb HA HI
  go_loopw [7, 8] (fun iv _ wr => ∃ k : Nat, k ≤ m ∧ iv = .int .i64 k ∧ Hid ((Rw w.heap.size g n c (rvD n cs k).1 wr ∧ (rvD n cs k).2 = false) ∧ Below w.heap.size w wr)) (fun iv _ _ => m - (intOf iv).toNat)
  case atStart => exact ⟨0, Nat.zero_le _, rfl, HV0⟩
  case round =>
    obtain ⟨k, hk, rfl, HV⟩ := hrel
    clear HV0
    by_cases hlt : k < m
    · obtain ⟨x, hx⟩ : ∃ x, cs[k]? = some x := ⟨_, List.getElem?_eq_getElem (by have := HM.out; omega)⟩
      obtain ⟨g0, off, rfl, hg0, hc0⟩ := HR.out k x hx
      have hc := (HV.out.2.cell (p := ⟨g0, off + k, none⟩) hg0).trans hc0
      have hxd : cs.getD k 0 = x := by rw [List.getD_eq_getElem?_getD, hx]; rfl
      have HX := Lib.hid hxd
      clear hc0 hx hxd
      by_cases hin : 0 ≤ x ∧ x ≤ (n : Int) + k
      · have HJ : Hid (∀ W : World, Calls Try.prog 21 #[.int .i64 x, .int .i64 0, .int .i64 ((n : Int) + k)] W fun e w' => e = .returned (.bool true) ∧ W = w') := fun W => l00In_yes _ _ _ W hin.1 hin.2
        obtain ⟨X, rfl⟩ := Int.eq_ofNat_of_zero_le hin.1
        have HIN := Lib.hid hin
        clear hin
        by_cases hxn : X < n
        · have HE : Hid (rvD n cs (k + 1) = ((rvD n cs k).1.set X ((n : Int) + k), (rvD n cs k).2)) := rvD_yes HX.out HIN.out (by omega)
          have d1 := HV.out.1.1.cell (i := X) hxn
          have d2 := HV.out.1.1.frz X
          have HV4 : Hid ((Rw w.heap.size g n c (rvD n cs (k + 1)).1 (wr.setCell ⟨g, X, none⟩ (.int .i64 ((n : Int) + k))) ∧ (rvD n cs (k + 1)).2 = false) ∧ Below w.heap.size w (wr.setCell ⟨g, X, none⟩ (.int .i64 ((n : Int) + k)))) := by
            unfold Hid
            rw [HE.out]
            exact ⟨⟨HV.out.1.1.set X _, HV.out.1.2⟩, HV.out.2.setCell (p := ⟨g, X, none⟩) HV.out.1.1.le _⟩
          clear HV
          go_wp2_with (go_at_call 21; with_reducible refine (HJ.out _).mono ?_; rintro e w2 ⟨rfl, rfl⟩)
          go_roundw
          case rel => exact ⟨k + 1, by omega, by go_num, HV4⟩
          case measure => first | (simp [intOf]; done) | (simp [intOf]; omega)
        · have HE : Hid (rvD n cs (k + 1) = rvD n cs k) := rvD_skip HX.out HIN.out (by omega)
          rw [← HE.out] at HV
          go_wp2_with (go_at_call 21; with_reducible refine (HJ.out _).mono ?_; rintro e w2 ⟨rfl, rfl⟩)
          go_roundw
          case rel => exact ⟨k + 1, by omega, by go_num, HV⟩
          case measure => first | (simp [intOf]; done) | (simp [intOf]; omega)
      · have HJ : Hid (∀ W : World, Calls Try.prog 21 #[.int .i64 x, .int .i64 0, .int .i64 ((n : Int) + k)] W fun e w' => e = .returned (.bool false) ∧ W = w') := fun W => l00In_no _ _ _ W hin
        have HE : Hid ((rvD n cs m).2 = true) := by
          have := rvD_fail (slots := n) (cs := cs) (k := k + 1) (by rw [rvD_no HX.out hin]) (m - (k + 1))
          rwa [show k + 1 + (m - (k + 1)) = m by omega] at this
        clear hin
        go_wp2_with (go_at_call 21; with_reducible refine (HJ.out _).mono ?_; rintro e w2 ⟨rfl, rfl⟩)
        go_ret2
        rw [orNil_no HE.out, HE.out]
        exact ⟨_, rfl, .inl ⟨rfl, rfl⟩, HV.out.2⟩
    · obtain rfl : k = m := by omega
      have HE : Hid ((rvD n cs k).2 = false) := HV.out.1.2
      go_wp2
      go_ret2
      rw [orNil_yes HE.out, HE.out]
      exact ⟨_, rfl, HV.out.1.1.sl, HV.out.2⟩
theorem specReservoir_no (n : Int) (a : Option Addr) (m cap : Nat) (w : World) (hl : m ≤ 1048576) (h : ¬ ((1 ≤ n ∧ n ≤ 12) ∧ m ≤ 12)) :
    Calls Try.prog 7 #[.int .i64 n, .slice a m cap] w (ListRet w [] false) := by
  by_cases h1 : 1 ≤ n ∧ n ≤ 12
  · have HI : Hid (∀ W : World, Calls Try.prog 19 #[.int .i64 n] W fun e w' => e = .returned (.bool true) ∧ W = w') := fun W => many7_b n true W (decide_eq_true h1)
    have hm : ¬ m ≤ 12 := fun y => h ⟨h1, y⟩
    clear h h1
    go_enter Try.func7, Try.ntmps7
    go_wp2_with (go_at_call 19; with_reducible refine (HI.out _).mono ?_; rintro e w1 ⟨rfl, rfl⟩)
    go_ret2
    exact ⟨_, rfl, .inl ⟨rfl, rfl⟩, Below.refl _ _⟩
  · have HI : Hid (∀ W : World, Calls Try.prog 19 #[.int .i64 n] W fun e w' => e = .returned (.bool false) ∧ W = w') := fun W => many7_b n false W (decide_eq_false h1)
    clear h h1
    go_enter Try.func7, Try.ntmps7
    go_wp2_with (go_at_call 19; with_reducible refine (HI.out _).mono ?_; rintro e w1 ⟨rfl, rfl⟩)
    go_ret2
    exact ⟨_, rfl, .inl ⟨rfl, rfl⟩, Below.refl _ _⟩
theorem specReservoir_any (n : Nat) (a : Option Addr) (m cap : Nat) (cs : List Int) (w : World) (h : RO w.heap.size w a cs) (hm : cs.length = m) (hl : m ≤ 1048576) :
    Calls Try.prog 7 #[.int .i64 n, .slice a m cap] w (ListRet w (rvRes n cs).1 (rvRes n cs).2) := by
  by_cases h1 : (1 ≤ n ∧ n ≤ 12) ∧ m ≤ 12
  · have := specReservoir_yes n a m cap cs w h hm h1.1.1 h1.1.2 h1.2
    unfold rvRes
    rw [hm]
    cases hf : (rvD n cs m).2
    · rw [if_pos ⟨h1, rfl⟩]
      rw [orNil_yes hf, hf] at this
      exact this
    · rw [if_neg (fun y => by cases y.2)]
      rw [orNil_no hf, hf] at this
      exact this
  · have hr : rvRes n cs = ([], false) := by
      unfold rvRes
      rw [hm, if_neg (fun y => h1 y.1)]
    rw [hr]
    exact specReservoir_no n a m cap w hl (fun y => h1 ⟨by omega, y.2⟩)
theorem lawReservoirBy (p0 : Int) (a : Option Addr) (n cap : Nat) (zs : List Int) (w : World) (h : RowIn .i64 w a n zs) :
    Calls Try.prog 3 #[.int .i64 p0, .slice a n cap] w fun e w' => e = .returned (.bool true) ∧ Below w.heap.size w w' :=
  lawReservoirBy_any p0 a n cap zs w h fun ys hn hl hr => by
    by_cases h0 : 0 ≤ p0
    · obtain ⟨P, rfl⟩ := Int.eq_ofNat_of_zero_le h0
      exact lawReservoirBy_core P a n cap ys (rvRes P ys).1 (rvRes P ys).2 w hr hn hl (by have := rvRes_length P ys; omega) (fun W b c hb _ => specReservoir_any P b n c ys W hb hn hl) (fun W b c hb hc => reservoir_any P b n c ys W hb hn hl hc)
    · exact lawReservoirBy_core p0 a n cap ys [] false w hr hn hl (by simp) (fun W b c _ _ => specReservoir_no p0 b n c W hl (fun y => by omega)) (fun W b c _ _ => reservoir_no p0 b n c W hl (fun y => by omega))
end Go.Proofs.Ytjbojamhnapkpac
