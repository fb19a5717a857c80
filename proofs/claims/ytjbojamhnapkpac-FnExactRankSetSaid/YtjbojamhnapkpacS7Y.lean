/- Ranks of sets: impl.RankSet, spec.RankSet, the law. -/
import Derived.Test.YtjbojamhnapkpacS7I
import Derived.Test.YtjbojamhnapkpacBinomial
import Derived.Test.YtjbojamhnapkpacL7
namespace Go.Proofs.Ytjbojamhnapkpac
open Go.RowKit Go.PlainAid
set_option maxHeartbeats 800000

theorem slice_from7 (T : TypeId) (hu : ∀ W, (underlying T).run Try.prog W = .ok (.slice 2) W) (a : Option Addr) (n c j top : Nat) (xs : List Int) (w : World) (h : RO top w a xs) (hn : xs.length = n) (hj : j ≤ n) (hc : n ≤ c) :
    ∃ a2, (∀ W, (Instr.slice T (.slice a n c) (some (.int .i64 (j : Int))) none none).run Try.prog W = .ok (.slice a2 (n - j) (c - j)) W) ∧ RO top w a2 (xs.drop j) := by
  have k1 : (0 : Int) ≤ (j : Int) := by omega
  by_cases hd : c = j
  · obtain rfl : n = j := by omega
    refine ⟨a, fun W => ?_, fun i x hx => ?_⟩
    · simp [go_sem, Instr.slice, Instr.sliceBounds, Instr.sliceBound, hd, hu]
    · rw [List.drop_of_length_le (by omega)] at hx
      simp at hx
  · refine ⟨a.map (·.add (j * 1)), fun W => ?_, fun i x hx => ?_⟩
    · simp [go_sem, Instr.slice, Instr.sliceBounds, Instr.sliceBound, hd, hu, k1, hj]
    · rw [List.getElem?_drop] at hx
      obtain ⟨g, off, rfl, hg, hcc⟩ := h (j + i) x hx
      refine ⟨g, off + j, ?_, hg, by rw [Nat.add_assoc]; exact hcc⟩
      simp [Addr.add]
theorem ch_pow : ∀ n k, Choose.ch n k ≤ 2 ^ n := by
  intro n
  induction n with
  | zero => intro k; cases k <;> simp [Choose.ch]
  | succ n ih =>
    intro k
    cases k with
    | zero => rw [Choose.ch_zero]; exact Nat.one_le_two_pow
    | succ k =>
      have h1 := ih k
      have h2 := ih (k + 1)
      rw [Choose.ch_succ, Nat.pow_succ]
      omega
theorem ch_small {n : Nat} (k : Nat) (h : n ≤ 60) : Choose.ch n k ≤ 1152921504606846976 :=
  Nat.le_trans (ch_pow n k) (Nat.le_trans (Nat.pow_le_pow_right (by omega) h) (by decide))
theorem wayS_small {q m : Nat} (h : q ≤ 60) : wayS q m ≤ 1152921504606846976 := by
  unfold wayS
  split
  · omega
  · exact ch_small _ h
theorem setsWith_any (n k m q : Nat) (w : World) (hk : k < n) (hn : n ≤ 60) (hm : m ≤ 61) (hq : n - 1 - k = q) :
    Calls Try.prog 35 #[.int .i64 n, .int .i64 k, .int .i64 m] w fun e w' => e = .returned (.int .i64 (wayS q m : Nat)) ∧ w = w' := by
  have HB : ∃ b, Hid (∀ W : World, Calls Try.prog 36 #[.int .i64 q, .int .i64 ((m : Int) - 1)] W fun e w' => e = .returned (.tuple #[.int .i64 (wayS q m : Nat), .bool b]) ∧ W = w') := by
    by_cases h0 : m = 0
    · subst h0
      exact ⟨false, fun W => by have := binom_no q ((0 : Nat) - 1 : Int) W (by omega); simpa [wayS] using this⟩
    · obtain ⟨p, rfl⟩ : ∃ p, m = p + 1 := ⟨m - 1, by omega⟩
      have e1 : (((p + 1 : Nat) : Int) - 1) = (p : Int) := by omega
      have e2 : wayS q (p + 1) = Choose.ch q p := by unfold wayS; rw [if_neg (by omega)]; rfl
      rw [e1, e2]
      by_cases hp : p ≤ q
      · exact ⟨true, fun W => binom_yes q p W (by omega) hp⟩
      · rw [Choose.ch_out q p (by omega)]
        exact ⟨false, fun W => binom_no q p W (by omega)⟩
  obtain ⟨b, HB⟩ := HB
  have hq2 : (n : Int) - 1 - (k : Int) = (q : Int) := by omega
  clear hq
  go_enter Try.func35, Try.ntmps35
  go_wp2_with fail
  refine (HB.out _).mono ?_
  rintro e w1 ⟨rfl, rfl⟩
  go_wp2
  go_ret
  exact ⟨rfl, rfl⟩
/-- behind the last number of a set, nothing is added -/
theorem rsD_done {n k : Nat} {xs : List Int} (h : (rsD n xs k).2 = xs.length) : ∀ m, (rsD n xs (k + m)).1 = (rsD n xs k).1 ∧ (rsD n xs (k + m)).2 = xs.length := by
  intro m
  induction m with
  | zero => exact ⟨rfl, h⟩
  | succ m ih =>
    rw [show k + (m + 1) = (k + m) + 1 from rfl]
    have hn : xs[(rsD n xs (k + m)).2]? = none := List.getElem?_eq_none (by omega)
    simp only [rsD]
    rw [hn, if_neg (by simp), ih.2, Nat.sub_self]
    exact ⟨by simp [wayS, ih.1], rfl⟩
theorem rsD_met {n k : Nat} {xs : List Int} (h : xs[(rsD n xs k).2]? = some (k : Int)) : rsD n xs (k + 1) = ((rsD n xs k).1, (rsD n xs k).2 + 1) := by
  simp only [rsD]
  rw [if_pos h]
theorem rsD_pass {n k : Nat} {xs : List Int} (h : xs[(rsD n xs k).2]? ≠ some (k : Int)) : rsD n xs (k + 1) = ((rsD n xs k).1 + wayS (n - 1 - k) (xs.length - (rsD n xs k).2), (rsD n xs k).2) := by
  simp only [rsD]
  rw [if_neg h]
theorem rsD_small {n : Nat} {xs : List Int} (hn : n ≤ 60) {k : Nat} (hk : k ≤ n) : (rsD n xs k).1 ≤ 1152921504606846976 := by
  have h1 := rsD_rank (n := n) (xs := xs) k hk
  have h2 := ch_small xs.length hn
  omega
/-- how many numbers a set has -/
theorem SetP.room {n : Nat} {xs : List Int} (h : SetP n xs) : ∀ (d i : Nat) (x : Int), xs[i]? = some x → i + d < xs.length → x + d < (n : Int) := by
  intro d
  induction d with
  | zero => intro i x hx _; have := (h.1 i x hx).2; omega
  | succ d ih =>
    intro i x hx hi
    obtain ⟨y, hy⟩ : ∃ y, xs[i + 1]? = some y := ⟨_, List.getElem?_eq_getElem (by omega)⟩
    have h1 := h.2 i x y hx hy
    have h2 := ih (i + 1) y hy (by omega)
    omega
theorem SetP.size {n : Nat} {xs : List Int} (h : SetP n xs) : xs.length ≤ n := by
  cases hx : xs[0]? with
  | none =>
    have := List.getElem?_eq_none_iff.1 hx
    omega
  | some x =>
    have h0 := (h.1 0 x hx).1
    have hl := (List.getElem?_eq_some_iff.1 hx).1
    have := h.room (xs.length - 1) 0 x hx (by omega)
    omega
set_option maxRecDepth 10000 in
theorem rankSet_yes (n : Nat) (a : Option Addr) (m cap : Nat) (xs : List Int) (w : World) (h : RO w.heap.size w a xs) (hm : xs.length = m) (hc : m ≤ cap) (h1 : 1 ≤ n) (h2 : n ≤ 60) (hS : SetP n xs) :
    Calls Try.prog 16 #[.int .i64 n, .slice a m cap] w fun e w' => e = .returned (.tuple #[.int .i64 ((rsD n xs n).1 : Nat), .bool true]) ∧ Below w.heap.size w w' := by
  have hmn : m ≤ n := by rw [← hm]; exact hS.size
  have HM := Lib.hid hm
  have HI : Hid (∀ W : World, Calls Try.prog 22 #[.int .i64 n, .int .i64 1, .int .i64 60] W fun e w' => e = .returned (.bool true) ∧ W = w') := fun W => btw64_yes _ _ _ W (by omega) (by omega)
  have HA := Lib.hid (areB_any a m cap xs 0 ((n : Int) - 1) w h hm (by omega) true (by simp only [true_iff]; intro i x hx; have := hS.1 i x hx; omega))
  have HN := Lib.hid (inc7_any a m cap xs w h hm (by omega) true (by simp only [true_iff]; exact hS.2))
  have HP : Hid (SetP n xs) := hS
  have HR := Lib.hid h
  clear h hm hS
  go_enter Try.func16, Try.ntmps16
  go_wp2_with (first | (go_at_call 22; with_reducible refine (HI.out _).mono ?_; rintro e w1 ⟨rfl, rfl⟩) | (go_at_call 33; with_reducible refine (HA.out).mono ?_; rintro e w1 ⟨rfl, rfl⟩) | (go_at_call 34; with_reducible refine (HN.out).mono ?_; rintro e w1 ⟨rfl, hb⟩))
  have HB := Lib.hid hb
  have HR1 := Lib.hid (HR.out.below hb)
  clear hb HA HN
  go_loop [1, 6, 7, 24] (fun sv rv _ iv => ∃ (k r j d c2 : Nat) (a2 : Option Addr), k ≤ n ∧ iv = .int .i64 k ∧ rv = .int .i64 r ∧ sv = .slice a2 d c2 ∧ d ≤ c2 ∧ Hid (rsD n xs k = (r, j)) ∧ j + d = m ∧ Hid (RO w.heap.size w1 a2 (xs.drop j))) (fun _ _ _ iv => n - (intOf iv).toNat)
  case atStart => exact ⟨0, 0, 0, m, cap, a, Nat.zero_le _, rfl, rfl, rfl, hc, rfl, by omega, HR1.out⟩
  case round =>
    obtain ⟨k, r, j, d, c2, a2, hk, rfl, rfl, rfl, hdc, HE, hjd, HT⟩ := hrel
    have hr := rsD_small (xs := xs) h2 hk
    rw [HE.out] at hr
    dsimp only at hr
    by_cases hlt : k < n
    · obtain ⟨q, hq⟩ : ∃ q, n - 1 - k = q := ⟨_, rfl⟩
      by_cases hd : d = 0
      · have hpass : rsD n xs (k + 1) = (r, j) := by
          have hnone : xs[(rsD n xs k).2]? ≠ some (k : Int) := by
            rw [HE.out]
            rw [List.getElem?_eq_none (by have := HM.out; show xs.length ≤ j; omega)]
            simp
          rw [rsD_pass hnone, HE.out, HM.out]
          dsimp only
          rw [show m - j = 0 by omega]
          simp [wayS]
        have HE2 := Lib.hid hpass
        have HW : Hid (∀ W : World, Calls Try.prog 35 #[.int .i64 n, .int .i64 k, .int .i64 d] W fun e w' => e = .returned (.int .i64 0) ∧ W = w') := fun W => by
          have := setsWith_any n k d q W hlt h2 (by omega) hq
          rw [hd] at this ⊢
          simpa [wayS] using this
        have hd0 : ¬ 0 < d := by omega
        clear hpass hd hq
        go_wp2_with (go_at_call 35; with_reducible refine (HW.out _).mono ?_; rintro e w2 ⟨rfl, rfl⟩)
        go_round
        case rel => exact ⟨k + 1, r, j, d, c2, a2, by omega, by go_num, by first | rfl | simp, rfl, hdc, HE2, hjd, HT⟩
        case measure => first | (simp [intOf]; done) | (simp [intOf]; omega)
      · obtain ⟨x, hx⟩ : ∃ x, xs[j]? = some x := ⟨_, List.getElem?_eq_getElem (by have := HM.out; omega)⟩
        obtain ⟨g, off, rfl, hg, hc⟩ := HT.out 0 x (by rw [List.getElem?_drop, Nat.add_zero]; exact hx)
        rw [Nat.add_zero] at hc
        have hd0 : 0 < d := by omega
        by_cases hxk : x = (k : Int)
        · have hmet : rsD n xs (k + 1) = (r, j + 1) := by
            rw [rsD_met (by rw [HE.out]; show xs[j]? = _; rw [hx, hxk]), HE.out]
          have HE2 := Lib.hid hmet
          obtain ⟨a3, K1, K2⟩ := slice_from7 22 (fun W => by simp [go_sem]) (some ⟨g, off, none⟩) d c2 1 w.heap.size (xs.drop j) w1 HT.out (by rw [List.length_drop, HM.out]; omega) (by omega) hdc
          have K1' : ∀ W, (Instr.slice 22 (.slice (some ⟨g, off, none⟩) d c2) (some (.int .i64 1)) none none).run Try.prog W = .ok (.slice a3 (d - 1) (c2 - 1)) W := fun W => K1 W
          have HT2 : Hid (RO w.heap.size w1 a3 (xs.drop (j + 1))) := by
            unfold Hid
            rw [List.drop_drop] at K2
            exact K2
          have t1 : (x == (k : Int)) = true := by rw [beq_iff_eq]; exact hxk
          clear hmet K1 K2 hx hxk hd hq
          go_wp2
          go_round
          case rel => exact ⟨k + 1, r, j + 1, d - 1, c2 - 1, a3, by omega, by go_num, rfl, rfl, by omega, HE2, by omega, HT2⟩
          case measure => first | (simp [intOf]; done) | (simp [intOf]; omega)
        · have hpass : rsD n xs (k + 1) = (r + wayS q d, j) := by
            rw [rsD_pass (by rw [HE.out]; show xs[j]? ≠ _; rw [hx]; exact fun e => hxk (Option.some.inj e)), HE.out, HM.out, hq]
            dsimp only
            rw [show m - j = d by omega]
          have hr2 := rsD_small (xs := xs) h2 (show k + 1 ≤ n by omega)
          rw [hpass] at hr2
          dsimp only at hr2
          obtain ⟨s, hs⟩ : ∃ s, wayS q d = s := ⟨_, rfl⟩
          have HW : Hid (∀ W : World, Calls Try.prog 35 #[.int .i64 n, .int .i64 k, .int .i64 d] W fun e w' => e = .returned (.int .i64 s) ∧ W = w') := fun W => by
            have := setsWith_any n k d q W hlt h2 (by omega) hq
            rwa [hs] at this
          rw [hs] at hpass hr2
          have HE2 := Lib.hid hpass
          have t1 : (x == (k : Int)) = false := by rw [beq_eq_false_iff_ne]; exact hxk
          clear hpass hx hxk hd hq hs
          go_wp2_with (go_at_call 35; with_reducible refine (HW.out _).mono ?_; rintro e w2 ⟨rfl, rfl⟩)
          go_round
          case rel => exact ⟨k + 1, r + s, j, d, c2, _, by omega, by go_num, by first | rfl | go_num, rfl, hdc, HE2, hjd, HT⟩
          case measure => first | (simp [intOf]; done) | (simp [intOf]; omega)
    · obtain rfl : k = n := by omega
      have HF : Hid ((rsD k xs k).1 = r) := by unfold Hid; rw [HE.out]
      clear hr
      go_wp2
      go_ret2
      rw [HF.out]
      exact ⟨rfl, HB.out⟩
theorem rankSet_no (n : Int) (a : Option Addr) (m cap : Nat) (xs : List Int) (w : World) (h : RO w.heap.size w a xs) (hm : xs.length = m) (hl : m ≤ 1048576) (hno : ¬ ((1 ≤ n ∧ n ≤ 60) ∧ SetP n.toNat xs)) :
    Calls Try.prog 16 #[.int .i64 n, .slice a m cap] w fun e w' => e = .returned (.tuple #[.int .i64 0, .bool false]) ∧ Below w.heap.size w w' := by
  by_cases h1 : 1 ≤ n ∧ n ≤ 60
  · have HI : Hid (∀ W : World, Calls Try.prog 22 #[.int .i64 n, .int .i64 1, .int .i64 60] W fun e w' => e = .returned (.bool true) ∧ W = w') := fun W => btw64_yes _ _ _ W h1.1 h1.2
    have hnS : ¬ SetP n.toNat xs := fun y => hno ⟨h1, y⟩
    obtain ⟨hn1, hn2⟩ := h1
    by_cases h2 : ∀ (i : Nat) (x : Int), xs[i]? = some x → 0 ≤ x ∧ x ≤ n - 1
    · have HA := Lib.hid (areB_any a m cap xs 0 (n - 1) w h hm hl true (by simp only [true_iff]; exact h2))
      have HN := Lib.hid (inc7_any a m cap xs w h hm hl false (by
        constructor
        · intro y; cases y
        · intro y
          exact absurd ⟨fun i x hx => by have := h2 i x hx; omega, y⟩ hnS))
      clear h hm hnS h2 hno
      go_enter Try.func16, Try.ntmps16
      go_wp2_with (first | (go_at_call 22; with_reducible refine (HI.out _).mono ?_; rintro e w1 ⟨rfl, rfl⟩) | (go_at_call 33; with_reducible refine (HA.out).mono ?_; rintro e w1 ⟨rfl, rfl⟩) | (go_at_call 34; with_reducible refine (HN.out).mono ?_; rintro e w1 ⟨rfl, hb⟩))
      go_ret2
      exact ⟨rfl, hb⟩
    · have HA := Lib.hid (areB_any a m cap xs 0 (n - 1) w h hm hl false (by
        constructor
        · intro y; cases y
        · intro y; exact absurd y h2))
      clear h hm hnS h2 hno
      go_enter Try.func16, Try.ntmps16
      go_wp2_with (first | (go_at_call 22; with_reducible refine (HI.out _).mono ?_; rintro e w1 ⟨rfl, rfl⟩) | (go_at_call 33; with_reducible refine (HA.out).mono ?_; rintro e w1 ⟨rfl, rfl⟩))
      go_ret2
      exact ⟨rfl, Below.refl _ _⟩
  · have HI : Hid (∀ W : World, Calls Try.prog 22 #[.int .i64 n, .int .i64 1, .int .i64 60] W fun e w' => e = .returned (.bool false) ∧ W = w') := fun W => btw64_no _ _ _ W h1
    clear h hm h1 hno
    go_enter Try.func16, Try.ntmps16
    go_wp2_with (go_at_call 22; with_reducible refine (HI.out _).mono ?_; rintro e w1 ⟨rfl, rfl⟩)
    go_ret2
    exact ⟨rfl, Below.refl _ _⟩
theorem below_b (n : Int) (b : Bool) (w : World) (h : decide (1 ≤ n ∧ n ≤ 60) = b) :
    Calls Try.prog 30 #[.int .i64 n] w fun e w' => e = .returned (.bool b) ∧ w = w' := by
  have HI : Hid (∀ W : World, Calls Try.prog 21 #[.int .i64 n, .int .i64 1, .int .i64 60] W fun e w' => e = .returned (.bool b) ∧ W = w') := fun W => l00In_b _ _ _ _ h W
  clear h
  go_enter Try.func30, Try.ntmps30
  go_wp2_with fail
  refine (HI.out _).mono ?_
  rintro e w1 ⟨rfl, rfl⟩
  go_wp2
  go_ret
  exact ⟨rfl, rfl⟩
/-- the number behind the one before place i -/
def frS (xs : List Int) : Nat → Nat
  | 0 => 0
  | i + 1 => (xs.getD i 0).toNat + 1
theorem frS_at {n : Nat} {xs : List Int} (h : SetP n xs) : ∀ i, i ≤ xs.length → (rsD n xs (frS xs i)).2 = i ∧ frS xs i ≤ n := by
  intro i
  induction i with
  | zero => intro _; exact ⟨rfl, Nat.zero_le _⟩
  | succ i ih =>
    intro hi
    obtain ⟨h1, h2⟩ := ih (by omega)
    obtain ⟨x, hx⟩ : ∃ x, xs[i]? = some x := ⟨_, List.getElem?_eq_getElem (by omega)⟩
    have hxd : xs.getD i 0 = x := by rw [List.getD_eq_getElem?_getD, hx]; rfl
    obtain ⟨x0, x1⟩ := h.1 i x hx
    obtain ⟨X, rfl⟩ := Int.eq_ofNat_of_zero_le x0
    have hfx : frS xs i ≤ X := by
      have := rsD_next h (frS xs i) X (by rw [h1]; exact hx)
      omega
    have hall : ∀ d, frS xs i + d ≤ X → (rsD n xs (frS xs i + d)).2 = i := by
      intro d
      induction d with
      | zero => intro _; exact h1
      | succ d ihd =>
        intro hd
        have e := ihd (by omega)
        rw [show frS xs i + (d + 1) = frS xs i + d + 1 from rfl, rsD_pass (by rw [e, hx]; intro y; have := Option.some.inj y; omega)]
        exact e
    have e := hall (X - frS xs i) (by omega)
    rw [show frS xs i + (X - frS xs i) = X by omega] at e
    have hf : frS xs (i + 1) = X + 1 := by rw [frS, hxd]; rfl
    rw [hf, rsD_met (by rw [e]; exact hx), e]
    exact ⟨rfl, by omega⟩
set_option maxRecDepth 10000 in
theorem specRankSet_yes (n : Nat) (a : Option Addr) (m cap : Nat) (xs : List Int) (w : World) (h : RO w.heap.size w a xs) (hm : xs.length = m) (h1 : 1 ≤ n) (h2 : n ≤ 60) (hS : SetP n xs) :
    Calls Try.prog 15 #[.int .i64 n, .slice a m cap] w fun e w' => e = .returned (.tuple #[.int .i64 ((rsD n xs n).1 : Nat), .bool true]) ∧ Below w.heap.size w w' := by
  have hmn : m ≤ n := by rw [← hm]; exact hS.size
  have HM := Lib.hid hm
  have HI : Hid (∀ W : World, Calls Try.prog 30 #[.int .i64 n] W fun e w' => e = .returned (.bool true) ∧ W = w') := fun W => below_b n true W (decide_eq_true (by omega))
  have HA := Lib.hid (rises_any a m cap xs n w h hm (by omega) true (by simp only [true_iff]; exact hS))
  have HP : Hid (SetP n xs) := hS
  have HR := Lib.hid h
  clear h hm hS
  go_enter Try.func15, Try.ntmps15
  go_wp2_with (first | (go_at_call 30; with_reducible refine (HI.out _).mono ?_; rintro e w1 ⟨rfl, rfl⟩) | (go_at_call 31; with_reducible refine (HA.out).mono ?_; rintro e w1 ⟨rfl, j1, rfl⟩))
  have HB0 : Hid (Below w.heap.size w (w.drewN j1)) := below_drewN (Below.refl _ _) j1
  go_loopw [7, 8, 9, 10] (fun rv fv iv _ wr => ∃ i r f : Nat, i ≤ m ∧ iv = .int .i64 i ∧ fv = .int .i64 f ∧ rv = .int .i64 r ∧ f ≤ n ∧ Hid (f = frS xs i ∧ rsD n xs f = (r, i)) ∧ Hid (Below w.heap.size w wr)) (fun _ _ iv _ _ => m - (intOf iv).toNat)
  case atStart => exact ⟨0, 0, 0, Nat.zero_le _, rfl, rfl, rfl, Nat.zero_le _, ⟨rfl, rfl⟩, HB0⟩
  case round =>
    obtain ⟨i, r, f, hi, rfl, rfl, rfl, hfn, HE, HBl⟩ := hrel
    clear HB0
    have hr := rsD_small (xs := xs) h2 hfn
    rw [HE.out.2] at hr
    dsimp only at hr
    by_cases hlt : i < m
    · obtain ⟨x, hx⟩ : ∃ x, xs[i]? = some x := ⟨_, List.getElem?_eq_getElem (by have := HM.out; omega)⟩
      obtain ⟨x0, x1⟩ := HP.out.1 i x hx
      obtain ⟨g, off, rfl, hg, hc0⟩ := HR.out i x hx
      obtain ⟨X, rfl⟩ := Int.eq_ofNat_of_zero_le x0
      have hfX : f ≤ X := by
        have := rsD_next HP.out f X (by rw [HE.out.2]; exact hx)
        omega
      have hroom : X + (m - i) ≤ n := by
        have := HP.out.room (m - 1 - i) i X hx (by have := HM.out; omega)
        omega
      have HX := Lib.hid hx
      have HF1 : Hid (frS xs (i + 1) = X + 1) := by unfold Hid; rw [frS, List.getD_eq_getElem?_getD, hx]; rfl
      clear hx x0
      go_wp2_with fail
      go_loopw [7, 10] (fun rv xv wr => ∃ y s : Nat, f ≤ y ∧ y ≤ X ∧ xv = .int .i64 y ∧ rv = .int .i64 s ∧ Hid (rsD n xs y = (s, i)) ∧ Hid (Below w.heap.size w wr)) (fun _ xv _ => X - (intOf xv).toNat)
      case atStart => exact ⟨f, r, Nat.le_refl _, hfX, rfl, rfl, HE.out.2, HBl⟩
      case round =>
        obtain ⟨y, s, hy1, hy2, rfl, rfl, HY, HBy⟩ := hrel
        have hc := (HBy.out.cell (p := ⟨g, off + i, none⟩) hg).trans hc0
        have hs0 := rsD_small (xs := xs) h2 (show y ≤ n by omega)
        rw [HY.out] at hs0
        dsimp only at hs0
        by_cases hyX : y < X
        · obtain ⟨q, hq⟩ : ∃ q, n - 1 - y = q := ⟨_, rfl⟩
          obtain ⟨p, hp⟩ : ∃ p, m - 1 - i = p := ⟨_, rfl⟩
          have hpass : rsD n xs (y + 1) = (s + Choose.ch q p, i) := by
            rw [rsD_pass (by rw [HY.out]; show xs[i]? ≠ _; rw [HX.out]; intro e; have := Option.some.inj e; omega), HY.out, HM.out, hq]
            dsimp only
            rw [show m - i = p + 1 by omega]
            rfl
          have hs2 := rsD_small (xs := xs) h2 (show y + 1 ≤ n by omega)
          rw [hpass] at hs2
          dsimp only at hs2
          have HC : Hid (∀ W : World, Calls Try.prog 32 #[.int .i64 q, .int .i64 p] W fun e w' => e = .returned (.int .i64 (Choose.ch q p : Nat)) ∧ Below W.heap.size W w') := fun W => choose_any q p W (by omega) (by omega)
          obtain ⟨C, hC⟩ : ∃ C, Choose.ch q p = C := ⟨_, rfl⟩
          rw [hC] at hpass hs2 HC
          have HE2 := Lib.hid hpass
          have hq2 : (n : Int) - 1 - (y : Int) = (q : Int) := by omega
          have hp2 : (m : Int) - 1 - (i : Int) = (p : Int) := by omega
          have hlt2 : y < X := hyX
          clear hpass hq hp hC hc0
          go_wp2_with (go_at_call 32; with_reducible refine (HC.out _).mono ?_; rintro e w2 ⟨rfl, hbc⟩)
          have HB2 : Hid (Below w.heap.size w w2) := HBy.out.trans (hbc.mono HBy.out.size)
          clear hbc
          go_roundw
          case rel => exact ⟨y + 1, s + C, by omega, by omega, by go_num, by first | rfl | go_num, HE2, HB2⟩
          case measure => first | (simp [intOf]; done) | (simp [intOf]; omega)
        · obtain rfl : y = X := by omega
          have hmet : rsD n xs (y + 1) = (s, i + 1) := by
            rw [rsD_met (by rw [HY.out]; exact HX.out), HY.out]
          have HE2 : Hid (y + 1 = frS xs (i + 1) ∧ rsD n xs (y + 1) = (s, i + 1)) := ⟨HF1.out.symm, hmet⟩
          clear hmet hc0
          go_wp2
          go_roundw
          case rel => exact ⟨i + 1, s, y + 1, by omega, by go_num, by go_num, rfl, by omega, HE2, HBy⟩
          case measure => first | (simp [intOf]; done) | (simp [intOf]; omega)
    · obtain rfl : i = m := by omega
      have HF : Hid ((rsD n xs n).1 = r) := by
        have := (rsD_done (n := n) (k := f) (xs := xs) (by rw [HE.out.2, HM.out]) (n - f)).1
        rw [show f + (n - f) = n by omega, HE.out.2] at this
        exact this
      clear hr
      go_wp2
      go_ret2
      rw [HF.out]
      exact ⟨rfl, HBl.out⟩
theorem specRankSet_no (n : Int) (a : Option Addr) (m cap : Nat) (xs : List Int) (w : World) (h : RO w.heap.size w a xs) (hm : xs.length = m) (hl : m ≤ 1048576) (hno : ¬ ((1 ≤ n ∧ n ≤ 60) ∧ SetP n.toNat xs)) :
    Calls Try.prog 15 #[.int .i64 n, .slice a m cap] w fun e w' => e = .returned (.tuple #[.int .i64 0, .bool false]) ∧ Below w.heap.size w w' := by
  by_cases h1 : 1 ≤ n ∧ n ≤ 60
  · have HI : Hid (∀ W : World, Calls Try.prog 30 #[.int .i64 n] W fun e w' => e = .returned (.bool true) ∧ W = w') := fun W => below_b n true W (decide_eq_true h1)
    obtain ⟨N, rfl⟩ := Int.eq_ofNat_of_zero_le (show 0 ≤ n by omega)
    have hnS : ¬ SetP N xs := fun y => hno ⟨h1, by rw [Int.toNat_natCast]; exact y⟩
    have HA := Lib.hid (rises_any a m cap xs N w h hm hl false (by
      constructor
      · intro y; cases y
      · intro y; exact absurd y hnS))
    obtain ⟨hn1, hn2⟩ := h1
    clear h hm hnS hno
    go_enter Try.func15, Try.ntmps15
    go_wp2_with (first | (go_at_call 30; with_reducible refine (HI.out _).mono ?_; rintro e w1 ⟨rfl, rfl⟩) | (go_at_call 31; with_reducible refine (HA.out).mono ?_; rintro e w1 ⟨rfl, j1, rfl⟩))
    go_ret2
    exact ⟨rfl, below_drewN (Below.refl _ _) j1⟩
  · have HI : Hid (∀ W : World, Calls Try.prog 30 #[.int .i64 n] W fun e w' => e = .returned (.bool false) ∧ W = w') := fun W => below_b n false W (decide_eq_false h1)
    clear h hm h1 hno
    go_enter Try.func15, Try.ntmps15
    go_wp2_with (go_at_call 30; with_reducible refine (HI.out _).mono ?_; rintro e w1 ⟨rfl, rfl⟩)
    go_ret2
    exact ⟨rfl, Below.refl _ _⟩
theorem lawRankSet (p0 : Int) (a : Option Addr) (n cap : Nat) (zs : List Int) (w : World) (h : RowIn .i64 w a n zs) :
    Calls Try.prog 5 #[.int .i64 p0, .slice a n cap] w fun e w' => e = .returned (.bool true) ∧ Below w.heap.size w w' :=
  lawRankSet_any p0 a n cap zs w h fun ys hn hl hr => by
    by_cases h0 : (1 ≤ p0 ∧ p0 ≤ 60) ∧ SetP p0.toNat ys
    · obtain ⟨P, rfl⟩ := Int.eq_ofNat_of_zero_le (show 0 ≤ p0 by omega)
      obtain ⟨h1, h2⟩ := h0
      rw [Int.toNat_natCast] at h2
      exact lawRankSet_core P a n cap ys _ true w hr hn hl (fun W b c hb _ => specRankSet_yes P b n c ys W hb hn (by omega) (by omega) h2) (fun W b c hb hc => rankSet_yes P b n c ys W hb hn hc (by omega) (by omega) h2)
    · exact lawRankSet_core p0 a n cap ys 0 false w hr hn hl (fun W b c hb _ => specRankSet_no p0 b n c ys W hb hn hl h0) (fun W b c hb _ => rankSet_no p0 b n c ys W hb hn hl h0)
end Go.Proofs.Ytjbojamhnapkpac
