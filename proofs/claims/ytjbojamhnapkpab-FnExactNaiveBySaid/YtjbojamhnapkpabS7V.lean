/- Naive shuffles: impl.NaiveBy, spec.NaiveBy, the law. -/
import Derived.Test.YtjbojamhnapkpabS7B
namespace Go.Proofs.Ytjbojamhnapkpab
open Go.RowKit Go.PlainAid
set_option maxHeartbeats 800000

theorem nvD_step (cs : List Int) (n k : Nat) : nvD cs n (k + 1) = (swp (nvD cs n k).1 k (if 0 ≤ cs.getD k 0 ∧ cs.getD k 0 ≤ (n : Int) - 1 then (cs.getD k 0).toNat else 0), if 0 ≤ cs.getD k 0 ∧ cs.getD k 0 ≤ (n : Int) - 1 then (nvD cs n k).2 else true) := by
  simp only [nvD]
  split <;> rfl
/-- what a naive shuffle returns -/
def nvRes (cs : List Int) : List Int × Bool := if (1 ≤ cs.length ∧ cs.length ≤ 12) ∧ (nvD cs cs.length cs.length).2 = false then ((nvD cs cs.length cs.length).1, true) else ([], false)
theorem nvRes_length (cs : List Int) : (nvRes cs).1.length ≤ 12 := by
  unfold nvRes
  split
  · rename_i h
    rw [nvD_length]
    omega
  · exact Nat.zero_le _
theorem naive_yes (a : Option Addr) (n cap : Nat) (cs : List Int) (w : World) (h : RO w.heap.size w a cs) (hn : cs.length = n) (hc : n ≤ cap) (h1 : 1 ≤ n) (h2 : n ≤ 12) :
    Calls Try.prog 24 #[.slice a n cap] w fun e w' => ∃ g, e = .returned (.tuple #[pickL (nvD cs n n).2 (.slice (some ⟨g, 0, none⟩) n n), .bool (!(nvD cs n n).2)]) ∧ Rw w.heap.size g n n (nvD cs n n).1 w' ∧ Below w.heap.size w w' := by
  have HM := Lib.hid hn
  have HS := Lib.hid (shuffleOf_yes n a cap cs w h (by omega) (by omega) (by omega))
  rw [hn] at HS
  clear h hn
  go_enter Try.func24, Try.ntmps24
  go_wp2_with fail
  refine (HS.out).mono ?_
  rintro e w1 ⟨b, g, rfl, hs, hb⟩
  have HS1 := Lib.hid hs
  have HB1 := Lib.hid hb
  clear hs hb HS
  go_wp2_with fail
  go_loopw [7, 19] (fun _ iv wr => ∃ k : Nat, k ≤ n ∧ iv = .int .i64 k ∧ Hid (Sh w.heap.size b g n w.heap.size (nvD cs n k).1 (cs.drop k) (nvD cs n k).2 wr) ∧ Hid (Below w.heap.size w wr)) (fun _ iv _ => n - (intOf iv).toNat)
  case atStart => exact ⟨0, Nat.zero_le _, rfl, HS1, HB1⟩
  case round =>
    obtain ⟨k, hk, rfl, HK, HBl⟩ := hrel
    clear HS1 HB1
    by_cases hlt : k < n
    · have HE : Hid (∃ j f2, nvD cs n (k + 1) = (swp (nvD cs n k).1 k j, f2) ∧ Calls Try.prog 59 #[.pointer (some ⟨b, 0, none⟩), .int .i64 k, .int .i64 ((n : Int) - 1)] wr fun e w' => e = .returned (.tuple #[]) ∧ Sh w.heap.size b g n w.heap.size (swp (nvD cs n k).1 k j) (cs.drop (k + 1)) f2 w' ∧ Below w.heap.size wr w') := by
        refine ⟨_, _, nvD_step cs n k, ?_⟩
        have hd := drop_cons (cs := cs) (k := k) (by have := HM.out; omega)
        exact exch_any _ _ _ _ _ _ _ _ _ k _ wr (by rw [← hd]; exact HK.out) (by omega) (by omega)
      obtain ⟨j, f2, HE1, HE2⟩ := HE.out
      replace HE1 := Lib.hid HE1
      replace HE2 := Lib.hid HE2
      clear HK HE
      go_wp2_with fail
      refine (HE2.out).mono ?_
      rintro e w2 ⟨rfl, hs, hb⟩
      have HK2 : Hid (Sh w.heap.size b g n w.heap.size (nvD cs n (k + 1)).1 (cs.drop (k + 1)) (nvD cs n (k + 1)).2 w2) := by
        unfold Hid
        rw [HE1.out]
        exact hs
      have HB2 : Hid (Below w.heap.size w w2) := HBl.out.trans hb
      clear hs hb HE2 HBl
      go_wp2
      go_roundw
      case rel => exact ⟨k + 1, by omega, by go_num, HK2, HB2⟩
      case measure => first | (simp [intOf]; done) | (simp [intOf]; omega)
    · obtain rfl : k = n := by omega
      obtain ⟨⟨c0, c1⟩, hcr, hrw, _⟩ := HK.out
      have HC : Hid (∀ n, Calls Try.prog 60 #[.pointer (some ⟨b, 1, none⟩), .slice (some ⟨g, 0, none⟩) k k] (wr.drewN n) fun e w' => e = .returned (.tuple #[pickL (nvD cs k k).2 (.slice (some ⟨g, 0, none⟩) k k), .bool (!(nvD cs k k).2)]) ∧ wr.drewN n = w') := fun n => chosen_any b 1 _ _ _ _ (wr.drewN n) (hcr.drewN n)
      have HRW := Lib.hid hrw
      clear HK hcr hrw
      obtain ⟨fl, hfl⟩ : ∃ fl, (nvD cs k k).2 = fl := ⟨_, rfl⟩
      rw [hfl] at HC
      have HF := Lib.hid hfl
      clear hfl
      go_wp2
      go_quiet ((go_at_call 60; exact quietG (HC.out _)))
      go_wp2
      go_ret2
      rw [HF.out]
      exact ⟨g, rfl, HRW.out.drewN _, below_drewN HBl.out _⟩
theorem naive_no (a : Option Addr) (n cap : Nat) (w : World) (hn : n ≤ 1048576) (h : ¬ (1 ≤ n ∧ n ≤ 12)) :
    Calls Try.prog 24 #[.slice a n cap] w fun e w' => e = .returned (.tuple #[.slice none 0 0, .bool false]) ∧ w = w' := by
  have HS : Hid (∀ W : World, Calls Try.prog 58 #[.int .i64 n, .slice a n cap] W fun e w' => e = .returned (.tuple #[.pointer none, .bool false]) ∧ W = w') := fun W => shuffleOf_no n _ W (by omega)
  clear h
  go_enter Try.func24, Try.ntmps24
  go_wp2_with fail
  refine (HS.out _).mono ?_
  rintro e w1 ⟨rfl, rfl⟩
  go_wp2
  go_ret2
  exact ⟨rfl, rfl⟩
theorem naive_any (a : Option Addr) (n cap : Nat) (cs : List Int) (w : World) (h : RO w.heap.size w a cs) (hn : cs.length = n) (hl : n ≤ 1048576) (hc : n ≤ cap) :
    Calls Try.prog 24 #[.slice a n cap] w (ListRet w (nvRes cs).1 (nvRes cs).2) := by
  by_cases h1 : 1 ≤ n ∧ n ≤ 12
  · refine (naive_yes a n cap cs w h hn hc h1.1 h1.2).mono ?_
    rintro e w' ⟨g, he, hr, hb⟩
    have := listRet_pick he hr (Nat.le_refl _) hb
    unfold nvRes
    rw [hn]
    cases hf : (nvD cs n n).2
    · rw [if_pos ⟨h1, rfl⟩]
      rw [hf] at this
      exact this
    · rw [if_neg (fun y => by cases y.2)]
      rw [hf] at this
      exact this
  · refine (naive_no a n cap w hl h1).mono ?_
    rintro e w' ⟨he, rfl⟩
    unfold nvRes
    rw [hn, if_neg (fun y => h1 y.1)]
    exact ⟨_, he, .inl ⟨rfl, rfl⟩, Below.refl _ _⟩
theorem l07Naive_any (a : Option Addr) (n cap : Nat) (cs : List Int) (w : World) (h : RO w.heap.size w a cs) (hn : cs.length = n) (h2 : n ≤ 12) (hin : ∀ (i : Nat) (x : Int), cs[i]? = some x → 0 ≤ x ∧ x ≤ (n : Int) - 1) :
    Calls Try.prog 57 #[.slice a n cap] w fun e w' => ∃ g c, e = .returned (.slice (some ⟨g, 0, none⟩) n c) ∧ Rw w.heap.size g n c (nvD cs n n).1 w' ∧ Below w.heap.size w w' := by
  have HM := Lib.hid hn
  have HR := Lib.hid h
  have HIN := Lib.hid hin
  have HF : Hid (∀ W : World, Calls Try.prog 48 #[.int .i64 n] W fun e w' => ∃ g cap, e = .returned (.slice (some ⟨g, 0, none⟩) n cap) ∧ Rw W.heap.size g n cap (asc n) w' ∧ Below W.heap.size W w') := fun W => first_any n W h2
  clear h hn hin
  go_enter Try.func57, Try.ntmps57
  go_wp2_with fail
  refine (HF.out _).mono ?_
  rintro e w1 ⟨g, c, rfl, hs, hb⟩
  have HS1 := Lib.hid hs
  have HB1 := Lib.hid hb
  clear hs hb HF
  go_wp2_with fail
  go_loopw [4] (fun iv wr => ∃ k : Nat, k ≤ n ∧ iv = .int .i64 k ∧ Hid (Rw w.heap.size g n c (nvD cs n k).1 wr) ∧ Hid (Below w.heap.size w wr)) (fun iv _ => n - (intOf iv).toNat)
  case atStart => exact ⟨0, Nat.zero_le _, rfl, HS1, HB1⟩
  case round =>
    obtain ⟨k, hk, rfl, HK, HBl⟩ := hrel
    clear HS1 HB1
    by_cases hlt : k < n
    · obtain ⟨x, hx⟩ : ∃ x, cs[k]? = some x := ⟨_, List.getElem?_eq_getElem (by have := HM.out; omega)⟩
      obtain ⟨g0, off, rfl, hg0, hc0⟩ := HR.out k x hx
      have hc := (HBl.out.cell (p := ⟨g0, off + k, none⟩) hg0).trans hc0
      have hx2 := HIN.out k x hx
      have e := nvD_step cs n k
      have hxd : cs.getD k 0 = x := by rw [List.getD_eq_getElem?_getD, hx]; rfl
      rw [hxd, if_pos hx2, if_pos hx2] at e
      obtain ⟨X, rfl⟩ := Int.eq_ofNat_of_zero_le hx2.1
      rw [Int.toNat_natCast] at e
      have HE := Lib.hid e
      have hXm : X < n := by omega
      have HSW := Lib.hid (l07Swap_any w.heap.size g n c k X (nvD cs n k).1 wr HK.out hlt hXm)
      clear hc0 hx hxd hx2 e
      go_wp2_with (go_at_call 49; with_reducible refine (HSW.out).mono ?_; rintro e w2 ⟨rfl, hs, hgr⟩)
      have hz := HBl.out.size
      have hgB := HK.out.le
      have HK2 : Hid (Rw w.heap.size g n c (nvD cs n (k + 1)).1 w2) := by
        unfold Hid
        rw [HE.out]
        exact hs
      have HB2 : Hid (Below w.heap.size w w2) := HBl.out.grown hgr hz (fun q e => by cases e; exact hgB)
      clear hs hgr HSW HBl HK
      go_roundw
      case rel => exact ⟨k + 1, by omega, by go_num, HK2, HB2⟩
      case measure => first | (simp [intOf]; done) | (simp [intOf]; omega)
    · obtain rfl : k = n := by omega
      go_wp2
      go_ret
      exact ⟨g, c, rfl, HK.out, HBl.out⟩
theorem specNaive_any (a : Option Addr) (n cap : Nat) (cs : List Int) (w : World) (h : RO w.heap.size w a cs) (hn : cs.length = n) (hl : n ≤ 1048576) :
    Calls Try.prog 23 #[.slice a n cap] w (ListRet w (nvRes cs).1 (nvRes cs).2) := by
  have HM := Lib.hid hn
  have HR := Lib.hid h
  by_cases h1 : 1 ≤ n ∧ n ≤ 12
  · obtain ⟨h2, h3⟩ := h1
    have HI : Hid (∀ W : World, Calls Try.prog 56 #[.int .i64 n, .int .i64 1, .int .i64 12] W fun e w' => e = .returned (.bool true) ∧ W = w') := fun W => l00In_yes _ _ _ _ (by omega) (by omega)
    have HN : Hid ((∀ (i : Nat) (x : Int), cs[i]? = some x → 0 ≤ x ∧ x ≤ (n : Int) - 1) → Calls Try.prog 57 #[.slice a n cap] w fun e w' => ∃ g c, e = .returned (.slice (some ⟨g, 0, none⟩) n c) ∧ Rw w.heap.size g n c (nvD cs n n).1 w' ∧ Below w.heap.size w w') := fun hin => l07Naive_any a n cap cs w h hn h3 hin
    have HY : Hid ((∀ (i : Nat) (x : Int), cs[i]? = some x → 0 ≤ x ∧ x ≤ (n : Int) - 1) → nvRes cs = ((nvD cs n n).1, true)) := fun hin => by
      unfold nvRes
      rw [hn, if_pos ⟨⟨h2, h3⟩, nvD_ok hin n (by omega)⟩]
    have HNo : Hid (∀ (i : Nat) (x : Int), cs[i]? = some x → ¬ (0 ≤ x ∧ x ≤ (n : Int) - 1) → nvRes cs = ([], false)) := fun i x hx hno => by
      have hi := (List.getElem?_eq_some_iff.1 hx).1
      unfold nvRes
      rw [hn, if_neg (fun y => by rw [nvD_bad hx hno n (by omega)] at y; cases y.2)]
    generalize nvRes cs = r at HY HNo ⊢
    clear h hn
    go_enter Try.func23, Try.ntmps23
    go_wp2_with fail
    refine (HI.out _).mono ?_
    rintro e w1 ⟨rfl, rfl⟩
    go_wp2_with fail
    go_loop [5] (fun iv => ∃ k : Nat, k ≤ n ∧ iv = .int .i64 k ∧ Hid (∀ (i : Nat) (x : Int), i < k → cs[i]? = some x → 0 ≤ x ∧ x ≤ (n : Int) - 1)) (fun iv => n - (intOf iv).toNat)
    case atStart => exact ⟨0, Nat.zero_le _, rfl, fun i x hi _ => by omega⟩
    case round =>
      obtain ⟨k, hk, rfl, HK⟩ := hrel
      by_cases hlt : k < n
      · obtain ⟨x, hx⟩ : ∃ x, cs[k]? = some x := ⟨_, List.getElem?_eq_getElem (by have := HM.out; omega)⟩
        obtain ⟨g0, off, rfl, hg0, hc⟩ := HR.out k x hx
        have HX := Lib.hid hx
        clear hx
        by_cases hin : 0 ≤ x ∧ x ≤ (n : Int) - 1
        · have HJ : Hid (∀ W : World, Calls Try.prog 56 #[.int .i64 x, .int .i64 0, .int .i64 ((n : Int) - 1)] W fun e w' => e = .returned (.bool true) ∧ W = w') := fun W => l00In_yes _ _ _ _ hin.1 hin.2
          have HIN := Lib.hid hin
          clear hin
          go_wp2_with (go_at_call 56; with_reducible refine (HJ.out _).mono ?_; rintro e w1 ⟨rfl, rfl⟩)
          go_round
          case rel =>
            refine ⟨k + 1, by omega, by go_num, fun i y hi hy => ?_⟩
            by_cases e : i = k
            · subst e
              rw [HX.out] at hy
              cases hy
              exact HIN.out
            · exact HK.out i y (by omega) hy
          case measure => first | (simp [intOf]; done) | (simp [intOf]; omega)
        · have HJ : Hid (∀ W : World, Calls Try.prog 56 #[.int .i64 x, .int .i64 0, .int .i64 ((n : Int) - 1)] W fun e w' => e = .returned (.bool false) ∧ W = w') := fun W => l00In_no _ _ _ _ hin
          obtain rfl := HNo.out k x HX.out hin
          clear hin
          go_wp2_with (go_at_call 56; with_reducible refine (HJ.out _).mono ?_; rintro e w1 ⟨rfl, rfl⟩)
          go_ret2
          exact ⟨_, rfl, .inl ⟨rfl, rfl⟩, Below.refl _ _⟩
      · obtain rfl : k = n := by omega
        have hall : ∀ (i : Nat) (x : Int), cs[i]? = some x → 0 ≤ x ∧ x ≤ (k : Int) - 1 := fun i x hx => HK.out i x (by have := (List.getElem?_eq_some_iff.1 hx).1; have := HM.out; omega) hx
        obtain rfl := HY.out hall
        have HC := Lib.hid (HN.out hall)
        clear hall
        go_wp2_with fail
        refine (HC.out).mono ?_
        rintro e w2 ⟨g, c, rfl, hr, hb⟩
        have HR2 := Lib.hid hr
        have HB2 := Lib.hid hb
        clear hr hb HC
        go_wp2
        go_ret2
        exact ⟨_, rfl, HR2.out.sl, HB2.out⟩
  · have HI : Hid (∀ W : World, Calls Try.prog 56 #[.int .i64 n, .int .i64 1, .int .i64 12] W fun e w' => e = .returned (.bool false) ∧ W = w') := fun W => l00In_no _ _ _ _ (by omega)
    have hr : nvRes cs = ([], false) := by
      unfold nvRes
      rw [hn, if_neg (fun y => h1 y.1)]
    rw [hr]
    clear h hn h1 hr
    go_enter Try.func23, Try.ntmps23
    go_wp2_with fail
    refine (HI.out _).mono ?_
    rintro e w1 ⟨rfl, rfl⟩
    go_wp2
    go_ret2
    exact ⟨_, rfl, .inl ⟨rfl, rfl⟩, Below.refl _ _⟩
theorem lawNaiveBy (a : Option Addr) (n cap : Nat) (zs : List Int) (w : World) (h : RowIn .i64 w a n zs) :
    Calls Try.prog 5 #[.slice a n cap] w fun e w' => e = .returned (.bool true) ∧ Below w.heap.size w w' :=
  lawNaiveBy_any a n cap zs w h fun ys hn hl hr => lawNaiveBy_core a n cap ys (nvRes ys).1 (nvRes ys).2 w hr hn hl (by have := nvRes_length ys; omega) (fun W b c hb _ => specNaive_any b n c ys W hb hn hl) (fun W b c hb hc => naive_any b n c ys W hb hn hl hc)
end Go.Proofs.Ytjbojamhnapkpab
