/- Samples: impl.SampleBy, spec.SampleBy, the law. -/
import Derived.Test.YtjbojamhnapkpacS7P
import Derived.Test.YtjbojamhnapkpacS7F
import Derived.Test.YtjbojamhnapkpacL7
import Derived.Test.YtjbojamhnapkpacShelf
import Derived.Sort.OwnSortedInts
namespace Go.Proofs.Ytjbojamhnapkpac
open Go.RowKit Go.PlainAid
set_option maxHeartbeats 800000

theorem index8_any (a : Option Addr) (n cap : Nat) (xs : List Int) (x : Int) (w : World) (h : RO w.heap.size w a xs) (hn : xs.length = n) (hl : n ≤ 1048576) (r : Bool) (hr : xs.contains x = r) :
    Calls Try.prog 37 #[.slice a n cap, .int .i64 x] w fun e w' => ∃ i : Int, e = .returned (.int .i64 i) ∧ decide (0 ≤ i) = r ∧ w = w' := by
  have HB := Lib.hid hr
  have HR := Lib.hid h
  have HN := Lib.hid hn
  clear h hn hr
  go_enter Try.func37, Try.ntmps37
  go_wp2
  go_loop [5, 8] (fun _ iv => ∃ k : Nat, k ≤ n ∧ iv = .int .i64 k ∧ Hid (∀ i, i < k → xs[i]? ≠ some x)) (fun _ iv => n - (intOf iv).toNat)
  case atStart => exact ⟨0, Nat.zero_le _, rfl, fun i hi => by omega⟩
  case round =>
    obtain ⟨k, hk, rfl, HK⟩ := hrel
    by_cases hlt : k < n
    · obtain ⟨y, hy⟩ : ∃ y, xs[k]? = some y := ⟨_, List.getElem?_eq_getElem (by have := HN.out; omega)⟩
      obtain ⟨g, off, rfl, hg, hc⟩ := HR.out k y hy
      by_cases e : x = y
      · subst e
        have t1 : (x == x) = true := by simp
        obtain rfl : r = true := by
          rw [← HB.out, List.contains_iff_mem]
          exact List.mem_of_getElem? hy
        clear hy
        go_wp2
        go_ret
        exact ⟨_, rfl, by simp, rfl⟩
      · have t1 : (x == y) = false := by
          rw [beq_eq_false_iff_ne]
          exact e
        have HK2 : Hid (∀ i, i < k + 1 → xs[i]? ≠ some x) := fun i hi => by
          rcases Nat.lt_succ_iff_lt_or_eq.1 hi with h | h
          · exact HK.out i h
          · subst h
            rw [hy]
            intro e2
            exact e (Option.some.inj e2).symm
        clear hy HK
        go_wp2
        go_round
        case rel => exact ⟨k + 1, by omega, by go_num, HK2⟩
        case measure => first | (simp [intOf]; done) | (simp [intOf]; omega)
    · obtain rfl : k = n := by omega
      obtain rfl : r = false := by
        rw [← HB.out, Bool.eq_false_iff]
        intro e
        rw [List.contains_iff_mem] at e
        obtain ⟨i, hi, e2⟩ := List.mem_iff_getElem.1 e
        exact HK.out i (by have := HN.out; omega) (by rw [List.getElem?_eq_getElem hi, e2])
      go_wp2
      go_ret
      exact ⟨_, rfl, by decide, rfl⟩
theorem contains8_any (a : Option Addr) (n cap : Nat) (xs : List Int) (x : Int) (w : World) (h : RO w.heap.size w a xs) (hn : xs.length = n) (hl : n ≤ 1048576) (r : Bool) (hr : xs.contains x = r) :
    Calls Try.prog 28 #[.slice a n cap, .int .i64 x] w fun e w' => e = .returned (.bool r) ∧ w = w' := by
  have HI := Lib.hid (index8_any a n cap xs x w h hn hl r hr)
  clear h hn hr hl
  go_enter Try.func28, Try.ntmps28
  go_wp2_with fail
  refine (HI.out).mono ?_
  rintro e w1 ⟨i, rfl, hi, rfl⟩
  go_wp2
  go_ret
  exact ⟨rfl, rfl⟩
theorem Rw.block8 {B g n cap : Nat} {xs : List Int} {w : World} (h : Rw B g n cap xs w) : ∃ cur : Array Value, w.heap[g]? = some (.cells cur 2 (0, 0)) ∧ B ≤ g ∧ n ≤ cap ∧ cap ≤ maxLen ∧ cur.size = cap * 1 ∧ cur.toList.take n = xs.map (Value.int .i64) := by
  obtain ⟨_, ⟨h, _⟩ | ⟨g', cap', cur, hv, hg, hh, h1, h2, h3, h4⟩⟩ := h
  · cases h
  · cases hv
    exact ⟨cur, hh, hg, h1, h2, h3, by rw [Nat.mul_one] at h4; exact h4⟩
theorem sort8_any (B g n cap : Nat) (xs : List Int) (w : World) (h : Rw B g n cap xs w) (hn : n ≤ 64) :
    Calls Try.prog 29 #[.slice (some ⟨g, 0, none⟩) n cap] w fun e w' => e = .returned (.tuple #[]) ∧ Rw B g n cap (sortA xs) w' ∧ w.grownBy w' (some g) := by
  have hx := h.len
  have hlt := h.lt
  obtain ⟨cur, hh, hg, h1, h2, h3, h4⟩ := h.block8
  have := Try.slices_Sort g 0 cap xs w (holds_of_blockI hh (by rw [hx]; exact h4)) hlt (by omega)
  rw [hx, merge_sortA] at this
  refine this.mono ?_
  rintro e w' ⟨he, m, os, rfl⟩
  have a1 := ownsRow_sortedI (n := m) (os := os) (ss := xs) (ts := sortA xs) (by rw [sortA_length]) hg hh (by omega) h2 h3
  rw [hx] at a1
  exact ⟨he, a1, grownBy_sortedI _⟩
set_option maxRecDepth 10000 in
theorem put_any (B g n cap : Nat) (xs : List Int) (x : Int) (w : World) (h : Rw B g n cap xs w) (hn : n ≤ 64) (hx : x ∉ xs) :
    Calls Try.prog 27 #[.slice (some ⟨g, 0, none⟩) n cap, .int .i64 x] w fun e w' => ∃ g2 cap2, e = .returned (.slice (some ⟨g2, 0, none⟩) (n + 1) cap2) ∧ Rw w.heap.size g2 (n + 1) cap2 (insA x xs) w' ∧ Below w.heap.size w w' := by
  obtain ⟨i0, hi, hz0, hz1, hz2⟩ := info_parts Try.info2
  have HX := Lib.hid hx
  have HN := Lib.hid h.len
  have HR := Lib.hid h
  have hgw := h.lt
  have HO : Hid (Rw w.heap.size w.heap.size 0 0 (pt x (xs.take 0)) (w.alloc (.cells #[] 2)) ∧ Below w.heap.size w (w.alloc (.cells #[] 2))) := ⟨Rw.empty w, (Below.refl _ _).alloc (Nat.le_refl _) _⟩
  clear h hx
  go_enter Try.func27, Try.ntmps27
  go_wp2_with fail
  go_loopw [5, 6, 7] (fun ov dv iv wr => ∃ k L go oc : Nat, ∃ b : Bool, k ≤ n ∧ L ≤ k + 1 ∧ iv = .int .i64 k ∧ dv = .bool b ∧ ov = .slice (some ⟨go, 0, none⟩) L oc ∧ Hid (dn x (xs.take k) = b) ∧ Hid (Rw w.heap.size go L oc (pt x (xs.take k)) wr ∧ Below w.heap.size w wr)) (fun _ _ iv _ => n - (intOf iv).toNat)
  case atStart => exact ⟨0, 0, _, _, false, Nat.zero_le _, by omega, rfl, rfl, rfl, rfl, HO⟩
  case round =>
    obtain ⟨k, L, go, oc, b, hk, hL, rfl, rfl, rfl, HD, HS⟩ := hrel
    clear HO
    have hlen := HS.out.1.len
    by_cases hlt : k < n
    · obtain ⟨y, hy⟩ : ∃ y, xs[k]? = some y := ⟨_, List.getElem?_eq_getElem (by have := HN.out; omega)⟩
      have hcc := HR.out.cell hlt
      rw [List.getD_eq_getElem?_getD, hy, Option.getD_some] at hcc
      have hcy0 := (HS.out.2.cell (p := ⟨g, k, none⟩) hgw).trans hcc
      have HT : Hid (xs.take (k + 1) = xs.take k ++ [y]) := by unfold Hid; rw [List.take_add_one, hy]; rfl
      have hne : ¬ y = x := fun e => HX.out (by rw [← e]; exact List.mem_of_getElem? hy)
      have hsz0 := HS.out.2.size
      clear hy
      cases b
      · by_cases hyx : x < y
        · have q1 : x ≤ y := by omega
          have HD2 : Hid (dn x (xs.take (k + 1)) = true) := by unfold Hid; rw [HT.out, dn_snoc, HD.out, decide_eq_true hyx]; rfl
          have HP : Hid (pt x (xs.take (k + 1)) = (pt x (xs.take k) ++ [x]) ++ [y]) := by unfold Hid; rw [HT.out, pt_now HD.out hyx]
          have hl0 : L ≤ k := by
            have : pt x (xs.take k) = xs.take k := by unfold pt; rw [HD.out]; rfl
            rw [this, List.length_take] at hlen
            omega
          clear hlen
          go_wp2_with (first | (at_builtin; refine wpList_append_own_at _ rfl _ _ 22 rfl w.heap.size 2 i0 (.int .i64 0) 1 8 Try.underlying22 hi hz0 hz1 hz2 rfl (by decide) _ _ _ rfl (World.ownsRow.alloc (HS.out.1) _) ⟨wr.heap.size, 0, none⟩ 1 1 [.int .i64 x] rfl rfl (cell_one_new _ _ _) (by intro u hu; simp at hu; subst hu; rfl) (by unfold maxLen; omega) (by omega) (by first | (simp; done) | (simp; omega)) ?_; intro v1 w1 hown1 hgrow1 hnil1 hat1; obtain ⟨g1, cap1, rfl, hr1, hg1, hgr1⟩ := Rw.app HS.out.1 hown1 hgrow1 hat1; have HR1 := Lib.hid (And.intro hr1 (HS.out.2.grown hgr1 HS.out.2.size (fun q e => by cases e; exact HS.out.1.le))); have hsz1 := HR1.out.2.size; have hcy := (HR1.out.2.cell (p := ⟨g, k, none⟩) hgw).trans hcc; clear hown1 hgrow1 hnil1 hat1 hr1 hg1 hgr1) | (at_builtin; refine wpList_append_own_at _ rfl _ _ 22 rfl w.heap.size 2 i0 (.int .i64 0) 1 8 Try.underlying22 hi hz0 hz1 hz2 rfl (by decide) _ _ _ rfl (World.ownsRow.alloc (HR1.out.1) _) ⟨w1.heap.size, 0, none⟩ 1 1 [.int .i64 y] rfl rfl (cell_one_new _ _ _) (by intro u hu; simp at hu; subst hu; rfl) (by unfold maxLen; omega) (by omega) (by first | (simp; done) | (simp; omega)) ?_; intro v2 w2 hown2 hgrow2 hnil2 hat2; obtain ⟨g2, cap2, rfl, hr2, hg2, hgr2⟩ := Rw.app HR1.out.1 hown2 hgrow2 hat2; have HR2 := Lib.hid (And.intro hr2 (HR1.out.2.grown hgr2 HR1.out.2.size (fun q e => by cases e; exact HR1.out.1.le))); have hsz2 := HR2.out.2.size; have hcy := (HR2.out.2.cell (p := ⟨g, k, none⟩) hgw).trans hcc; clear hown2 hgrow2 hnil2 hat2 hr2 hg2 hgr2))
          rw [← HP.out] at HR2
          clear HR1
          go_roundw
          case rel => exact ⟨k + 1, L + 1 + 1, g2, cap2, true, by omega, by omega, by first | rfl | go_num, by first | rfl | simp, rfl, HD2, HR2⟩
          case measure => first | (simp [intOf]; done) | (simp [intOf]; omega)
        · have q1 : ¬ x ≤ y := by omega
          have HD2 : Hid (dn x (xs.take (k + 1)) = false) := by unfold Hid; rw [HT.out, dn_snoc, HD.out, decide_eq_false hyx]; rfl
          have HP : Hid (pt x (xs.take (k + 1)) = pt x (xs.take k) ++ [y]) := by unfold Hid; rw [HT.out, pt_not HD.out hyx]
          clear hlen
          go_wp2_with (first | (at_builtin; refine wpList_append_own_at _ rfl _ _ 22 rfl w.heap.size 2 i0 (.int .i64 0) 1 8 Try.underlying22 hi hz0 hz1 hz2 rfl (by decide) _ _ _ rfl (World.ownsRow.alloc (HS.out.1) _) ⟨wr.heap.size, 0, none⟩ 1 1 [.int .i64 y] rfl rfl (cell_one_new _ _ _) (by intro u hu; simp at hu; subst hu; rfl) (by unfold maxLen; omega) (by omega) (by first | (simp; done) | (simp; omega)) ?_; intro v1 w1 hown1 hgrow1 hnil1 hat1; obtain ⟨g1, cap1, rfl, hr1, hg1, hgr1⟩ := Rw.app HS.out.1 hown1 hgrow1 hat1; have HR1 := Lib.hid (And.intro hr1 (HS.out.2.grown hgr1 HS.out.2.size (fun q e => by cases e; exact HS.out.1.le))); have hsz1 := HR1.out.2.size; have hcy := (HR1.out.2.cell (p := ⟨g, k, none⟩) hgw).trans hcc; clear hown1 hgrow1 hnil1 hat1 hr1 hg1 hgr1))
          rw [← HP.out] at HR1
          go_roundw
          case rel => exact ⟨k + 1, L + 1, g1, cap1, false, by omega, by omega, by first | rfl | go_num, by first | rfl | simp, rfl, HD2, HR1⟩
          case measure => first | (simp [intOf]; done) | (simp [intOf]; omega)
      · have HD2 : Hid (dn x (xs.take (k + 1)) = true) := by unfold Hid; rw [HT.out, dn_snoc, HD.out]; rfl
        have HP : Hid (pt x (xs.take (k + 1)) = pt x (xs.take k) ++ [y]) := by unfold Hid; rw [HT.out, pt_done HD.out]
        clear hlen
        go_wp2_with (first | (at_builtin; refine wpList_append_own_at _ rfl _ _ 22 rfl w.heap.size 2 i0 (.int .i64 0) 1 8 Try.underlying22 hi hz0 hz1 hz2 rfl (by decide) _ _ _ rfl (World.ownsRow.alloc (HS.out.1) _) ⟨wr.heap.size, 0, none⟩ 1 1 [.int .i64 y] rfl rfl (cell_one_new _ _ _) (by intro u hu; simp at hu; subst hu; rfl) (by unfold maxLen; omega) (by omega) (by first | (simp; done) | (simp; omega)) ?_; intro v1 w1 hown1 hgrow1 hnil1 hat1; obtain ⟨g1, cap1, rfl, hr1, hg1, hgr1⟩ := Rw.app HS.out.1 hown1 hgrow1 hat1; have HR1 := Lib.hid (And.intro hr1 (HS.out.2.grown hgr1 HS.out.2.size (fun q e => by cases e; exact HS.out.1.le))); have hsz1 := HR1.out.2.size; have hcy := (HR1.out.2.cell (p := ⟨g, k, none⟩) hgw).trans hcc; clear hown1 hgrow1 hnil1 hat1 hr1 hg1 hgr1))
        rw [← HP.out] at HR1
        go_roundw
        case rel => exact ⟨k + 1, L + 1, g1, cap1, true, by omega, by omega, by first | rfl | go_num, by first | rfl | simp, rfl, HD2, HR1⟩
        case measure => first | (simp [intOf]; done) | (simp [intOf]; omega)
    · obtain rfl : k = n := by omega
      have ht : xs.take k = xs := List.take_of_length_le (by have := HN.out; omega)
      rw [ht] at HD HS hlen
      have hsz0 := HS.out.2.size
      cases b
      · have HP : Hid (insA x xs = pt x xs ++ [x]) := pt_last HD.out
        have hl0 : L = k := by
          have : pt x xs = xs := by unfold pt; rw [HD.out]; rfl
          rw [this, HN.out] at hlen
          exact hlen.symm
        subst hl0
        clear hlen ht hlt
        go_wp2_with (first | (at_builtin; refine wpList_append_own_at _ rfl _ _ 22 rfl w.heap.size 2 i0 (.int .i64 0) 1 8 Try.underlying22 hi hz0 hz1 hz2 rfl (by decide) _ _ _ rfl (World.ownsRow.alloc (HS.out.1) _) ⟨wr.heap.size, 0, none⟩ 1 1 [.int .i64 x] rfl rfl (cell_one_new _ _ _) (by intro u hu; simp at hu; subst hu; rfl) (by unfold maxLen; omega) (by omega) (by first | (simp; done) | (simp; omega)) ?_; intro v1 w1 hown1 hgrow1 hnil1 hat1; obtain ⟨g1, cap1, rfl, hr1, hg1, hgr1⟩ := Rw.app HS.out.1 hown1 hgrow1 hat1; have HR1 := Lib.hid (And.intro hr1 (HS.out.2.grown hgr1 HS.out.2.size (fun q e => by cases e; exact HS.out.1.le))); have hsz1 := HR1.out.2.size; clear hown1 hgrow1 hnil1 hat1 hr1 hg1 hgr1))
        rw [← HP.out] at HR1
        go_ret
        exact ⟨_, _, rfl, HR1.out.1, HR1.out.2⟩
      · have HP : Hid (insA x xs = pt x xs) := pt_end HD.out
        have hl0 : L = k + 1 := by
          rw [← HP.out, insA_length, HN.out] at hlen
          exact hlen.symm
        subst hl0
        rw [← HP.out] at HS
        clear hlen ht hlt
        go_wp2
        go_ret
        exact ⟨_, _, rfl, HS.out.1, HS.out.2⟩
theorem many8_b (n : Int) (b : Bool) (w : World) (h : decide (1 ≤ n ∧ n ≤ 12) = b) :
    Calls Try.prog 19 #[.int .i64 n] w fun e w' => e = .returned (.bool b) ∧ w = w' := by
  have HI : Hid (∀ W : World, Calls Try.prog 21 #[.int .i64 n, .int .i64 1, .int .i64 12] W fun e w' => e = .returned (.bool b) ∧ W = w') := fun W => l00In_b _ _ _ _ h W
  clear h
  go_enter Try.func19, Try.ntmps19
  go_wp2_with fail
  refine (HI.out _).mono ?_
  rintro e w1 ⟨rfl, rfl⟩
  go_wp2
  go_ret
  exact ⟨rfl, rfl⟩
set_option maxRecDepth 10000 in
theorem specSample_yes (n : Nat) (a : Option Addr) (m cap : Nat) (cs : List Int) (w : World) (h : RO w.heap.size w a cs) (hm : cs.length = m) (h1 : 1 ≤ n) (h2 : n ≤ 12) (h3 : m ≤ n) :
    Calls Try.prog 13 #[.int .i64 n, .slice a m cap] w (ListRet w (orNil (sortA (smD n cs m).1, (smD n cs m).2)) (!(smD n cs m).2)) := by
  have HM := Lib.hid hm
  have HR := Lib.hid h
  have HI : Hid (∀ W : World, Calls Try.prog 19 #[.int .i64 n] W fun e w' => e = .returned (.bool true) ∧ W = w') := fun W => many8_b n true W (decide_eq_true (by omega))
  have HV0 : Hid ((Rw w.heap.size w.heap.size 0 0 (sortA (smD n cs 0).1) (w.alloc (.cells #[] 2)) ∧ (smD n cs 0).2 = false) ∧ Below w.heap.size w (w.alloc (.cells #[] 2))) := ⟨⟨Rw.empty w, rfl⟩, (Below.refl _ _).alloc (Nat.le_refl _) _⟩
  obtain ⟨D, hD⟩ : ∃ D, n - m = D := ⟨_, rfl⟩
  have hD2 : (n : Int) - (m : Int) = (D : Int) := by omega
  have HDD := Lib.hid hD
  have h4 : ¬ n < m := by omega
  clear h hm hD
  go_enter Try.func13, Try.ntmps13
  go_wp2_with (go_at_call 19; with_reducible refine (HI.out _).mono ?_; rintro e w1 ⟨rfl, rfl⟩)
  go_loopw [7, 8] (fun ov iv wr => ∃ k g c : Nat, k ≤ m ∧ iv = .int .i64 k ∧ ov = .slice (some ⟨g, 0, none⟩) k c ∧ Hid ((Rw w.heap.size g k c (sortA (smD n cs k).1) wr ∧ (smD n cs k).2 = false) ∧ Below w.heap.size w wr)) (fun _ iv _ => m - (intOf iv).toNat)
  case atStart => exact ⟨0, _, _, Nat.zero_le _, rfl, rfl, HV0⟩
  case round =>
    obtain ⟨k, g, c, hk, rfl, rfl, HV⟩ := hrel
    clear HV0
    by_cases hlt : k < m
    · obtain ⟨x, hx⟩ : ∃ x, cs[k]? = some x := ⟨_, List.getElem?_eq_getElem (by have := HM.out; omega)⟩
      obtain ⟨g0, off, rfl, hg0, hc0⟩ := HR.out k x hx
      have hc := (HV.out.2.cell (p := ⟨g0, off + k, none⟩) hg0).trans hc0
      have hxd : cs.getD k 0 = x := by rw [List.getD_eq_getElem?_getD, hx]; rfl
      have hj : ((n - cs.length + k : Nat) : Int) = (D : Int) + k := by have := HDD.out; have := HM.out; omega
      have hlen := HV.out.1.1.len
      by_cases hin : 0 ≤ x ∧ x ≤ (D : Int) + k
      · have HJ : Hid (∀ W : World, Calls Try.prog 21 #[.int .i64 x, .int .i64 0, .int .i64 ((D : Int) + k)] W fun e w' => e = .returned (.bool true) ∧ W = w') := fun W => l00In_yes _ _ _ W hin.1 hin.2
        obtain ⟨r, hr⟩ : ∃ r, (sortA (smD n cs k).1).contains x = r := ⟨_, rfl⟩
        have HH := Lib.hid (has_any (some ⟨g, 0, none⟩) k c (sortA (smD n cs k).1) x wr HV.out.1.1.ro hlen (by omega) r hr)
        obtain ⟨y, hy⟩ : ∃ y, smX (smD n cs k).1 x ((D : Int) + k) = y := ⟨_, rfl⟩
        have hyn : y ∉ sortA (smD n cs k).1 := by
          rw [sortA_mem, ← hy]
          exact smX_new n k cs x _ hj
        have HP := Lib.hid (put_any w.heap.size g k c (sortA (smD n cs k).1) y wr HV.out.1.1 (by omega) hyn)
        have HE : Hid (smD n cs (k + 1) = ((smD n cs k).1 ++ [y], (smD n cs k).2)) := by
          unfold Hid
          rw [smD_yes hxd hj hin, hy]
        rw [sortA_has] at hr
        have hzz := HV.out.2.size
        clear hc0 hx hxd hj hlen hyn hin
        cases r
        · have hyx : y = x := by rw [← hy]; unfold smX; rw [hr]; rfl
          subst hyx
          clear hy hr
          go_wp2_with (first | (go_at_call 21; with_reducible refine (HJ.out _).mono ?_; rintro e w2 ⟨rfl, rfl⟩) | (go_at_call 26; with_reducible refine (HH.out).mono ?_; rintro e w2 ⟨rfl, rfl⟩) | (go_at_call 27; with_reducible refine (HP.out).mono ?_; rintro e w2 ⟨g2, c2, rfl, hp, hb⟩))
          have HV4 : Hid ((Rw w.heap.size g2 (k + 1) c2 (sortA (smD n cs (k + 1)).1) w2 ∧ (smD n cs (k + 1)).2 = false) ∧ Below w.heap.size w w2) := by
            unfold Hid
            rw [HE.out, sortA_snoc]
            exact ⟨⟨hp.base hzz, HV.out.1.2⟩, HV.out.2.trans (hb.mono hzz)⟩
          clear hp hb HH HP HV
          go_roundw
          case rel => exact ⟨k + 1, g2, c2, by omega, by go_num, by first | rfl | go_num, HV4⟩
          case measure => first | (simp [intOf]; done) | (simp [intOf]; omega)
        · have hyx : y = (D : Int) + k := by rw [← hy]; unfold smX; rw [hr]; rfl
          subst hyx
          clear hy hr
          go_wp2_with (first | (go_at_call 21; with_reducible refine (HJ.out _).mono ?_; rintro e w2 ⟨rfl, rfl⟩) | (go_at_call 26; with_reducible refine (HH.out).mono ?_; rintro e w2 ⟨rfl, rfl⟩) | (go_at_call 27; with_reducible refine (HP.out).mono ?_; rintro e w2 ⟨g2, c2, rfl, hp, hb⟩))
          have HV4 : Hid ((Rw w.heap.size g2 (k + 1) c2 (sortA (smD n cs (k + 1)).1) w2 ∧ (smD n cs (k + 1)).2 = false) ∧ Below w.heap.size w w2) := by
            unfold Hid
            rw [HE.out, sortA_snoc]
            exact ⟨⟨hp.base hzz, HV.out.1.2⟩, HV.out.2.trans (hb.mono hzz)⟩
          clear hp hb HH HP HV
          go_roundw
          case rel => exact ⟨k + 1, g2, c2, by omega, by go_num, by first | rfl | go_num, HV4⟩
          case measure => first | (simp [intOf]; done) | (simp [intOf]; omega)
      · have HJ : Hid (∀ W : World, Calls Try.prog 21 #[.int .i64 x, .int .i64 0, .int .i64 ((D : Int) + k)] W fun e w' => e = .returned (.bool false) ∧ W = w') := fun W => l00In_no _ _ _ W hin
        have HE : Hid ((smD n cs m).2 = true) := by
          have := smD_fail (n := n) (cs := cs) (k := k + 1) (by rw [smD_no hxd hj hin]) (m - (k + 1))
          rwa [show k + 1 + (m - (k + 1)) = m by omega] at this
        clear hin hc0 hx hxd hj hlen
        go_wp2_with (go_at_call 21; with_reducible refine (HJ.out _).mono ?_; rintro e w2 ⟨rfl, rfl⟩)
        go_ret2
        rw [orNil_no (s := (sortA (smD n cs m).1, (smD n cs m).2)) HE.out, HE.out]
        exact ⟨_, rfl, .inl ⟨rfl, rfl⟩, HV.out.2⟩
    · obtain rfl : k = m := by omega
      have HE : Hid ((smD n cs k).2 = false) := HV.out.1.2
      go_wp2
      go_ret2
      rw [orNil_yes (s := (sortA (smD n cs k).1, (smD n cs k).2)) HE.out, HE.out]
      exact ⟨_, rfl, HV.out.1.1.sl, HV.out.2⟩
theorem specSample_no (n : Int) (a : Option Addr) (m cap : Nat) (w : World) (h : ¬ ((1 ≤ n ∧ n ≤ 12) ∧ m ≤ n)) :
    Calls Try.prog 13 #[.int .i64 n, .slice a m cap] w (ListRet w [] false) := by
  by_cases h1 : 1 ≤ n ∧ n ≤ 12
  · have HI : Hid (∀ W : World, Calls Try.prog 19 #[.int .i64 n] W fun e w' => e = .returned (.bool true) ∧ W = w') := fun W => many8_b n true W (decide_eq_true h1)
    have hm : ¬ (m : Int) ≤ n := fun y => h ⟨h1, y⟩
    clear h h1
    go_enter Try.func13, Try.ntmps13
    go_wp2_with (go_at_call 19; with_reducible refine (HI.out _).mono ?_; rintro e w1 ⟨rfl, rfl⟩)
    go_ret2
    exact ⟨_, rfl, .inl ⟨rfl, rfl⟩, Below.refl _ _⟩
  · have HI : Hid (∀ W : World, Calls Try.prog 19 #[.int .i64 n] W fun e w' => e = .returned (.bool false) ∧ W = w') := fun W => many8_b n false W (decide_eq_false h1)
    clear h h1
    go_enter Try.func13, Try.ntmps13
    go_wp2_with (go_at_call 19; with_reducible refine (HI.out _).mono ?_; rintro e w1 ⟨rfl, rfl⟩)
    go_ret2
    exact ⟨_, rfl, .inl ⟨rfl, rfl⟩, Below.refl _ _⟩
/-- a reader, and a list that grows -/
def Sv (B b g k c top : Nat) (xs cs : List Int) (f : Bool) (w W : World) : Prop := CR b 0 top cs f W ∧ Rw B g k c xs W ∧ g ≠ b ∧ top ≤ B ∧ B ≤ b ∧ Below B w W
theorem Sv.took {B b g k c top : Nat} {xs cs cs2 : List Int} {f f2 : Bool} {w W W2 : World} (h : Sv B b g k c top xs cs f w W) (hc : CR b 0 top cs2 f2 W2) (hg : W.grownBy W2 (some b)) : Sv B b g k c top xs cs2 f2 w W2 := by
  obtain ⟨h1, h2, h3, h4, h5, h6⟩ := h
  have hl := h1.lt
  exact ⟨hc, h2.grown hg (by simp; omega), h3, h4, h5, h6.grown hg (by omega) (fun q e => by cases e; exact h5)⟩
theorem Sv.app {B b g k c top g1 c1 : Nat} {xs cs : List Int} {f : Bool} {w W W1 : World} {y : Int} (h : Sv B b g k c top xs cs f w W) (hr : Rw B g1 (k + 1) c1 (xs ++ [y]) W1) (hg1 : g1 = g ∨ g1 = W.heap.size + 1) (hg : W.grownBy W1 (some g)) : Sv B b g1 (k + 1) c1 top (xs ++ [y]) cs f w W1 := by
  obtain ⟨h1, h2, h3, h4, h5, h6⟩ := h
  have hl := h1.lt
  have hgl := h2.le
  exact ⟨h1.grown hg (by simp; omega) (fun q e => by cases e; omega), hr, by omega, h4, h5, h6.grown hg (by omega) (fun q e => by cases e; exact hgl)⟩
set_option maxRecDepth 10000 in
theorem sample_yes (n : Nat) (a : Option Addr) (m cap : Nat) (cs : List Int) (w : World) (h : RO w.heap.size w a cs) (hm : cs.length = m) (hc : m ≤ cap) (h1 : 1 ≤ n) (h2 : n ≤ 12) (h3 : m ≤ n) :
    Calls Try.prog 14 #[.int .i64 n, .slice a m cap] w fun e w' => ∃ g c, e = .returned (.tuple #[pickL (smD n cs m).2 (.slice (some ⟨g, 0, none⟩) m c), .bool (!(smD n cs m).2)]) ∧ Rw w.heap.size g m c (sortA (smD n cs m).1) w' ∧ Below w.heap.size w w' := by
  obtain ⟨i0, hi, hz0, hz1, hz2⟩ := info_parts Try.info2
  have HM := Lib.hid hm
  have HR := Lib.hid h
  have HI : Hid (∀ W : World, Calls Try.prog 22 #[.int .i64 n, .int .i64 1, .int .i64 12] W fun e w' => e = .returned (.bool true) ∧ W = w') := fun W => btw64_yes _ _ _ W (by omega) (by omega)
  obtain ⟨D, hD⟩ : ∃ D, n - m = D := ⟨_, rfl⟩
  have hD2 : (n : Int) - (m : Int) = (D : Int) := by omega
  have HDD := Lib.hid hD
  have h4 : ¬ n < m := by omega
  clear h hm hD
  go_enter Try.func14, Try.ntmps14
  go_wp2_with (go_at_call 22; with_reducible refine (HI.out _).mono ?_; rintro e w1 ⟨rfl, rfl⟩)
  have HV0 : Hid (Sv w.heap.size (w.heap.size + 1) w.heap.size 0 0 w.heap.size (smD n cs 0).1 (cs.drop 0) (smD n cs 0).2 w ((w.alloc (.cells #[] 2)).alloc (.cells #[.slice a m cap, .bool false] 36))) := by
    have hb : Below w.heap.size w (w.alloc (.cells #[] 2)) := (Below.refl _ _).alloc (Nat.le_refl _) _
    have hs : (w.alloc (.cells #[] 2)).heap.size = w.heap.size + 1 := World.size_alloc _ _
    generalize hW : w.alloc (.cells #[] 2) = W1 at hb hs
    refine ⟨⟨by omega, a, cap, ⟨?_, ?_⟩, ⟨?_, ?_⟩, HR.out.below (hb.alloc hb.size _), by rw [List.drop_zero, HM.out]; exact hc⟩, ?_, by omega, Nat.le_refl _, by omega, hb.alloc hb.size _⟩
    · rw [List.drop_zero, HM.out, ← hs]
      simp [go_sem]
    · rw [← hs]
      simp [go_sem]
    · rw [← hs]
      simp [go_sem, smD]
    · rw [← hs]
      simp [go_sem]
    · have := (Rw.empty w)
      rw [hW] at this
      exact this.far ((Below.refl _ _).alloc (Nat.le_refl _) _)
  obtain ⟨b, hb0⟩ : ∃ b, w.heap.size + 1 = b := ⟨_, rfl⟩
  rw [hb0] at HV0 ⊢
  generalize (w.alloc (.cells #[] 2)).alloc (.cells #[.slice a m cap, .bool false] 36) = w2 at HV0 ⊢
  clear hb0 HI
  go_loopw [7, 8, 9] (fun sv nv _ wr => ∃ k g c : Nat, k ≤ m ∧ nv = .int .i64 ((D : Int) + k) ∧ sv = .slice (some ⟨g, 0, none⟩) k c ∧ Hid (Sv w.heap.size b g k c w.heap.size (smD n cs k).1 (cs.drop k) (smD n cs k).2 w wr)) (fun _ nv _ _ => n - (intOf nv).toNat)
  case atStart => exact ⟨0, _, _, Nat.zero_le _, by first | rfl | simp, rfl, HV0⟩
  case round =>
    obtain ⟨k, g, c, hk, rfl, rfl, HV⟩ := hrel
    clear HV0
    obtain ⟨⟨_, a2, c2, ⟨q1, q2⟩, _⟩, _⟩ := HV.out
    have hDn : D + m = n := by have := HDD.out; omega
    by_cases hlt : k < m
    · obtain ⟨r, hr⟩ : ∃ r, (cs.drop k).length = r := ⟨_, rfl⟩
      have hr2 : 0 < r := by rw [← hr, List.length_drop, HM.out]; omega
      obtain ⟨x, hx⟩ : ∃ x, cs.getD k 0 = x := ⟨_, rfl⟩
      have hd := drop_cons (cs := cs) (k := k) (by have := HM.out; omega)
      rw [hx] at hd
      have hj : ((n - cs.length + k : Nat) : Int) = (D : Int) + k := by have := HDD.out; have := HM.out; omega
      have HNx : Hid (∃ (X : Int) (f2 : Bool), (∀ y, smX (smD n cs k).1 X ((D : Int) + k) = y → smD n cs (k + 1) = ((smD n cs k).1 ++ [y], f2)) ∧ Calls Try.prog 24 #[.pointer (some ⟨b, 0, none⟩), .int .i64 ((D : Int) + k)] wr fun e w' => e = .returned (.int .i64 X) ∧ CR b 0 w.heap.size (cs.drop (k + 1)) f2 w' ∧ wr.grownBy w' (some b)) := by
        have := next7_any b 0 w.heap.size x (cs.drop (k + 1)) (smD n cs k).2 ((D : Int) + k) wr (by rw [← hd]; exact HV.out.1)
        by_cases hin : 0 ≤ x ∧ x ≤ (D : Int) + k
        · rw [if_pos hin, if_pos hin] at this
          exact ⟨_, _, fun y hy => by rw [smD_yes hx hj hin, hy], this.mono fun e w' h => ⟨h.1, h.2.1, h.2.2.1⟩⟩
        · rw [if_neg hin, if_neg hin] at this
          exact ⟨_, _, fun y hy => by rw [smD_no hx hj hin, hy], this.mono fun e w' h => ⟨h.1, h.2.1, h.2.2.1⟩⟩
      obtain ⟨X, f2, hE, hcall⟩ := HNx.out
      obtain ⟨y, hy⟩ : ∃ y, smX (smD n cs k).1 X ((D : Int) + k) = y := ⟨_, rfl⟩
      have HE := Lib.hid (hE y hy)
      replace hcall := Lib.hid hcall
      rw [hr] at q1
      have HXC : Hid (∃ r, (smD n cs k).1.contains X = r) := ⟨_, rfl⟩
      replace hy := Lib.hid hy
      have hkn : ((D : Int) + k) < n := by omega
      clear hr hx hd hE HNx hj
      go_wp2_with fail
      refine (hcall.out).mono ?_
      rintro e w3 ⟨rfl, hcr, hgr3⟩
      have HV3 := Lib.hid (HV.out.took hcr hgr3)
      have hz3 := HV3.out.2.2.2.2.2.size
      obtain ⟨r2, hr2⟩ := HXC.out
      have HH := Lib.hid (contains8_any (some ⟨g, 0, none⟩) k c (smD n cs k).1 X w3 HV3.out.2.1.ro HV3.out.2.1.len (by omega) r2 hr2)
      clear hcr hgr3 hcall q1 q2 HV
      cases r2
      · have hyx : y = X := by rw [← hy.out]; unfold smX; rw [hr2]; rfl
        subst hyx
        clear hy hr2
        go_wp2_with (first | (go_at_call 28; with_reducible refine (HH.out).mono ?_; rintro e w4 ⟨rfl, rfl⟩) | (at_builtin; refine wpList_append_own_at _ rfl _ _ 22 rfl w.heap.size 2 i0 (.int .i64 0) 1 8 Try.underlying22 hi hz0 hz1 hz2 rfl (by decide) _ _ _ rfl (World.ownsRow.alloc (HV3.out.2.1) _) ⟨w3.heap.size, 0, none⟩ 1 1 [.int .i64 (y)] rfl rfl (cell_one_new _ _ _) (by intro u hu; simp at hu; subst hu; rfl) (by unfold maxLen; omega) (by omega) (by first | (simp; done) | (simp; omega)) ?_; intro v1 w1 hown1 hgrow1 hnil1 hat1))
        obtain ⟨g1, c1, rfl, hr1, hg1, hgr⟩ := Rw.app HV3.out.2.1 hown1 hgrow1 hat1
        have HV4 : Hid (Sv w.heap.size b g1 (k + 1) c1 w.heap.size (smD n cs (k + 1)).1 (cs.drop (k + 1)) (smD n cs (k + 1)).2 w w1) := by
          unfold Hid
          rw [HE.out]
          exact HV3.out.app hr1 hg1 hgr
        clear hown1 hgrow1 hnil1 hat1 hr1 hg1 hgr HV3 HH
        go_roundw
        case rel => exact ⟨k + 1, g1, c1, by omega, by go_num, by first | rfl | go_num, HV4⟩
        case measure => first | (simp [intOf]; done) | (simp [intOf]; omega)
      · have hyx : y = (D : Int) + k := by rw [← hy.out]; unfold smX; rw [hr2]; rfl
        subst hyx
        clear hy hr2
        go_wp2_with (first | (go_at_call 28; with_reducible refine (HH.out).mono ?_; rintro e w4 ⟨rfl, rfl⟩) | (at_builtin; refine wpList_append_own_at _ rfl _ _ 22 rfl w.heap.size 2 i0 (.int .i64 0) 1 8 Try.underlying22 hi hz0 hz1 hz2 rfl (by decide) _ _ _ rfl (World.ownsRow.alloc (HV3.out.2.1) _) ⟨w3.heap.size, 0, none⟩ 1 1 [.int .i64 ((D : Int) + k)] rfl rfl (cell_one_new _ _ _) (by intro u hu; simp at hu; subst hu; rfl) (by unfold maxLen; omega) (by omega) (by first | (simp; done) | (simp; omega)) ?_; intro v1 w1 hown1 hgrow1 hnil1 hat1))
        obtain ⟨g1, c1, rfl, hr1, hg1, hgr⟩ := Rw.app HV3.out.2.1 hown1 hgrow1 hat1
        have HV4 : Hid (Sv w.heap.size b g1 (k + 1) c1 w.heap.size (smD n cs (k + 1)).1 (cs.drop (k + 1)) (smD n cs (k + 1)).2 w w1) := by
          unfold Hid
          rw [HE.out]
          exact HV3.out.app hr1 hg1 hgr
        clear hown1 hgrow1 hnil1 hat1 hr1 hg1 hgr HV3 HH
        go_roundw
        case rel => exact ⟨k + 1, g1, c1, by omega, by go_num, by first | rfl | go_num, HV4⟩
        case measure => first | (simp [intOf]; done) | (simp [intOf]; omega)
    · obtain rfl : k = m := by omega
      have hr : (cs.drop k).length = 0 := by rw [List.length_drop, HM.out]; omega
      rw [hr] at q1
      have hge : ¬ ((D : Int) + k) < n := by omega
      have HS := Lib.hid (sort8_any w.heap.size g k c (smD n cs k).1 wr HV.out.2.1 (by omega))
      have HC : Hid (∀ W : World, CR b 0 w.heap.size (cs.drop k) (smD n cs k).2 W → ∀ v, Calls Try.prog 25 #[.pointer (some ⟨b, 0, none⟩), v] W fun e w' => e = .returned (.tuple #[pickL (smD n cs k).2 v, .bool (!(smD n cs k).2)]) ∧ W = w') := fun W hW v => chosen_any b 0 _ _ _ v W hW
      clear hr q1 q2
      go_wp2_with fail
      refine (HS.out).mono ?_
      rintro e w3 ⟨rfl, hrw, hgr⟩
      have HRW : Hid (Rw w.heap.size g k c (sortA (smD n cs k).1) w3 ∧ Below w.heap.size w w3) := by
        have hge := HV.out.2.1.le
        exact ⟨hrw, HV.out.2.2.2.2.2.grown hgr HV.out.2.2.2.2.2.size (fun q e => by cases e; exact hge)⟩
      have hcr : CR b 0 w.heap.size (cs.drop k) (smD n cs k).2 w3 := by
        have hge := HV.out.2.1.le
        exact HV.out.1.grown hgr (by have := HV.out.2.2.1; simpa using this) (fun q e => by cases e; exact hge)
      replace HC := Lib.hid (HC.out w3 hcr)
      obtain ⟨fl, hfl⟩ : ∃ fl, (smD n cs k).2 = fl := ⟨_, rfl⟩
      rw [hfl] at HC
      have HF := Lib.hid hfl
      clear hfl HV hcr hrw hgr HS
      go_wp2_with fail
      refine (HC.out _).mono ?_
      rintro e w4 ⟨rfl, rfl⟩
      go_wp2
      go_ret2
      rw [HF.out]
      exact ⟨_, _, rfl, HRW.out.1, HRW.out.2⟩
theorem sample_no (n : Int) (a : Option Addr) (m cap : Nat) (w : World) (h : ¬ ((1 ≤ n ∧ n ≤ 12) ∧ m ≤ n)) :
    Calls Try.prog 14 #[.int .i64 n, .slice a m cap] w (ListRet w [] false) := by
  by_cases h1 : 1 ≤ n ∧ n ≤ 12
  · have HI : Hid (∀ W : World, Calls Try.prog 22 #[.int .i64 n, .int .i64 1, .int .i64 12] W fun e w' => e = .returned (.bool true) ∧ W = w') := fun W => btw64_yes _ _ _ W h1.1 h1.2
    have hm : ¬ (m : Int) ≤ n := fun y => h ⟨h1, y⟩
    clear h h1
    go_enter Try.func14, Try.ntmps14
    go_wp2_with (go_at_call 22; with_reducible refine (HI.out _).mono ?_; rintro e w1 ⟨rfl, rfl⟩)
    go_ret2
    exact ⟨_, rfl, .inl ⟨rfl, rfl⟩, Below.refl _ _⟩
  · have HI : Hid (∀ W : World, Calls Try.prog 22 #[.int .i64 n, .int .i64 1, .int .i64 12] W fun e w' => e = .returned (.bool false) ∧ W = w') := fun W => btw64_no _ _ _ W h1
    clear h h1
    go_enter Try.func14, Try.ntmps14
    go_wp2_with (go_at_call 22; with_reducible refine (HI.out _).mono ?_; rintro e w1 ⟨rfl, rfl⟩)
    go_ret2
    exact ⟨_, rfl, .inl ⟨rfl, rfl⟩, Below.refl _ _⟩
theorem sample_any (n : Nat) (a : Option Addr) (m cap : Nat) (cs : List Int) (w : World) (h : RO w.heap.size w a cs) (hm : cs.length = m) (hc : m ≤ cap) :
    Calls Try.prog 14 #[.int .i64 n, .slice a m cap] w (ListRet w (smRes n cs).1 (smRes n cs).2) := by
  by_cases h1 : (1 ≤ n ∧ n ≤ 12) ∧ m ≤ n
  · refine (sample_yes n a m cap cs w h hm hc h1.1.1 h1.1.2 h1.2).mono ?_
    rintro e w' ⟨g, c, he, hr, hb⟩
    unfold smRes
    rw [hm]
    cases hf : (smD n cs m).2
    · rw [if_pos ⟨h1, rfl⟩]
      rw [hf] at he
      exact ⟨_, he, hr.sl, hb⟩
    · rw [if_neg (fun y => by cases y.2)]
      rw [hf] at he
      exact ⟨_, he, .inl ⟨rfl, rfl⟩, hb⟩
  · have hr : smRes n cs = ([], false) := by
      unfold smRes
      rw [hm, if_neg (fun y => h1 y.1)]
    rw [hr]
    exact sample_no n a m cap w (fun y => h1 ⟨by omega, by omega⟩)
theorem specSample_any (n : Nat) (a : Option Addr) (m cap : Nat) (cs : List Int) (w : World) (h : RO w.heap.size w a cs) (hm : cs.length = m) :
    Calls Try.prog 13 #[.int .i64 n, .slice a m cap] w (ListRet w (smRes n cs).1 (smRes n cs).2) := by
  by_cases h1 : (1 ≤ n ∧ n ≤ 12) ∧ m ≤ n
  · have := specSample_yes n a m cap cs w h hm h1.1.1 h1.1.2 h1.2
    unfold smRes
    rw [hm]
    cases hf : (smD n cs m).2
    · rw [if_pos ⟨h1, rfl⟩]
      rw [hf] at this
      exact this
    · rw [if_neg (fun y => by cases y.2)]
      rw [hf] at this
      exact this
  · have hr : smRes n cs = ([], false) := by
      unfold smRes
      rw [hm, if_neg (fun y => h1 y.1)]
    rw [hr]
    exact specSample_no n a m cap w (fun y => h1 ⟨by omega, by omega⟩)
theorem lawSampleBy (p0 : Int) (a : Option Addr) (n cap : Nat) (zs : List Int) (w : World) (h : RowIn .i64 w a n zs) :
    Calls Try.prog 4 #[.int .i64 p0, .slice a n cap] w fun e w' => e = .returned (.bool true) ∧ Below w.heap.size w w' :=
  lawSampleBy_any p0 a n cap zs w h fun ys hn hl hr => by
    by_cases h0 : 0 ≤ p0
    · obtain ⟨P, rfl⟩ := Int.eq_ofNat_of_zero_le h0
      exact lawSampleBy_core P a n cap ys (smRes P ys).1 (smRes P ys).2 w hr hn hl (by have := smRes_length P ys; omega) (fun W b c hb _ => specSample_any P b n c ys W hb hn) (fun W b c hb hc => sample_any P b n c ys W hb hn hc)
    · exact lawSampleBy_core p0 a n cap ys [] false w hr hn hl (by simp) (fun W b c _ _ => specSample_no p0 b n c W (fun y => by omega)) (fun W b c _ _ => sample_no p0 b n c W (fun y => by omega))
end Go.Proofs.Ytjbojamhnapkpac
