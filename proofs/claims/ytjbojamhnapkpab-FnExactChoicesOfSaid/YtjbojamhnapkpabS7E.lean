/- The choices of an order: impl.ChoicesOf, spec.ChoicesOf, the law. -/
import Derived.Test.YtjbojamhnapkpabS7P
namespace Go.Proofs.Ytjbojamhnapkpab
open Go.RowKit Go.PlainAid
set_option maxHeartbeats 800000

theorem idxOf_at {xs : List Int} {x : Int} : ∀ {k : Nat}, (∀ i, i < k → xs[i]? ≠ some x) → xs[k]? = some x → xs.idxOf x = k := by
  induction xs with
  | nil => intro k _ h; simp at h
  | cons y xs ih =>
    intro k h1 h2
    cases k with
    | zero =>
      simp at h2
      subst h2
      simp
    | succ k =>
      have hne : y ≠ x := fun e => h1 0 (by omega) (by simp [e])
      rw [List.idxOf_cons]
      have : (y == x) = false := by simpa using hne
      rw [this]
      simp only [cond_false]
      rw [ih (k := k) (fun i hi => by have := h1 (i + 1) (by omega); simpa using this) (by simpa using h2)]
theorem idxOf_get {xs : List Int} {x : Int} (h : xs.idxOf x < xs.length) : xs[xs.idxOf x]? = some x := by
  obtain ⟨k, hk⟩ := List.mem_iff_getElem?.1 (List.idxOf_lt_length_iff.1 h)
  have : ∀ k : Nat, xs[k]? = some x → ∃ j : Nat, (∀ i, i < j → xs[i]? ≠ some x) ∧ xs[j]? = some x := by
    intro k
    induction k using Nat.strongRecOn with
    | _ k ih =>
      intro hk
      by_cases hx : ∃ i, i < k ∧ xs[i]? = some x
      · obtain ⟨i, hi, h2⟩ := hx
        exact ih i hi h2
      · exact ⟨k, fun i hi e => hx ⟨i, hi, e⟩, hk⟩
  obtain ⟨j, h1, h2⟩ := this k hk
  rw [idxOf_at h1 h2]
  exact h2
theorem idxOf_before {xs : List Int} {x : Int} {k : Nat} (h : k < xs.idxOf x) : xs[k]? ≠ some x := fun hk => by
  have : ∀ k : Nat, xs[k]? = some x → xs.idxOf x ≤ k := by
    intro k
    induction k using Nat.strongRecOn with
    | _ k ih =>
      intro hk
      by_cases hx : ∃ i, i < k ∧ xs[i]? = some x
      · obtain ⟨i, hi, h2⟩ := hx
        have := ih i hi h2
        omega
      · rw [idxOf_at (fun i hi e => hx ⟨i, hi, e⟩) hk]
        exact Nat.le_refl _
  have := this k hk
  omega
theorem index_any (a : Option Addr) (n cap : Nat) (xs : List Int) (x : Int) (w : World) (h : RO w.heap.size w a xs) (hn : xs.length = n) (hl : n ≤ 1048576) (j : Nat) (hj : xs.idxOf x = j) (hjn : j < n) :
    Calls Try.prog 52 #[.slice a n cap, .int .i64 x] w fun e w' => e = .returned (.int .i64 j) ∧ w = w' := by
  have HJ : Hid (xs[j]? = some x) := by
    have := idxOf_get (xs := xs) (x := x) (by omega)
    rwa [hj] at this
  have HK : Hid (∀ k : Nat, k < j → xs[k]? ≠ some x) := fun k hk => idxOf_before (by omega)
  have HR := Lib.hid h
  have HN := Lib.hid hn
  clear h hn hj
  go_enter Try.func52, Try.ntmps52
  go_wp2
  go_loop [5, 8] (fun _ iv => ∃ k : Nat, k ≤ j ∧ iv = .int .i64 k) (fun _ iv => n - (intOf iv).toNat)
  case atStart => exact ⟨0, Nat.zero_le _, rfl⟩
  case round =>
    obtain ⟨k, hk, rfl⟩ := hrel
    have hkn : k < n := by omega
    obtain ⟨y, hy⟩ : ∃ y, xs[k]? = some y := ⟨_, List.getElem?_eq_getElem (by have := HN.out; omega)⟩
    obtain ⟨g, off, rfl, hg, hc⟩ := HR.out k y hy
    by_cases e : k = j
    · subst e
      obtain rfl : y = x := Option.some.inj (hy.symm.trans HJ.out)
      have t1 : (y == y) = true := by simp
      clear hy
      go_wp2
      go_ret
      exact ⟨rfl, rfl⟩
    · have t1 : (x == y) = false := by
        rw [beq_eq_false_iff_ne]
        intro e2
        exact HK.out k (by omega) (by rw [hy, e2])
      clear hy
      go_wp2
      go_round
      case rel => exact ⟨k + 1, by omega, by go_num⟩
      case measure => first | (simp [intOf]; done) | (simp [intOf]; omega)
set_option maxRecDepth 10000 in
theorem choices_yes (a : Option Addr) (N cap : Nat) (xs : List Int) (w : World) (h : RO w.heap.size w a xs) (hn : xs.length = N + 1) (hO : OrdP xs) :
    Calls Try.prog 17 #[.slice a (N + 1) cap] w (ListRet w (coD xs N).2 true) := by
  obtain ⟨i0, hi, hz0, hz1, hz2⟩ := info_parts Try.info2
  have h12 : N ≤ 11 := by have := hO.1.2; omega
  have HI := Lib.hid (isOrd_any a (N + 1) cap xs w h hn (by omega) true (decide_eq_true hO))
  have HA : Hid (∀ W : World, Calls Try.prog 51 #[.int .i64 ((N : Int) + 1)] W fun e w' => e = .returned (.slice (some ⟨W.heap.size, 0, none⟩) (N + 1) (N + 1)) ∧ Rw W.heap.size W.heap.size (N + 1) (N + 1) (asc (N + 1)) w' ∧ Below W.heap.size W w') := fun W => asc_any (N + 1) W (by omega)
  have HO := Lib.hid hO
  have HR := Lib.hid h
  have HN := Lib.hid hn
  clear h hn hO
  go_enter Try.func17, Try.ntmps17
  go_wp2_with fail
  refine (HI.out).mono ?_
  rintro e w1 ⟨rfl, hb1⟩
  go_wp2_with fail
  refine (HA.out _).mono ?_
  rintro e w2 ⟨rfl, hr, hb2⟩
  have hz := hb1.size
  have hg2 := hr.lt
  have hB : Below w.heap.size w w2 := hb1.trans (hb2.mono hz)
  obtain ⟨g, hg⟩ : ∃ g, w1.heap.size = g := ⟨_, rfl⟩
  rw [hg] at hr hg2 hz ⊢
  have HS0 : Hid (Rw w.heap.size g (N + 1) (N + 1) (coD xs 0).1 (w2.alloc (.cells #[] 2)) ∧ Rw w.heap.size w2.heap.size 0 0 (coD xs 0).2 (w2.alloc (.cells #[] 2)) ∧ w2.heap.size ≠ g) := ⟨by
    have := (hr.base hz).far ((Below.refl w2.heap.size w2).alloc (Nat.le_refl _) (.cells #[] 2))
    unfold coD
    rw [HN.out]
    exact this, (Rw.empty w2).base (by omega), by omega⟩
  have HB0 : Hid (Below w.heap.size w (w2.alloc (.cells #[] 2))) := hB.alloc hB.size _
  clear hb1 hb2 hr hB hg hg2 HI HA
  go_wp2_with fail
  go_loopw [5, 6, 7] (fun cv iv _ wr => ∃ k g2 cap2 : Nat, k ≤ N ∧ iv = .int .i64 ((N : Int) - k) ∧ cv = .slice (some ⟨g2, 0, none⟩) k cap2 ∧ Hid (Rw w.heap.size g (N + 1) (N + 1) (coD xs k).1 wr ∧ Rw w.heap.size g2 k cap2 (coD xs k).2 wr ∧ g2 ≠ g) ∧ Hid (Below w.heap.size w wr)) (fun _ iv _ _ => (intOf iv).toNat)
  case atStart => exact ⟨0, _, _, Nat.zero_le _, by first | rfl | simp, rfl, HS0, HB0⟩
  case round =>
    obtain ⟨k, g2, cap2, hk, rfl, rfl, HS, HBl⟩ := hrel
    clear HS0 HB0
    by_cases hlt : k < N
    · obtain ⟨I, hI⟩ : ∃ I, N - k = I := ⟨_, rfl⟩
      have hI2 : (N : Int) - k = (I : Int) := by omega
      rw [hI2]
      obtain ⟨x, hx⟩ : ∃ x, xs[I]? = some x := ⟨_, List.getElem?_eq_getElem (by have := HN.out; omega)⟩
      obtain ⟨g0, off, rfl, hg0, hc0⟩ := HR.out I x hx
      have hc := (HBl.out.cell (p := ⟨g0, off + I, none⟩) hg0).trans hc0
      obtain ⟨J, hJ⟩ : ∃ J, (coD xs k).1.idxOf (xs.getD (xs.length - 1 - k) 0) = J := ⟨_, rfl⟩
      have hJn : J < N + 1 := by rw [← hJ, ← HN.out]; exact coD_at HO.out (by rw [HN.out]; omega)
      have hxI : xs.length - 1 - k = I := by rw [HN.out]; omega
      have hxd : xs.getD I 0 = x := by rw [List.getD_eq_getElem?_getD, hx]; rfl
      have HE : Hid (coD xs (k + 1) = (swp (coD xs k).1 I J, (coD xs k).2 ++ [(J : Int)])) := by
        unfold Hid
        rw [coD]
        rw [hJ, hxI]
      rw [hxI, hxd] at hJ
      have HX := Lib.hid (index_any (some ⟨g, 0, none⟩) (N + 1) (N + 1) (coD xs k).1 x wr HS.out.1.ro (by rw [(coD_length xs k).1, HN.out]) (by omega) J hJ hJn)
      have hIp : 1 ≤ I := by omega
      have hIq : I ≤ 11 := by omega
      have HIk : Hid ((I : Int) - 1 = (N : Int) - (k + 1 : Nat)) := by unfold Hid; omega
      have hIn : I < N + 1 := by omega
      have hzz := HBl.out.size
      clear hc0 hx hxd hI hI2 hxI hJ
      go_wp2_with fail
      refine (HX.out).mono ?_
      rintro e w2 ⟨rfl, rfl⟩
      go_wp2_with (at_builtin; refine wpList_append_own_at _ rfl _ _ 22 rfl w.heap.size 2 i0 (.int .i64 0) 1 8 Try.underlying22 hi hz0 hz1 hz2 rfl (by decide) _ _ _ rfl (World.ownsRow.alloc (HS.out.2.1) _) ⟨wr.heap.size, 0, none⟩ 1 1 [.int .i64 J] rfl rfl (cell_one_new _ _ _) (by intro u hu; simp at hu; subst hu; rfl) (by unfold maxLen; omega) (by omega) (by first | (simp; done) | (simp; omega)) ?_; intro v1 w1 hown1 hgrow1 hnil1 hat1)
      obtain ⟨g1, cap1, rfl, hr1, hg1, hgr⟩ := Rw.app HS.out.2.1 hown1 hgrow1 hat1
      have hgl := HS.out.1.lt
      have hne : g1 ≠ g := by have := HS.out.2.2; omega
      have HN1 := Lib.hid (HS.out.1.grown hgr (by have := HS.out.2.2; simp; omega))
      have HB1 : Hid (Below w.heap.size w w1) := HBl.out.grown hgr hzz (fun q e => by cases e; exact HS.out.2.1.le)
      have HC1 := Lib.hid hr1
      have HW := Lib.hid (swap_any w.heap.size g (N + 1) (N + 1) I J (coD xs k).1 w1 HN1.out hIn hJn)
      clear hown1 hgrow1 hnil1 hat1 hr1 hg1 hgr HS HBl hc HX
      go_wp2_with fail
      refine (HW.out).mono ?_
      rintro e w3 ⟨rfl, hs, hgs⟩
      have HS3 : Hid (Rw w.heap.size g (N + 1) (N + 1) (coD xs (k + 1)).1 w3 ∧ Rw w.heap.size g1 (k + 1) cap1 (coD xs (k + 1)).2 w3 ∧ g1 ≠ g) := by
        unfold Hid
        rw [HE.out]
        exact ⟨hs, HC1.out.grown hgs (by simp; omega), hne⟩
      have HB3 : Hid (Below w.heap.size w w3) := HB1.out.grown hgs HB1.out.size (fun q e => by cases e; exact HN1.out.le)
      clear hs hgs HW HC1 HN1 HB1
      go_wp2
      go_roundw
      case rel => exact ⟨k + 1, g1, cap1, by omega, by rw [HIk.out], by first | rfl | go_num, HS3, HB3⟩
      case measure => simp [intOf]; omega
    · obtain rfl : k = N := by omega
      have t0 : (k : Int) - k = 0 := by omega
      rw [t0]
      go_wp2
      go_ret2
      exact ⟨_, rfl, HS.out.2.1.sl, HBl.out⟩
theorem choices_no (a : Option Addr) (n cap : Nat) (xs : List Int) (w : World) (h : RO w.heap.size w a xs) (hn : xs.length = n) (hl : n ≤ 1048576) (hO : ¬ OrdP xs) :
    Calls Try.prog 17 #[.slice a n cap] w (ListRet w [] false) := by
  have HI := Lib.hid (isOrd_any a n cap xs w h hn hl false (decide_eq_false hO))
  clear h hn hO
  go_enter Try.func17, Try.ntmps17
  go_wp2_with fail
  refine (HI.out).mono ?_
  rintro e w1 ⟨rfl, hb1⟩
  go_wp2
  go_ret2
  exact ⟨_, rfl, .inl ⟨rfl, rfl⟩, hb1⟩
set_option maxRecDepth 10000 in
theorem specChoices_yes (a : Option Addr) (N cap : Nat) (xs : List Int) (w : World) (h : RO w.heap.size w a xs) (hn : xs.length = N + 1) (hO : OrdP xs) (hcap : N + 1 ≤ cap) :
    Calls Try.prog 15 #[.slice a (N + 1) cap] w (ListRet w (coD xs N).2 true) := by
  obtain ⟨i0, hi, hz0, hz1, hz2⟩ := info_parts Try.info2
  have h12 : N ≤ 11 := by have := hO.1.2; omega
  have HI := Lib.hid (is_any a (N + 1) cap xs w h hn (by omega) hcap true (decide_eq_true hO))
  have HA : Hid (∀ W : World, Calls Try.prog 48 #[.int .i64 ((N : Int) + 1)] W fun e w' => ∃ g cap, e = .returned (.slice (some ⟨g, 0, none⟩) (N + 1) cap) ∧ Rw W.heap.size g (N + 1) cap (asc (N + 1)) w' ∧ Below W.heap.size W w') := fun W => first_any (N + 1) W (by omega)
  have HO := Lib.hid hO
  have HR := Lib.hid h
  have HN := Lib.hid hn
  clear h hn hO
  go_enter Try.func15, Try.ntmps15
  go_wp2_with fail
  refine (HI.out).mono ?_
  rintro e w1 ⟨rfl, m1, rfl⟩
  go_wp2_with fail
  refine (HA.out _).mono ?_
  rintro e w2 ⟨g, c, rfl, hr, hb2⟩
  have hg2 := hr.lt
  have hB : Below w.heap.size w w2 := (below_drewN (Below.refl _ _) m1).trans hb2
  have HS0 : Hid (Rw w.heap.size g (N + 1) c (coD xs 0).1 (w2.alloc (.cells #[] 2)) ∧ Rw w.heap.size w2.heap.size 0 0 (coD xs 0).2 (w2.alloc (.cells #[] 2)) ∧ w2.heap.size ≠ g) := ⟨by
    have := (hr.base (B' := w.heap.size) (Nat.le_refl _)).far ((Below.refl w2.heap.size w2).alloc (Nat.le_refl _) (.cells #[] 2))
    unfold coD
    rw [HN.out]
    exact this, (Rw.empty w2).base hB.size, by omega⟩
  have HB0 : Hid (Below w.heap.size w (w2.alloc (.cells #[] 2))) := hB.alloc hB.size _
  clear hb2 hr hB hg2 HI HA
  go_wp2_with fail
  go_loopw [5, 6, 7] (fun cv iv _ wr => ∃ k g2 cap2 : Nat, k ≤ N ∧ iv = .int .i64 ((N : Int) - k) ∧ cv = .slice (some ⟨g2, 0, none⟩) k cap2 ∧ Hid (Rw w.heap.size g (N + 1) c (coD xs k).1 wr ∧ Rw w.heap.size g2 k cap2 (coD xs k).2 wr ∧ g2 ≠ g) ∧ Hid (Below w.heap.size w wr)) (fun _ iv _ _ => (intOf iv).toNat)
  case atStart => exact ⟨0, _, _, Nat.zero_le _, by first | rfl | simp, rfl, HS0, HB0⟩
  case round =>
    obtain ⟨k, g2, cap2, hk, rfl, rfl, HS, HBl⟩ := hrel
    clear HS0 HB0
    by_cases hlt : k < N
    · obtain ⟨I, hI⟩ : ∃ I, N - k = I := ⟨_, rfl⟩
      have hI2 : (N : Int) - k = (I : Int) := by omega
      rw [hI2]
      obtain ⟨x, hx⟩ : ∃ x, xs[I]? = some x := ⟨_, List.getElem?_eq_getElem (by have := HN.out; omega)⟩
      obtain ⟨g0, off, rfl, hg0, hc0⟩ := HR.out I x hx
      have hc := (HBl.out.cell (p := ⟨g0, off + I, none⟩) hg0).trans hc0
      obtain ⟨J, hJ⟩ : ∃ J, (coD xs k).1.idxOf (xs.getD (xs.length - 1 - k) 0) = J := ⟨_, rfl⟩
      have hJn : J < N + 1 := by rw [← hJ, ← HN.out]; exact coD_at HO.out (by rw [HN.out]; omega)
      have hxI : xs.length - 1 - k = I := by rw [HN.out]; omega
      have hxd : xs.getD I 0 = x := by rw [List.getD_eq_getElem?_getD, hx]; rfl
      have HE : Hid (coD xs (k + 1) = (swp (coD xs k).1 I J, (coD xs k).2 ++ [(J : Int)])) := by
        unfold Hid
        rw [coD]
        rw [hJ, hxI]
      rw [hxI, hxd] at hJ
      have hll : (coD xs k).1.length = N + 1 := by rw [(coD_length xs k).1, HN.out]
      have HJ1 : Hid ((coD xs k).1[J]? = some x) := by
        have := idxOf_get (xs := (coD xs k).1) (x := x) (by omega)
        rwa [hJ] at this
      have HJ2 : Hid (∀ j : Nat, j < J → (coD xs k).1[j]? ≠ some x) := fun j hj => idxOf_before (by omega)
      have hIp : 1 ≤ I := by omega
      have hIq : I ≤ 11 := by omega
      have HIk : Hid ((I : Int) - 1 = (N : Int) - (k + 1 : Nat)) := by unfold Hid; omega
      have hIn : I < N + 1 := by omega
      have hzz := HBl.out.size
      obtain ⟨W0, hW0⟩ : ∃ W0, W0 = wr := ⟨_, rfl⟩
      rw [← hW0] at HS HBl hc hzz ⊢
      clear hc0 hx hxd hI hI2 hxI hJ hW0
      go_wp2_with fail
      go_loopw [7] (fun av wr => ∃ j m : Nat, j ≤ J ∧ av = .int .i64 j ∧ Hid (wr = W0.drewN m)) (fun av _ => J - (intOf av).toNat)
      case atStart => exact ⟨0, 0, Nat.zero_le _, rfl, rfl⟩
      case round =>
        obtain ⟨j, m, hj, rfl, HWm⟩ := hrel
        obtain ⟨y, hy⟩ : ∃ y, (coD xs k).1[j]? = some y := ⟨_, List.getElem?_eq_getElem (by omega)⟩
        have cy : wr.cell? ⟨g, j, none⟩ = some (.int .i64 y) := by
          have := HS.out.1.cell (i := j) (by omega)
          rw [HWm.out]
          rw [List.getD_eq_getElem?_getD, hy] at this
          exact this
        have cx : wr.cell? ⟨g0, off + I, none⟩ = some (.int .i64 x) := by rw [HWm.out]; exact hc
        by_cases e : j = J
        · subst e
          obtain rfl : y = x := Option.some.inj (hy.symm.trans HJ1.out)
          have t1 : (y != y) = false := by simp
          clear hy hc
          go_wp2_with fail
          go_quiet (fail)
          have HSr : Hid (Rw w.heap.size g (N + 1) c (coD xs k).1 (wr.drewN nq) ∧ Rw w.heap.size g2 k cap2 (coD xs k).2 (wr.drewN nq) ∧ g2 ≠ g) := by
            unfold Hid
            rw [HWm.out]
            exact ⟨(HS.out.1.drewN m).drewN nq, (HS.out.2.1.drewN m).drewN nq, HS.out.2.2⟩
          have HBr : Hid (Below w.heap.size w (wr.drewN nq)) := by
            unfold Hid
            rw [HWm.out]
            exact below_drewN (below_drewN HBl.out m) nq
          have hzr : w.heap.size ≤ (wr.drewN nq).heap.size := HBr.out.size
          generalize wr.drewN nq = W5 at HSr HBr hzr ⊢
          clear cx cy HS HBl HWm
          go_wp2_with (at_builtin; refine wpList_append_own_at _ rfl _ _ 22 rfl w.heap.size 2 i0 (.int .i64 0) 1 8 Try.underlying22 hi hz0 hz1 hz2 rfl (by decide) _ _ _ rfl (World.ownsRow.alloc (HSr.out.2.1) _) ⟨W5.heap.size, 0, none⟩ 1 1 [.int .i64 j] rfl rfl (cell_one_new _ _ _) (by intro u hu; simp at hu; subst hu; rfl) (by unfold maxLen; omega) (by omega) (by first | (simp; done) | (simp; omega)) ?_; intro v1 w1 hown1 hgrow1 hnil1 hat1)
          obtain ⟨g1, cap1, rfl, hr1, hg1, hgr⟩ := Rw.app HSr.out.2.1 hown1 hgrow1 hat1
          have hgl := HSr.out.1.lt
          have hne : g1 ≠ g := by have := HSr.out.2.2; omega
          have HN1 := Lib.hid (HSr.out.1.grown hgr (by have := HSr.out.2.2; simp; omega))
          have HB1 : Hid (Below w.heap.size w w1) := HBr.out.grown hgr hzr (fun q e => by cases e; exact HSr.out.2.1.le)
          have HC1 := Lib.hid hr1
          have HW := Lib.hid (l07Swap_any w.heap.size g (N + 1) c I j (coD xs k).1 w1 HN1.out hIn hJn)
          clear hown1 hgrow1 hnil1 hat1 hr1 hg1 hgr HSr HBr
          go_wp2_with fail
          refine (HW.out).mono ?_
          rintro e w3 ⟨rfl, hs, hgs⟩
          have HS3 : Hid (Rw w.heap.size g (N + 1) c (coD xs (k + 1)).1 w3 ∧ Rw w.heap.size g1 (k + 1) cap1 (coD xs (k + 1)).2 w3 ∧ g1 ≠ g) := by
            unfold Hid
            rw [HE.out]
            exact ⟨hs, HC1.out.grown hgs (by simp; omega), hne⟩
          have HB3 : Hid (Below w.heap.size w w3) := HB1.out.grown hgs HB1.out.size (fun q e => by cases e; exact HN1.out.le)
          clear hs hgs HW HC1 HN1 HB1
          go_wp2
          go_roundw
          case rel => exact ⟨k + 1, g1, cap1, by omega, by rw [HIk.out], by first | rfl | go_num, HS3, HB3⟩
          case measure => simp [intOf]; omega
        · have t1 : (y != x) = true := by
            rw [bne_iff_ne]
            intro e2
            exact HJ2.out j (by omega) (by rw [hy, e2])
          clear hy
          go_wp2_with fail
          go_quiet (fail)
          go_wp2
          go_roundw
          case rel => exact ⟨j + 1, m + nq, by omega, by go_num, by unfold Hid; rw [HWm.out]; exact drewN_twoG W0 m nq⟩
          case measure => first | (simp [intOf]; done) | (simp [intOf]; omega)
    · obtain rfl : k = N := by omega
      have t0 : (k : Int) - k = 0 := by omega
      rw [t0]
      go_wp2
      go_ret2
      exact ⟨_, rfl, HS.out.2.1.sl, HBl.out⟩
theorem specChoices_no (a : Option Addr) (n cap : Nat) (xs : List Int) (w : World) (h : RO w.heap.size w a xs) (hn : xs.length = n) (hl : n ≤ 1048576) (hcap : n ≤ cap) (hO : ¬ OrdP xs) :
    Calls Try.prog 15 #[.slice a n cap] w (ListRet w [] false) := by
  have HI := Lib.hid (is_any a n cap xs w h hn hl hcap false (decide_eq_false hO))
  clear h hn hO
  go_enter Try.func15, Try.ntmps15
  go_wp2_with fail
  refine (HI.out).mono ?_
  rintro e w1 ⟨rfl, m, rfl⟩
  go_wp2
  go_ret2
  exact ⟨_, rfl, .inl ⟨rfl, rfl⟩, below_drewN (Below.refl _ _) _⟩
theorem lawChoicesOf (a : Option Addr) (n cap : Nat) (zs : List Int) (w : World) (h : RowIn .i64 w a n zs) :
    Calls Try.prog 3 #[.slice a n cap] w fun e w' => e = .returned (.bool true) ∧ Below w.heap.size w w' :=
  lawChoicesOf_any a n cap zs w h fun ys hn hl hr => by
    by_cases hO : OrdP ys
    · obtain ⟨N, rfl⟩ : ∃ N, n = N + 1 := ⟨n - 1, by have := hO.1.1; omega⟩
      exact lawChoicesOf_core a (N + 1) cap ys (coD ys N).2 true w hr hn hl (by rw [(coD_length ys N).2]; have := hO.1.2; omega) (fun W b c hb hc => specChoices_yes b N c ys W hb hn hO hc) (fun W b c hb _ => choices_yes b N c ys W hb hn hO)
    · exact lawChoicesOf_core a n cap ys [] false w hr hn hl (by simp) (fun W b c hb hc => specChoices_no b n c ys W hb hn hl hc hO) (fun W b c hb _ => choices_no b n c ys W hb hn hl hO)
end Go.Proofs.Ytjbojamhnapkpab
