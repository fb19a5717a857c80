/- The states after steps: impl.StatesOf, spec.StatesOf, the law FnExactStatesOf. -/
import Derived.Test.YtmapbaomfaplmaaConCyc
namespace Go.Proofs.Ytmapbaomfaplmaa
open Go.RowKit Go.PlainAid
set_option maxHeartbeats 800000

/-- the states after 1, 2, .. k steps -/
def stL (m a c x : Nat) : Nat → List Int
  | 0 => []
  | k + 1 => stL m a c x k ++ [(itc m a c x (k + 1) : Int)]
theorem stL_length (m a c x : Nat) : ∀ k, (stL m a c x k).length = k := by
  intro k
  induction k with
  | zero => rfl
  | succ k ih => simp [stL, ih]
theorem stL_get (m a c x i : Nat) : ∀ k, i < k → (stL m a c x k)[i]? = some (itc m a c x (i + 1) : Int) := by
  intro k
  induction k with
  | zero => intro h; omega
  | succ k ih =>
    intro h
    by_cases e : i = k
    · subst e
      simp only [stL]
      rw [List.getElem?_append_right (by rw [stL_length]; omega), stL_length, Nat.sub_self]
      rfl
    · simp only [stL]
      rw [List.getElem?_append_left (by rw [stL_length]; omega)]
      exact ih (by omega)

theorem statesOf_yes (m a c x n : Nat) (w : World) (h1 : 2 ≤ m) (h2 : m ≤ 100000) (h3 : a < m) (h4 : c < m) (h5 : x < m) (hn : n ≤ 64) :
    Calls Try.prog 21 #[.agg #[.int .i64 m, .int .i64 a, .int .i64 c], .int .i64 x, .int .i64 n] w fun e w' => ∃ v, e = .returned (.tuple #[v, .bool true]) ∧ w'.ownsRow w.heap.size 2 1 v n ((stL m a c x n).map (Value.int .i64)) ∧ Below w.heap.size w w' := by
  obtain ⟨i0, hi, hz0, hz1, hz2⟩ := info_parts Try.info2
  have HS : Hid (ConS m a c x) := conS_nat h1 h2 h3 h4 h5
  have HI : Hid (∀ w : World, Calls Try.prog 43 #[.int .i64 n, .int .i64 0, .int .i64 64] w fun e w' => e = .returned (.bool true) ∧ w = w') := fun w => btw64_b _ _ _ _ (decide_eq_true (by omega)) w
  have HN : Hid (∀ (k : Nat) (w : World), Calls Try.prog 47 #[.agg #[.int .i64 m, .int .i64 a, .int .i64 c], .int .i64 (itc m a c x k)] w fun e w' => e = .returned (.int .i64 (itc m a c x (k + 1))) ∧ Below w.heap.size w w') := fun k w => nextK_any m a c _ w h1 h2 (by omega) (by omega) (by have := itc_lt (a := a) (c := c) h5 k; omega)
  clear h1 h2 h3 h4 h5
  go_enter Try.func21, Try.ntmps21
  go_wp2_with fail
  have K0 := KAt.new w (.int .i64 m) (.int .i64 a) (.int .i64 c) 25
  generalize w.alloc (.cells #[.int .i64 m, .int .i64 a, .int .i64 c] 25) = w0 at K0 ⊢
  refine (hasStateK_b _ _ _ _ true _ (decide_eq_true HS.out)).mono ?_
  rintro e w1 ⟨rfl, hb⟩
  have K1 := Lib.hid (K0.below hb)
  clear hb K0
  go_wp2_with (first | (go_at_call 43; with_reducible refine (HI.out _).mono ?_; rintro e w2 ⟨rfl, rfl⟩) | (at_make; refine wpList_make_full _ rfl _ _ 31 rfl w1.heap.size 2 i0 _ 1 Try.underlying31 hi hz0 hz1 _ _ _ _ n rfl rfl rfl rfl (by rw [hz2]; omega) (by unfold maxLen; omega) (Nat.le_refl _) ?_; intro w3 hown hgrow))
  have hown3 : w3.ownsRow w1.heap.size 2 1 (.slice (some ⟨w1.heap.size, 0, none⟩) n n) n ((pad (stL m a c x 0) n).map (Value.int .i64)) := by rw [pad_made] at hown; exact hown
  have K3 : Hid (KAt w.heap.size w w.heap.size (.int .i64 m) (.int .i64 a) (.int .i64 c) w3) := K1.out.below ((Below.refl w1.heap.size w1).grown hgrow (Nat.le_refl _) (by simp))
  have hz1' : Hid (w.heap.size < w1.heap.size) := K1.out.2.2.2.2.1
  clear hown hgrow K1
  go_loopw [1, 9, 23] (fun st _ i wr => ∃ k : Nat, k ≤ n ∧ st = .int .i64 (itc m a c x k) ∧ i = .int .i64 k ∧ wr.ownsRow w1.heap.size 2 1 (.slice (some ⟨w1.heap.size, 0, none⟩) n n) n ((pad (stL m a c x k) n).map (Value.int .i64)) ∧ Hid (KAt w.heap.size w w.heap.size (.int .i64 m) (.int .i64 a) (.int .i64 c) wr)) (fun _ _ i _ => n - (intOf i).toNat)
  case atStart => exact ⟨0, Nat.zero_le _, rfl, rfl, hown3, K3⟩
  case round =>
    obtain ⟨k, hk, rfl, rfl, hown, HR⟩ := hrel
    clear hown3 K3
    by_cases hlt : k < n
    · obtain ⟨c0, c1, c2, _⟩ := HR.out
      go_wp2_with fail
      refine (HN.out k _).mono ?_
      rintro e w4 ⟨rfl, hb4⟩
      have hown4 := own_belowR hown hb4
      have HR4 := Lib.hid (HR.out.below hb4)
      clear hown HR hb4 c0 c1 c2
      obtain ⟨y, hy⟩ : ∃ y, itc m a c x (k + 1) = y := ⟨_, rfl⟩
      have HB : Hid (stL m a c x (k + 1) = stL m a c x k ++ [(y : Int)]) := by unfold Hid; rw [← hy]; rfl
      have HY := Lib.hid hy
      rw [hy]
      clear hy
      obtain ⟨hc, hf⟩ := own_next hown4 (stL_length m a c x k) hlt
      have hput := own_step hown4 (stL_length m a c x k) hlt (y : Int)
      have HO := Lib.hid hput
      have HR5 : Hid (KAt w.heap.size w w.heap.size (.int .i64 m) (.int .i64 a) (.int .i64 c) (w4.setCell ⟨w1.heap.size, k, none⟩ (.int .i64 (y : Int)))) := by
        have hb := (Below.refl w1.heap.size w4).setCell (p := ⟨w1.heap.size, k, none⟩) (Nat.le_refl _) (.int .i64 (y : Int))
        have hz := hz1'.out
        obtain ⟨d0, d1, d2, d3, d4, d5⟩ := HR4.out
        exact ⟨(hb.cell (p := ⟨w.heap.size, 0, none⟩) hz).trans d0, (hb.cell (p := ⟨w.heap.size, 1, none⟩) hz).trans d1, (hb.cell (p := ⟨w.heap.size, 2, none⟩) hz).trans d2, d3, Nat.lt_of_lt_of_le d4 hb.size, d5.trans (hb.mono (Nat.le_of_lt hz))⟩
      clear hput hown4 HR4
      go_wp2
      go_roundw
      case rel => exact ⟨k + 1, by omega, by rw [HY.out], by go_num, by rw [HB.out]; exact HO.out, HR5⟩
      case measure => simp [intOf]; omega
    · obtain rfl : k = n := by omega
      have hp : Hid (pad (stL m a c x k) k = stL m a c x k) := by
        unfold Hid
        have := pad_full (stL m a c x k)
        rwa [stL_length] at this
      rw [hp.out] at hown
      have HO := Lib.hid (own_base hown (Nat.le_of_lt hz1'.out))
      clear hown
      go_wp2
      go_ret2
      exact ⟨_, rfl, HO.out, HR.out.all⟩
theorem statesOf_no (m a c x n : Int) (w : World) (h : ¬ (ConS m a c x ∧ 0 ≤ n ∧ n ≤ 64)) :
    Calls Try.prog 21 #[.agg #[.int .i64 m, .int .i64 a, .int .i64 c], .int .i64 x, .int .i64 n] w fun e w' => e = .returned (.tuple #[.slice none 0 0, .bool false]) ∧ Below w.heap.size w w' := by
  by_cases hp : ConS m a c x
  · have HS := Lib.hid hp
    have HI : Hid (∀ w : World, Calls Try.prog 43 #[.int .i64 n, .int .i64 0, .int .i64 64] w fun e w' => e = .returned (.bool false) ∧ w = w') := fun w => btw64_b _ _ _ _ (decide_eq_false fun y => h ⟨hp, y⟩) w
    clear hp h
    go_enter Try.func21, Try.ntmps21
    go_wp2_with fail
    refine (hasStateK_b _ _ _ _ true _ (decide_eq_true HS.out)).mono ?_
    rintro e w1 ⟨rfl, hb⟩
    have b1 := ((Below.refl w.heap.size w).alloc (Nat.le_refl _) _).trans (hb.mono (by simp))
    clear hb
    go_wp2_with (go_at_call 43; with_reducible refine (HI.out _).mono ?_; rintro e w2 ⟨rfl, rfl⟩)
    go_ret2
    exact ⟨rfl, b1⟩
  · have HS := Lib.hid hp
    clear hp h
    go_enter Try.func21, Try.ntmps21
    go_wp2_with fail
    refine (hasStateK_b _ _ _ _ false _ (decide_eq_false HS.out)).mono ?_
    rintro e w1 ⟨rfl, hb⟩
    have b1 := ((Below.refl w.heap.size w).alloc (Nat.le_refl _) _).trans (hb.mono (by simp))
    clear hb
    go_wp2
    go_ret2
    exact ⟨rfl, b1⟩
theorem l03States_any (g m a c x n : Nat) (w : World) (e0 : w.cell? ⟨g, 0, none⟩ = some (.int .i64 m)) (e1 : w.cell? ⟨g, 1, none⟩ = some (.int .i64 a)) (e2 : w.cell? ⟨g, 2, none⟩ = some (.int .i64 c)) (h1 : 2 ≤ m) (h2 : m ≤ 100000) (h3 : a < m) (h4 : c < m) (h5 : x < m) (hn : n ≤ 64) :
    Calls Try.prog 49 #[.pointer (some ⟨g, 0, none⟩), .int .i64 x, .int .i64 n] w fun e w' => ∃ v, e = .returned v ∧ w'.ownsRow w.heap.size 2 1 v n ((stL m a c x n).map (Value.int .i64)) ∧ Below w.heap.size w w' := by
  obtain ⟨i0, hi, hz0, hz1, hz2⟩ := info_parts Try.info2
  have HN : Hid (∀ (k : Nat) (w : World), w.cell? ⟨g, 0, none⟩ = some (.int .i64 m) → w.cell? ⟨g, 1, none⟩ = some (.int .i64 a) → w.cell? ⟨g, 2, none⟩ = some (.int .i64 c) → Calls Try.prog 45 #[.pointer (some ⟨g, 0, none⟩), .int .i64 (itc m a c x k)] w fun e w' => e = .returned (.int .i64 (itc m a c x (k + 1))) ∧ ∃ m, w' = w.drewN m) := fun k w e1 e2 e3 => l03Step_any g m a c _ w e1 e2 e3 h1 h2 (by omega) (by omega) (by have := itc_lt (a := a) (c := c) h5 k; omega)
  have HK0 : KIn w w g m a c := ⟨e0, e1, e2, World.block_lt_of_cell? w _ e0, Below.refl _ _⟩
  have HR1 : Hid (KIn w (w.alloc (.cells #[] 2)) g m a c) := HK0.below ((Below.refl w.heap.size w).alloc (Nat.le_refl _) _)
  have HO := Lib.hid (ownsRow_empty w 2 1)
  clear HK0 e0 e1 e2 h1 h2 h3 h4 h5
  go_enter Try.func49, Try.ntmps49
  go_wp2
  go_loopw [1, 2, 7] (fun st i v wr => ∃ k : Nat, k ≤ n ∧ st = .int .i64 (itc m a c x k) ∧ i = .int .i64 ((n : Int) - k) ∧ Hid (wr.ownsRow w.heap.size 2 1 v k ((stL m a c x k).map (Value.int .i64))) ∧ Hid (KIn w wr g m a c)) (fun _ i _ _ => (intOf i).toNat)
  case atStart => exact ⟨0, Nat.zero_le _, rfl, by simp, HO.out, HR1⟩
  case round =>
    obtain ⟨k, hk, rfl, rfl, HOk, HRk⟩ := hrel
    clear HO HR1
    by_cases hlt : k < n
    · have t1 : decide ((0 : Int) < (n : Int) - k) = true := by simp; omega
      have t2 : (0 : Int) < (n : Int) - k := by omega
      go_wp2_with fail
      refine (HN.out k _ HRk.out.1 HRk.out.2.1 HRk.out.2.2.1).mono ?_
      rintro e w4 ⟨rfl, m4, rfl⟩
      have hown := own_drewNR HOk.out m4
      have HR4 := Lib.hid (HRk.out.drewN m4)
      clear HOk HRk
      obtain ⟨wx, hwx⟩ : ∃ x, wr.drewN m4 = x := ⟨_, rfl⟩
      rw [hwx] at hown HR4 ⊢
      clear hwx
      have hz4 : w.heap.size ≤ wx.heap.size := HR4.out.2.2.2.2.size
      obtain ⟨y, hy⟩ : ∃ y, itc m a c x (k + 1) = y := ⟨_, rfl⟩
      have HB : Hid (stL m a c x (k + 1) = stL m a c x k ++ [(y : Int)]) := by unfold Hid; rw [← hy]; rfl
      have HY := Lib.hid hy
      rw [hy]
      clear hy
      go_wp2_with (at_builtin; refine wpList_append_own _ rfl _ _ 31 rfl w.heap.size 2 i0 (.int .i64 0) 1 8 Try.underlying31 hi hz0 hz1 hz2 rfl (by decide) _ _ _ rfl (hown.alloc _) ⟨wx.heap.size, 0, none⟩ 1 1 [.int .i64 y] rfl rfl (cell_one_new _ _ _) (by intro u hu; simp at hu; subst hu; rfl) (by unfold maxLen; omega) (by omega) (by simp; omega) ?_; intro v1 w1 hown1 hgrow _)
      have HR1 : Hid (KIn w w1 g m a c) := HR4.out.below (((Below.refl w.heap.size wx).alloc hz4 _).grown hgrow (by simp; omega) (own_block hown))
      have HO1 : Hid (w1.ownsRow w.heap.size 2 1 v1 (k + 1) ((stL m a c x (k + 1)).map (Value.int .i64))) := by
        unfold Hid
        rw [HB.out]
        simpa using hown1
      clear hown1 hgrow hown HR4 hz4
      go_wp2
      go_roundw
      case rel => exact ⟨k + 1, by omega, by rw [HY.out], by go_num, HO1.out, HR1⟩
      case measure => simp [intOf]; omega
    · obtain rfl : k = n := by omega
      have t1 : (k : Int) - k = 0 := by omega
      go_wp2
      go_ret
      exact ⟨_, rfl, HOk.out, HRk.out.2.2.2.2⟩
theorem specStates_yes (m a c x n : Nat) (w : World) (h1 : 2 ≤ m) (h2 : m ≤ 100000) (h3 : a < m) (h4 : c < m) (h5 : x < m) (hn : n ≤ 64) :
    Calls Try.prog 20 #[.agg #[.int .i64 m, .int .i64 a, .int .i64 c], .int .i64 x, .int .i64 n] w fun e w' => ∃ v, e = .returned (.tuple #[v, .bool true]) ∧ w'.ownsRow w.heap.size 2 1 v n ((stL m a c x n).map (Value.int .i64)) ∧ Below w.heap.size w w' := by
  have HS : Hid (ConS m a c x) := conS_nat h1 h2 h3 h4 h5
  have HI : Hid (∀ w : World, Calls Try.prog 48 #[.int .i64 n, .int .i64 0, .int .i64 64] w fun e w' => e = .returned (.bool true) ∧ w = w') := fun w => l00In_b _ _ _ _ (decide_eq_true (by omega)) w
  have HL : Hid (∀ (g : Nat) (w : World), w.cell? ⟨g, 0, none⟩ = some (.int .i64 m) → w.cell? ⟨g, 1, none⟩ = some (.int .i64 a) → w.cell? ⟨g, 2, none⟩ = some (.int .i64 c) → Calls Try.prog 49 #[.pointer (some ⟨g, 0, none⟩), .int .i64 x, .int .i64 n] w fun e w' => ∃ v, e = .returned v ∧ w'.ownsRow w.heap.size 2 1 v n ((stL m a c x n).map (Value.int .i64)) ∧ Below w.heap.size w w') := fun g w e0 e1 e2 => l03States_any g m a c x n w e0 e1 e2 h1 h2 h3 h4 h5 hn
  clear h1 h2 h3 h4 h5
  go_enter Try.func20, Try.ntmps20
  go_wp2_with fail
  have K0 := KAt.new w (.int .i64 m) (.int .i64 a) (.int .i64 c) 25
  generalize w.alloc (.cells #[.int .i64 m, .int .i64 a, .int .i64 c] 25) = w0 at K0 ⊢
  refine (l03Both_b w.heap.size m a c x true _ K0.1 K0.2.1 K0.2.2.1 (decide_eq_true HS.out)).mono ?_
  rintro e w1 ⟨rfl, m1, rfl⟩
  have K1 := Lib.hid (K0.drewN m1)
  clear K0
  generalize w0.drewN m1 = w1 at K1 ⊢
  go_wp2_with (go_at_call 48; with_reducible refine (HI.out _).mono ?_; rintro e w2 ⟨rfl, rfl⟩)
  refine (HL.out _ _ K1.out.1 K1.out.2.1 K1.out.2.2.1).mono ?_
  rintro e w2 ⟨v, rfl, ho, hb⟩
  have HO := Lib.hid (own_base ho (Nat.le_of_lt K1.out.2.2.2.2.1))
  have K2 := Lib.hid (K1.out.below hb)
  clear hb K1 ho
  go_wp2
  go_ret2
  exact ⟨_, rfl, HO.out, K2.out.all⟩
theorem specStates_no (m a c x n : Int) (w : World) (h : ¬ (ConS m a c x ∧ 0 ≤ n ∧ n ≤ 64)) :
    Calls Try.prog 20 #[.agg #[.int .i64 m, .int .i64 a, .int .i64 c], .int .i64 x, .int .i64 n] w fun e w' => e = .returned (.tuple #[.slice none 0 0, .bool false]) ∧ Below w.heap.size w w' := by
  by_cases hp : ConS m a c x
  · have HS := Lib.hid hp
    have HI : Hid (∀ w : World, Calls Try.prog 48 #[.int .i64 n, .int .i64 0, .int .i64 64] w fun e w' => e = .returned (.bool false) ∧ w = w') := fun w => l00In_b _ _ _ _ (decide_eq_false fun y => h ⟨hp, y⟩) w
    clear hp h
    go_enter Try.func20, Try.ntmps20
    go_wp2_with (first | (go_at_call 44; refine (l03Both_b w.heap.size m a c x true _ (by simp [go_sem]) (by simp [go_sem]) (by simp [go_sem]) (decide_eq_true HS.out)).mono ?_; rintro e w1 ⟨rfl, m, rfl⟩) | (go_at_call 48; with_reducible refine (HI.out _).mono ?_; rintro e w2 ⟨rfl, rfl⟩))
    go_ret2
    exact ⟨rfl, below_drewN ((Below.refl _ _).alloc (Nat.le_refl _) _) _⟩
  · have HS := Lib.hid hp
    clear hp h
    go_enter Try.func20, Try.ntmps20
    go_wp2_with (go_at_call 44; refine (l03Both_b w.heap.size m a c x false _ (by simp [go_sem]) (by simp [go_sem]) (by simp [go_sem]) (decide_eq_false HS.out)).mono ?_; rintro e w1 ⟨rfl, m, rfl⟩)
    go_ret2
    exact ⟨rfl, below_drewN ((Below.refl _ _).alloc (Nat.le_refl _) _) _⟩
theorem lawStates_core (m a c x n : Int) (w : World) (xs : List Int) (ok : Bool) (hn : xs.length ≤ 400) (HS : Hid (GivesList 20 #[.agg #[.int .i64 m, .int .i64 a, .int .i64 c], .int .i64 x, .int .i64 n] xs ok)) (HI : Hid (GivesList 21 #[.agg #[.int .i64 m, .int .i64 a, .int .i64 c], .int .i64 x, .int .i64 n] xs ok)) :
    Calls Try.prog 5 #[.agg #[.int .i64 m, .int .i64 a, .int .i64 c], .int .i64 x, .int .i64 n] w fun e w' => e = .returned (.bool true) ∧ Below w.heap.size w w' := by
  have hok : (ok != ok) = false := by simp
  have hq : (((1 : Int) + (xs.length : Int)) != ((1 : Int) + (xs.length : Int))) = false := by simp
  go_enter Try.func5, Try.ntmps5
  go_wp2_with fail
  have K := KAt.new w (.int .i64 m) (.int .i64 a) (.int .i64 c) 23
  generalize w.alloc (.cells #[.int .i64 m, .int .i64 a, .int .i64 c] 23) = w0 at K ⊢
  refine (toCon_any _ _ _ _).mono ?_
  rintro e wa ⟨rfl, hb⟩
  have KA := Lib.hid (K.below hb)
  clear hb K
  go_wp2_with fail
  refine (HS.out wa).mono ?_
  rintro e w2 ⟨va, rfl, ha, hb2⟩
  have KB := KA.out.below hb2
  obtain ⟨x0, x1, x2, x3⟩ := KB
  go_wp2_with fail
  refine (toCon_any _ _ _ _).mono ?_
  rintro e wb ⟨rfl, hb3⟩
  have hba := hb2.trans (hb3.mono hb2.size)
  have ha3 := (ha.below hb3).up hb3.size
  clear ha hb2 hb3 x0 x1 x2 x3
  go_wp2_with fail
  refine (HI.out wb).mono ?_
  rintro e w4 ⟨vb, rfl, hvb, hb4⟩
  have ha4 := ha3.below hb4
  have hbel4 := hba.trans (hb4.mono hba.size)
  have z1 := hba.size
  have z2 := hb4.size
  have H2 := Lib.hid (And.intro ha4 hvb)
  clear ha3 hb4 hba ha4 hvb
  go_wp2_with fail
  refine (eq64_yes _ _ xs _ _ _ _ _ H2.out.2 H2.out.1 (by omega)).mono ?_
  rintro e w5 ⟨rfl, n3, rfl⟩
  go_wp2_with fail
  refine (mark64_any _ xs _ _ 1 _ (H2.out.2.drewN n3) (by omega) (by omega) (by omega)).mono ?_
  rintro e w6 ⟨rfl, hm, hg⟩
  have K := Lib.hid (Kept.mk0 hbel4 z1 z2 H2.out.1 H2.out.2 hm hg)
  clear hm hg hbel4 z2 H2
  go_wp2_with fail
  refine (held64_any _ _ _ _ 1 _ K.out.sb (by omega) (by omega) (by omega)).mono ?_
  rintro e w4 ⟨rfl, rfl⟩
  obtain ⟨x0, x1, x2, x3⟩ := KA.out.below K.out.bel
  go_wp2_with fail
  refine (toCon_any _ _ _ _).mono ?_
  rintro e w7 ⟨rfl, hb7⟩
  have K7 := Lib.hid (K.out.next hb7 z1)
  clear K hb7 x0 x1 x2 x3
  go_wp2_with fail
  refine (HI.out _).mono ?_
  rintro e w8 ⟨vc, rfl, hc, hb8⟩
  have K8 := Lib.hid (K7.out.next hb8 z1)
  have HC := Lib.hid hc
  clear K7 hb8 hc
  go_wp2_with fail
  refine (eq64_yes _ _ xs _ _ _ _ _ HC.out K8.out.sa (by omega)).mono ?_
  rintro e w9 ⟨rfl, n6, rfl⟩
  have K9 := Lib.hid (K8.out.drewN n6)
  clear K8 HC
  go_wp2_with fail
  refine (held64_any _ _ _ _ 1 _ K9.out.sb (by omega) (by omega) (by omega)).mono ?_
  rintro e w10 ⟨rfl, rfl⟩
  go_wp2
  go_ret
  exact ⟨rfl, (KA.out.below K9.out.bel).all⟩
theorem lawStatesK (m a c x n : Int) (w : World) :
    Calls Try.prog 5 #[.agg #[.int .i64 m, .int .i64 a, .int .i64 c], .int .i64 x, .int .i64 n] w fun e w' => e = .returned (.bool true) ∧ Below w.heap.size w w' := by
  by_cases h : ConS m a c x ∧ 0 ≤ n ∧ n ≤ 64
  · obtain ⟨h', n0, n1⟩ := h
    obtain ⟨M, A, C, X, rfl, rfl, rfl, rfl, h1, h2, h3, h4, h5⟩ := h'.nat
    obtain ⟨N, rfl⟩ := Int.eq_ofNat_of_zero_le n0
    have hl := stL_length M A C X N
    refine lawStates_core M A C X N w (stL M A C X N) true (by omega) (fun W => ?_) (fun W => ?_)
    · exact (specStates_yes M A C X N W h1 h2 h3 h4 h5 (by omega)).mono fun e w' ⟨v, he, ho, hb⟩ => ⟨v, he, SL.of_own (by rw [hl]; exact ho), hb⟩
    · exact (statesOf_yes M A C X N W h1 h2 h3 h4 h5 (by omega)).mono fun e w' ⟨v, he, ho, hb⟩ => ⟨v, he, SL.of_own (by rw [hl]; exact ho), hb⟩
  · refine lawStates_core m a c x n w [] false (by simp) (fun W => ?_) (fun W => ?_)
    · exact (specStates_no m a c x n W h).mono fun e w' ⟨he, hw⟩ => ⟨_, he, .inl ⟨rfl, rfl⟩, hw⟩
    · exact (statesOf_no m a c x n W h).mono fun e w' ⟨he, hw⟩ => ⟨_, he, .inl ⟨rfl, rfl⟩, hw⟩
end Go.Proofs.Ytmapbaomfaplmaa
