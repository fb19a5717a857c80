/- Linear machines: whether they are valid: impl and spec; the laws' copies of them; the law FnExactValidLinear. -/
import Derived.Test.YtciofobedgmbjaaAreB
import Derived.Test.YtciofobedgmbjaaReg
import Derived.Test.YtciofobedgmbjaaD3
import Derived.Test.YtciofobedgmbjaaL7
namespace Go.Proofs.Ytciofobedgmbjaa
open Go.RowKit Go.PlainAid
set_option maxHeartbeats 800000

/-- a valid machine -/
def LinP (x : Int) (xs : List Int) (o : Int) : Prop := (1 ≤ x ∧ x ≤ 16) ∧ (xs.length : Int) = x ∧ (∀ (i : Nat) (y : Int), xs[i]? = some y → InP x y) ∧ InP x o
theorem in_pow {W : Nat} {P : Int} (hP : 2 ^ W = P) (s : Int) : InP (W : Int) s ↔ 0 ≤ s ∧ s ≤ P - 1 := inP_nat hP s
theorem RO.gr {W0 : World} {a : Option Addr} {xs : List Int} (h : RO W0.heap.size W0 a xs) (q : GR W0 none) : RO q.w.heap.size q.w a xs := fun i x hx => by
  obtain ⟨g, off, e, hg, hc⟩ := h i x hx
  exact ⟨g, off, e, Nat.lt_of_lt_of_le hg q.h.size, (World.cell?_of_block (a := ⟨g, off + i, none⟩) (q.h.block g hg (by simp))).trans hc⟩
theorem grb {W0 W : World} (h : W0.drew.grownBy W none) : Below W0.heap.size W0 W := ⟨h.os, h.tape, h.output, h.size, fun k hk => h.block k hk (by simp)⟩
theorem isStL_b (W : Nat) (v : Value) (o s : Int) (b : Bool) (w : World) (hW : W ≤ 16) (h : decide (InP (W : Int) s) = b) :
    Calls Try.prog 33 #[.agg #[.int .i64 W, v, .int .i64 o], .int .i64 s] w fun e w' => e = .returned (.bool b) ∧ Below w.heap.size w w' := by
  obtain ⟨P, hP⟩ : ∃ P : Int, 2 ^ W = P := ⟨_, rfl⟩
  have HO : Hid (∀ w : World, Calls Try.prog 32 #[.int .i64 W] w fun e w' => e = .returned (.int .i64 (P - 1)) ∧ w = w') := fun w => ones_any W P w (by omega) hP
  have HS : Hid (∀ w : World, Calls Try.prog 30 #[.int .i64 s, .int .i64 0, .int .i64 (P - 1)] w fun e w' => e = .returned (.bool b) ∧ w = w') := fun w => btw64_b _ _ _ _ (by rw [← h]; congr 1; exact propext (in_pow hP s).symm) w
  clear h hP
  go_enter Try.func33, Try.ntmps33
  go_wp2_with (first | (go_at_call 32; with_reducible refine (HO.out _).mono ?_; rintro e w1 ⟨rfl, rfl⟩) | (go_at_call 30; with_reducible refine (HS.out _).mono ?_; rintro e w1 ⟨rfl, rfl⟩))
  go_ret
  exact ⟨rfl, (Below.refl _ _).alloc (Nat.le_refl _) _⟩
theorem vlin_b (x : Int) (a : Option Addr) (n c : Nat) (xs : List Int) (o : Int) (b : Bool) (w : World) (h : RO w.heap.size w a xs) (hn : xs.length = n) (hl : n ≤ 1048576) (hb : decide (1 ≤ x ∧ x ≤ 16) = true ∧ (n : Int) = x → (b = true ↔ LinP x xs o)) (hb2 : ¬ (decide (1 ≤ x ∧ x ≤ 16) = true ∧ (n : Int) = x) → b = false) :
    Calls Try.prog 12 #[.agg #[.int .i64 x, .slice a n c, .int .i64 o]] w fun e w' => e = .returned (.bool b) ∧ Below w.heap.size w w' := by
  have A0 := D3.new w (.int .i64 x) (.slice a n c) (.int .i64 o) 27
  have B0 : Below w.heap.size w (w.alloc (.cells #[.int .i64 x, .slice a n c, .int .i64 o] 27)) := (Below.refl _ _).alloc (Nat.le_refl _) _
  by_cases hx : 1 ≤ x ∧ x ≤ 16
  · have HI : Hid (∀ w : World, Calls Try.prog 30 #[.int .i64 x, .int .i64 1, .int .i64 16] w fun e w' => e = .returned (.bool true) ∧ Below w.heap.size w w') := fun w => (btw64_b _ _ _ _ (decide_eq_true hx) w).mono fun e w' ⟨h1, h2⟩ => ⟨h1, by rw [← h2]; exact Below.refl _ _⟩
    by_cases hnx : (n : Int) = x
    · subst hnx
      have hbb := hb ⟨decide_eq_true hx, rfl⟩
      obtain ⟨P, hP⟩ : ∃ P : Int, 2 ^ n = P := ⟨_, rfl⟩
      have HO : Hid (∀ w : World, Calls Try.prog 32 #[.int .i64 n] w fun e w' => e = .returned (.int .i64 (P - 1)) ∧ Below w.heap.size w w') := fun w => (ones_any n P w (by omega) hP).mono fun e w' ⟨h1, h2⟩ => ⟨h1, by rw [← h2]; exact Below.refl _ _⟩
      obtain ⟨b3, e3⟩ : ∃ b4 : Bool, b4 = true ↔ ∀ (i : Nat) (y : Int), xs[i]? = some y → 0 ≤ y ∧ y ≤ P - 1 := by
        by_cases g : ∀ (i : Nat) (y : Int), xs[i]? = some y → 0 ≤ y ∧ y ≤ P - 1
        · exact ⟨true, fun _ => g, fun _ => rfl⟩
        · exact ⟨false, fun e => absurd e (by simp), fun k => absurd k g⟩
      obtain ⟨b4, e4⟩ : ∃ b4, decide (InP (n : Int) o) = b4 := ⟨_, rfl⟩
      have HR0 : RO (w.alloc (.cells #[.int .i64 n, .slice a n c, .int .i64 o] 27)).drew.heap.size (w.alloc (.cells #[.int .i64 n, .slice a n c, .int .i64 o] 27)).drew a xs := (h.below B0).up B0.size
      have HA : Hid (∀ q : GR (w.alloc (.cells #[.int .i64 n, .slice a n c, .int .i64 o] 27)).drew none, Calls Try.prog 31 #[.slice a n c, .int .i64 0, .int .i64 (P - 1)] q.w fun e w' => e = .returned (.bool b3) ∧ Below q.w.heap.size q.w w') := fun q =>
        (areB_any a n c xs 0 (P - 1) q.w (HR0.gr q) hn hl b3 e3).mono fun e w' ⟨h1, h2⟩ => ⟨h1, by rw [← h2]; exact Below.refl _ _⟩
      have HBW := Lib.hid B0
      obtain ⟨q0, q1, q2⟩ := (A0.drew).gr (rw := none) (by simp)
      have t1 : ((n : Int) == (n : Int)) = true := by simp
      have HS : Hid (∀ W : World, Calls Try.prog 33 #[.agg #[.int .i64 n, .slice a n c, .int .i64 o], .int .i64 o] W fun e w' => e = .returned (.bool b4) ∧ Below W.heap.size W w') := fun W => isStL_b n _ o o b4 W (by omega) e4
      have HB : Hid (b = (b3 && b4)) := by
        unfold Hid
        rw [Bool.eq_iff_iff, hbb, Bool.and_eq_true, e3, ← e4, decide_eq_true_eq]
        constructor
        · rintro ⟨_, _, h3, h4⟩; exact ⟨fun i y hy => (in_pow hP y).1 (h3 i y hy), h4⟩
        · rintro ⟨h3, h4⟩; exact ⟨hx, by omega, fun i y hy => (in_pow hP y).2 (h3 i y hy), h4⟩
      clear hb hb2 hbb e3 e4 h hn hP HR0 A0 B0
      rcases (show b3 = false ∨ b3 = true by cases b3 <;> simp) with rfl | rfl
      all_goals
        simp only [Bool.false_and, Bool.true_and] at HB
        obtain rfl := HB.out
        clear HB
        go_enter Try.func12, Try.ntmps12
        go_wp2_with fail
        refine wp_region_mix (none) [0, 1, 2, 3, 4, 5, 6, 7, 8, 9, 10, 11, 12, 13, 14, 15, 16, 17, 18, 19, 20, 21, 22, 23, 24, 25] [] (by kernel_rfl) (by kernel_rfl) ?_
        simp only [pickOps, List.filterMap_cons, List.filterMap_nil, List.getElem?_toArray, List.getElem?_cons_succ, List.getElem?_cons_zero]
        repeat (refine wpQuietG_step (fun K hK => ?_); go_simp; first | (refine hK _ ?_; clear hK K) | (apply Exists.intro; refine ⟨fun _ => ?_, hK _ ?_⟩; (first | (with_reducible exact HI.out _) | (with_reducible exact HO.out _) | (with_reducible exact HA.out _) | (with_reducible exact HS.out _)); clear hK K))
        refine wpQuietG_nil ?_
        intro W hW1 hW2
        go_wp2
        go_ret
        exact ⟨rfl, HBW.out.trans ((grb hW1).mono HBW.out.size)⟩
    · obtain rfl := hb2 (fun k => hnx k.2)
      have t1 : ((n : Int) == x) = false := by simpa using hnx
      have HBW := Lib.hid B0
      obtain ⟨q0, q1, q2⟩ := (A0.drew).gr (rw := none) (by simp)
      clear hb hb2 h hn A0 B0 hx hnx
      go_enter Try.func12, Try.ntmps12
      go_wp2_with fail
      refine wp_region_mix (none) [0, 1, 2, 3, 4, 5, 6, 7, 8, 9, 10, 11, 12, 13, 14, 15, 16, 17, 18, 19, 20, 21, 22, 23, 24, 25] [] (by kernel_rfl) (by kernel_rfl) ?_
      simp only [pickOps, List.filterMap_cons, List.filterMap_nil, List.getElem?_toArray, List.getElem?_cons_succ, List.getElem?_cons_zero]
      repeat (refine wpQuietG_step (fun K hK => ?_); go_simp; first | (refine hK _ ?_; clear hK K) | (apply Exists.intro; refine ⟨fun _ => ?_, hK _ ?_⟩; (first | (with_reducible exact HI.out _)); clear hK K))
      refine wpQuietG_nil ?_
      intro W hW1 hW2
      go_wp2
      go_ret
      exact ⟨rfl, HBW.out.trans ((grb hW1).mono HBW.out.size)⟩
  · obtain rfl := hb2 (fun k => hx (of_decide_eq_true k.1))
    have HI : Hid (∀ w : World, Calls Try.prog 30 #[.int .i64 x, .int .i64 1, .int .i64 16] w fun e w' => e = .returned (.bool false) ∧ Below w.heap.size w w') := fun w => (btw64_b _ _ _ _ (decide_eq_false hx) w).mono fun e w' ⟨h1, h2⟩ => ⟨h1, by rw [← h2]; exact Below.refl _ _⟩
    have HBW := Lib.hid B0
    obtain ⟨q0, q1, q2⟩ := (A0.drew).gr (rw := none) (by simp)
    clear hb hb2 h hn A0 B0 hx
    go_enter Try.func12, Try.ntmps12
    go_wp2_with fail
    refine wp_region_mix (none) [0, 1, 2, 3, 4, 5, 6, 7, 8, 9, 10, 11, 12, 13, 14, 15, 16, 17, 18, 19, 20, 21, 22, 23, 24, 25] [] (by kernel_rfl) (by kernel_rfl) ?_
    simp only [pickOps, List.filterMap_cons, List.filterMap_nil, List.getElem?_toArray, List.getElem?_cons_succ, List.getElem?_cons_zero]
    repeat (refine wpQuietG_step (fun K hK => ?_); go_simp; first | (refine hK _ ?_; clear hK K) | (apply Exists.intro; refine ⟨fun _ => ?_, hK _ ?_⟩; (first | (with_reducible exact HI.out _)); clear hK K))
    refine wpQuietG_nil ?_
    intro W hW1 hW2
    go_wp2
    go_ret
    exact ⟨rfl, HBW.out.trans ((grb hW1).mono HBW.out.size)⟩
theorem vlin_any (x : Int) (a : Option Addr) (n c : Nat) (xs : List Int) (o : Int) (b : Bool) (w : World) (h : RO w.heap.size w a xs) (hn : xs.length = n) (hl : n ≤ 1048576) (hb : b = true ↔ LinP x xs o) :
    Calls Try.prog 12 #[.agg #[.int .i64 x, .slice a n c, .int .i64 o]] w fun e w' => e = .returned (.bool b) ∧ Below w.heap.size w w' :=
  vlin_b x a n c xs o b w h hn hl (fun _ => hb) (fun k => by
    cases b with
    | false => rfl
    | true => exact absurd (hb.1 rfl) (fun hp => k ⟨decide_eq_true hp.1, by rw [← hn]; exact hp.2.1⟩))
theorem in_fst8 {xs : List Int} {P : Int} {k : Nat} (h : ∀ i x, i < k → xs[i]? = some x → InP P x) {y : Int} (hy : xs[k]? = some y) (hb : InP P y) : ∀ i x, i < k + 1 → xs[i]? = some x → InP P x := fun i x hi hx => by
  by_cases e : i = k
  · subst e
    rw [hy] at hx
    cases hx
    exact hb
  · exact h i x (by omega) hx
theorem l08Is_any (g : Nat) (x : Int) (a : Option Addr) (n c : Nat) (xs : List Int) (o : Int) (b : Bool) (w : World) (hc : w.cell? ⟨g, 0, none⟩ = some (.int .i64 x) ∧ w.cell? ⟨g, 1, none⟩ = some (.slice a n c) ∧ w.cell? ⟨g, 2, none⟩ = some (.int .i64 o)) (h : RO w.heap.size w a xs) (hn : xs.length = n) (hl : n ≤ 1048576) (hb : b = true ↔ LinP x xs o) :
    Calls Try.prog 28 #[.pointer (some ⟨g, 0, none⟩)] w fun e w' => e = .returned (.bool b) ∧ ∃ m, w' = w.drewN m := by
  obtain ⟨c0, c1, c2⟩ := hc
  have HB := Lib.hid hb
  by_cases hx : 1 ≤ x ∧ x ≤ 16
  · have HI : Hid (∀ w : World, Calls Try.prog 40 #[.int .i64 x, .int .i64 1, .int .i64 16] w fun e w' => e = .returned (.bool true) ∧ w = w') := fun w => l00In_b _ _ _ _ (decide_eq_true hx) w
    by_cases hnx : (n : Int) = x
    · subst hnx
      have t1 : ((n : Int) != (n : Int)) = false := by simp
      obtain ⟨b4, e4⟩ : ∃ b4, decide (InP (n : Int) o) = b4 := ⟨_, rfl⟩
      have HS : Hid (∀ W : World, Calls Try.prog 56 #[.int .i64 n, .int .i64 o] W fun e w' => e = .returned (.bool b4) ∧ W = w') := fun W => l02State_b n o b4 W (by omega) e4
      cases b4 with
      | false =>
        obtain rfl : b = false := by
          cases b with
          | false => rfl
          | true => exact absurd (HB.out.1 rfl).2.2.2 (of_decide_eq_false e4)
        clear hb HB e4 h hn hx
        go_enter Try.func28, Try.ntmps28
        go_wp2
        go_quiet ((first | (go_at_call 40; with_reducible exact quietG (HI.out _)) | (go_at_call 56; with_reducible exact quietG (HS.out _))))
        go_wp2
        go_ret
        exact ⟨rfl, _, rfl⟩
      | true =>
        have HO := Lib.hid (of_decide_eq_true e4)
        have HR := Lib.hid h
        have HN := Lib.hid hn
        have HX := Lib.hid hx
        have hn16 : n ≤ 16 := by omega
        clear hb e4 h hn hx
        go_enter Try.func28, Try.ntmps28
        go_wp2
        go_quiet ((first | (go_at_call 40; with_reducible exact quietG (HI.out _)) | (go_at_call 56; with_reducible exact quietG (HS.out _))))
        go_wp2
        go_loopw [3] (fun iv wr => ∃ k m : Nat, k ≤ n ∧ iv = .int .i64 k ∧ Hid (∀ i x, i < k → xs[i]? = some x → InP (n : Int) x) ∧ wr = w.drewN m) (fun iv _ => n - (intOf iv).toNat)
        case atStart => exact ⟨0, nq, Nat.zero_le _, rfl, fun i x hi => absurd hi (by omega), rfl⟩
        case round =>
          obtain ⟨k, m, hk, rfl, HK, hW⟩ := hrel
          have HW := Lib.hid hW
          have HBw : Hid (Below w.heap.size w wr) := by unfold Hid; rw [hW]; exact below_drewN (Below.refl _ _) _
          have d0 : wr.cell? ⟨g, 0, none⟩ = some (.int .i64 n) := by rw [hW]; exact c0
          have d1 : wr.cell? ⟨g, 1, none⟩ = some (.slice a n c) := by rw [hW]; exact c1
          clear hW
          by_cases hlt : k < n
          · obtain ⟨y, hy⟩ : ∃ y, xs[k]? = some y := ⟨_, List.getElem?_eq_getElem (by have := HN.out; omega)⟩
            obtain ⟨g4, off, rfl, hg, hc0⟩ := HR.out k y hy
            have cy := (HBw.out.cell (p := ⟨g4, off + k, none⟩) hg).trans hc0
            have HY := Lib.hid hy
            clear hc0 hy
            by_cases hin : InP (n : Int) y
            · have H2 : Hid (∀ W : World, Calls Try.prog 56 #[.int .i64 n, .int .i64 y] W fun e w' => e = .returned (.bool true) ∧ W = w') := fun W => l02State_b n y true W (by omega) (decide_eq_true hin)
              have HK2 := Lib.hid (in_fst8 HK.out HY.out hin)
              clear hin HK HB
              go_wp2
              go_quiet ((go_at_call 56; with_reducible exact quietG (H2.out _)))
              go_wp2
              go_roundw
              case rel => exact ⟨k + 1, m + nq, by omega, by go_num, HK2, by rw [HW.out]; exact drewN_twoG w m _⟩
              case measure => first | (simp [intOf]; done) | (simp [intOf]; omega)
            · have H2 : Hid (∀ W : World, Calls Try.prog 56 #[.int .i64 n, .int .i64 y] W fun e w' => e = .returned (.bool false) ∧ W = w') := fun W => l02State_b n y false W (by omega) (decide_eq_false hin)
              obtain rfl : b = false := by
                cases b with
                | false => rfl
                | true => exact absurd ((HB.out.1 rfl).2.2.1 k y HY.out) hin
              clear hin HK HB
              go_wp2
              go_quiet ((go_at_call 56; with_reducible exact quietG (H2.out _)))
              go_wp2
              go_ret
              exact ⟨rfl, _, by rw [HW.out]; exact drewN_twoG w m _⟩
          · obtain rfl : k = n := by omega
            obtain rfl : b = true := HB.out.2 ⟨HX.out, by rw [HN.out], fun i y hy => HK.out i y (by have := (List.getElem?_eq_some_iff.1 hy).1; have := HN.out; omega) hy, HO.out⟩
            clear HB HK
            go_wp2
            go_ret
            exact ⟨rfl, m, HW.out⟩
    · obtain rfl : b = false := by
        cases b with
        | false => rfl
        | true => exact absurd (by rw [← hn]; exact (hb.1 rfl).2.1) hnx
      have t1 : ((n : Int) != x) = true := by simpa using hnx
      clear hb HB h hn hx hnx
      go_enter Try.func28, Try.ntmps28
      go_wp2
      go_quiet ((go_at_call 40; with_reducible exact quietG (HI.out _)))
      go_wp2
      go_ret
      exact ⟨rfl, _, rfl⟩
  · have HI : Hid (∀ w : World, Calls Try.prog 40 #[.int .i64 x, .int .i64 1, .int .i64 16] w fun e w' => e = .returned (.bool false) ∧ w = w') := fun w => l00In_b _ _ _ _ (decide_eq_false hx) w
    obtain rfl : b = false := by
      cases b with
      | false => rfl
      | true => exact absurd (hb.1 rfl).1 hx
    clear hb HB h hn hx
    go_enter Try.func28, Try.ntmps28
    go_wp2
    go_quiet ((go_at_call 40; with_reducible exact quietG (HI.out _)))
    go_wp2
    go_ret
    exact ⟨rfl, _, rfl⟩
theorem specVlin_any (x : Int) (a : Option Addr) (n c : Nat) (xs : List Int) (o : Int) (b : Bool) (w : World) (h : RO w.heap.size w a xs) (hn : xs.length = n) (hl : n ≤ 1048576) (hb : b = true ↔ LinP x xs o) :
    Calls Try.prog 10 #[.agg #[.int .i64 x, .slice a n c, .int .i64 o]] w fun e w' => e = .returned (.bool b) ∧ Below w.heap.size w w' := by
  have A0 := D3.new w (.int .i64 x) (.slice a n c) (.int .i64 o) 27
  have B0 : Below w.heap.size w (w.alloc (.cells #[.int .i64 x, .slice a n c, .int .i64 o] 27)) := (Below.refl _ _).alloc (Nat.le_refl _) _
  have HL := Lib.hid (l08Is_any w.heap.size x a n c xs o b _ A0.1 ((h.below B0).up B0.size) hn hl hb)
  have HBW := Lib.hid B0
  clear A0 B0 h hn hb
  go_enter Try.func10, Try.ntmps10
  go_wp2_with fail
  refine HL.out.mono ?_
  rintro e w1 ⟨rfl, m, rfl⟩
  go_wp2
  go_ret
  exact ⟨rfl, below_drewN HBW.out _⟩
end Go.Proofs.Ytciofobedgmbjaa
