/- The walks of exact laws of linear machines whose function and model answer alike (written by tools/genlin.py). -/
import Derived.Test.YtciofobedgmbjaaLinB
namespace Go.Proofs.Ytciofobedgmbjaa
open Go.RowKit Go.PlainAid
set_option maxHeartbeats 800000

theorem szLin_any (x : Int) (a : Option Addr) (n c : Nat) (o : Int) (hn : n ≤ maxLen) (w : World) :
    Calls Try.prog 9 #[.agg #[.int .i64 x, .slice a n c, .int .i64 o], .int .i64 1048576] w fun e w' => e = .returned (.int .i64 (if (1048576 : Int) - n < 0 then -1 else 1048576 - n)) ∧ Below w.heap.size w w' := by
  unfold maxLen at hn
  have w1 : IntKind.i64.wrap ((1048576 : Int) - n) = (1048576 : Int) - n := IntWalk.i64_in _ (by omega)
  have HS : Hid (∀ W : World, Calls Try.prog 27 #[.slice a n c, .int .i64 1048576] W fun e w' => e = .returned (.int .i64 (if (1048576 : Int) - n < 0 then -1 else 1048576 - n)) ∧ W = w') := fun W => by
    by_cases h : (1048576 : Int) - n < 0
    · rw [if_pos h]
      go_enter Try.func27, Try.ntmps27
      go_wp2
      go_ret
      exact ⟨rfl, rfl⟩
    · rw [if_neg h]
      go_enter Try.func27, Try.ntmps27
      go_wp2
      go_ret
      exact ⟨rfl, rfl⟩
  by_cases h : (1048576 : Int) - n < 0
  · rw [if_pos h] at HS ⊢
    go_enter Try.func9, Try.ntmps9
    go_wp2_with fail
    refine (HS.out _).mono ?_
    rintro e w1 ⟨rfl, rfl⟩
    go_wp2
    go_ret
    exact ⟨rfl, (Below.refl _ w).alloc (Nat.le_refl _) _⟩
  · rw [if_neg h] at HS ⊢
    go_enter Try.func9, Try.ntmps9
    go_wp2_with fail
    refine (HS.out _).mono ?_
    rintro e w1 ⟨rfl, rfl⟩
    go_wp2
    go_ret
    exact ⟨rfl, (Below.refl _ w).alloc (Nat.le_refl _) _⟩
theorem eqLin_any (x : Int) (a b : Option Addr) (n ca cb : Nat) (xs : List Int) (o : Int) (b1 t1 b2 t2 : Nat) (w : World) (h1 : SL b1 t1 w (.slice a n ca) xs) (h2 : SL b2 t2 w (.slice b n cb) xs) (ht1 : t1 ≤ w.heap.size) (ht2 : t2 ≤ w.heap.size) (hn : xs.length ≤ 1048576) :
    Calls Try.prog 13 #[.agg #[.int .i64 x, .slice a n ca, .int .i64 o], .agg #[.int .i64 x, .slice b n cb, .int .i64 o]] w fun e w' => e = .returned (.bool true) ∧ Below w.heap.size w w' := by
  have e0 : (x != x) = false := by simp
  have e1 : (o != o) = false := by simp
  have A0 := (D3.new w (.int .i64 x) (.slice a n ca) (.int .i64 o) 27).alloc (.cells #[.int .i64 x, .slice b n cb, .int .i64 o] 27)
  have A1 := D3.new (w.alloc (.cells #[.int .i64 x, .slice a n ca, .int .i64 o] 27)) (.int .i64 x) (.slice b n cb) (.int .i64 o) 27
  have B : Below w.heap.size w ((w.alloc (.cells #[.int .i64 x, .slice a n ca, .int .i64 o] 27)).alloc (.cells #[.int .i64 x, .slice b n cb, .int .i64 o] 27)) := ((Below.refl _ w).alloc (Nat.le_refl _) _).alloc (by simp) _
  simp only [World.size_alloc] at A1
  have HE := Lib.hid (eq64_yes _ _ xs _ _ _ _ _ (h1.below (B.mono ht1)) (h2.below (B.mono ht2)) hn)
  have HB := Lib.hid B
  clear h1 h2 B
  go_enter Try.func13, Try.ntmps13
  go_wp2_with fail
  generalize ((w.alloc (.cells #[.int .i64 x, .slice a n ca, .int .i64 o] 27)).alloc (.cells #[.int .i64 x, .slice b n cb, .int .i64 o] 27)) = w1 at A0 A1 HB HE ⊢
  refine (HE.out).mono ?_
  rintro e w2 ⟨rfl, k, rfl⟩
  obtain ⟨⟨x0, x1, x2⟩, _⟩ := A0.drewN k
  obtain ⟨⟨y0, y1, y2⟩, _⟩ := A1.drewN k
  clear A0 A1 HE
  go_wp2
  go_ret
  exact ⟨rfl, below_drewN HB.out _⟩

def GivesValidLinear (f : FuncId) (x : Int) (n : Nat) (xs : List Int) (o : Int) (ok : Bool) : Prop := ∀ (W : World) b c, RO W.heap.size W b xs → n ≤ c → Calls Try.prog f #[.agg #[.int .i64 x, .slice b n c, .int .i64 o]] W fun e w' => e = .returned (.bool ok) ∧ Below W.heap.size W w'
theorem lawValidLinear_core (x : Int) (a : Option Addr) (n cap : Nat) (xs : List Int) (o : Int) (ok : Bool) (w : World) (h : RO w.heap.size w a xs) (hn : xs.length = n) (hl : n ≤ 1048576) (HS : Hid (GivesValidLinear 10 x n xs o  ok)) (HI : Hid (GivesValidLinear 12 x n xs o  ok)) :
    Calls Try.prog 3 #[.agg #[.int .i64 x, .slice a n cap, .int .i64 o]] w fun e w' => e = .returned (.bool true) ∧ Below w.heap.size w w' := by
  have HR := Lib.hid h
  have HN := Lib.hid hn
  have hyl : xs.length ≤ 1048576 := by omega
  have hok : (ok != ok) = false := by simp
  have HZ : Hid (∀ W : World, Calls Try.prog 9 #[.agg #[.int .i64 x, .slice a n cap, .int .i64 o], .int .i64 1048576] W fun e w' => e = .returned (.int .i64 ((1048576 : Int) - n)) ∧ Below W.heap.size W w') := fun W => by
    have := szLin_any x a n cap o (by unfold maxLen; omega) W
    rwa [if_neg (by omega)] at this
  have t0 : decide ((1048576 : Int) - (n : Int) < 0) = false := by simp; omega
  clear h hn
  have A0 := D3.new w (.int .i64 x) (.slice a n cap) (.int .i64 o) 24
  have B0 : Below w.heap.size w (w.alloc (.cells #[.int .i64 x, .slice a n cap, .int .i64 o] 24)) := (Below.refl _ _).alloc (Nat.le_refl _) _
  go_enter Try.func3, Try.ntmps3
  go_wp2_with fail
  generalize w.alloc (.cells #[.int .i64 x, .slice a n cap, .int .i64 o] 24) = w0 at A0 B0 ⊢
  refine (HZ.out _).mono ?_
  rintro e w1 ⟨rfl, hb⟩
  replace A0 := A0.far hb
  replace B0 := B0.trans (hb.mono B0.size)
  clear hb HZ
  obtain ⟨⟨x0, x1, x2⟩, _⟩ := id A0
  go_wp2_with fail
  refine (toLin_any x a n cap xs o w1 ((HR.out.below B0).up B0.size) HN.out hl).mono ?_
  rintro e w2 ⟨b2, c2, rfl, r2, k2, _, hb⟩
  replace A0 := A0.far hb
  replace B0 := B0.trans (hb.mono B0.size)
  clear hb x0 x1 x2
  go_wp2_with fail
  refine (HS.out w2 b2 c2 r2 k2).mono ?_
  rintro e w3 ⟨rfl, hb⟩
  replace A0 := A0.far hb
  replace B0 := B0.trans (hb.mono B0.size)
  clear hb r2
  obtain ⟨⟨x0, x1, x2⟩, _⟩ := id A0
  go_wp2_with fail
  refine (toLin_any x a n cap xs o w3 ((HR.out.below B0).up B0.size) HN.out hl).mono ?_
  rintro e w4 ⟨b4, c4, rfl, r4, k4, s4, hb⟩
  replace A0 := A0.far hb
  replace B0 := B0.trans (hb.mono B0.size)
  have z4 := hb.size
  clear hb x0 x1 x2
  have A1 := D3.new w4 (.int .i64 x) (.slice b4 n c4) (.int .i64 o) 27
  have C1 : Below w4.heap.size w4 (w4.alloc (.cells #[.int .i64 x, .slice b4 n c4, .int .i64 o] 27)) := (Below.refl _ _).alloc (Nat.le_refl _) _
  replace A0 := A0.far C1
  replace B0 := B0.trans (C1.mono B0.size)
  replace r4 := (r4.below C1).up C1.size
  replace s4 := s4.below C1
  have l4 : w4.heap.size ≤ (w4.alloc (.cells #[.int .i64 x, .slice b4 n c4, .int .i64 o] 27)).heap.size := C1.size
  have HA0 := Lib.hid A0
  have HB0 := Lib.hid B0
  have HR4 := Lib.hid r4
  have HS4 := Lib.hid s4
  clear C1 A0 B0 r4 s4
  go_upto_region 7 with fail
  generalize w4.alloc (.cells #[.int .i64 x, .slice b4 n c4, .int .i64 o] 27) = w5 at A1 HA0 HB0 HR4 HS4 l4 ⊢
  obtain ⟨⟨x0, x1, x2⟩, _⟩ := id A1
  go_wp2_with fail
  refine (HI.out w5 b4 c4 HR4.out k4).mono ?_
  rintro e w6 ⟨rfl, hb⟩
  replace A1 := A1.far hb
  have HA6 := Lib.hid (HA0.out.far hb)
  have HB6 := Lib.hid (HB0.out.trans (hb.mono HB0.out.size))
  have HS6 := Lib.hid (HS4.out.below (hb.mono l4))
  have l6 : w4.heap.size ≤ w6.heap.size := Nat.le_trans l4 hb.size
  clear hb x0 x1 x2 HA0 HB0 HR4 HS4 HI
  go_wp2_with fail
  obtain ⟨q0, q1, q2⟩ := (A1.drew).gr (rw := none) (by simp)
  obtain ⟨q3, q4, q5⟩ := (HA6.out.drew).gr (rw := none) (by simp)
  refine wp_region_mix (none) [0, 1] [2, 3, 4] (by kernel_rfl) (by kernel_rfl) ?_
  simp only [pickOps, List.filterMap_cons, List.filterMap_nil, List.getElem?_toArray, List.getElem?_cons_succ, List.getElem?_cons_zero]
  repeat (refine wpQuietG_step (fun K hK => ?_); go_simp; first | (refine hK _ ?_; clear hK K) | (apply Exists.intro; refine ⟨fun _ => ?_, hK _ ?_⟩; (fail); clear hK K))
  refine wpQuietG_nil ?_
  clear q0 q1 q2 q3 q4 q5
  intro W hW1 hW2
  go_wp2_with fail
  have B7 : Below w6.heap.size w6 W := grb hW1
  have hz6 := HB6.out.size
  refine (toLin_any x a n cap xs o W ((HR.out.below (HB6.out.trans (B7.mono hz6))).up (Nat.le_trans hz6 B7.size)) HN.out hl).mono ?_
  rintro e w7 ⟨b7, c7, rfl, _, _, s7, hb⟩
  go_wp2
  have g7 := gr_step hW1 hb
  refine ⟨g7, ?_⟩
  intro W8 hW8 hW9
  go_wp2_with fail
  have B9 : Below w6.heap.size w6 W8 := grb hW8
  refine (eqLin_any x b4 b7 n c4 c7 xs o _ _ _ _ W8 (HS6.out.below (B9.mono l6)) (s7.below hW9) (Nat.le_trans l6 B9.size) hW9.size hyl).mono ?_
  rintro e w10 ⟨rfl, hb10⟩
  go_wp2
  have g10 := gr_step hW8 hb10
  refine ⟨g10, ?_⟩
  intro W11 hW11 hW12
  go_wp2
  try refine ⟨hW11, ?_⟩
  try (intro W13 hW13 hW14)
  go_wp2
  go_ret
  first | exact ⟨rfl, HB6.out.trans ((grb hW13).mono HB6.out.size)⟩ | exact ⟨rfl, HB6.out.trans ((grb hW11).mono HB6.out.size)⟩
theorem lawValidLinear_any (x : Int) (a : Option Addr) (n cap : Nat) (zs : List Int) (o : Int) (w : World) (h : RowIn .i64 w a n zs) (H : ∀ xs : List Int, xs.length = n → n ≤ 1048576 → RO w.heap.size w a xs → Calls Try.prog 3 #[.agg #[.int .i64 x, .slice a n cap, .int .i64 o]] w fun e w' => e = .returned (.bool true) ∧ Below w.heap.size w w') :
    Calls Try.prog 3 #[.agg #[.int .i64 x, .slice a n cap, .int .i64 o]] w fun e w' => e = .returned (.bool true) ∧ Below w.heap.size w w' := by
  by_cases hl : n ≤ 1048576
  · obtain ⟨ys, hn, hr⟩ := h.ro
    exact H ys hn hl hr
  · have hle : n ≤ maxLen := by
      rcases h with ⟨_, rfl⟩ | ⟨_, _, h1, h2, _⟩
      · exact Nat.zero_le _
      · omega
    have HZ : Hid (∀ W : World, Calls Try.prog 9 #[.agg #[.int .i64 x, .slice a n cap, .int .i64 o], .int .i64 1048576] W fun e w' => e = .returned (.int .i64 (-1)) ∧ Below W.heap.size W w') := fun W => by
      have := szLin_any x a n cap o hle W
      rwa [if_pos (by omega)] at this
    have B0 := Lib.hid ((Below.refl w.heap.size w).alloc (Nat.le_refl _) (.cells #[.int .i64 x, .slice a n cap, .int .i64 o] 24))
    clear h H
    go_enter Try.func3, Try.ntmps3
    go_wp2_with fail
    refine (HZ.out _).mono ?_
    rintro e w1 ⟨rfl, hb⟩
    have HB := Lib.hid (B0.out.trans (hb.mono B0.out.size))
    clear hb
    go_wp2
    go_ret
    exact ⟨rfl, HB.out⟩
def GivesStepLinear (f : FuncId) (x : Int) (n : Nat) (xs : List Int) (o : Int) (p0 : Int) (r q : Int) (ok : Bool) : Prop := ∀ (W : World) b c, RO W.heap.size W b xs → n ≤ c → Calls Try.prog f #[.agg #[.int .i64 x, .slice b n c, .int .i64 o], .int .i64 p0] W fun e w' => e = .returned (.tuple #[.int .i64 r, .int .i64 q, .bool ok]) ∧ Below W.heap.size W w'
theorem lawStepLinear_core (x : Int) (a : Option Addr) (n cap : Nat) (xs : List Int) (o : Int) (p0 : Int) (r q : Int) (ok : Bool) (w : World) (h : RO w.heap.size w a xs) (hn : xs.length = n) (hl : n ≤ 1048576) (HS : Hid (GivesStepLinear 14 x n xs o p0 r q ok)) (HI : Hid (GivesStepLinear 15 x n xs o p0 r q ok)) :
    Calls Try.prog 4 #[.agg #[.int .i64 x, .slice a n cap, .int .i64 o], .int .i64 p0] w fun e w' => e = .returned (.bool true) ∧ Below w.heap.size w w' := by
  have HR := Lib.hid h
  have HN := Lib.hid hn
  have hyl : xs.length ≤ 1048576 := by omega
  have hok : (ok != ok) = false := by simp
  have hr : (r != r) = false := by simp
  have hq : (q != q) = false := by simp
  have HZ : Hid (∀ W : World, Calls Try.prog 9 #[.agg #[.int .i64 x, .slice a n cap, .int .i64 o], .int .i64 1048576] W fun e w' => e = .returned (.int .i64 ((1048576 : Int) - n)) ∧ Below W.heap.size W w') := fun W => by
    have := szLin_any x a n cap o (by unfold maxLen; omega) W
    rwa [if_neg (by omega)] at this
  have t0 : decide ((1048576 : Int) - (n : Int) < 0) = false := by simp; omega
  clear h hn
  have A0 := D3.new w (.int .i64 x) (.slice a n cap) (.int .i64 o) 24
  have B0 : Below w.heap.size w (w.alloc (.cells #[.int .i64 x, .slice a n cap, .int .i64 o] 24)) := (Below.refl _ _).alloc (Nat.le_refl _) _
  go_enter Try.func4, Try.ntmps4
  go_wp2_with fail
  generalize w.alloc (.cells #[.int .i64 x, .slice a n cap, .int .i64 o] 24) = w0 at A0 B0 ⊢
  refine (HZ.out _).mono ?_
  rintro e w1 ⟨rfl, hb⟩
  replace A0 := A0.far hb
  replace B0 := B0.trans (hb.mono B0.size)
  clear hb HZ
  obtain ⟨⟨x0, x1, x2⟩, _⟩ := id A0
  go_wp2_with fail
  refine (toLin_any x a n cap xs o w1 ((HR.out.below B0).up B0.size) HN.out hl).mono ?_
  rintro e w2 ⟨b2, c2, rfl, r2, k2, _, hb⟩
  replace A0 := A0.far hb
  replace B0 := B0.trans (hb.mono B0.size)
  clear hb x0 x1 x2
  go_wp2_with fail
  refine (HS.out w2 b2 c2 r2 k2).mono ?_
  rintro e w3 ⟨rfl, hb⟩
  replace A0 := A0.far hb
  replace B0 := B0.trans (hb.mono B0.size)
  clear hb r2
  obtain ⟨⟨x0, x1, x2⟩, _⟩ := id A0
  go_wp2_with fail
  refine (toLin_any x a n cap xs o w3 ((HR.out.below B0).up B0.size) HN.out hl).mono ?_
  rintro e w4 ⟨b4, c4, rfl, r4, k4, s4, hb⟩
  replace A0 := A0.far hb
  replace B0 := B0.trans (hb.mono B0.size)
  have z4 := hb.size
  clear hb x0 x1 x2
  have A1 := D3.new w4 (.int .i64 x) (.slice b4 n c4) (.int .i64 o) 27
  have C1 : Below w4.heap.size w4 (w4.alloc (.cells #[.int .i64 x, .slice b4 n c4, .int .i64 o] 27)) := (Below.refl _ _).alloc (Nat.le_refl _) _
  replace A0 := A0.far C1
  replace B0 := B0.trans (C1.mono B0.size)
  replace r4 := (r4.below C1).up C1.size
  replace s4 := s4.below C1
  have l4 : w4.heap.size ≤ (w4.alloc (.cells #[.int .i64 x, .slice b4 n c4, .int .i64 o] 27)).heap.size := C1.size
  have HA0 := Lib.hid A0
  have HB0 := Lib.hid B0
  have HR4 := Lib.hid r4
  have HS4 := Lib.hid s4
  clear C1 A0 B0 r4 s4
  go_upto_region 7 with fail
  generalize w4.alloc (.cells #[.int .i64 x, .slice b4 n c4, .int .i64 o] 27) = w5 at A1 HA0 HB0 HR4 HS4 l4 ⊢
  obtain ⟨⟨x0, x1, x2⟩, _⟩ := id A1
  go_wp2_with fail
  refine (HI.out w5 b4 c4 HR4.out k4).mono ?_
  rintro e w6 ⟨rfl, hb⟩
  replace A1 := A1.far hb
  have HA6 := Lib.hid (HA0.out.far hb)
  have HB6 := Lib.hid (HB0.out.trans (hb.mono HB0.out.size))
  have HS6 := Lib.hid (HS4.out.below (hb.mono l4))
  have l6 : w4.heap.size ≤ w6.heap.size := Nat.le_trans l4 hb.size
  clear hb x0 x1 x2 HA0 HB0 HR4 HS4 HI
  go_wp2_with fail
  obtain ⟨q0, q1, q2⟩ := (A1.drew).gr (rw := none) (by simp)
  obtain ⟨q3, q4, q5⟩ := (HA6.out.drew).gr (rw := none) (by simp)
  refine wp_region_mix (none) [0, 1] [2, 3, 4] (by kernel_rfl) (by kernel_rfl) ?_
  simp only [pickOps, List.filterMap_cons, List.filterMap_nil, List.getElem?_toArray, List.getElem?_cons_succ, List.getElem?_cons_zero]
  repeat (refine wpQuietG_step (fun K hK => ?_); go_simp; first | (refine hK _ ?_; clear hK K) | (apply Exists.intro; refine ⟨fun _ => ?_, hK _ ?_⟩; (fail); clear hK K))
  refine wpQuietG_nil ?_
  clear q0 q1 q2 q3 q4 q5
  intro W hW1 hW2
  go_wp2_with fail
  have B7 : Below w6.heap.size w6 W := grb hW1
  have hz6 := HB6.out.size
  refine (toLin_any x a n cap xs o W ((HR.out.below (HB6.out.trans (B7.mono hz6))).up (Nat.le_trans hz6 B7.size)) HN.out hl).mono ?_
  rintro e w7 ⟨b7, c7, rfl, _, _, s7, hb⟩
  go_wp2
  have g7 := gr_step hW1 hb
  refine ⟨g7, ?_⟩
  intro W8 hW8 hW9
  go_wp2_with fail
  have B9 : Below w6.heap.size w6 W8 := grb hW8
  refine (eqLin_any x b4 b7 n c4 c7 xs o _ _ _ _ W8 (HS6.out.below (B9.mono l6)) (s7.below hW9) (Nat.le_trans l6 B9.size) hW9.size hyl).mono ?_
  rintro e w10 ⟨rfl, hb10⟩
  go_wp2
  have g10 := gr_step hW8 hb10
  refine ⟨g10, ?_⟩
  intro W11 hW11 hW12
  go_wp2
  try refine ⟨hW11, ?_⟩
  try (intro W13 hW13 hW14)
  go_wp2
  go_ret
  first | exact ⟨rfl, HB6.out.trans ((grb hW13).mono HB6.out.size)⟩ | exact ⟨rfl, HB6.out.trans ((grb hW11).mono HB6.out.size)⟩
theorem lawStepLinear_any (x : Int) (a : Option Addr) (n cap : Nat) (zs : List Int) (o : Int) (p0 : Int) (w : World) (h : RowIn .i64 w a n zs) (H : ∀ xs : List Int, xs.length = n → n ≤ 1048576 → RO w.heap.size w a xs → Calls Try.prog 4 #[.agg #[.int .i64 x, .slice a n cap, .int .i64 o], .int .i64 p0] w fun e w' => e = .returned (.bool true) ∧ Below w.heap.size w w') :
    Calls Try.prog 4 #[.agg #[.int .i64 x, .slice a n cap, .int .i64 o], .int .i64 p0] w fun e w' => e = .returned (.bool true) ∧ Below w.heap.size w w' := by
  by_cases hl : n ≤ 1048576
  · obtain ⟨ys, hn, hr⟩ := h.ro
    exact H ys hn hl hr
  · have hle : n ≤ maxLen := by
      rcases h with ⟨_, rfl⟩ | ⟨_, _, h1, h2, _⟩
      · exact Nat.zero_le _
      · omega
    have HZ : Hid (∀ W : World, Calls Try.prog 9 #[.agg #[.int .i64 x, .slice a n cap, .int .i64 o], .int .i64 1048576] W fun e w' => e = .returned (.int .i64 (-1)) ∧ Below W.heap.size W w') := fun W => by
      have := szLin_any x a n cap o hle W
      rwa [if_pos (by omega)] at this
    have B0 := Lib.hid ((Below.refl w.heap.size w).alloc (Nat.le_refl _) (.cells #[.int .i64 x, .slice a n cap, .int .i64 o] 24))
    clear h H
    go_enter Try.func4, Try.ntmps4
    go_wp2_with fail
    refine (HZ.out _).mono ?_
    rintro e w1 ⟨rfl, hb⟩
    have HB := Lib.hid (B0.out.trans (hb.mono B0.out.size))
    clear hb
    go_wp2
    go_ret
    exact ⟨rfl, HB.out⟩
def GivesLinearBits (f : FuncId) (x : Int) (n : Nat) (xs : List Int) (o : Int) (p0 p1 : Int) (s : ByteArray) (ok : Bool) : Prop := ∀ (W : World) b c, RO W.heap.size W b xs → n ≤ c → Calls Try.prog f #[.agg #[.int .i64 x, .slice b n c, .int .i64 o], .int .i64 p0, .int .i64 p1] W fun e w' => e = .returned (.tuple #[.string s, .bool ok]) ∧ Below W.heap.size W w'
theorem lawLinearBits_core (x : Int) (a : Option Addr) (n cap : Nat) (xs : List Int) (o : Int) (p0 p1 : Int) (s : ByteArray) (ok : Bool) (w : World) (h : RO w.heap.size w a xs) (hn : xs.length = n) (hl : n ≤ 1048576) (HS : Hid (GivesLinearBits 16 x n xs o p0 p1 s ok)) (HI : Hid (GivesLinearBits 17 x n xs o p0 p1 s ok)) :
    Calls Try.prog 5 #[.agg #[.int .i64 x, .slice a n cap, .int .i64 o], .int .i64 p0, .int .i64 p1] w fun e w' => e = .returned (.bool true) ∧ Below w.heap.size w w' := by
  have HR := Lib.hid h
  have HN := Lib.hid hn
  have hyl : xs.length ≤ 1048576 := by omega
  have hok : (ok != ok) = false := by simp
  have hs : (s.toList == s.toList) = true := by simp
  have HZ : Hid (∀ W : World, Calls Try.prog 9 #[.agg #[.int .i64 x, .slice a n cap, .int .i64 o], .int .i64 1048576] W fun e w' => e = .returned (.int .i64 ((1048576 : Int) - n)) ∧ Below W.heap.size W w') := fun W => by
    have := szLin_any x a n cap o (by unfold maxLen; omega) W
    rwa [if_neg (by omega)] at this
  have t0 : decide ((1048576 : Int) - (n : Int) < 0) = false := by simp; omega
  clear h hn
  have A0 := D3.new w (.int .i64 x) (.slice a n cap) (.int .i64 o) 24
  have B0 : Below w.heap.size w (w.alloc (.cells #[.int .i64 x, .slice a n cap, .int .i64 o] 24)) := (Below.refl _ _).alloc (Nat.le_refl _) _
  go_enter Try.func5, Try.ntmps5
  go_wp2_with fail
  generalize w.alloc (.cells #[.int .i64 x, .slice a n cap, .int .i64 o] 24) = w0 at A0 B0 ⊢
  refine (HZ.out _).mono ?_
  rintro e w1 ⟨rfl, hb⟩
  replace A0 := A0.far hb
  replace B0 := B0.trans (hb.mono B0.size)
  clear hb HZ
  obtain ⟨⟨x0, x1, x2⟩, _⟩ := id A0
  go_wp2_with fail
  refine (toLin_any x a n cap xs o w1 ((HR.out.below B0).up B0.size) HN.out hl).mono ?_
  rintro e w2 ⟨b2, c2, rfl, r2, k2, _, hb⟩
  replace A0 := A0.far hb
  replace B0 := B0.trans (hb.mono B0.size)
  clear hb x0 x1 x2
  go_wp2_with fail
  refine (HS.out w2 b2 c2 r2 k2).mono ?_
  rintro e w3 ⟨rfl, hb⟩
  replace A0 := A0.far hb
  replace B0 := B0.trans (hb.mono B0.size)
  clear hb r2
  obtain ⟨⟨x0, x1, x2⟩, _⟩ := id A0
  go_wp2_with fail
  refine (toLin_any x a n cap xs o w3 ((HR.out.below B0).up B0.size) HN.out hl).mono ?_
  rintro e w4 ⟨b4, c4, rfl, r4, k4, s4, hb⟩
  replace A0 := A0.far hb
  replace B0 := B0.trans (hb.mono B0.size)
  have z4 := hb.size
  clear hb x0 x1 x2
  have A1 := D3.new w4 (.int .i64 x) (.slice b4 n c4) (.int .i64 o) 27
  have C1 : Below w4.heap.size w4 (w4.alloc (.cells #[.int .i64 x, .slice b4 n c4, .int .i64 o] 27)) := (Below.refl _ _).alloc (Nat.le_refl _) _
  replace A0 := A0.far C1
  replace B0 := B0.trans (C1.mono B0.size)
  replace r4 := (r4.below C1).up C1.size
  replace s4 := s4.below C1
  have l4 : w4.heap.size ≤ (w4.alloc (.cells #[.int .i64 x, .slice b4 n c4, .int .i64 o] 27)).heap.size := C1.size
  have HA0 := Lib.hid A0
  have HB0 := Lib.hid B0
  have HR4 := Lib.hid r4
  have HS4 := Lib.hid s4
  clear C1 A0 B0 r4 s4
  go_upto_region 7 with fail
  generalize w4.alloc (.cells #[.int .i64 x, .slice b4 n c4, .int .i64 o] 27) = w5 at A1 HA0 HB0 HR4 HS4 l4 ⊢
  obtain ⟨⟨x0, x1, x2⟩, _⟩ := id A1
  go_wp2_with fail
  refine (HI.out w5 b4 c4 HR4.out k4).mono ?_
  rintro e w6 ⟨rfl, hb⟩
  replace A1 := A1.far hb
  have HA6 := Lib.hid (HA0.out.far hb)
  have HB6 := Lib.hid (HB0.out.trans (hb.mono HB0.out.size))
  have HS6 := Lib.hid (HS4.out.below (hb.mono l4))
  have l6 : w4.heap.size ≤ w6.heap.size := Nat.le_trans l4 hb.size
  clear hb x0 x1 x2 HA0 HB0 HR4 HS4 HI
  go_wp2_with fail
  obtain ⟨q0, q1, q2⟩ := (A1.drew).gr (rw := none) (by simp)
  obtain ⟨q3, q4, q5⟩ := (HA6.out.drew).gr (rw := none) (by simp)
  refine wp_region_mix (none) [0, 1] [2, 3, 4] (by kernel_rfl) (by kernel_rfl) ?_
  simp only [pickOps, List.filterMap_cons, List.filterMap_nil, List.getElem?_toArray, List.getElem?_cons_succ, List.getElem?_cons_zero]
  repeat (refine wpQuietG_step (fun K hK => ?_); go_simp; first | (refine hK _ ?_; clear hK K) | (apply Exists.intro; refine ⟨fun _ => ?_, hK _ ?_⟩; (fail); clear hK K))
  refine wpQuietG_nil ?_
  clear q0 q1 q2 q3 q4 q5
  intro W hW1 hW2
  go_wp2_with fail
  have B7 : Below w6.heap.size w6 W := grb hW1
  have hz6 := HB6.out.size
  refine (toLin_any x a n cap xs o W ((HR.out.below (HB6.out.trans (B7.mono hz6))).up (Nat.le_trans hz6 B7.size)) HN.out hl).mono ?_
  rintro e w7 ⟨b7, c7, rfl, _, _, s7, hb⟩
  go_wp2
  have g7 := gr_step hW1 hb
  refine ⟨g7, ?_⟩
  intro W8 hW8 hW9
  go_wp2_with fail
  have B9 : Below w6.heap.size w6 W8 := grb hW8
  refine (eqLin_any x b4 b7 n c4 c7 xs o _ _ _ _ W8 (HS6.out.below (B9.mono l6)) (s7.below hW9) (Nat.le_trans l6 B9.size) hW9.size hyl).mono ?_
  rintro e w10 ⟨rfl, hb10⟩
  go_wp2
  have g10 := gr_step hW8 hb10
  refine ⟨g10, ?_⟩
  intro W11 hW11 hW12
  go_wp2
  try refine ⟨hW11, ?_⟩
  try (intro W13 hW13 hW14)
  go_wp2
  go_ret
  first | exact ⟨rfl, HB6.out.trans ((grb hW13).mono HB6.out.size)⟩ | exact ⟨rfl, HB6.out.trans ((grb hW11).mono HB6.out.size)⟩
theorem lawLinearBits_any (x : Int) (a : Option Addr) (n cap : Nat) (zs : List Int) (o : Int) (p0 p1 : Int) (w : World) (h : RowIn .i64 w a n zs) (H : ∀ xs : List Int, xs.length = n → n ≤ 1048576 → RO w.heap.size w a xs → Calls Try.prog 5 #[.agg #[.int .i64 x, .slice a n cap, .int .i64 o], .int .i64 p0, .int .i64 p1] w fun e w' => e = .returned (.bool true) ∧ Below w.heap.size w w') :
    Calls Try.prog 5 #[.agg #[.int .i64 x, .slice a n cap, .int .i64 o], .int .i64 p0, .int .i64 p1] w fun e w' => e = .returned (.bool true) ∧ Below w.heap.size w w' := by
  by_cases hl : n ≤ 1048576
  · obtain ⟨ys, hn, hr⟩ := h.ro
    exact H ys hn hl hr
  · have hle : n ≤ maxLen := by
      rcases h with ⟨_, rfl⟩ | ⟨_, _, h1, h2, _⟩
      · exact Nat.zero_le _
      · omega
    have HZ : Hid (∀ W : World, Calls Try.prog 9 #[.agg #[.int .i64 x, .slice a n cap, .int .i64 o], .int .i64 1048576] W fun e w' => e = .returned (.int .i64 (-1)) ∧ Below W.heap.size W w') := fun W => by
      have := szLin_any x a n cap o hle W
      rwa [if_pos (by omega)] at this
    have B0 := Lib.hid ((Below.refl w.heap.size w).alloc (Nat.le_refl _) (.cells #[.int .i64 x, .slice a n cap, .int .i64 o] 24))
    clear h H
    go_enter Try.func5, Try.ntmps5
    go_wp2_with fail
    refine (HZ.out _).mono ?_
    rintro e w1 ⟨rfl, hb⟩
    have HB := Lib.hid (B0.out.trans (hb.mono B0.out.size))
    clear hb
    go_wp2
    go_ret
    exact ⟨rfl, HB.out⟩
def GivesJumpLinear (f : FuncId) (x : Int) (n : Nat) (xs : List Int) (o : Int) (p0 p1 : Int) (r : Int) (ok : Bool) : Prop := ∀ (W : World) b c, RO W.heap.size W b xs → n ≤ c → Calls Try.prog f #[.agg #[.int .i64 x, .slice b n c, .int .i64 o], .int .i64 p0, .int .i64 p1] W fun e w' => e = .returned (.tuple #[.int .i64 r, .bool ok]) ∧ Below W.heap.size W w'
theorem lawJumpLinear_core (x : Int) (a : Option Addr) (n cap : Nat) (xs : List Int) (o : Int) (p0 p1 : Int) (r : Int) (ok : Bool) (w : World) (h : RO w.heap.size w a xs) (hn : xs.length = n) (hl : n ≤ 1048576) (HS : Hid (GivesJumpLinear 18 x n xs o p0 p1 r ok)) (HI : Hid (GivesJumpLinear 19 x n xs o p0 p1 r ok)) :
    Calls Try.prog 6 #[.agg #[.int .i64 x, .slice a n cap, .int .i64 o], .int .i64 p0, .int .i64 p1] w fun e w' => e = .returned (.bool true) ∧ Below w.heap.size w w' := by
  have HR := Lib.hid h
  have HN := Lib.hid hn
  have hyl : xs.length ≤ 1048576 := by omega
  have hok : (ok != ok) = false := by simp
  have hr : (r != r) = false := by simp
  have HZ : Hid (∀ W : World, Calls Try.prog 9 #[.agg #[.int .i64 x, .slice a n cap, .int .i64 o], .int .i64 1048576] W fun e w' => e = .returned (.int .i64 ((1048576 : Int) - n)) ∧ Below W.heap.size W w') := fun W => by
    have := szLin_any x a n cap o (by unfold maxLen; omega) W
    rwa [if_neg (by omega)] at this
  have t0 : decide ((1048576 : Int) - (n : Int) < 0) = false := by simp; omega
  clear h hn
  have A0 := D3.new w (.int .i64 x) (.slice a n cap) (.int .i64 o) 24
  have B0 : Below w.heap.size w (w.alloc (.cells #[.int .i64 x, .slice a n cap, .int .i64 o] 24)) := (Below.refl _ _).alloc (Nat.le_refl _) _
  go_enter Try.func6, Try.ntmps6
  go_wp2_with fail
  generalize w.alloc (.cells #[.int .i64 x, .slice a n cap, .int .i64 o] 24) = w0 at A0 B0 ⊢
  refine (HZ.out _).mono ?_
  rintro e w1 ⟨rfl, hb⟩
  replace A0 := A0.far hb
  replace B0 := B0.trans (hb.mono B0.size)
  clear hb HZ
  obtain ⟨⟨x0, x1, x2⟩, _⟩ := id A0
  go_wp2_with fail
  refine (toLin_any x a n cap xs o w1 ((HR.out.below B0).up B0.size) HN.out hl).mono ?_
  rintro e w2 ⟨b2, c2, rfl, r2, k2, _, hb⟩
  replace A0 := A0.far hb
  replace B0 := B0.trans (hb.mono B0.size)
  clear hb x0 x1 x2
  go_wp2_with fail
  refine (HS.out w2 b2 c2 r2 k2).mono ?_
  rintro e w3 ⟨rfl, hb⟩
  replace A0 := A0.far hb
  replace B0 := B0.trans (hb.mono B0.size)
  clear hb r2
  obtain ⟨⟨x0, x1, x2⟩, _⟩ := id A0
  go_wp2_with fail
  refine (toLin_any x a n cap xs o w3 ((HR.out.below B0).up B0.size) HN.out hl).mono ?_
  rintro e w4 ⟨b4, c4, rfl, r4, k4, s4, hb⟩
  replace A0 := A0.far hb
  replace B0 := B0.trans (hb.mono B0.size)
  have z4 := hb.size
  clear hb x0 x1 x2
  have A1 := D3.new w4 (.int .i64 x) (.slice b4 n c4) (.int .i64 o) 27
  have C1 : Below w4.heap.size w4 (w4.alloc (.cells #[.int .i64 x, .slice b4 n c4, .int .i64 o] 27)) := (Below.refl _ _).alloc (Nat.le_refl _) _
  replace A0 := A0.far C1
  replace B0 := B0.trans (C1.mono B0.size)
  replace r4 := (r4.below C1).up C1.size
  replace s4 := s4.below C1
  have l4 : w4.heap.size ≤ (w4.alloc (.cells #[.int .i64 x, .slice b4 n c4, .int .i64 o] 27)).heap.size := C1.size
  have HA0 := Lib.hid A0
  have HB0 := Lib.hid B0
  have HR4 := Lib.hid r4
  have HS4 := Lib.hid s4
  clear C1 A0 B0 r4 s4
  go_upto_region 7 with fail
  generalize w4.alloc (.cells #[.int .i64 x, .slice b4 n c4, .int .i64 o] 27) = w5 at A1 HA0 HB0 HR4 HS4 l4 ⊢
  obtain ⟨⟨x0, x1, x2⟩, _⟩ := id A1
  go_wp2_with fail
  refine (HI.out w5 b4 c4 HR4.out k4).mono ?_
  rintro e w6 ⟨rfl, hb⟩
  replace A1 := A1.far hb
  have HA6 := Lib.hid (HA0.out.far hb)
  have HB6 := Lib.hid (HB0.out.trans (hb.mono HB0.out.size))
  have HS6 := Lib.hid (HS4.out.below (hb.mono l4))
  have l6 : w4.heap.size ≤ w6.heap.size := Nat.le_trans l4 hb.size
  clear hb x0 x1 x2 HA0 HB0 HR4 HS4 HI
  go_wp2_with fail
  obtain ⟨q0, q1, q2⟩ := (A1.drew).gr (rw := none) (by simp)
  obtain ⟨q3, q4, q5⟩ := (HA6.out.drew).gr (rw := none) (by simp)
  refine wp_region_mix (none) [0, 1] [2, 3, 4] (by kernel_rfl) (by kernel_rfl) ?_
  simp only [pickOps, List.filterMap_cons, List.filterMap_nil, List.getElem?_toArray, List.getElem?_cons_succ, List.getElem?_cons_zero]
  repeat (refine wpQuietG_step (fun K hK => ?_); go_simp; first | (refine hK _ ?_; clear hK K) | (apply Exists.intro; refine ⟨fun _ => ?_, hK _ ?_⟩; (fail); clear hK K))
  refine wpQuietG_nil ?_
  clear q0 q1 q2 q3 q4 q5
  intro W hW1 hW2
  go_wp2_with fail
  have B7 : Below w6.heap.size w6 W := grb hW1
  have hz6 := HB6.out.size
  refine (toLin_any x a n cap xs o W ((HR.out.below (HB6.out.trans (B7.mono hz6))).up (Nat.le_trans hz6 B7.size)) HN.out hl).mono ?_
  rintro e w7 ⟨b7, c7, rfl, _, _, s7, hb⟩
  go_wp2
  have g7 := gr_step hW1 hb
  refine ⟨g7, ?_⟩
  intro W8 hW8 hW9
  go_wp2_with fail
  have B9 : Below w6.heap.size w6 W8 := grb hW8
  refine (eqLin_any x b4 b7 n c4 c7 xs o _ _ _ _ W8 (HS6.out.below (B9.mono l6)) (s7.below hW9) (Nat.le_trans l6 B9.size) hW9.size hyl).mono ?_
  rintro e w10 ⟨rfl, hb10⟩
  go_wp2
  have g10 := gr_step hW8 hb10
  refine ⟨g10, ?_⟩
  intro W11 hW11 hW12
  go_wp2
  try refine ⟨hW11, ?_⟩
  try (intro W13 hW13 hW14)
  go_wp2
  go_ret
  first | exact ⟨rfl, HB6.out.trans ((grb hW13).mono HB6.out.size)⟩ | exact ⟨rfl, HB6.out.trans ((grb hW11).mono HB6.out.size)⟩
theorem lawJumpLinear_any (x : Int) (a : Option Addr) (n cap : Nat) (zs : List Int) (o : Int) (p0 p1 : Int) (w : World) (h : RowIn .i64 w a n zs) (H : ∀ xs : List Int, xs.length = n → n ≤ 1048576 → RO w.heap.size w a xs → Calls Try.prog 6 #[.agg #[.int .i64 x, .slice a n cap, .int .i64 o], .int .i64 p0, .int .i64 p1] w fun e w' => e = .returned (.bool true) ∧ Below w.heap.size w w') :
    Calls Try.prog 6 #[.agg #[.int .i64 x, .slice a n cap, .int .i64 o], .int .i64 p0, .int .i64 p1] w fun e w' => e = .returned (.bool true) ∧ Below w.heap.size w w' := by
  by_cases hl : n ≤ 1048576
  · obtain ⟨ys, hn, hr⟩ := h.ro
    exact H ys hn hl hr
  · have hle : n ≤ maxLen := by
      rcases h with ⟨_, rfl⟩ | ⟨_, _, h1, h2, _⟩
      · exact Nat.zero_le _
      · omega
    have HZ : Hid (∀ W : World, Calls Try.prog 9 #[.agg #[.int .i64 x, .slice a n cap, .int .i64 o], .int .i64 1048576] W fun e w' => e = .returned (.int .i64 (-1)) ∧ Below W.heap.size W w') := fun W => by
      have := szLin_any x a n cap o hle W
      rwa [if_pos (by omega)] at this
    have B0 := Lib.hid ((Below.refl w.heap.size w).alloc (Nat.le_refl _) (.cells #[.int .i64 x, .slice a n cap, .int .i64 o] 24))
    clear h H
    go_enter Try.func6, Try.ntmps6
    go_wp2_with fail
    refine (HZ.out _).mono ?_
    rintro e w1 ⟨rfl, hb⟩
    have HB := Lib.hid (B0.out.trans (hb.mono B0.out.size))
    clear hb
    go_wp2
    go_ret
    exact ⟨rfl, HB.out⟩
end Go.Proofs.Ytciofobedgmbjaa
