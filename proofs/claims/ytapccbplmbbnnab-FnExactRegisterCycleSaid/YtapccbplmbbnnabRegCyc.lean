/- The cycle of a register: spec.RegisterCycle, impl.RegisterCycle, the law FnExactRegisterCycle. -/
import Derived.Test.YtapccbplmbbnnabCycR
import Derived.Test.YtapccbplmbbnnabRegBits
import Derived.Test.YtapccbplmbbnnabSlice64
namespace Go.Proofs.Ytapccbplmbbnnab
open Go.RowKit Go.PlainAid
set_option maxHeartbeats 800000

/-- the table of the steps at which the states came first, after k steps -/
def visL (s : Nat → Nat) (N : Nat) : Nat → List Int
  | 0 => List.replicate N 0
  | k + 1 => (visL s N k).set (s k) ((k : Int) + 1)
theorem visL_length (s : Nat → Nat) (N : Nat) : ∀ k, (visL s N k).length = N := by
  intro k
  induction k with
  | zero => simp [visL]
  | succ k ih => simp [visL, ih]
theorem visL_get (s : Nat → Nat) (N x : Nat) (hx : x < N) : ∀ k, ((visL s N k)[x]? = some 0 ∧ ∀ j, j < k → ¬ s j = x) ∨ ∃ j, j < k ∧ s j = x ∧ (visL s N k)[x]? = some ((j : Int) + 1) := by
  intro k
  induction k with
  | zero => exact .inl ⟨by simp [visL, hx], fun j hj => by omega⟩
  | succ k ih =>
    by_cases he : s k = x
    · exact .inr ⟨k, by omega, he, by simp only [visL]; rw [he, List.getElem?_set_self (by rw [visL_length]; exact hx)]⟩
    · have e : (visL s N (k + 1))[x]? = (visL s N k)[x]? := by simp only [visL]; rw [List.getElem?_set_ne he]
      rcases ih with ⟨h1, h2⟩ | ⟨j, h1, h2, h3⟩
      · exact .inl ⟨e.trans h1, fun j hj => by
          by_cases ej : j = k
          · rw [ej]; exact he
          · exact h2 j (by omega)⟩
      · exact .inr ⟨j, by omega, h2, e.trans h3⟩
/-- states all different -/
def Unlike (s : Nat → Nat) (k : Nat) : Prop := ∀ i j, i < j → j < k → ¬ s i = s j
theorem Unlike.next {s : Nat → Nat} {k : Nat} (h : Unlike s k) (hk : ∀ j, j < k → ¬ s j = s k) : Unlike s (k + 1) := fun i j hij hj => by
  by_cases e : j = k
  · subst e; exact hk i hij
  · exact h i j hij (by omega)
theorem Unlike.room {s : Nat → Nat} {N k : Nat} (hs : ∀ i, s i < N) (h : Unlike s (k + 1)) : k < N := by
  apply Nat.lt_of_not_le
  intro hle
  obtain ⟨i, j, hij, hj, e⟩ := pigeon N s (fun i _ => hs i)
  exact h i j hij (by omega) e
theorem Unlike.cyc {s : Nat → Nat} (hst : Steps s) {k i : Nat} (h : Unlike s k) (hi : i < k) (e : s i = s k) : CycP s i (k - i) := by
  have hM : s (i + (k - i)) = s i := by rw [show i + (k - i) = k by omega]; exact e.symm
  refine cycP_of (M := i) hst (by omega) hM (fun j h0 h1 => ?_) hM (fun j hj => ?_)
  · exact fun x => h i (i + j) (by omega) (by omega) x.symm
  · exact fun x => h j (j + (k - i)) (by omega) (by omega) x.symm
theorem CycP.unique {s : Nat → Nat} {b c b' c' : Nat} (h : CycP s b c) (g : CycP s b' c') : b = b' ∧ c = c' := by
  have h1 := h.2.2.2 b' c' g.1 g.2.1
  have h2 := g.2.2.2 b c h.1 h.2.1
  omega
theorem itr_steps (W t S : Nat) : Steps (itr W t S) := fun i j h => by
  show nxt W t (itr W t S i) = nxt W t (itr W t S j)
  rw [h]

theorem vis_at {w : World} {base : Nat} {e : TypeId} {g n cap x : Nat} {l : List Int} {v : Int} (h : w.ownsRow base e 1 (.slice (some ⟨g, 0, none⟩) n cap) n (l.map (Value.int .i64))) (hx : x < n) (hv : l[x]? = some v) :
    w.cell? ⟨g, x, none⟩ = some (.int .i64 v) ∧ w.frozen? ⟨g, x, none⟩ = false := by
  refine ⟨?_, h.frozenAt _⟩
  rw [h.cellAt x (by omega)]
  simp [hv]
theorem vis_put {w : World} {base : Nat} {e : TypeId} {g n cap x : Nat} {l : List Int} (h : w.ownsRow base e 1 (.slice (some ⟨g, 0, none⟩) n cap) n (l.map (Value.int .i64))) (y : Int) :
    (w.setCell ⟨g, x, none⟩ (.int .i64 y)).ownsRow base e 1 (.slice (some ⟨g, 0, none⟩) n cap) n ((l.set x y).map (Value.int .i64)) := by
  rw [List.map_set]
  exact (h.stored x (.int .i64 y)).1

set_option maxRecDepth 10000 in
theorem specCycle_yes (W t S : Nat) (w : World) (hW : W ≤ 16) (ht2 : t < 65536) (hs : S < 2 ^ W) (hp : StateP W t S) :
    Calls Try.prog 34 #[.agg #[.int .i64 W, .int .i64 t], .int .i64 S] w fun e w' => ∃ b c : Nat, e = .returned (.tuple #[.int .i64 b, .int .i64 c, .bool true]) ∧ CycP (itr W t S) b c ∧ Below w.heap.size w w' := by
  obtain ⟨i0, hi, hz0, hz1, hz2⟩ := info_parts Try.info2
  have HS := Lib.hid hp
  obtain ⟨N, hN⟩ : ∃ N, 2 ^ W = N := ⟨_, rfl⟩
  have hN1 : N ≤ 65536 := by
    have : 2 ^ W ≤ 2 ^ 16 := Nat.pow_le_pow_right (by omega) hW
    omega
  have hP : (2 : Int) ^ W = (N : Int) := by rw [← hN]; simp
  have HL : Hid (∀ k, itr W t S k < N) := fun k => by rw [← hN]; exact itr_lt hs k
  have HT : Hid (∀ x, x < N → x < 2 ^ W) := fun x hx => by rw [hN]; exact hx
  have HT2 := Lib.hid ht2
  have HN1 := Lib.hid hN1
  have n1 : (N : Int) ≤ 65536 := by omega
  have n0 : 1 ≤ (N : Int) := by have : 0 < 2 ^ W := Nat.pow_pos (by omega); omega
  clear hp hs hN ht2 hN1
  go_enter Try.func34, Try.ntmps34
  go_wp2_with fail
  refine (l02Both_b w.heap.size W t S true _ (by simp [go_sem]) (by simp [go_sem]) (decide_eq_true HS.out)).mono ?_
  rintro e w1 ⟨rfl, m, rfl⟩
  have R1 : Hid (RegIn w ((w.alloc (.cells #[.int .i64 W, .int .i64 t] 37)).drewN m) w.heap.size W t) := ⟨by simp [go_sem], by simp [go_sem], below_drewN ((Below.refl _ _).alloc (Nat.le_refl _) _) _, Nat.le_refl _⟩
  generalize (w.alloc (.cells #[.int .i64 W, .int .i64 t] 37)).drewN m = w1 at R1 ⊢
  obtain ⟨r0, r1, _, _⟩ := R1.out
  go_wp2_with (at_make; refine wpList_make_full _ rfl _ _ 29 rfl w1.heap.size 2 i0 _ 1 Try.underlying29 hi hz0 hz1 _ _ _ _ N rfl rfl rfl rfl (by rw [hz2]; omega) (by unfold maxLen; omega) (Nat.le_refl _) ?_; intro w3 hown hgrow)
  have hown3 : w3.ownsRow w1.heap.size 2 1 (.slice (some ⟨w1.heap.size, 0, none⟩) N N) N ((visL (itr W t S) N 0).map (Value.int .i64)) := by
    rw [pad_made] at hown
    simpa [visL, pad] using hown
  have R3 := Lib.hid (R1.out.own ((Below.refl w1.heap.size w1).grown hgrow (Nat.le_refl _) (by simp)) R1.out.lt)
  have hgz := R1.out.lt
  clear hown hgrow R1 r0 r1
  go_loopw [1, 8] (fun st n wr => ∃ k : Nat, k ≤ N ∧ st = .int .i64 (itr W t S k) ∧ n = .int .i64 k ∧ wr.ownsRow w1.heap.size 2 1 (.slice (some ⟨w1.heap.size, 0, none⟩) N N) N ((visL (itr W t S) N k).map (Value.int .i64)) ∧ Hid (RegIn w wr w.heap.size W t) ∧ Hid (Unlike (itr W t S) k)) (fun _ n _ => N - (intOf n).toNat)
  case atStart => exact ⟨0, Nat.zero_le _, rfl, rfl, hown3, R3, fun i j _ hj => by omega⟩
  case round =>
    obtain ⟨k, hk, rfl, rfl, hown, R4, HU⟩ := hrel
    clear hown3 R3
    have hlt := HL.out k
    obtain ⟨X, hX⟩ : ∃ X, itr W t S k = X := ⟨_, rfl⟩
    have HX := Lib.hid hX
    rw [hX] at hlt ⊢
    have hk2 : k < 1000000 := by have := HN1.out; omega
    rcases visL_get (itr W t S) N X hlt k with ⟨hv, hno⟩ | ⟨j, hj, hsj, hv⟩
    · have HU2 : Hid (Unlike (itr W t S) (k + 1)) := HU.out.next fun j hj => by rw [HX.out]; exact hno j hj
      have hkN : k < N := Unlike.room HL.out HU2.out
      have HN : Hid (itr W t S (k + 1) = nxt W t X) := by unfold Hid; rw [← HX.out]; rfl
      have HV : Hid (visL (itr W t S) N (k + 1) = (visL (itr W t S) N k).set X ((k : Int) + 1)) := by
        show (visL (itr W t S) N k).set (itr W t S k) _ = _
        rw [HX.out]
      obtain ⟨hc, hf⟩ := vis_at hown hlt hv
      have hput := vis_put hown (x := X) ((k : Int) + 1)
      rw [← HV.out] at hput
      have HO := Lib.hid hput
      have R5 : Hid (RegIn w (wr.setCell ⟨w1.heap.size, X, none⟩ (.int .i64 ((k : Int) + 1))) w.heap.size W t) := R4.out.own ((Below.refl w1.heap.size wr).setCell (p := ⟨w1.heap.size, X, none⟩) (Nat.le_refl _) _) hgz
      have HX2 : Hid (X < 2 ^ W) := HT.out X hlt
      clear hown hput R4 hX hv hno
      go_wp2_with fail
      generalize wr.setCell ⟨w1.heap.size, X, none⟩ (.int .i64 ((k : Int) + 1)) = wx at HO R5 ⊢
      refine (l02Step_any w.heap.size W t X _ R5.out.1 R5.out.2.1 hW HT2.out HX2.out).mono ?_
      rintro e w5 ⟨rfl, m2, rfl⟩
      have HO5 := Lib.hid (own_drewNR HO.out m2)
      have R6 := Lib.hid (R5.out.drewN m2)
      generalize wx.drewN m2 = w5 at HO5 R6 ⊢
      clear HO R5 hc hf
      go_wp2
      go_roundw
      case rel => exact ⟨k + 1, hkN, by rw [HN.out], by go_num, HO5.out, R6.out, HU2.out⟩
      case measure => simp [intOf]; omega
    · obtain ⟨hc, hf⟩ := vis_at hown hlt hv
      have HC : Hid (CycP (itr W t S) j (k - j)) := HU.out.cyc (itr_steps W t S) hj (by rw [hsj, HX.out])
      have t1 : (((j : Int) + 1) == 0) = false := by rw [beq_eq_false_iff_ne]; omega
      have HB := Lib.hid R4.out.2.2.1
      clear hown hv hX hsj R4
      go_wp2
      go_quiet (fail)
      go_wp2
      go_ret3
      have e : ((k : Int) + 1 - ((j : Int) + 1)) = ((k - j : Nat) : Int) := by omega
      exact ⟨j, k - j, congrArg (fun x => Ending.returned (.tuple #[.int .i64 j, .int .i64 x, .bool true])) e, HC.out, below_drewN HB.out _⟩
theorem specCycle_no (x t s : Int) (w : World) (h : ¬ StateP x t s) :
    Calls Try.prog 34 #[.agg #[.int .i64 x, .int .i64 t], .int .i64 s] w fun e w' => e = .returned (.tuple #[.int .i64 0, .int .i64 0, .bool false]) ∧ Below w.heap.size w w' := by
  have HS := Lib.hid h
  clear h
  go_enter Try.func34, Try.ntmps34
  go_wp2_with (go_at_call 69; refine (l02Both_b w.heap.size x t s false _ (by simp [go_sem]) (by simp [go_sem]) (decide_eq_false HS.out)).mono ?_; rintro e w1 ⟨rfl, m, rfl⟩)
  go_ret3
  exact ⟨rfl, below_drewN ((Below.refl _ _).alloc (Nat.le_refl _) _) _⟩
theorem cyc_exists {s : Nat → Nat} (hst : Steps s) {N : Nat} (hs : ∀ i, s i < N) : ∃ b c, CycP s b c := by
  have key : ∀ n, Unlike s n ∨ ∃ k i, i < k ∧ Unlike s k ∧ s i = s k := by
    intro n
    induction n with
    | zero => exact .inl fun i j _ hj => by omega
    | succ n ih =>
      rcases ih with h | h
      · by_cases hx : ∃ j, j < n ∧ s j = s n
        · obtain ⟨j, hj, e⟩ := hx
          exact .inr ⟨n, j, hj, h, e⟩
        · exact .inl (h.next fun j hj e => hx ⟨j, hj, e⟩)
      · exact .inr h
  rcases key (N + 1) with h | ⟨k, i, hi, hU, e⟩
  · have := Unlike.room hs h
    omega
  · exact ⟨i, k - i, hU.cyc hst hi e⟩
theorem implCycle_yes (W t S : Nat) (w : World) (hW : W ≤ 16) (ht : t < 2 ^ W) (hs : S < 2 ^ W) (hp : StateP W t S) :
    Calls Try.prog 35 #[.agg #[.int .i64 W, .int .i64 t], .int .i64 S] w fun e w' => ∃ b c : Nat, e = .returned (.tuple #[.int .i64 b, .int .i64 c, .bool true]) ∧ CycP (itr W t S) b c ∧ Below w.heap.size w w' := by
  have HS := Lib.hid hp
  have HC : Hid (∀ w : World, Calls Try.prog 75 #[.func (.func 65) #[] #[], .agg #[.int .i64 W, .int .i64 t], .int .i64 S] w fun e w' => (∃ b' c' : Nat, e = .returned (.tuple #[.int .i64 b', .int .i64 c']) ∧ CycP (itr W t S) b' c') ∧ Below w.heap.size w w') := fun w => by
    have hp : 2 ^ W ≤ 2 ^ 16 := Nat.pow_le_pow_right (by omega) hW
    obtain ⟨b, c, h0, h1, h2⟩ := comes_again (s := itr W t S) (N := 2 ^ W) (fun i => itr_lt hs i)
    exact cycleR_any (itr W t S) W t w 65536 b c (itr_steps W t S) h0 (by omega) h2 (Nat.le_refl _) (fun k V => regNext_any W t (itr W t S k) V hW ht (itr_lt hs k))
  clear hp ht hs hW
  go_enter Try.func35, Try.ntmps35
  go_wp2_with fail
  refine (hasState_b _ _ _ true _ (decide_eq_true HS.out)).mono ?_
  rintro e w1 ⟨rfl, hb⟩
  obtain ⟨b1, z1, c1, d1⟩ := keepR (b := w.heap.size) (x := .int .i64 W) (y := .int .i64 t) ((Below.refl w.heap.size w).alloc (Nat.le_refl _) _) hb (Nat.le_refl _) (by simp) (by simp [go_sem]) (by simp [go_sem])
  clear hb
  go_wp2_with fail
  refine (HC.out _).mono ?_
  rintro e w2 ⟨⟨b, c, rfl, hcy⟩, hb⟩
  have HCY := Lib.hid hcy
  obtain ⟨b2, _⟩ := keepR b1 hb (Nat.le_refl _) z1 c1 d1
  clear hb b1 z1 c1 d1 hcy
  go_wp2
  go_ret3
  exact ⟨b, c, rfl, HCY.out, b2⟩
theorem implCycle_no (x t s : Int) (w : World) (h : ¬ StateP x t s) :
    Calls Try.prog 35 #[.agg #[.int .i64 x, .int .i64 t], .int .i64 s] w fun e w' => e = .returned (.tuple #[.int .i64 0, .int .i64 0, .bool false]) ∧ Below w.heap.size w w' := by
  have HS := Lib.hid h
  clear h
  go_enter Try.func35, Try.ntmps35
  go_wp2_with fail
  refine (hasState_b _ _ _ false _ (decide_eq_false HS.out)).mono ?_
  rintro e w1 ⟨rfl, hb⟩
  have b1 := ((Below.refl w.heap.size w).alloc (Nat.le_refl _) _).trans (hb.mono (by simp))
  clear hb
  go_wp2
  go_ret3
  exact ⟨rfl, b1⟩
theorem lawCycle_of (x t s v1 v2 : Int) (r : Bool) (w : World)
    (S : Hid (∀ w : World, Calls Try.prog 34 #[.agg #[.int .i64 x, .int .i64 t], .int .i64 s] w fun e w' => e = .returned (.tuple #[.int .i64 v1, .int .i64 v2, .bool r]) ∧ Below w.heap.size w w'))
    (I : Hid (∀ w : World, Calls Try.prog 35 #[.agg #[.int .i64 x, .int .i64 t], .int .i64 s] w fun e w' => e = .returned (.tuple #[.int .i64 v1, .int .i64 v2, .bool r]) ∧ Below w.heap.size w w')) :
    Calls Try.prog 6 #[.agg #[.int .i64 x, .int .i64 t], .int .i64 s] w fun e w' => e = .returned (.bool true) ∧ Below w.heap.size w w' := by
  have e1 : (v1 != v1) = false := by simp
  have e2 : (v2 != v2) = false := by simp
  have e3 : (r != r) = false := by simp
  go_enter Try.func6, Try.ntmps6
  go_wp2_with fail
  refine (toReg_any _ _ _).mono ?_
  rintro e w1 ⟨rfl, hb⟩
  obtain ⟨b1, z1, c1, d1⟩ := keepR (b := w.heap.size) (x := .int .i64 x) (y := .int .i64 t) ((Below.refl w.heap.size w).alloc (Nat.le_refl _) _) hb (Nat.le_refl _) (by simp) (by simp [go_sem]) (by simp [go_sem])
  clear hb
  go_wp2_with fail
  refine (S.out _).mono ?_
  rintro e w2 ⟨rfl, hb⟩
  obtain ⟨b2, z2, c2, d2⟩ := keepR b1 hb (Nat.le_refl _) z1 c1 d1
  clear hb b1 z1 c1 d1
  go_wp2_with fail
  refine (toReg_any _ _ _).mono ?_
  rintro e w3 ⟨rfl, hb⟩
  obtain ⟨b3, z3, c3, d3⟩ := keepR b2 hb (Nat.le_refl _) z2 c2 d2
  clear hb b2 z2 c2 d2
  go_wp2_with fail
  refine (I.out _).mono ?_
  rintro e w4 ⟨rfl, hb⟩
  obtain ⟨b4, _⟩ := keepR b3 hb (Nat.le_refl _) z3 c3 d3
  clear hb b3 z3 c3 d3
  go_wp2
  go_ret
  exact ⟨rfl, b4⟩
theorem lawCycle (x t s : Int) (w : World) :
    Calls Try.prog 6 #[.agg #[.int .i64 x, .int .i64 t], .int .i64 s] w fun e w' => e = .returned (.bool true) ∧ Below w.heap.size w w' := by
  by_cases h : StateP x t s
  · obtain ⟨W, T, S, rfl, rfl, rfl, hW, t1, s1, t2, s2⟩ := h.nat
    obtain ⟨b, c, hc⟩ := cyc_exists (itr_steps W T S) (N := 2 ^ W) (fun i => itr_lt s1 i)
    refine lawCycle_of _ _ _ b c true w (fun w => ?_) (fun w => ?_)
    · exact (specCycle_yes W T S w hW t2 s1 h).mono fun e w' ⟨b', c', he, hc', hb⟩ => ⟨by rw [he, (hc'.unique hc).1, (hc'.unique hc).2], hb⟩
    · exact (implCycle_yes W T S w hW t1 s1 h).mono fun e w' ⟨b', c', he, hc', hb⟩ => ⟨by rw [he, (hc'.unique hc).1, (hc'.unique hc).2], hb⟩
  · exact lawCycle_of _ _ _ 0 0 false w (fun w => specCycle_no x t s w h) (fun w => implCycle_no x t s w h)
end Go.Proofs.Ytapccbplmbbnnab
