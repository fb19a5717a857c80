/- Shifted functions: (impl.function).shifted, .plusOne, ShiftsOf, FixedShifts; spec.l04Shifts; the laws. -/
import Derived.Test.YtgpcacbjmjpdnabSpectrum
import Derived.Test.YtgpcacbjmjpdnabWgt
import Derived.Test.YtgpcacbjmjpdnabBal
namespace Go.Proofs.Ytgpcacbjmjpdnab
open Go.RowKit Go.PlainAid
open Wt (row shf dif sh)
set_option maxHeartbeats 800000

theorem or_nextS {V b k : Nat} (hV : V < 2 ^ k) (hb : b ≤ 1) (hk : k < 64) : bits .or .u64 (V : Int) (IntKind.u64.wrap ((b : Int) * 2 ^ k)) = ((V + b * 2 ^ k : Nat) : Int) := by
  have := or_next hV hb hk
  rwa [show (48 + (b : Int) - 48) = (b : Int) by omega] at this
set_option maxRecDepth 8000 in
theorem shifted_any (n a : Nat) (g : Nat → Bool) (w : World) (hn : n ≤ 6) (ha : a < 2 ^ n) :
    Calls Try.prog 53 #[.agg #[.int .i64 n, .int .u64 (Wh.ob g (2 ^ n))], .int .i64 a] w fun e w' => e = .returned (.agg #[.int .i64 n, .int .u64 (Wh.ob (shf g a) (2 ^ n))]) ∧ Below w.heap.size w w' := by
  obtain ⟨N, hN⟩ : ∃ N, 2 ^ n = N := ⟨_, rfl⟩
  have hp := pow6 hn
  have HX : Hid (∀ x, x < N → x ^^^ a < N) := fun x hx => by rw [← hN] at hx ⊢; exact Nat.xor_lt_two_pow hx ha
  have HZ : Hid (∀ (V : Nat) (W : World), Calls Try.prog 51 #[.agg #[.int .i64 n, .int .u64 V]] W fun e w' => e = .returned (.int .i64 N) ∧ Below W.heap.size W w') := fun V W => by
    have := size_any n V W hn
    rwa [hN] at this
  rw [hN] at hp ha ⊢
  clear hN
  have HA : Hid (∀ (x : Nat) (W : World), x < N → Calls Try.prog 75 #[.agg #[.int .i64 n, .int .u64 (Wh.ob g N)], .int .i64 x] W fun e w' => e = .returned (.int .u64 (g x).toNat) ∧ Below W.heap.size W w') := fun u W hu => by
    have h1 := Wh.ob_lt g N
    have h2 : 2 ^ N ≤ 2 ^ 64 := Nat.pow_le_pow_right (by omega) hp.2
    have := at_any n (Wh.ob g N) u W (by omega) (by omega)
    rwa [Wh.ob_bit, decide_eq_true hu, Bool.true_and] at this
  obtain ⟨V, hV⟩ : ∃ V, Wh.ob g N = V := ⟨_, rfl⟩
  rw [hV] at HA ⊢
  clear hV
  have A0 := ((P2.new w (.int .i64 n) (.int .u64 V) 54).alloc (.cells #[.int .i64 0, .int .u64 0] 54)).alloc (.cells #[.int .i64 n, .int .u64 0] 54)
  have R0 := (P2.new (w.alloc (.cells #[.int .i64 n, .int .u64 V] 54)) (.int .i64 0) (.int .u64 0) 54).alloc (.cells #[.int .i64 n, .int .u64 0] 54)
  have S0 := P2.new ((w.alloc (.cells #[.int .i64 n, .int .u64 V] 54)).alloc (.cells #[.int .i64 0, .int .u64 0] 54)) (.int .i64 n) (.int .u64 0) 54
  simp only [World.size_alloc] at R0 S0
  have B0 := (((Below.refl w.heap.size w).alloc (Nat.le_refl _) (.cells #[.int .i64 n, .int .u64 V] 54)).alloc (by simp) (.cells #[.int .i64 0, .int .u64 0] 54)).alloc (by simp; omega) (.cells #[.int .i64 n, .int .u64 0] 54)
  go_enter Try.func53, Try.ntmps53
  go_wp2_with fail
  refine (HZ.out _ _).mono ?_
  rintro e w2 ⟨rfl, hb2⟩
  have A2 := A0.far hb2
  have R2 := R0.far hb2
  have S2 := S0.far hb2
  have B2 := B0.trans (hb2.mono B0.size)
  clear A0 R0 S0 B0 hb2
  have S2 : P2 w2 (w.heap.size + 1 + 1) (.int .i64 n) (.int .u64 (Wh.ob (shf g a) 0)) := S2
  go_wp2
  go_loopw [6, 12] (fun _ xv wr => ∃ x : Nat, x ≤ N ∧ xv = .int .i64 x ∧ P2 wr w.heap.size (.int .i64 n) (.int .u64 V) ∧ P2 wr (w.heap.size + 1) (.int .i64 0) (.int .u64 0) ∧ P2 wr (w.heap.size + 1 + 1) (.int .i64 n) (.int .u64 (Wh.ob (shf g a) x)) ∧ Below w.heap.size w wr) (fun _ xv _ => N - (intOf xv).toNat)
  case atStart => exact ⟨0, Nat.zero_le _, rfl, A2, R2, S2, B2⟩
  case round =>
    obtain ⟨x, hx, rfl, A, R, S, B⟩ := hrel
    clear A2 R2 S2 B2
    by_cases hlt : x < N
    · have hb1 : (g (x ^^^ a)).toNat ≤ 1 := Bool.toNat_le _
      have hxa := i64_xorT x a (by omega) (by omega)
      have HAx := HA.out (x ^^^ a)
      have hy := HX.out x hlt
      have HO : Hid (Wh.ob (shf g a) (x + 1) = Wh.ob (shf g a) x + (g (x ^^^ a)).toNat * 2 ^ x) := rfl
      have hS64 := Wh.ob_lt (shf g a) x
      obtain ⟨b, hb⟩ : ∃ b, (g (x ^^^ a)).toNat = b := ⟨_, rfl⟩
      rw [hb] at hb1 HAx HO
      obtain ⟨y, hyy⟩ : ∃ y, x ^^^ a = y := ⟨_, rfl⟩
      rw [hyy] at HAx hy hxa
      obtain ⟨Z, hZ⟩ : ∃ Z, Wh.ob (shf g a) x = Z := ⟨_, rfl⟩
      rw [hZ] at hS64 HO S
      have hor := or_nextS hS64 hb1 (show x < 64 by omega)
      rw [← HO.out] at hor
      obtain ⟨Z2, hZ2⟩ : ∃ Z2, Wh.ob (shf g a) (x + 1) = Z2 := ⟨_, rfl⟩
      rw [hZ2] at hor
      have HZ2 := Lib.hid hZ2
      have HAy : Hid (∀ W : World, Calls Try.prog 75 #[.agg #[.int .i64 n, .int .u64 V], .int .i64 y] W fun e w' => e = .returned (.int .u64 b) ∧ Below W.heap.size W w') := fun W => HAx W hy
      clear hb HO hyy hZ hZ2 hS64 HAx
      go_wp2
      have hmx : Try.prog.follows .mixedOrders = true := by kernel_rfl
      have K0 : ∀ q : GT wr, q.w.cell? ⟨w.heap.size, 0, none⟩ = some (.int .i64 n) := gt_cell A.1.1
      have K1 : ∀ q : GT wr, q.w.cell? ⟨w.heap.size, 1, none⟩ = some (.int .u64 V) := gt_cell A.1.2
      have K2 : ∀ q : GT wr, q.w.cell? ⟨w.heap.size + 1 + 1, 1, none⟩ = some (.int .u64 Z) := gt_cell S.1.2
      have HK := Lib.hid (And.intro A (And.intro R (And.intro S B)))
      clear A R S B
      refine wp_region_quiet_tail (C := fun w' => ∃ q : GT wr, w' = q.w) 11 hmx (by kernel_rfl) ⟨⟨wr.drew, (Below.refl _ _).drew⟩, rfl⟩ ?_
      simp only [List.take_succ_cons, List.take_zero, List.drop_succ_cons, List.drop_zero]
      repeat (quiet_step (with_reducible exact gt_call (HAy.out _)))
      refine wpQuiet_nil ?_
      rintro W2 ⟨⟨_, hW2⟩, rfl⟩
      clear K0 K1 K2
      obtain ⟨A, R, S, B⟩ := HK.out
      have A2 := A.far hW2
      have R2 := R.far hW2
      have S2 := S.far hW2
      have B2 := B.trans (hW2.mono B.size)
      clear A R S B
      have S' := S2
      obtain ⟨⟨c0, c1⟩, f0, f1⟩ := S'
      go_wp2
      go_roundw
      case rel => exact ⟨x + 1, by omega, by go_num, A2.away (by omega) 1 _, R2.away (by omega) 1 _, by rw [HZ2.out]; exact S2.set1 _, B2.setCell (p := ⟨w.heap.size + 1 + 1, 1, none⟩) (by show w.heap.size ≤ w.heap.size + 1 + 1; omega) _⟩
      case measure => simp [intOf]; omega
    · obtain rfl : x = N := by omega
      obtain ⟨⟨c0, c1⟩, _⟩ := S
      have R' := R
      obtain ⟨⟨r0, r1⟩, g0, g1⟩ := R'
      obtain ⟨⟨x0, x1⟩, _⟩ := (R.set0 (.int .i64 n)).set1 (.int .u64 (Wh.ob (shf g a) x))
      go_wp2
      exact bodyPost_ret (v := .agg #[.int .i64 n, .int .u64 (Wh.ob (shf g a) x)]) (by simp [results, Try.results53, go_sem, x0, x1]) rfl ⟨rfl, (B.setCell (p := ⟨w.heap.size + 1, 0, none⟩) (by simp) _).setCell (p := ⟨w.heap.size + 1, 1, none⟩) (by simp) _⟩
theorem region_quiet_s {P : Program} {C : World → Prop} {id : Nat} {Q : Exit → Act → World → Prop} {a : Act} {w : World} {l : List Oper} (hm : P.follows .mixedOrders = true) (hB : Region.lexB .any l.toArray = true) (hC : C { w with drawn := w.drawn + 1 })
    (h : wpQuiet P l.toArray C (fun a' => ∀ w', C w' → Q .normal a' w') l a) : (Code.region id l.toArray true).wp P Q a w :=
  wp_region_quiet hm hB hC (by simpa using h)
theorem wrap_ui (R : Nat) (h : R < 18446744073709551616) : IntKind.u64.wrap (IntKind.i64.wrap (R : Int)) = R := by
  have h2 : (R : Int) < 18446744073709551616 := by omega
  have h3 : (0 : Int) ≤ R := by omega
  generalize (R : Int) = r at *
  rw [IntKind.wrap_u64, IntKind.wrap_i64]
  omega
theorem field1_run (x y : Value) (W : World) : Sem.run Try.prog (Instr.field 54 (.agg #[x, y]) 1) W = .ok y W := by kernel_rfl
/-- the agreements with shifted values -/
def shR (g : Nat → Bool) (N : Nat) (a : Nat) : Int := sh g a N
theorem SL.of_ownN {base N : Nat} {w : World} {e : TypeId} {v : Value} {xs : List Int} (hN : xs.length = N) (h : w.ownsRow base e 1 v N (xs.map (Value.int .i64))) : SL base w.heap.size w v xs := by
  subst hN
  exact SL.of_own h
set_option maxRecDepth 8000 in
theorem shiftsOf_any (n : Nat) (s : ByteArray) (h : TabP n s) : GivesList 22 #[.string s] (row (shR (tb s) s.size) s.size) true := fun w => by
  obtain ⟨⟨h1, h2⟩, _, HF, _⟩ := spec_pack n s h _ rfl
  have hn6 := h.2.1
  obtain ⟨g, hg⟩ : ∃ g, tb s = g := ⟨_, rfl⟩
  have hU : val s s.size = Wh.ob g s.size := by rw [← hg]; rfl
  rw [hU] at HF
  have HS : Hid (∀ W : World, Calls Try.prog 51 #[.agg #[.int .i64 n, .int .u64 (Wh.ob g s.size)]] W fun e w' => e = .returned (.int .i64 s.size) ∧ Below W.heap.size W w') := fun W => sizeT_any n s.size _ W h.2.1 h.1
  have HSh : Hid (∀ (a : Nat) (W : World), a < s.size → Calls Try.prog 53 #[.agg #[.int .i64 n, .int .u64 (Wh.ob g s.size)], .int .i64 a] W fun e w' => e = .returned (.agg #[.int .i64 n, .int .u64 (Wh.ob (shf g a) s.size)]) ∧ Below W.heap.size W w') := fun a W ha => by
    have := shifted_any n a g W h.2.1 (by rw [← h.1]; exact ha)
    rwa [← h.1] at this
  rw [hg]
  obtain ⟨N, hN⟩ : ∃ N, s.size = N := ⟨_, rfl⟩
  rw [hN] at HF HS HSh h1 h2 ⊢
  have HV64 : Hid (∀ f : Nat → Bool, Wh.ob f N < 18446744073709551616) := fun f => by
    have := Wh.ob_lt f N
    have h3 : 2 ^ N ≤ 2 ^ 64 := Nat.pow_le_pow_right (by omega) h2
    omega
  have hV64 := HV64.out g
  have HD : Hid (∀ a, Wh.ob g N ^^^ Wh.ob (shf g a) N = Wh.ob (dif g a) N) := fun a => Wt.ob_dif g a N
  obtain ⟨V, hV⟩ : ∃ V, Wh.ob g N = V := ⟨_, rfl⟩
  rw [hV] at HF HS HSh HD hV64
  have HL := Lib.hid (Wt.row_length (shR g N) N)
  obtain ⟨i0, hi, hz0, hz1, hz2⟩ := info_parts Try.info2
  clear hU hg h hN hV
  go_enter Try.func22, Try.ntmps22
  go_wp2_with (go_at_call 43; refine (HF.out _).mono ?_; rintro e w1 ⟨rfl, hb1⟩)
  have A1 := P2.new w1 (.int .i64 n) (.int .u64 V) 54
  have B1 := hb1.alloc hb1.size (.cells #[.int .i64 n, .int .u64 V] 54)
  have hz9 := hb1.size
  clear hb1
  go_wp2_with fail
  refine (HS.out _).mono ?_
  rintro e w2 ⟨rfl, hb2⟩
  have A2 := A1.far hb2
  have B2 := B1.trans (hb2.mono B1.size)
  have hne2 : ¬ w2.heap.size = w1.heap.size := by have := A2.lt; omega
  have hz8 := B2.size
  clear hb2 A1 B1
  go_wp2_with (at_make; refine wpList_make_full _ rfl _ _ 27 rfl w.heap.size 2 i0 _ 1 Try.underlying27 hi hz0 hz1 _ _ _ _ N rfl rfl rfl rfl (by rw [hz2]; omega) (by unfold maxLen; omega) B2.size ?_; intro w3 hown hgrow; have hb3 := grown_far hgrow; have A3 := A2.far hb3; have A3' := A3; obtain ⟨⟨c0, c1⟩, _⟩ := A3')
  have B3 := B2.trans (hb3.mono B2.size)
  have hown3 : w3.ownsRow w.heap.size 2 1 (.slice (some ⟨w2.heap.size, 0, none⟩) N N) N ((pad (row (shR g N) 0) N).map (Value.int .i64)) := by rw [pad_made] at hown; exact hown
  clear hown hgrow hb3 A2 B2 c0 c1
  go_wp2
  go_loopw [7, 8, 21] (fun _ _ kv wr => ∃ k : Nat, k ≤ N ∧ kv = .int .i64 k ∧ wr.ownsRow w.heap.size 2 1 (.slice (some ⟨w2.heap.size, 0, none⟩) N N) N ((pad (row (shR g N) k) N).map (Value.int .i64)) ∧ P2 wr w1.heap.size (.int .i64 n) (.int .u64 V) ∧ Below w.heap.size w wr) (fun _ _ kv _ => N - (intOf kv).toNat)
  case atStart => exact ⟨0, Nat.zero_le _, rfl, hown3, A3, B3⟩
  case round =>
    obtain ⟨k, hk, rfl, hown, A, B⟩ := hrel
    clear hown3 A3 B3
    by_cases hlt : k < N
    · have HSk : Hid (∀ W : World, Calls Try.prog 53 #[.agg #[.int .i64 n, .int .u64 V], .int .i64 k] W fun e w' => e = .returned (.agg #[.int .i64 n, .int .u64 (Wh.ob (shf g k) N)]) ∧ Below W.heap.size W w') := fun W => HSh.out k W hlt
      have hd := HD.out k
      have hq64 := HV64.out (shf g k)
      have hsc := Wt.sh_ct g k N
      have hct := Wt.ct_le (dif g k) N
      have hpc := Wt.pc_ob (dif g k) h2
      have hr64 := HV64.out (dif g k)
      obtain ⟨Q, hQ⟩ : ∃ Q, Wh.ob (shf g k) N = Q := ⟨_, rfl⟩
      obtain ⟨R, hR⟩ : ∃ R, Wh.ob (dif g k) N = R := ⟨_, rfl⟩
      obtain ⟨c, hc⟩ : ∃ c, Wt.ct (dif g k) N = c := ⟨_, rfl⟩
      rw [hQ] at HSk hd hq64
      rw [hR] at hd hpc hr64
      rw [hc] at hsc hct hpc
      have hxo : bits .xor .u64 (V : Int) (Q : Int) = (R : Int) := by rw [u64_xorN _ _ hV64 hq64, hd]
      have HSR : Hid (row (shR g N) (k + 1) = row (shR g N) k ++ [(N : Int) - 2 * (c : Int)]) := by
        have := Wt.row_succ (shR g N) k
        rwa [show shR g N k = (N : Int) - 2 * (c : Int) from hsc] at this
      have HW : Hid (∀ W : World, Calls Try.prog 48 #[.int .i64 (wrap64 R)] W fun e w' => e = .returned (.int .i64 c) ∧ W = w') := fun W => by
        have := weightOf_int (wrap64 R) R W (by unfold wrap64; rw [← IntKind.wrap_i64]; exact wrap_ui R hr64)
        rwa [hpc] at this
      have hfl : ∀ W : World, Sem.run Try.prog (Instr.field 54 (.agg #[.int .i64 n, .int .u64 Q]) 1) W = .ok (.int .u64 Q) W := fun W => field1_run _ _ W
      clear hd hq64 hsc hpc hr64 hQ hR hc
      go_wp2
      have hmx : Try.prog.follows .mixedOrders = true := by kernel_rfl
      have K0 : ∀ q : GT wr, q.w.cell? ⟨w1.heap.size, 0, none⟩ = some (.int .i64 n) := gt_cell A.1.1
      have K1 : ∀ q : GT wr, q.w.cell? ⟨w1.heap.size, 1, none⟩ = some (.int .u64 V) := gt_cell A.1.2
      have HK := Lib.hid (And.intro A (And.intro hown B))
      clear A hown B
      refine region_quiet_s (C := fun w' => ∃ q : GT wr, w' = q.w) hmx (by kernel_rfl) ⟨⟨wr.drew, (Below.refl _ _).drew⟩, rfl⟩ ?_
      repeat (first | quiet_step (with_reducible exact gt_call (HSk.out _)) | (refine wpQuiet_step (fun K hK => ?_); go_simp; refine hK _ ?_; clear hK K))
      refine wpQuiet_nil ?_
      rintro W2 ⟨⟨_, hW2⟩, rfl⟩
      clear K0 K1
      obtain ⟨A, hown, B⟩ := HK.out
      have A2 := A.far hW2
      have hown2 := own_far hown hW2
      have B2 := B.trans (hW2.mono B.size)
      clear A hown B
      have A' := A2
      obtain ⟨⟨c0, c1⟩, _⟩ := A'
      go_wp2_with (fail)
      refine (HS.out _).mono ?_
      rintro e w5 ⟨rfl, hb5⟩
      have A5 := A2.far hb5
      have hown5 := own_far hown2 hb5
      have B5 := B2.trans (hb5.mono B2.size)
      clear hb5 A2 hown2 B2 c0 c1
      obtain ⟨hd, hf⟩ := own_next hown5 (Wt.row_length (shR g N) k) hlt
      have HO := Lib.hid (own_step hown5 (Wt.row_length (shR g N) k) hlt ((N : Int) - 2 * (c : Int)))
      rw [← HSR.out] at HO
      have A6 := A5.away hne2 k (.int .i64 ((N : Int) - 2 * (c : Int)))
      have B6 := B5.setCell (p := ⟨w2.heap.size, k, none⟩) hz8 (.int .i64 ((N : Int) - 2 * (c : Int)))
      have HAB := Lib.hid (And.intro A6 B6)
      clear hown5 A5 B5 A6 B6 hfl
      go_wp2_with (go_at_call 48; refine (HW.out _).mono ?_; rintro e w6 ⟨rfl, rfl⟩)
      go_roundw
      case rel => exact ⟨k + 1, by omega, by go_num, HO.out, HAB.out.1, HAB.out.2⟩
      case measure => simp [intOf]; omega
    · obtain rfl : k = N := by omega
      have hp : Hid (pad (row (shR g k) k) k = row (shR g k) k) := by
        unfold Hid
        have := pad_full (row (shR g k) k)
        rwa [Wt.row_length] at this
      rw [hp.out] at hown
      have HB := Lib.hid (And.intro hown B)
      clear A hown B
      go_wp2
      go_ret2
      refine ⟨_, rfl, ?_, HB.out.2⟩
      have h2 := HB.out.1
      exact SL.of_ownN HL.out h2
set_option maxRecDepth 8000 in
theorem l04Shifts_any (n : Nat) (s : ByteArray) (w : World) (h : TabP n s) :
    Calls Try.prog 52 #[.string s] w fun e w' => ∃ v, e = .returned v ∧ w'.ownsRow w.heap.size 2 1 v s.size ((row (shR (tb s) s.size) s.size).map (Value.int .i64)) ∧ Below w.heap.size w w' := by
  obtain ⟨i0, hi, hz0, hz1, hz2⟩ := info_parts Try.info2
  obtain ⟨p1, p2⟩ := pow6 h.2.1
  rw [← h.1] at p1 p2
  have HX : Hid (∀ x a, x < s.size → a < s.size → x ^^^ a < s.size) := fun x a hx ha => by rw [h.1] at hx ha ⊢; exact Nat.xor_lt_two_pow hx ha
  have HV : Hid (∀ y, (hy : y < s.size) → (((s[y]'hy).toNat : Nat) : Int) = 48 + ((tb s y).toNat : Int)) := fun y hy => by
    have := h.val hy
    rwa [← get_bt s y hy] at this
  clear h
  go_enter Try.func52, Try.ntmps52
  go_wp2
  go_loopw [3, 4, 5, 6] (fun v0 uv _ _ wr => ∃ (u : Nat) (v : Value), v = v0 ∧ u ≤ s.size ∧ uv = .int .i64 u ∧ wr.ownsRow w.heap.size 2 1 v u ((row (shR (tb s) s.size) u).map (Value.int .i64)) ∧ Below w.heap.size w wr) (fun _ uv _ _ _ => s.size - (intOf uv).toNat)
  case atStart => exact ⟨0, _, rfl, Nat.zero_le _, rfl, ownsRow_empty w _ _, (Below.refl _ _).alloc (Nat.le_refl _) _⟩
  case round =>
    obtain ⟨u, v, rfl, hu, rfl, hown, hbel⟩ := hrel
    by_cases hlt : u < s.size
    · obtain ⟨wo, hwo⟩ : ∃ x, wr = x := ⟨_, rfl⟩
      rw [hwo] at hown hbel ⊢
      clear hwo
      have HL := Lib.hid (Wt.row_succ (shR (tb s) s.size) u)
      have HOo := Lib.hid (And.intro hown hbel)
      clear hown hbel
      go_wp2
      go_loopw [5, 6] (fun x kv wi => ∃ k m : Nat, k ≤ s.size ∧ kv = .int .i64 k ∧ x = .int .i64 (sh (tb s) u k) ∧ wi = wo.drewN m) (fun _ kv _ => s.size - (intOf kv).toNat)
      case atStart => exact ⟨0, 0, Nat.zero_le _, rfl, rfl, rfl⟩
      case round =>
        obtain ⟨k, m, hk, rfl, rfl, hwi⟩ := hrel
        have HW := Lib.hid hwi
        clear hwi
        have hsp := Wt.sh_le (tb s) u k
        by_cases hkt : k < s.size
        · have ha := i64_xorT k u (by omega) (by omega)
          have hv := HV.out k hkt
          have hyt := HX.out k u hkt hlt
          have HYk : Hid (sh (tb s) u (k + 1) = if tb s k = tb s (k ^^^ u) then sh (tb s) u k + 1 else sh (tb s) u k - 1) := rfl
          obtain ⟨y, hy⟩ : ∃ y, k ^^^ u = y := ⟨_, rfl⟩
          rw [hy] at ha HYk hyt
          have hv2 := HV.out y hyt
          obtain ⟨g, hg⟩ : ∃ g, tb s k = g := ⟨_, rfl⟩
          obtain ⟨g2, hg2⟩ : ∃ g2, tb s y = g2 := ⟨_, rfl⟩
          rw [hg] at hv HYk
          rw [hg2] at hv2 HYk
          have hg1 : g.toNat ≤ 1 := Bool.toNat_le _
          have hg3 : g2.toNat ≤ 1 := Bool.toNat_le _
          obtain ⟨S, hS⟩ : ∃ S, sh (tb s) u k = S := ⟨_, rfl⟩
          rw [hS] at hsp HYk ⊢
          clear hy hg hg2 hS
          by_cases hcg : g = g2
          · subst hcg
            have hb : ((48 + (g.toNat : Int)) == 48 + (g.toNat : Int)) = true := by simp
            have HS : Hid (sh (tb s) u (k + 1) = S + 1) := by unfold Hid; rw [HYk.out, if_pos rfl]
            clear HYk
            go_wp2
            go_quiet (fail)
            go_wp2
            go_roundw
            case rel => exact ⟨k + 1, m + nq, by omega, by go_num, by rw [HS.out], by rw [HW.out, drewN_twoG]⟩
            case measure => simp [intOf]; omega
          · have hb : ((48 + (g.toNat : Int)) == 48 + (g2.toNat : Int)) = false := by
              rw [beq_eq_false_iff_ne]
              cases g <;> cases g2 <;> simp at hcg ⊢
            have HS : Hid (sh (tb s) u (k + 1) = S - 1) := by unfold Hid; rw [HYk.out, if_neg hcg]
            clear HYk hcg
            go_wp2
            go_quiet (fail)
            go_wp2
            go_roundw
            case rel => exact ⟨k + 1, m + nq, by omega, by go_num, by rw [HS.out], by rw [HW.out, drewN_twoG]⟩
            case measure => simp [intOf]; omega
        · have hkN : k = s.size := by omega
          have hown : wr.ownsRow w.heap.size 2 1 v u ((row (shR (tb s) s.size) u).map (Value.int .i64)) := by rw [HW.out]; exact HOo.out.1
          have hbel : Below w.heap.size w wr := by rw [HW.out]; exact below_drewN HOo.out.2 m
          have HL2 : Hid (row (shR (tb s) s.size) (u + 1) = row (shR (tb s) s.size) u ++ [sh (tb s) u k]) := by rw [hkN]; exact HL.out
          obtain ⟨S, hS⟩ : ∃ S, sh (tb s) u k = S := ⟨_, rfl⟩
          rw [hS] at hsp HL2 ⊢
          clear hS HOo HL HW hkN
          go_wp2_with (at_builtin; refine wpList_append_own _ rfl _ _ 27 rfl w.heap.size 2 i0 (.int .i64 0) 1 8 Try.underlying27 hi hz0 hz1 hz2 rfl (by decide) _ _ _ rfl (hown.alloc _) ⟨wr.heap.size, 0, none⟩ 1 1 [.int .i64 S] rfl rfl (cell_one_new _ _ _) (by intro u hu; simp at hu; subst hu; rfl) (by unfold maxLen; omega) (by omega) (by have := hbel.size; simp; omega) ?_; intro v1 w1 hown1 hgrow _)
          have hb1 : Below w.heap.size w w1 := (hbel.alloc hbel.size _).grown hgrow (by have := hbel.size; simp; omega) (own_block hown)
          have HO : Hid (w1.ownsRow w.heap.size 2 1 v1 (u + 1) ((row (shR (tb s) s.size) (u + 1)).map (Value.int .i64))) := by
            unfold Hid
            rw [HL2.out]
            simpa using hown1
          clear hown1 hgrow hown hbel
          go_wp2
          go_roundw
          case rel => exact ⟨u + 1, _, rfl, by omega, by go_num, HO.out, hb1⟩
          case measure => simp [intOf]; omega
    · obtain rfl : u = s.size := by omega
      go_wp2
      go_ret
      exact ⟨_, rfl, hown, hbel⟩
theorem specShiftsOf_any (n : Nat) (s : ByteArray) (h : TabP n s) : GivesList 21 #[.string s] (row (shR (tb s) s.size) s.size) true := fun w => by
  have HF : Hid (∀ W : World, Calls Try.prog 41 #[.string s] W fun e w' => e = .returned (.bool true) ∧ W = w') := fun W => l04Table_yes n s W h
  have HN : Hid (∀ W : World, Calls Try.prog 52 #[.string s] W fun e w' => ∃ v, e = .returned v ∧ w'.ownsRow W.heap.size 2 1 v s.size ((row (shR (tb s) s.size) s.size).map (Value.int .i64)) ∧ Below W.heap.size W w') := fun W => l04Shifts_any n s W h
  have HL := Lib.hid (Wt.row_length (shR (tb s) s.size) s.size)
  obtain ⟨l, hl⟩ : ∃ l, row (shR (tb s) s.size) s.size = l := ⟨_, rfl⟩
  obtain ⟨N, hN⟩ : ∃ N, s.size = N := ⟨_, rfl⟩
  rw [hl] at HN HL ⊢
  rw [hN] at HN HL
  clear hl h hN
  go_enter Try.func21, Try.ntmps21
  go_wp2_with (first | (go_at_call 41; refine (HF.out _).mono ?_; rintro e w1 ⟨rfl, rfl⟩) | (go_at_call 52; refine (HN.out _).mono ?_; rintro e w2 ⟨v, rfl, hown, hb2⟩; have HO := Lib.hid hown; have HB := Lib.hid hb2; clear hown hb2))
  go_ret2
  exact ⟨_, rfl, SL.of_ownN HL.out HO.out, HB.out⟩
theorem lawShiftsOf (s : ByteArray) (w : World) (hm : s.size ≤ maxLen) :
    Calls Try.prog 7 #[.string s] w fun e w' => e = .returned (.bool true) ∧ Below w.heap.size w w' := by
  apply lawShiftsOf_all s w hm
  by_cases h : ∃ n, TabP n s
  · obtain ⟨n, h⟩ := h
    exact ⟨_, true, row_len _ (by have := pow6 h.2.1; rw [h.1]; omega), specShiftsOf_any n s h, shiftsOf_any n s h⟩
  · exact ⟨[], false, by simp, gives_noS fun w => specShiftsOf_no s w hm h, gives_no fun w => implShiftsOf_no s w hm h⟩
end Go.Proofs.Ytgpcacbjmjpdnab
