/- The shifts that change all values or none: (impl.function).plusOne, FixedShifts in the code and in the specification; the law. -/
import Derived.Test.YtgpcacbjmjpdnabShift
import Derived.Test.YtgpcacbjmjpdnabBoxT
namespace Go.Proofs.Ytgpcacbjmjpdnab
open Go.RowKit Go.PlainAid
open Wt (row shf fixd sh prodL)
set_option maxHeartbeats 800000

theorem shl_ones {N : Nat} (hN : N ≤ 64) : IntKind.u64.wrap (IntKind.u64.wrap (2 ^ N) - 1) = ((2 ^ N - 1 : Nat) : Int) := by
  have h : ∀ m : Fin 65, IntKind.u64.wrap (IntKind.u64.wrap (2 ^ m.val) - 1) = ((2 ^ m.val - 1 : Nat) : Int) := by decide +kernel
  exact h ⟨N, by omega⟩
set_option maxRecDepth 8000 in
theorem plusOne_any (n : Nat) (g : Nat → Bool) (w : World) (hn : n ≤ 6) :
    Calls Try.prog 55 #[.agg #[.int .i64 n, .int .u64 (Wh.ob g (2 ^ n))]] w fun e w' => e = .returned (.agg #[.int .i64 n, .int .u64 (Wh.ob (fun x => !g x) (2 ^ n))]) ∧ Below w.heap.size w w' := by
  obtain ⟨N, hN⟩ : ∃ N, 2 ^ n = N := ⟨_, rfl⟩
  have hp := pow6 hn
  have HZ : Hid (∀ (V : Nat) (W : World), Calls Try.prog 51 #[.agg #[.int .i64 n, .int .u64 V]] W fun e w' => e = .returned (.int .i64 N) ∧ Below W.heap.size W w') := fun V W => by
    have := size_any n V W hn
    rwa [hN] at this
  rw [hN] at hp ⊢
  clear hN
  have h64 : 2 ^ N ≤ 2 ^ 64 := Nat.pow_le_pow_right (by omega) hp.2
  have hV64 : Wh.ob g N < 18446744073709551616 := Nat.lt_of_lt_of_le (Wh.ob_lt g N) h64
  have ho64 : 2 ^ N - 1 < 18446744073709551616 := Nat.lt_of_lt_of_le (by have := Nat.one_le_two_pow (n := N); omega) h64
  have hsh := shl_ones hp.2
  have hd := Wt.ob_not g N
  clear h64
  obtain ⟨V, hV⟩ : ∃ V, Wh.ob g N = V := ⟨_, rfl⟩
  obtain ⟨Q, hQ⟩ : ∃ Q, Wh.ob (fun x => !g x) N = Q := ⟨_, rfl⟩
  obtain ⟨O, hO⟩ : ∃ O, 2 ^ N - 1 = O := ⟨_, rfl⟩
  rw [hV, hQ, hO] at hd
  rw [hO] at ho64 hsh
  rw [hV] at hV64
  rw [hV, hQ]
  have hxo : bits .xor .u64 (V : Int) (O : Int) = (Q : Int) := by rw [u64_xorN _ _ hV64 ho64, hd]
  have A0 := (P2.new w (.int .i64 n) (.int .u64 V) 54).alloc (.cells #[.int .i64 0, .int .u64 0] 54)
  have R0 := P2.new (w.alloc (.cells #[.int .i64 n, .int .u64 V] 54)) (.int .i64 0) (.int .u64 0) 54
  simp only [World.size_alloc] at R0
  have B0 := ((Below.refl w.heap.size w).alloc (Nat.le_refl _) (.cells #[.int .i64 n, .int .u64 V] 54)).alloc (by simp) (.cells #[.int .i64 0, .int .u64 0] 54)
  have HK0 := Lib.hid (And.intro A0 (And.intro R0 B0))
  clear hd hV hQ hO hV64 ho64 A0 R0 B0
  go_enter Try.func55, Try.ntmps55
  go_wp2
  obtain ⟨wr, hwr⟩ : ∃ W, (w.alloc (.cells #[.int .i64 n, .int .u64 V] 54)).alloc (.cells #[.int .i64 0, .int .u64 0] 54) = W := ⟨_, rfl⟩
  rw [hwr] at HK0 ⊢
  clear hwr
  have hmx : Try.prog.follows .mixedOrders = true := by kernel_rfl
  have K0 : ∀ q : GT wr, q.w.cell? ⟨w.heap.size, 0, none⟩ = some (.int .i64 n) := gt_cell HK0.out.1.1.1
  have K1 : ∀ q : GT wr, q.w.cell? ⟨w.heap.size, 1, none⟩ = some (.int .u64 V) := gt_cell HK0.out.1.1.2
  refine wp_region_quiet_tail (C := fun w' => ∃ q : GT wr, w' = q.w) 10 hmx (by kernel_rfl) ⟨⟨wr.drew, (Below.refl _ _).drew⟩, rfl⟩ ?_
  simp only [List.take_succ_cons, List.take_zero, List.drop_succ_cons, List.drop_zero]
  repeat (quiet_step (with_reducible exact gt_call (HZ.out _ _)))
  refine wpQuiet_nil ?_
  rintro W2 ⟨⟨_, hW2⟩, rfl⟩
  clear K0 K1
  obtain ⟨_, R, B⟩ := HK0.out
  have R2 := R.far hW2
  have B2 := B.trans (hW2.mono B.size)
  clear R B
  have R' := R2
  obtain ⟨⟨r0, r1⟩, g0, g1⟩ := R'
  obtain ⟨⟨x0, x1⟩, _⟩ := (R2.set0 (.int .i64 n)).set1 (.int .u64 Q)
  go_wp2
  exact bodyPost_ret (v := .agg #[.int .i64 n, .int .u64 Q]) (by simp [results, Try.results55, go_sem, x0, x1]) rfl ⟨rfl, (B2.setCell (p := ⟨w.heap.size + 1, 0, none⟩) (by simp) _).setCell (p := ⟨w.heap.size + 1, 1, none⟩) (by simp) _⟩
set_option maxRecDepth 8000 in
theorem fixedShifts_any (n : Nat) (s : ByteArray) (h : TabP n s) : GivesList 27 #[.string s] (prodL (fixd (tb s) s.size) s.size) true := fun w => by
  obtain ⟨⟨h1, h2⟩, _, HF, _⟩ := spec_pack n s h _ rfl
  have hn6 := h.2.1
  obtain ⟨g, hg⟩ : ∃ g, tb s = g := ⟨_, rfl⟩
  have hU : val s s.size = Wh.ob g s.size := by rw [← hg]; rfl
  rw [hU] at HF
  have HS : Hid (∀ W : World, Calls Try.prog 51 #[.agg #[.int .i64 n, .int .u64 (Wh.ob g s.size)]] W fun e w' => e = .returned (.int .i64 s.size) ∧ Below W.heap.size W w') := fun W => sizeT_any n s.size _ W h.2.1 h.1
  have HSh : Hid (∀ (a : Nat) (W : World), a < s.size → Calls Try.prog 53 #[.agg #[.int .i64 n, .int .u64 (Wh.ob g s.size)], .int .i64 a] W fun e w' => e = .returned (.agg #[.int .i64 n, .int .u64 (Wh.ob (shf g a) s.size)]) ∧ Below W.heap.size W w') := fun a W ha => by
    have := shifted_any n a g W h.2.1 (by rw [← h.1]; exact ha)
    rwa [← h.1] at this
  have HP1 : Hid (∀ W : World, Calls Try.prog 55 #[.agg #[.int .i64 n, .int .u64 (Wh.ob g s.size)]] W fun e w' => e = .returned (.agg #[.int .i64 n, .int .u64 (Wh.ob (fun x => !g x) s.size)]) ∧ Below W.heap.size W w') := fun W => by
    have := plusOne_any n g W h.2.1
    rwa [← h.1] at this
  rw [hg]
  obtain ⟨N, hN⟩ : ∃ N, s.size = N := ⟨_, rfl⟩
  rw [hN] at HF HS HSh HP1 h1 h2 ⊢
  have HFX : Hid (∀ a, fixd g N a = (decide (Wh.ob (shf g a) N = Wh.ob g N) || decide (Wh.ob (shf g a) N = Wh.ob (fun x => !g x) N))) := fun _ => rfl
  obtain ⟨V, hV⟩ : ∃ V, Wh.ob g N = V := ⟨_, rfl⟩
  obtain ⟨V1, hV1⟩ : ∃ V1, Wh.ob (fun x => !g x) N = V1 := ⟨_, rfl⟩
  rw [hV] at HF HS HSh HP1 HFX
  rw [hV1] at HP1 HFX
  have HLe : Hid (∀ k, (prodL (fixd g N) k).length ≤ k) := Wt.prodL_length (fixd g N)
  obtain ⟨i0, hi, hz0, hz1, hz2⟩ := info_parts Try.info2
  clear hU hg h hN hV hV1
  go_enter Try.func27, Try.ntmps27
  go_wp2_with (go_at_call 43; refine (HF.out _).mono ?_; rintro e w1 ⟨rfl, hb1⟩)
  have A1 := BT.new w1 (.int .i64 n) (.int .u64 V) 54
  have B1 := hb1.alloc hb1.size (.cells #[.int .i64 n, .int .u64 V] 54)
  have hz9 := hb1.size
  have O1 := own_base (ownsRow_empty (w1.alloc (.cells #[.int .i64 n, .int .u64 V] 54)) 2 1) B1.size
  simp only [World.size_alloc] at O1
  have A2 := A1.alloc (.cells #[] 2)
  have B2 := B1.alloc B1.size (.cells #[] 2)
  clear hb1 A1 B1
  go_wp2_with fail
  refine (HS.out _).mono ?_
  rintro e w2 ⟨rfl, hb2⟩
  have A3 := A2.far hb2
  have B3 := B2.trans (hb2.mono B2.size)
  have O3 := own_far O1 hb2
  clear hb2 A2 B2 O1
  go_wp2
  go_loopw [6, 7, 8, 19] (fun v0 _ _ kv wr => ∃ (k : Nat) (v : Value), v = v0 ∧ k ≤ N ∧ kv = .int .i64 k ∧ wr.ownsRow w.heap.size 2 1 v (prodL (fixd g N) k).length ((prodL (fixd g N) k).map (Value.int .i64)) ∧ BT wr w1.heap.size (.int .i64 n) (.int .u64 V) 54 ∧ Below w.heap.size w wr) (fun _ _ _ kv _ => N - (intOf kv).toNat)
  case atStart => exact ⟨0, _, rfl, Nat.zero_le _, rfl, O3, A3, B3⟩
  case round =>
    obtain ⟨k, v, rfl, hk, rfl, hown, A, B⟩ := hrel
    clear O3 A3 B3
    by_cases hlt : k < N
    · have HSk : Hid (∀ W : World, Calls Try.prog 53 #[.agg #[.int .i64 n, .int .u64 V], .int .i64 k] W fun e w' => e = .returned (.agg #[.int .i64 n, .int .u64 (Wh.ob (shf g k) N)]) ∧ Below W.heap.size W w') := fun W => HSh.out k W hlt
      have HFk := Lib.hid (HFX.out k)
      obtain ⟨Q, hQ⟩ : ∃ Q, Wh.ob (shf g k) N = Q := ⟨_, rfl⟩
      rw [hQ] at HSk HFk
      clear hQ
      obtain ⟨⟨c0, c1⟩, _⟩ := A.p2
      go_wp2_with fail
      refine (HSk.out _).mono ?_
      rintro e w3 ⟨rfl, hb3⟩
      have A2 := (A.far hb3).alloc (.cells #[.int .i64 n, .int .u64 Q] 54)
      have O2 := (own_far hown hb3).alloc (.cells #[.int .i64 n, .int .u64 Q] 54)
      have B2 := B.trans (hb3.mono B.size)
      have S2 := BT.new w3 (.int .i64 n) (.int .u64 Q) 54
      have B3 := B2.alloc B2.size (.cells #[.int .i64 n, .int .u64 Q] 54)
      have HK := Lib.hid (And.intro A2 (And.intro O2 (And.intro S2 B3)))
      clear A hown B hb3 A2 O2 B2 S2 B3 c0 c1
      go_wp2
      obtain ⟨wr2, hwr2⟩ : ∃ W, w3.alloc (.cells #[.int .i64 n, .int .u64 Q] 54) = W := ⟨_, rfl⟩
      rw [hwr2] at HK ⊢
      clear hwr2
      have hmx : Try.prog.follows .mixedOrders = true := by kernel_rfl
      have K0 : ∀ q : GT wr2, q.w.cell? ⟨w1.heap.size, 0, none⟩ = some (.int .i64 n) := gt_cell HK.out.1.p2.1.1
      have K1 : ∀ q : GT wr2, q.w.cell? ⟨w1.heap.size, 1, none⟩ = some (.int .u64 V) := gt_cell HK.out.1.p2.1.2
      have K2 : ∀ q : GT wr2, q.w.cell? ⟨w3.heap.size, 0, none⟩ = some (.int .i64 n) := gt_cell HK.out.2.2.1.p2.1.1
      have K3 : ∀ q : GT wr2, q.w.cell? ⟨w3.heap.size, 1, none⟩ = some (.int .u64 Q) := gt_cell HK.out.2.2.1.p2.1.2
      refine region_quiet_s (C := fun w' => ∃ q : GT wr2, w' = q.w) hmx (by kernel_rfl) ⟨⟨wr2.drew, (Below.refl _ _).drew⟩, rfl⟩ ?_
      by_cases hq : Q = V
      · subst hq
        have hfx : fixd g N k = true := by rw [HFk.out]; simp
        repeat (quiet_step (with_reducible exact gt_call (HP1.out _)))
        refine wpQuiet_nil ?_
        rintro W2 ⟨⟨_, hW2⟩, rfl⟩
        clear K0 K1 K2 K3
        obtain ⟨A, hown, _, B⟩ := HK.out
        have A2 := A.far hW2
        have hown2 := own_far hown hW2
        have B2 := B.trans (hW2.mono B.size)
        clear A hown B
        have hle := HLe.out k
        have HL := Lib.hid (Wt.prodL_yes hfx)
        have hne := Lib.hid (A2.not_own hown2 (by decide))
        clear hfx
        go_wp2_with (at_builtin; refine wpList_append_own _ rfl _ _ 27 rfl w.heap.size 2 i0 (.int .i64 0) 1 8 Try.underlying27 hi hz0 hz1 hz2 rfl (by decide) _ _ _ rfl (hown2.alloc _) ⟨W2.heap.size, 0, none⟩ 1 1 [.int .i64 k] rfl rfl (cell_one_new _ _ _) (by intro u hu; simp at hu; subst hu; rfl) (by unfold maxLen; omega) (by omega) (by have := B2.size; simp; omega) ?_; intro v1 w4 hown4 hgrow _)
        have B4 : Below w.heap.size w w4 := (B2.alloc B2.size _).grown hgrow (by have := B2.size; simp; omega) (own_block hown2)
        have A4 := (A2.alloc _).grown hgrow hne.out
        have HO : Hid (w4.ownsRow w.heap.size 2 1 v1 (prodL (fixd g N) (k + 1)).length ((prodL (fixd g N) (k + 1)).map (Value.int .i64))) := by
          unfold Hid
          rw [HL.out]
          simpa using hown4
        clear hown4 hgrow hown2 B2 A2 hne
        go_wp2
        go_roundw
        case rel => exact ⟨k + 1, _, rfl, by omega, by go_num, HO.out, A4, B4⟩
        case measure => simp [intOf]; omega
      · have hq1 : ¬ (Q : Int) = (V : Int) := by omega
        by_cases hq2 : Q = V1
        · subst hq2
          have hfx : fixd g N k = true := by rw [HFk.out]; simp
          repeat (quiet_step (with_reducible exact gt_call (HP1.out _)))
          refine wpQuiet_nil ?_
          rintro W2 ⟨⟨_, hW2⟩, rfl⟩
          clear K0 K1 K2 K3
          obtain ⟨A, hown, _, B⟩ := HK.out
          have A2 := A.far hW2
          have hown2 := own_far hown hW2
          have B2 := B.trans (hW2.mono B.size)
          clear A hown B
          have hle := HLe.out k
          have HL := Lib.hid (Wt.prodL_yes hfx)
          have hne := Lib.hid (A2.not_own hown2 (by decide))
          clear hfx
          go_wp2_with (at_builtin; refine wpList_append_own _ rfl _ _ 27 rfl w.heap.size 2 i0 (.int .i64 0) 1 8 Try.underlying27 hi hz0 hz1 hz2 rfl (by decide) _ _ _ rfl (hown2.alloc _) ⟨W2.heap.size, 0, none⟩ 1 1 [.int .i64 k] rfl rfl (cell_one_new _ _ _) (by intro u hu; simp at hu; subst hu; rfl) (by unfold maxLen; omega) (by omega) (by have := B2.size; simp; omega) ?_; intro v1 w4 hown4 hgrow _)
          have B4 : Below w.heap.size w w4 := (B2.alloc B2.size _).grown hgrow (by have := B2.size; simp; omega) (own_block hown2)
          have A4 := (A2.alloc _).grown hgrow hne.out
          have HO : Hid (w4.ownsRow w.heap.size 2 1 v1 (prodL (fixd g N) (k + 1)).length ((prodL (fixd g N) (k + 1)).map (Value.int .i64))) := by
            unfold Hid
            rw [HL.out]
            simpa using hown4
          clear hown4 hgrow hown2 B2 A2 hne
          go_wp2
          go_roundw
          case rel => exact ⟨k + 1, _, rfl, by omega, by go_num, HO.out, A4, B4⟩
          case measure => simp [intOf]; omega
        · have hq3 : ¬ (Q : Int) = (V1 : Int) := by omega
          have hfx : fixd g N k = false := by rw [HFk.out]; simp [hq, hq2]
          repeat (quiet_step (with_reducible exact gt_call (HP1.out _)))
          refine wpQuiet_nil ?_
          rintro W2 ⟨⟨_, hW2⟩, rfl⟩
          clear K0 K1 K2 K3
          obtain ⟨A, hown, _, B⟩ := HK.out
          have A2 := A.far hW2
          have hown2 := own_far hown hW2
          have B2 := B.trans (hW2.mono B.size)
          clear A hown B
          have HL := Lib.hid (Wt.prodL_no hfx)
          clear hfx
          go_wp2
          go_roundw
          case rel => exact ⟨k + 1, _, rfl, by omega, by go_num, by rw [HL.out]; exact hown2, A2, B2⟩
          case measure => simp [intOf]; omega
    · obtain rfl : k = N := by omega
      have HB := Lib.hid (And.intro hown B)
      clear A hown B
      go_wp2
      go_ret2
      exact ⟨_, rfl, SL.of_own HB.out.1, HB.out.2⟩
set_option maxRecDepth 8000 in
theorem specFixedShifts_any (n : Nat) (s : ByteArray) (h : TabP n s) : GivesList 26 #[.string s] (prodL (fixd (tb s) s.size) s.size) true := fun w => by
  obtain ⟨⟨h1, h2⟩, _, _, _⟩ := spec_pack n s h _ rfl
  have HF : Hid (∀ W : World, Calls Try.prog 41 #[.string s] W fun e w' => e = .returned (.bool true) ∧ W = w') := fun W => l04Table_yes n s W h
  have HN : Hid (∀ W : World, Calls Try.prog 52 #[.string s] W fun e w' => ∃ v, e = .returned v ∧ w'.ownsRow W.heap.size 2 1 v s.size ((row (shR (tb s) s.size) s.size).map (Value.int .i64)) ∧ Below W.heap.size W w') := fun W => l04Shifts_any n s W h
  obtain ⟨N, hN⟩ : ∃ N, s.size = N := ⟨_, rfl⟩
  have HNN := Lib.hid hN
  rw [hN] at HN h1 h2 ⊢
  have HI : Hid (∀ a, fixd (tb s) N a = true ↔ (shR (tb s) N a).natAbs = N) := fun a => Wt.fixd_iff (tb s) N a
  have HB : Hid (∀ a, -(N : Int) ≤ shR (tb s) N a ∧ shR (tb s) N a ≤ N) := fun a => Wt.sh_le (tb s) a N
  have HLe : Hid (∀ k, (prodL (fixd (tb s) N) k).length ≤ k) := Wt.prodL_length (fixd (tb s) N)
  obtain ⟨f, hf⟩ : ∃ f, shR (tb s) N = f := ⟨_, rfl⟩
  rw [hf] at HN HI HB
  obtain ⟨g, hg⟩ : ∃ g, fixd (tb s) N = g := ⟨_, rfl⟩
  rw [hg] at HI HLe ⊢
  obtain ⟨i0, hi, hz0, hz1, hz2⟩ := info_parts Try.info2
  clear h hN hf hg
  go_enter Try.func26, Try.ntmps26
  go_wp2_with (go_at_call 41; refine (HF.out _).mono ?_; rintro e w1 ⟨rfl, rfl⟩)
  refine (HN.out _).mono ?_
  rintro e w2 ⟨v, rfl, hown, hb2⟩
  obtain ⟨G, cap, rfl, hcap⟩ := row_some hown (by omega)
  have hG := (roww_lt hown).2
  have HC : Hid (∀ i, i < N → w2.cell? ⟨G, i, none⟩ = some (.int .i64 (f i))) := fun i hi => (roww_at hown hi).1
  have HBB := Lib.hid hb2
  clear hown hb2
  have O1 := ownsRow_empty w2 2 1
  have B1 := (Below.refl w2.heap.size w2).alloc (Nat.le_refl _) (.cells #[] 2)
  go_wp2
  go_loopw [5, 6] (fun v0 kv wr => ∃ (k : Nat) (v : Value), v = v0 ∧ k ≤ N ∧ kv = .int .i64 k ∧ wr.ownsRow w2.heap.size 2 1 v (prodL g k).length ((prodL g k).map (Value.int .i64)) ∧ Below w2.heap.size w2 wr) (fun _ kv _ => N - (intOf kv).toNat)
  case atStart => exact ⟨0, _, rfl, Nat.zero_le _, rfl, O1, B1⟩
  case round =>
    obtain ⟨k, v, rfl, hk, rfl, hown, B⟩ := hrel
    clear O1 B1
    by_cases hlt : k < N
    · have c0 : wr.cell? ⟨G, k, none⟩ = some (.int .i64 (f k)) := (B.cell (p := ⟨G, k, none⟩) hG).trans (HC.out k hlt)
      have hu := HB.out k
      have HIk := HI.out k
      have hns := HNN.out
      obtain ⟨u, hu2⟩ : ∃ u, f k = u := ⟨_, rfl⟩
      rw [hu2] at hu c0 HIk
      have HM : Hid (∀ W : World, Calls Try.prog 54 #[.int .i64 u, .int .i64 (-u)] W fun e w' => e = .returned (.int .i64 u.natAbs) ∧ W = w') := fun W => by
        have h0 := l00MaxT_any u (-u) W
        have e : (if -u < u then u else -u) = (u.natAbs : Int) := by split <;> omega
        rwa [e] at h0
      have hle := HLe.out k
      have hab : u.natAbs ≤ N := by omega
      obtain ⟨q, hq⟩ : ∃ q, u.natAbs = q := ⟨_, rfl⟩
      rw [hq] at HM HIk hab
      have HK := Lib.hid (And.intro hown B)
      clear hu2 hq hown B
      cases hfx : g k with
      | true =>
        have hqN : q = N := HIk.1 hfx
        have HL := Lib.hid (Wt.prodL_yes hfx)
        clear hfx HIk
        subst hqN
        have hneg := IntWalk.i64_in (-u) (by omega)
        go_wp2
        go_quiet ((go_at_call 54; exact quietG (HM.out _)))
        clear hneg c0
        obtain ⟨wr2, hwr2⟩ : ∃ W, wr.drewN nq = W := ⟨_, rfl⟩
        have hown : wr2.ownsRow w2.heap.size 2 1 v (prodL g k).length ((prodL g k).map (Value.int .i64)) := by rw [← hwr2]; exact HK.out.1
        have B : Below w2.heap.size w2 wr2 := by rw [← hwr2]; exact below_drewN HK.out.2 nq
        rw [hwr2]
        clear hwr2 HK
        go_wp2_with (at_builtin; refine wpList_append_own _ rfl _ _ 27 rfl w2.heap.size 2 i0 (.int .i64 0) 1 8 Try.underlying27 hi hz0 hz1 hz2 rfl (by decide) _ _ _ rfl (hown.alloc _) ⟨wr2.heap.size, 0, none⟩ 1 1 [.int .i64 k] rfl rfl (cell_one_new _ _ _) (by intro u hu; simp at hu; subst hu; rfl) (by unfold maxLen; omega) (by omega) (by have := B.size; simp; omega) ?_; intro v1 w4 hown4 hgrow _)
        have B4 : Below w2.heap.size w2 w4 := (B.alloc B.size _).grown hgrow (by have := B.size; simp; omega) (own_block hown)
        have HO : Hid (w4.ownsRow w2.heap.size 2 1 v1 (prodL g (k + 1)).length ((prodL g (k + 1)).map (Value.int .i64))) := by
          unfold Hid
          rw [HL.out]
          simpa using hown4
        clear hown4 hgrow hown B
        go_wp2
        go_roundw
        case rel => exact ⟨k + 1, _, rfl, by omega, by go_num, HO.out, B4⟩
        case measure => simp [intOf]; omega
      | false =>
        have hqN : ¬ q = N := fun e => by have := HIk.2 e; rw [hfx] at this; cases this
        have hb : ((q : Int) == (N : Int)) = false := by rw [beq_eq_false_iff_ne]; omega
        have HL := Lib.hid (Wt.prodL_no hfx)
        have hneg := IntWalk.i64_in (-u) (by omega)
        clear hfx HIk hqN
        go_wp2
        go_quiet ((go_at_call 54; exact quietG (HM.out _)))
        clear hneg c0
        go_wp2
        go_roundw
        case rel => exact ⟨k + 1, _, rfl, by omega, by go_num, by rw [HL.out]; exact HK.out.1, below_drewN HK.out.2 nq⟩
        case measure => simp [intOf]; omega
    · obtain rfl : k = N := by omega
      have HB := Lib.hid (And.intro hown B)
      have HX := Lib.hid (HBB.out.trans (B.mono HBB.out.size))
      clear hown B
      go_wp2
      go_ret2
      exact ⟨_, rfl, SL.of_own (own_base HB.out.1 HBB.out.size), HX.out⟩
theorem lawFixedShifts (s : ByteArray) (w : World) (hm : s.size ≤ maxLen) :
    Calls Try.prog 8 #[.string s] w fun e w' => e = .returned (.bool true) ∧ Below w.heap.size w w' := by
  apply lawFixedShifts_all s w hm
  by_cases h : ∃ n, TabP n s
  · obtain ⟨n, h⟩ := h
    exact ⟨_, true, Nat.le_trans (Wt.prodL_length _ _) (by have := pow6 h.2.1; rw [h.1]; omega), specFixedShifts_any n s h, fixedShifts_any n s h⟩
  · exact ⟨[], false, by simp, gives_noS fun w => specFixedShifts_no s w hm h, gives_no fun w => implFixedShifts_no s w hm h⟩
end Go.Proofs.Ytgpcacbjmjpdnab
