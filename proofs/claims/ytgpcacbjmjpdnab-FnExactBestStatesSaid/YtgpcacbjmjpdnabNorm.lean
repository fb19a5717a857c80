/- The normal form of a function: impl.function.normalForm, .table, NormalForm; spec.l04Normal; the law FnExactNormalForm. -/
import Derived.Test.YtgpcacbjmjpdnabTabSpec
import Derived.Test.YtgpcacbjmjpdnabGT
import Derived.Test.YtgpcacbjmjpdnabBytes
import Derived.Test.YtgpcacbjmjpdnabLawV
import Derived.Test.YtgpcacbjmjpdnabLawNo
import Derived.Deep.RegionHeld3
import Derived.Deep.AppendLies
namespace Go.Proofs.Ytgpcacbjmjpdnab
open Go.RowKit Go.PlainAid
set_option maxHeartbeats 800000

/-- in the middle of a pass -/
def mix (h : Nat → Bool) (i x y : Nat) : Bool := if y < x then Wh.pass i h y else h y
theorem mix_start (h : Nat → Bool) (i N : Nat) : Wh.ob (mix h i 0) N = Wh.ob h N := Wh.ob_congr fun y _ => by simp [mix]
theorem mix_end (h : Nat → Bool) (i N : Nat) : Wh.ob (mix h i N) N = Wh.ob (Wh.pass i h) N := Wh.ob_congr fun y hy => by simp [mix, hy]
theorem mix_skip {h : Nat → Bool} {i x : Nat} (N : Nat) (hx : x.testBit i = false) : Wh.ob (mix h i (x + 1)) N = Wh.ob (mix h i x) N := Wh.ob_congr fun y _ => by
  unfold mix
  by_cases e : y = x
  · subst e
    rw [if_pos (by omega), if_neg (by omega), Wh.pass_off _ hx]
  · have : y < x + 1 ↔ y < x := by omega
    simp only [this]
theorem mix_step {h : Nat → Bool} {i x N b : Nat} (hxN : x < N) (hfN : x ^^^ 2 ^ i < N) (hx : x.testBit i = true) (hb : ((Wh.ob (mix h i x) N).testBit (x ^^^ 2 ^ i)).toNat = b) :
    Wh.ob (mix h i x) N ^^^ b * 2 ^ x = Wh.ob (mix h i (x + 1)) N := by
  have hd := Wh.flip_down hx
  have h0 : (x ^^^ 2 ^ i).testBit i = false := by rw [Wh.flip_bit, hx]; simp
  rw [← hb]
  apply Wh.ob_eq
  · apply Nat.xor_lt_two_pow (Wh.ob_lt _ _)
    have h1 : (Bool.toNat ((Wh.ob (mix h i x) N).testBit (x ^^^ 2 ^ i))) ≤ 1 := Bool.toNat_le _
    have h2 : 2 ^ x < 2 ^ N := Nat.pow_lt_pow_right (by omega) hxN
    have h3 := Nat.mul_le_mul_right (2 ^ x) h1
    omega
  · intro y hy
    rw [Nat.testBit_xor, Wh.bitmul_bit, Wh.ob_bit, Wh.ob_bit]
    simp only [hy, hfN, decide_true, Bool.true_and]
    unfold mix
    by_cases e : y = x
    · subst e
      rw [if_neg (by omega), if_pos hd, if_pos (by omega), Wh.pass_on _ hx, Wh.pass_off _ h0]
      simp
    · have : y < x + 1 ↔ y < x := by omega
      simp [e, this]
theorem i64_xorT (a b : Nat) (ha : a < 9223372036854775808) (hb : b < 9223372036854775808) : bits .xor .i64 (a : Int) (b : Int) = ((a ^^^ b : Nat) : Int) := by
  have h : a ^^^ b < 2 ^ 63 := Nat.xor_lt_two_pow ha hb
  show IntKind.i64.wrap ((BitVec.ofInt 64 (a : Int) ^^^ BitVec.ofInt 64 (b : Int)).toNat : Int) = _
  rw [BitVec.toNat_xor, BitVec.ofInt_natCast, BitVec.ofInt_natCast, BitVec.toNat_ofNat, BitVec.toNat_ofNat, Nat.mod_eq_of_lt (by omega), Nat.mod_eq_of_lt (by omega), IntKind.wrap_i64]
  omega
theorem i64_one (q : Nat) : bits .and .i64 (q : Int) 1 = (q : Int) % 2 := by
  have h1 : (BitVec.ofInt 64 1).toNat = 2 ^ 1 - 1 := by decide
  have key : (BitVec.ofInt 64 (q : Int) &&& BitVec.ofInt 64 1).toNat = ((q : Int) % ((2 ^ 64 : Nat) : Int)).toNat % 2 ^ 1 := by
    rw [BitVec.toNat_and, BitVec.toNat_ofInt, h1, Nat.and_two_pow_sub_one_eq_mod]
  show IntKind.i64.wrap ((BitVec.ofInt 64 (q : Int) &&& BitVec.ofInt 64 1).toNat : Nat) = (q : Int) % 2
  rw [key, IntKind.wrap_i64]
  omega
theorem bitT (x i : Nat) : (bits .and .i64 ((x : Int) / 2 ^ i) 1 == 1) = x.testBit i := by
  have h : (x : Int) / 2 ^ i = ((x / 2 ^ i : Nat) : Int) := by push_cast; rfl
  rw [h, i64_one, Nat.testBit_eq_decide_div_mod_eq]
  rcases (show x / 2 ^ i % 2 = 0 ∨ x / 2 ^ i % 2 = 1 by omega) with h | h
  · rw [h, show ((x / 2 ^ i : Nat) : Int) % 2 = 0 by omega]; rfl
  · rw [h, show ((x / 2 ^ i : Nat) : Int) % 2 = 1 by omega]; rfl

theorem flip_int {x i : Nat} (hx : x < 64) (hi : i ≤ 6) : bits .xor .i64 (x : Int) (IntKind.i64.wrap ((2 : Int) ^ i)) = ((x ^^^ 2 ^ i : Nat) : Int) := by
  have := pow6 hi
  rw [pow_cast, IntWalk.i64_in _ (by omega), i64_xorT _ _ (by omega) (by omega)]

theorem norm_any (n : Nat) (g : Nat → Bool) (w : World) (hn : n ≤ 6) :
    Calls Try.prog 80 #[.agg #[.int .i64 n, .int .u64 (Wh.ob g (2 ^ n))]] w fun e w' => e = .returned (.agg #[.int .i64 n, .int .u64 (Wh.ob (Wh.mob g n) (2 ^ n))]) ∧ Below w.heap.size w w' := by
  obtain ⟨N, hN⟩ : ∃ N, 2 ^ n = N := ⟨_, rfl⟩
  have hp := pow6 hn
  have HZ : Hid (∀ (V : Nat) (W : World), Calls Try.prog 51 #[.agg #[.int .i64 n, .int .u64 V]] W fun e w' => e = .returned (.int .i64 N) ∧ Below W.heap.size W w') := fun V W => by
    have := size_any n V W hn
    rwa [hN] at this
  have HNN := Lib.hid hN
  rw [hN] at hp ⊢
  clear hN
  have A0 := (P2.new w (.int .i64 n) (.int .u64 (Wh.ob g N)) 54).alloc (.cells #[.int .i64 0, .int .u64 0] 54)
  have R0 := P2.new (w.alloc (.cells #[.int .i64 n, .int .u64 (Wh.ob g N)] 54)) (.int .i64 0) (.int .u64 0) 54
  rw [World.size_alloc] at R0
  have B0 := ((Below.refl w.heap.size w).alloc (Nat.le_refl _) (.cells #[.int .i64 n, .int .u64 (Wh.ob g N)] 54)).alloc (by simp) (.cells #[.int .i64 0, .int .u64 0] 54)
  have HM : Hid (Wh.mob g 0 = g) := rfl
  have hG : Wh.ob g N = Wh.ob (Wh.mob g 0) N := rfl
  rw [hG] at A0 R0 B0 ⊢
  clear hG HM
  go_enter Try.func80, Try.ntmps80
  go_wp2
  go_loopw [3, 4, 7, 12] (fun _ _ iv _ wr => ∃ i : Nat, i ≤ n ∧ iv = .int .i64 i ∧ P2 wr w.heap.size (.int .i64 n) (.int .u64 (Wh.ob (Wh.mob g i) N)) ∧ P2 wr (w.heap.size + 1) (.int .i64 0) (.int .u64 0) ∧ Below w.heap.size w wr) (fun _ _ iv _ _ => n - (intOf iv).toNat)
  case atStart => exact ⟨0, Nat.zero_le _, rfl, A0, R0, B0⟩
  case round =>
    obtain ⟨i, hi, rfl, A, R, B⟩ := hrel
    clear A0 R0 B0
    by_cases hlt : i < n
    · obtain ⟨wo, hwo⟩ : ∃ x, wr = x := ⟨_, rfl⟩
      rw [hwo] at A R B ⊢
      clear hwo
      obtain ⟨h, hh⟩ : ∃ h, Wh.mob g i = h := ⟨_, rfl⟩
      have HP : Hid (Wh.mob g (i + 1) = Wh.pass i h) := by unfold Hid; rw [← hh]; rfl
      rw [hh] at A
      have A' := A
      obtain ⟨⟨c0, c1⟩, _⟩ := A'
      clear hh
      go_wp2_with (go_at_call 51; refine (HZ.out _ _).mono ?_; rintro e w2 ⟨rfl, hb2⟩)
      have A2 := A.far hb2
      have R2 := R.far hb2
      have B2 := B.trans (hb2.mono B.size)
      rw [← mix_start h i N] at A2
      clear hb2 A R B c0 c1
      go_loopw [4, 12] (fun _ xv wi => ∃ x : Nat, x ≤ N ∧ xv = .int .i64 x ∧ P2 wi w.heap.size (.int .i64 n) (.int .u64 (Wh.ob (mix h i x) N)) ∧ P2 wi (w.heap.size + 1) (.int .i64 0) (.int .u64 0) ∧ Below w.heap.size w wi) (fun _ xv _ => N - (intOf xv).toNat)
      case atStart => exact ⟨0, Nat.zero_le _, rfl, A2, R2, B2⟩
      case round =>
        obtain ⟨x, hx, rfl, A, R, B⟩ := hrel
        clear A2 R2 B2
        by_cases hxt : x < N
        · cases hbit : x.testBit i with
          | false =>
            have ht : (bits .and .i64 ((x : Int) / 2 ^ i) 1 == 1) = false := by rw [bitT, hbit]
            rw [← mix_skip N hbit] at A
            clear hbit
            go_wp2
            go_roundw
            case rel => exact ⟨x + 1, by omega, by go_num, A, R, B⟩
            case measure => simp [intOf]; omega
          | true =>
            have ht : (bits .and .i64 ((x : Int) / 2 ^ i) 1 == 1) = true := by rw [bitT, hbit]
            have hf : x ^^^ 2 ^ i < N := by rw [← HNN.out] at hxt ⊢; exact Wh.flip_lt hxt hlt
            have e2 := flip_int (show x < 64 by omega) (show i ≤ 6 by omega)
            obtain ⟨b, hb⟩ : ∃ b, ((Wh.ob (mix h i x) N).testBit (x ^^^ 2 ^ i)).toNat = b := ⟨_, rfl⟩
            have hb1 : b ≤ 1 := by rw [← hb]; exact Bool.toNat_le _
            have hstep := mix_step hxt hf hbit hb
            obtain ⟨y, hy⟩ : ∃ y, x ^^^ 2 ^ i = y := ⟨_, rfl⟩
            rw [hy] at hf hb e2
            obtain ⟨V, hV⟩ : ∃ V, Wh.ob (mix h i x) N = V := ⟨_, rfl⟩
            rw [hV] at hstep hb A
            have hV64 : V < 18446744073709551616 := by
              have h1 := Wh.ob_lt (mix h i x) N
              have h2 : 2 ^ N ≤ 2 ^ 64 := Nat.pow_le_pow_right (by omega) hp.2
              rw [hV] at h1
              omega
            obtain ⟨hbs, hbw⟩ := bit_shl hb1 (show x < 64 by omega)
            have hxo : bits .xor .u64 (V : Int) (IntKind.u64.wrap ((b : Int) * 2 ^ x)) = (Wh.ob (mix h i (x + 1)) N : Int) := by
              rw [hbw, u64_xorN _ _ hV64 hbs, hstep]
            have HA : Hid (∀ W : World, Calls Try.prog 75 #[.agg #[.int .i64 n, .int .u64 V], .int .i64 y] W fun e w' => e = .returned (.int .u64 b) ∧ Below W.heap.size W w') := fun W => by
              have := at_any n V y W hV64 (by omega)
              rwa [hb] at this
            obtain ⟨V', hV'⟩ : ∃ V', Wh.ob (mix h i (x + 1)) N = V' := ⟨_, rfl⟩
            rw [hV'] at hxo
            have HV' := Lib.hid hV'
            clear hV' hbit hy hV hV64 hbs hbw hstep hb
            go_wp2
            have hmx : Try.prog.follows .mixedOrders = true := by kernel_rfl
            have K0 : ∀ q : GT wr, q.w.cell? ⟨w.heap.size, 0, none⟩ = some (.int .i64 n) := gt_cell A.1.1
            have K1 : ∀ q : GT wr, q.w.cell? ⟨w.heap.size, 1, none⟩ = some (.int .u64 V) := gt_cell A.1.2
            have HK := Lib.hid (And.intro A (And.intro R B))
            clear A R B
            refine wp_region_quiet_tail (C := fun w' => ∃ q : GT wr, w' = q.w) 12 hmx (by kernel_rfl) ⟨⟨wr.drew, (Below.refl _ _).drew⟩, rfl⟩ ?_
            simp only [List.take_succ_cons, List.take_zero, List.drop_succ_cons, List.drop_zero]
            repeat (quiet_step (with_reducible exact gt_call (HA.out _)))
            refine wpQuiet_nil ?_
            rintro W2 ⟨⟨_, hW2⟩, rfl⟩
            clear K0 K1
            obtain ⟨A, R, B⟩ := HK.out
            have A2 := A.far hW2
            have R2 := R.far hW2
            have B2 := B.trans (hW2.mono B.size)
            clear A R B
            have A' := A2
            obtain ⟨⟨c0, c1⟩, f0, f1⟩ := A'
            go_wp2
            go_roundw
            case rel => exact ⟨x + 1, by omega, by go_num, by rw [HV'.out]; exact A2.set1 _, R2.away (by omega) 1 _, B2.setCell (p := ⟨w.heap.size, 1, none⟩) (Nat.le_refl _) _⟩
            case measure => simp [intOf]; omega
        · obtain rfl : x = N := by omega
          rw [mix_end, ← HP.out] at A
          go_wp2
          go_roundw
          case rel => exact ⟨i + 1, by omega, by go_num, A, R, B⟩
          case measure => simp [intOf]; omega
    · obtain rfl : i = n := by omega
      obtain ⟨⟨c0, c1⟩, _⟩ := A
      have R' := R
      obtain ⟨⟨r0, r1⟩, g0, g1⟩ := R'
      obtain ⟨⟨x0, x1⟩, _⟩ := (R.set0 (.int .i64 i)).set1 (.int .u64 (Wh.ob (Wh.mob g i) N))
      go_wp2
      exact bodyPost_ret (v := .agg #[.int .i64 i, .int .u64 (Wh.ob (Wh.mob g i) N)]) (by simp [results, Try.results80, go_sem, x0, x1]) rfl ⟨rfl, (B.setCell (p := ⟨w.heap.size + 1, 0, none⟩) (by simp) _).setCell (p := ⟨w.heap.size + 1, 1, none⟩) (by simp) _⟩

/-- the text of the values below k -/
def tabL (g : Nat → Bool) (k : Nat) : List Int := (List.range k).map fun x => 48 + ((g x).toNat : Int)
theorem tabL_length (g : Nat → Bool) (k : Nat) : (tabL g k).length = k := by simp [tabL]
theorem tabL_succ (g : Nat → Bool) (k : Nat) : tabL g (k + 1) = tabL g k ++ [48 + ((g k).toNat : Int)] := by simp [tabL, List.range_succ]
theorem tabL_congr {f g : Nat → Bool} {k : Nat} (h : ∀ y, y < k → f y = g y) : tabL f k = tabL g k := by
  unfold tabL
  apply List.map_congr_left
  intro t ht
  rw [h t (List.mem_range.1 ht)]

theorem u8_xorB (a b : Bool) : bits .xor .u8 (a.toNat : Int) (b.toNat : Int) = ((a ^^ b).toNat : Int) := by cases a <;> cases b <;> decide +kernel
theorem i64_andT (a b : Nat) (ha : a < 9223372036854775808) (hb : b < 9223372036854775808) : bits .and .i64 (a : Int) (b : Int) = ((a &&& b : Nat) : Int) := by
  have h : a &&& b ≤ a := Nat.and_le_left
  show IntKind.i64.wrap ((BitVec.ofInt 64 (a : Int) &&& BitVec.ofInt 64 (b : Int)).toNat : Int) = _
  rw [BitVec.toNat_and, BitVec.ofInt_natCast, BitVec.ofInt_natCast, BitVec.toNat_ofNat, BitVec.toNat_ofNat, Nat.mod_eq_of_lt (by omega), Nat.mod_eq_of_lt (by omega), IntKind.wrap_i64]
  omega
/-- the normal form as the specification finds it -/
def nfS (g : Nat → Bool) (u : Nat) : Bool := Wh.nfTo g u (u + 1)
theorem nfTo_b (g : Nat → Bool) (u k : Nat) (b : Bool) (h : (k &&& u = k) ↔ b = true) : Wh.nfTo g u (k + 1) = (Wh.nfTo g u k ^^ (b && g k)) := by
  rw [Wh.nfTo_succ, (show decide (k &&& u = k) = b by rw [Bool.eq_iff_iff, decide_eq_true_iff]; exact h)]
set_option maxRecDepth 8000 in
theorem l04Normal_any (n : Nat) (s : ByteArray) (w : World) (h : TabP n s) :
    Calls Try.prog 62 #[.string s] w fun e w' => e = .returned (.string (strOfNums (tabL (nfS (tb s)) s.size))) ∧ Below w.heap.size w w' := by
  obtain ⟨i0, hi, hz0, hz1, hz2⟩ := info_parts Try.info5
  obtain ⟨p1, p2⟩ := pow6 h.2.1
  rw [← h.1] at p1 p2
  have HT := Lib.hid h
  clear h
  go_enter Try.func62, Try.ntmps62
  go_wp2
  go_loopw [3, 4, 5, 6] (fun v uv _ _ wr => ∃ u : Nat, u ≤ s.size ∧ uv = .int .i64 u ∧ wr.ownsRow w.heap.size 5 1 v u ((tabL (nfS (tb s)) u).map (Value.int .u8)) ∧ Below w.heap.size w wr) (fun _ uv _ _ _ => s.size - (intOf uv).toNat)
  case atStart => exact ⟨0, Nat.zero_le _, rfl, ownsRow_empty w _ _, (Below.refl _ _).alloc (Nat.le_refl _) _⟩
  case round =>
    obtain ⟨u, hu, rfl, hown, hbel⟩ := hrel
    by_cases hlt : u < s.size
    · obtain ⟨wo, hwo⟩ : ∃ x, wr = x := ⟨_, rfl⟩
      rw [hwo] at hown hbel ⊢
      clear hwo
      have HL := Lib.hid (tabL_succ (nfS (tb s)) u)
      have HOo := Lib.hid (And.intro hown hbel)
      clear hown hbel
      go_wp2
      go_loop [5, 6] (fun x kv => ∃ k : Nat, k ≤ u + 1 ∧ kv = .int .i64 k ∧ x = .int .u8 ((Wh.nfTo (tb s) u k).toNat : Nat)) (fun _ kv => u + 1 - (intOf kv).toNat)
      case atStart => exact ⟨0, Nat.zero_le _, rfl, rfl⟩
      case round =>
        obtain ⟨k, hk, rfl, rfl⟩ := hrel
        by_cases hkt : k < u + 1
        · have hks : k < s.size := by omega
          have ha := i64_andT k u (by omega) (by omega)
          have hv := HT.out.val hks
          rw [← get_bt s k hks] at hv
          obtain ⟨f, hf⟩ : ∃ f, Wh.nfTo (tb s) u k = f := ⟨_, rfl⟩
          have HN : Hid (∀ b, (k &&& u = k ↔ b = true) → Wh.nfTo (tb s) u (k + 1) = (f ^^ (b && tb s k))) := fun b hb => by rw [← hf]; exact nfTo_b (tb s) u k b hb
          obtain ⟨q, hq⟩ : ∃ q, k &&& u = q := ⟨_, rfl⟩
          rw [hf]
          rw [hq] at ha HN
          obtain ⟨g, hg⟩ : ∃ g, tb s k = g := ⟨_, rfl⟩
          rw [hg] at hv HN
          have hx := u8_xorB f g
          have hg1 : g.toNat ≤ 1 := Bool.toNat_le _
          have hf1 : f.toNat ≤ 1 := Bool.toNat_le _
          by_cases hqk : q = k
          · have hc : ((q : Int) == (k : Int)) = true := by simp [hqk]
            have HN2 := Lib.hid (HN.out true (by simp [hqk]))
            clear hq hf hg hqk
            go_wp2
            go_round
            case rel => exact ⟨k + 1, by omega, by go_num, by rw [HN2.out, Bool.true_and, ← hx, show (48 + (g.toNat : Int) - 48) = (g.toNat : Int) by omega]⟩
            case measure => simp [intOf]; omega
          · have hc : ((q : Int) == (k : Int)) = false := by rw [beq_eq_false_iff_ne]; omega
            have HN2 := Lib.hid (HN.out false (by simp [hqk]))
            clear hq hf hg hqk
            go_wp2
            go_round
            case rel => exact ⟨k + 1, by omega, by go_num, by rw [HN2.out]; simp⟩
            case measure => simp [intOf]; omega
        · obtain rfl : k = u + 1 := by omega
          have hown := HOo.out.1
          have hbel := HOo.out.2
          have hb1 : (Wh.nfTo (tb s) u (u + 1)).toNat ≤ 1 := Bool.toNat_le _
          have HL2 : Hid (tabL (nfS (tb s)) (u + 1) = tabL (nfS (tb s)) u ++ [48 + (((Wh.nfTo (tb s) u (u + 1)).toNat : Nat) : Int)]) := HL.out
          obtain ⟨b, hb⟩ : ∃ b, (Wh.nfTo (tb s) u (u + 1)).toNat = b := ⟨_, rfl⟩
          rw [hb] at hb1 HL2 ⊢
          clear hb HOo HL
          go_wp2_with (at_builtin; refine wpList_append_own _ rfl _ _ 69 rfl w.heap.size 5 i0 (.int .u8 0) 1 1 Try.underlying69 hi hz0 hz1 hz2 rfl (by decide) _ _ _ rfl (hown.alloc _) ⟨wo.heap.size, 0, none⟩ 1 1 [.int .u8 (48 + b)] rfl rfl (cell_one_new _ _ _) (by intro u hu; simp at hu; subst hu; rfl) (by unfold maxLen; omega) (by omega) (by have := hbel.size; simp; omega) ?_; intro v1 w1 hown1 hgrow _)
          have hb1 : Below w.heap.size w w1 := (hbel.alloc hbel.size _).grown hgrow (by have := hbel.size; simp; omega) (own_block hown)
          have HO : Hid (w1.ownsRow w.heap.size 5 1 v1 (u + 1) ((tabL (nfS (tb s)) (u + 1)).map (Value.int .u8))) := by
            unfold Hid
            rw [HL2.out]
            simpa using hown1
          clear hown1 hgrow hown hbel
          go_wp2
          go_roundw
          case rel => exact ⟨u + 1, by omega, by go_num, HO.out, hb1⟩
          case measure => simp [intOf]; omega
    · obtain rfl : u = s.size := by omega
      have hcv := conv_own (P := Try.prog) (dst := 9) Try.underlying69 Try.underlying5 Try.underlying9 hown
      clear hown
      go_wp2
      go_ret
      exact ⟨rfl, hbel⟩
theorem nfS_mob {n : Nat} {s : ByteArray} (h : TabP n s) : tabL (nfS (tb s)) s.size = tabL (Wh.mob (tb s) n) s.size := by
  apply tabL_congr
  intro y hy
  rw [h.1] at hy
  exact (Wh.mob_nf (tb s) hy).symm
end Go.Proofs.Ytgpcacbjmjpdnab
