/- A width that is enough for what is combined: CombinedWidth in the code and in the specification, and the law. -/
import Derived.Test.YtgpcacbjmjpdnabDeg
import Derived.Test.YtgpcacbjmjpdnabRowC
import Derived.Test.YtgpcacbjmjpdnabWgt
namespace Go.Proofs.Ytgpcacbjmjpdnab
open Go.RowKit Go.PlainAid
open Wt (prodL)
set_option maxHeartbeats 800000

/-- the product of the widths of the inputs of u, below k -/
def prW (xs : List Int) (u : Nat) : Nat → Int
  | 0 => 1
  | k + 1 => if u.testBit k then prW xs u k * xs.getD k 0 else prW xs u k
def WOk (xs : List Int) : Prop := ∀ x ∈ xs, 0 ≤ x ∧ x ≤ 16
theorem prW_le {xs : List Int} (h : WOk xs) (u : Nat) : ∀ k, 0 ≤ prW xs u k ∧ prW xs u k ≤ ((16 ^ k : Nat) : Int) := by
  intro k
  induction k with
  | zero => exact ⟨by simp [prW], by simp [prW]⟩
  | succ k ih =>
    have hx : 0 ≤ xs.getD k 0 ∧ xs.getD k 0 ≤ 16 := by
      by_cases hk : k < xs.length
      · have : xs.getD k 0 = xs[k] := by simp [List.getD_eq_getElem?_getD, hk]
        rw [this]
        exact h _ (List.getElem_mem hk)
      · have : xs.getD k 0 = 0 := by simp [List.getD_eq_getElem?_getD, hk]
        rw [this]; omega
    have e : ((16 ^ (k + 1) : Nat) : Int) = ((16 ^ k : Nat) : Int) * 16 := by rw [Nat.pow_succ]; push_cast; rfl
    simp only [prW]
    split
    · rw [e]
      exact ⟨Int.mul_nonneg ih.1 hx.1, Int.mul_le_mul ih.2 hx.2 hx.1 (by omega)⟩
    · omega
theorem pow16 {k : Nat} (h : k ≤ 6) : 16 ^ k ≤ 16777216 := Nat.pow_le_pow_right (n := 16) (by omega) h
theorem prW_le6 {xs : List Int} (h : WOk xs) (u : Nat) {k : Nat} (hk : k ≤ 6) : 0 ≤ prW xs u k ∧ prW xs u k ≤ 16777216 := by
  have h1 := prW_le h u k
  have h2 := pow16 hk
  omega
theorem prW_yes {xs : List Int} {u k : Nat} (h : u.testBit k = true) : prW xs u (k + 1) = prW xs u k * xs.getD k 0 := by simp [prW, h]
theorem prW_no {xs : List Int} {u k : Nat} (h : u.testBit k = false) : prW xs u (k + 1) = prW xs u k := by simp [prW, h]
/-- the sum over some products -/
def smW (xs : List Int) (n : Nat) (l : List Int) : Int := l.foldl (fun a z => a + prW xs z.toNat n) 0
theorem smW_snoc (xs : List Int) (n : Nat) (l : List Int) (z : Int) : smW xs n (l ++ [z]) = smW xs n l + prW xs z.toNat n := by simp [smW, List.foldl_append]
theorem smW_app (xs : List Int) (n : Nat) : ∀ (l : List Int) (a : Int), l.foldl (fun a z => a + prW xs z.toNat n) a = a + smW xs n l := by
  intro l
  induction l with
  | nil => intro a; simp [smW]
  | cons z l ih =>
    intro a
    have h1 : smW xs n (z :: l) = (0 + prW xs z.toNat n) + smW xs n l := ih _
    rw [List.foldl_cons, ih, h1]
    omega
theorem smW_le {xs : List Int} (h : WOk xs) {n : Nat} (hn : n ≤ 6) : ∀ l : List Int, 0 ≤ smW xs n l ∧ smW xs n l ≤ 16777216 * (l.length : Int) := by
  intro l
  induction l with
  | nil => simp [smW]
  | cons z l ih =>
    have h1 : smW xs n (z :: l) = (0 + prW xs z.toNat n) + smW xs n l := smW_app xs n l _
    have h2 := prW_le6 h z.toNat hn
    rw [h1, List.length_cons]
    omega

theorem areBtw_yes (a : Option Addr) (m cap : Nat) (xs : List Int) (lo hi : Int) (w : World) (hr : RO w.heap.size w a xs) (hm : xs.length = m) (hl : m ≤ 1048576) (h : ∀ x ∈ xs, lo ≤ x ∧ x ≤ hi) :
    Calls Try.prog 63 #[.slice a m cap, .int .i64 lo, .int .i64 hi] w fun e w' => e = .returned (.bool true) ∧ w = w' := by
  have HR := Lib.hid hr
  have HM := Lib.hid hm
  have HH := Lib.hid h
  clear hr hm h
  go_enter Try.func63, Try.ntmps63
  go_wp2
  go_loop [8, 11] (fun _ kv => ∃ k : Nat, k ≤ m ∧ kv = .int .i64 k) (fun _ kv => m - (intOf kv).toNat)
  case atStart => exact ⟨0, Nat.zero_le _, rfl⟩
  case round =>
    obtain ⟨k, hk, rfl⟩ := hrel
    by_cases hlt : k < m
    · have hkx : k < xs.length := by rw [HM.out]; exact hlt
      obtain ⟨g, off, rfl, hg, hc⟩ := HR.out k xs[k] (List.getElem?_eq_getElem hkx)
      have hx := HH.out xs[k] (List.getElem_mem hkx)
      obtain ⟨x, hxx⟩ : ∃ x, xs[k] = x := ⟨_, rfl⟩
      rw [hxx] at hc hx
      clear hxx hkx
      go_wp2_with (go_at_call 79; refine (btw64_yes _ _ _ _ hx.1 hx.2).mono ?_; rintro e w1 ⟨rfl, rfl⟩)
      go_round
      case rel => exact ⟨k + 1, by omega, by go_num⟩
      case measure => simp [intOf]; omega
    · go_wp2
      go_ret
      exact ⟨rfl, rfl⟩
theorem areBtw_no (a : Option Addr) (m cap : Nat) (xs : List Int) (lo hi : Int) (w : World) (hr : RO w.heap.size w a xs) (hm : xs.length = m) (hl : m ≤ 1048576) (h : ¬ ∀ x ∈ xs, lo ≤ x ∧ x ≤ hi) :
    Calls Try.prog 63 #[.slice a m cap, .int .i64 lo, .int .i64 hi] w fun e w' => e = .returned (.bool false) ∧ w = w' := by
  have HR := Lib.hid hr
  have HM := Lib.hid hm
  have HH := Lib.hid h
  clear hr hm h
  go_enter Try.func63, Try.ntmps63
  go_wp2
  go_loop [8, 11] (fun _ kv => ∃ k : Nat, k ≤ m ∧ kv = .int .i64 k ∧ Hid (∀ i (hi2 : i < xs.length), i < k → lo ≤ xs[i] ∧ xs[i] ≤ hi)) (fun _ kv => m - (intOf kv).toNat)
  case atStart => exact ⟨0, Nat.zero_le _, rfl, fun i _ h => by omega⟩
  case round =>
    obtain ⟨k, hk, rfl, HG⟩ := hrel
    by_cases hlt : k < m
    · have hkx : k < xs.length := by rw [HM.out]; exact hlt
      obtain ⟨g, off, rfl, hg, hc⟩ := HR.out k xs[k] (List.getElem?_eq_getElem hkx)
      have HS : Hid (lo ≤ xs[k] ∧ xs[k] ≤ hi → ∀ i (hi2 : i < xs.length), i < k + 1 → lo ≤ xs[i] ∧ xs[i] ≤ hi) := fun e i hi2 hi3 => by
        by_cases hik : i = k
        · subst hik; exact e
        · exact HG.out i hi2 (by omega)
      obtain ⟨x, hxx⟩ : ∃ x, xs[k] = x := ⟨_, rfl⟩
      rw [hxx] at hc HS
      clear hxx hkx HG
      by_cases hx : lo ≤ x ∧ x ≤ hi
      · go_wp2_with (go_at_call 79; refine (btw64_yes _ _ _ _ hx.1 hx.2).mono ?_; rintro e w1 ⟨rfl, rfl⟩)
        go_round
        case rel => exact ⟨k + 1, by omega, by go_num, HS.out hx⟩
        case measure => simp [intOf]; omega
      · go_wp2_with (go_at_call 79; refine (btw64_no _ _ _ _ hx).mono ?_; rintro e w1 ⟨rfl, rfl⟩)
        go_ret
        exact ⟨rfl, rfl⟩
    · exfalso
      apply HH.out
      intro x hx
      obtain ⟨i, hi2, rfl⟩ := List.getElem_of_mem hx
      exact HG.out i hi2 (by have := HM.out; omega)
set_option maxRecDepth 8000 in
theorem combW_yes (n : Nat) (s : ByteArray) (a : Option Addr) (cap : Nat) (xs : List Int) (w : World) (h : TabP n s) (hr : RO w.heap.size w a xs) (hm : xs.length = n) (hw : WOk xs) :
    Calls Try.prog 35 #[.string s, .slice a n cap] w fun e w' => e = .returned (.tuple #[.int .i64 (smW xs n (prodL (Wh.mob (tb s) n) s.size)), .bool true]) ∧ Below w.heap.size w w' := by
  have HF : Hid (∀ W : World, Calls Try.prog 43 #[.string s] W fun e w' => e = .returned (.tuple #[.agg #[.int .i64 n, .int .u64 (val s s.size)], .bool true]) ∧ Below W.heap.size W w') := fun W => funOf_yes n s W h
  have hp := pow6 h.2.1
  have hn6 := h.2.1
  rw [← h.1] at hp
  have HP : Hid (∀ W : World, Calls Try.prog 64 #[.agg #[.int .i64 n, .int .u64 (val s s.size)]] W fun e w' => ∃ v, e = .returned v ∧ w'.ownsRow W.heap.size 2 1 v (prodL (Wh.mob (tb s) n) s.size).length ((prodL (Wh.mob (tb s) n) s.size).map (Value.int .i64)) ∧ Below W.heap.size W w') := fun W => by
    have := products_any n (tb s) W h.2.1
    rw [← h.1] at this
    exact this
  have HM : Hid (∀ z ∈ prodL (Wh.mob (tb s) n) s.size, 0 ≤ z ∧ z < 64) := fun z hz => by
    have := Wt.prodL_mem _ hz
    omega
  have hll := Wt.prodL_length (Wh.mob (tb s) n) s.size
  obtain ⟨l, hl⟩ : ∃ l, prodL (Wh.mob (tb s) n) s.size = l := ⟨_, rfl⟩
  obtain ⟨U, hU⟩ : ∃ U, val s s.size = U := ⟨_, rfl⟩
  rw [hl] at HP HM hll ⊢
  rw [hU] at HF HP
  have HAB : Hid (∀ W : World, RO W.heap.size W a xs → Calls Try.prog 63 #[.slice a n cap, .int .i64 0, .int .i64 16] W fun e w' => e = .returned (.bool true) ∧ W = w') := fun W hR => areBtw_yes a n cap xs 0 16 W hR hm (by omega) hw
  have HR := Lib.hid hr
  have HXL := Lib.hid hm
  have HPW : Hid (∀ u k, k ≤ 6 → 0 ≤ prW xs u k ∧ prW xs u k ≤ 16777216) := fun u k hk => prW_le6 hw u hk
  have HSW : Hid (∀ j, 0 ≤ smW xs n (l.take j) ∧ smW xs n (l.take j) ≤ 1073741824) := fun j => by
    have h1 := smW_le hw hn6 (l.take j)
    have h2 : (l.take j).length ≤ l.length := by rw [List.length_take]; omega
    omega
  have HWX : Hid (∀ (k : Nat) (hk : k < xs.length), 0 ≤ xs[k] ∧ xs[k] ≤ 16) := fun k hk => hw _ (List.getElem_mem hk)
  clear hU hl h hr hm hw
  go_enter Try.func35, Try.ntmps35
  go_wp2_with (go_at_call 43; refine (HF.out _).mono ?_; rintro e w1 ⟨rfl, hb1⟩)
  have B1 := hb1.alloc hb1.size (.cells #[.int .i64 n, .int .u64 U] 54)
  have HR1 := Lib.hid ((HR.out.below B1).up B1.size)
  have HB1 := Lib.hid B1
  clear hb1 B1
  go_wp2_with fail
  refine (HAB.out _ HR1.out).mono ?_
  rintro e w2 ⟨rfl, rfl⟩
  go_wp2_with fail
  refine (HP.out _).mono ?_
  rintro e w2 ⟨v, rfl, hown, hb2⟩
  have HB2 := Lib.hid (HB1.out.trans (hb2.mono HB1.out.size))
  have HR2 := Lib.hid (HR.out.below HB2.out)
  obtain ⟨bp, cap2, rfl, hc⟩ := own_list hown
  have HC := Lib.hid hc
  clear hown hb2 hc HB1 HR1
  go_wp2
  go_loop [8, 10, 11, 12, 13, 36, 42] (fun d _ _ _ _ jv _ => ∃ j : Nat, j ≤ l.length ∧ jv = .int .i64 j ∧ d = .int .i64 (smW xs n (l.take j))) (fun _ _ _ _ _ jv _ => l.length - (intOf jv).toNat)
  case atStart => exact ⟨0, Nat.zero_le _, rfl, rfl⟩
  case round =>
    obtain ⟨j, hj, rfl, rfl⟩ := hrel
    by_cases hlt : j < l.length
    · rcases HC.out with ⟨_, h0⟩ | ⟨G, rfl, hcap, hc⟩
      · subst h0; simp at hlt
      · have hz := HM.out l[j] (List.getElem_mem hlt)
        have c0 := hc j hlt
        have HS := Lib.hid (Wt.take_snoc (List.getElem?_eq_getElem hlt))
        have HX := Lib.hid (smW_snoc xs n (l.take j) l[j])
        have hb := HSW.out j
        have hb2 := HSW.out (j + 1)
        obtain ⟨z, hzz⟩ : ∃ z, l[j] = z := ⟨_, rfl⟩
        obtain ⟨d, hd⟩ : ∃ d, smW xs n (l.take j) = d := ⟨_, rfl⟩
        rw [hzz] at c0 hz HS HX
        rw [hd] at HX hb ⊢
        obtain ⟨u, rfl⟩ := Int.eq_ofNat_of_zero_le hz.1
        have HX2 : Hid (smW xs n (l.take (j + 1)) = d + prW xs u n) := by
          unfold Hid
          rw [HS.out, HX.out]
          rfl
        clear hzz hd HX HS hc hb2
        go_wp2
        go_loop [11, 12, 13, 42] (fun pv _ _ kv => ∃ k : Nat, k ≤ n ∧ kv = .int .i64 k ∧ pv = .int .i64 (prW xs u k)) (fun _ _ _ kv => n - (intOf kv).toNat)
        case atStart => exact ⟨0, Nat.zero_le _, rfl, rfl⟩
        case round =>
          obtain ⟨k, hk, rfl, rfl⟩ := hrel
          have hpb := HPW.out u k (by omega)
          by_cases hkt : k < n
          · have hkx : k < xs.length := by rw [HXL.out]; exact hkt
            obtain ⟨G2, off, hae, hg, hcw⟩ := HR2.out k xs[k] (List.getElem?_eq_getElem hkx)
            have hx := HWX.out k hkx
            have hget : xs.getD k 0 = xs[k] := by simp [List.getD_eq_getElem?_getD, hkx]
            have HY : Hid (u.testBit k = true → prW xs u (k + 1) = prW xs u k * xs[k]) := fun e => by rw [prW_yes e, hget]
            have HZ : Hid (u.testBit k = false → prW xs u (k + 1) = prW xs u k) := fun e => prW_no e
            have hpb2 := HPW.out u (k + 1) (by omega)
            obtain ⟨x, hxx⟩ : ∃ x, xs[k] = x := ⟨_, rfl⟩
            obtain ⟨p, hp2⟩ : ∃ p, prW xs u k = p := ⟨_, rfl⟩
            obtain ⟨p2, hp3⟩ : ∃ p2, prW xs u (k + 1) = p2 := ⟨_, rfl⟩
            rw [hxx] at hcw hx HY
            rw [hp2] at HY HZ hpb ⊢
            rw [hp3] at HY HZ hpb2
            have HP3 := Lib.hid hp3
            subst hae
            clear hxx hp2 hp3 hget hkx
            cases hbit : u.testBit k with
            | true =>
              have ht : (bits .and .i64 ((u : Int) / 2 ^ k) 1 == 1) = true := by rw [bitT, hbit]
              have HE := Lib.hid (HY.out hbit)
              have hb1 : 0 ≤ p * x ∧ p * x ≤ 16777216 := by rw [← HE.out]; exact hpb2
              clear hbit HY HZ
              go_wp2
              go_round
              case rel => exact ⟨k + 1, by omega, by go_num, by rw [HP3.out, HE.out]⟩
              case measure => simp [intOf]; omega
            | false =>
              have ht : (bits .and .i64 ((u : Int) / 2 ^ k) 1 == 1) = false := by rw [bitT, hbit]
              have HE := Lib.hid (HZ.out hbit)
              clear hbit HY HZ
              go_wp2
              go_round
              case rel => exact ⟨k + 1, by omega, by go_num, by rw [HP3.out, HE.out]⟩
              case measure => simp [intOf]; omega
          · obtain rfl : k = n := by omega
            go_wp2
            go_round
            case rel => exact ⟨j + 1, by omega, by go_num, by rw [HX2.out]⟩
            case measure => simp [intOf]; omega
    · obtain rfl : j = l.length := by omega
      rw [List.take_length]
      go_wp2
      go_ret2
      exact ⟨rfl, HB2.out⟩
theorem combW_noA (s : ByteArray) (a : Option Addr) (m cap : Nat) (w : World) (hm : s.size ≤ maxLen) (h : ¬ ∃ n, TabP n s) :
    Calls Try.prog 35 #[.string s, .slice a m cap] w fun e w' => e = .returned (.tuple #[.int .i64 0, .bool false]) ∧ Below w.heap.size w w' := by
  have HF : Hid (∀ W : World, Calls Try.prog 43 #[.string s] W fun e w' => e = .returned (.tuple #[.agg #[.int .i64 0, .int .u64 0], .bool false]) ∧ Below W.heap.size W w') := fun W => funOf_no s W hm h
  clear h
  go_enter Try.func35, Try.ntmps35
  go_wp2_with (go_at_call 43; refine (HF.out _).mono ?_; rintro e w1 ⟨rfl, hb1⟩)
  go_ret2
  exact ⟨rfl, hb1.alloc hb1.size _⟩
theorem combW_noB (n : Nat) (s : ByteArray) (a : Option Addr) (m cap : Nat) (w : World) (hl : m ≤ 1048576) (h : TabP n s) (hne : ¬ m = n) :
    Calls Try.prog 35 #[.string s, .slice a m cap] w fun e w' => e = .returned (.tuple #[.int .i64 0, .bool false]) ∧ Below w.heap.size w w' := by
  have HF : Hid (∀ W : World, Calls Try.prog 43 #[.string s] W fun e w' => e = .returned (.tuple #[.agg #[.int .i64 n, .int .u64 (val s s.size)], .bool true]) ∧ Below W.heap.size W w') := fun W => funOf_yes n s W h
  have hn6 := h.2.1
  obtain ⟨U, hU⟩ : ∃ U, val s s.size = U := ⟨_, rfl⟩
  rw [hU] at HF
  have hx : ((m : Int) != (n : Int)) = true := by simp; omega
  clear hU h
  go_enter Try.func35, Try.ntmps35
  go_wp2_with (go_at_call 43; refine (HF.out _).mono ?_; rintro e w1 ⟨rfl, hb1⟩)
  go_ret2
  exact ⟨rfl, hb1.alloc hb1.size _⟩
theorem combW_noC (n : Nat) (s : ByteArray) (a : Option Addr) (cap : Nat) (xs : List Int) (w : World) (h : TabP n s) (hr : RO w.heap.size w a xs) (hm : xs.length = n) (hw : ¬ WOk xs) :
    Calls Try.prog 35 #[.string s, .slice a n cap] w fun e w' => e = .returned (.tuple #[.int .i64 0, .bool false]) ∧ Below w.heap.size w w' := by
  have HF : Hid (∀ W : World, Calls Try.prog 43 #[.string s] W fun e w' => e = .returned (.tuple #[.agg #[.int .i64 n, .int .u64 (val s s.size)], .bool true]) ∧ Below W.heap.size W w') := fun W => funOf_yes n s W h
  have hn6 := h.2.1
  obtain ⟨U, hU⟩ : ∃ U, val s s.size = U := ⟨_, rfl⟩
  rw [hU] at HF
  have HAB : Hid (∀ W : World, RO W.heap.size W a xs → Calls Try.prog 63 #[.slice a n cap, .int .i64 0, .int .i64 16] W fun e w' => e = .returned (.bool false) ∧ W = w') := fun W hR => areBtw_no a n cap xs 0 16 W hR hm (by omega) hw
  have HR := Lib.hid hr
  clear hU h hr hm hw
  go_enter Try.func35, Try.ntmps35
  go_wp2_with (go_at_call 43; refine (HF.out _).mono ?_; rintro e w1 ⟨rfl, hb1⟩)
  have B1 := hb1.alloc hb1.size (.cells #[.int .i64 n, .int .u64 U] 54)
  have HR1 := Lib.hid ((HR.out.below B1).up B1.size)
  have HB1 := Lib.hid B1
  clear hb1 B1
  go_wp2_with fail
  refine (HAB.out _ HR1.out).mono ?_
  rintro e w2 ⟨rfl, rfl⟩
  go_wp2
  go_ret2
  exact ⟨rfl, HB1.out⟩
theorem specCombW_noA (s : ByteArray) (a : Option Addr) (m cap : Nat) (w : World) (hm : s.size ≤ maxLen) (h : ¬ ∃ n, TabP n s) :
    Calls Try.prog 33 #[.string s, .slice a m cap] w fun e w' => e = .returned (.tuple #[.int .i64 0, .bool false]) ∧ Below w.heap.size w w' := by
  have HF : Hid (∀ W : World, Calls Try.prog 41 #[.string s] W fun e w' => e = .returned (.bool false) ∧ W = w') := fun W => l04Table_no s W hm h
  clear h
  go_enter Try.func33, Try.ntmps33
  go_wp2_with (go_at_call 41; refine (HF.out _).mono ?_; rintro e w1 ⟨rfl, rfl⟩)
  go_ret2
  exact ⟨rfl, Below.refl _ _⟩
theorem specCombW_noB (n : Nat) (s : ByteArray) (a : Option Addr) (m cap : Nat) (w : World) (hl : m ≤ 1048576) (h : TabP n s) (hne : ¬ m = n) :
    Calls Try.prog 33 #[.string s, .slice a m cap] w fun e w' => e = .returned (.tuple #[.int .i64 0, .bool false]) ∧ Below w.heap.size w w' := by
  have HF : Hid (∀ W : World, Calls Try.prog 41 #[.string s] W fun e w' => e = .returned (.bool true) ∧ W = w') := fun W => l04Table_yes n s W h
  have HI : Hid (∀ W : World, Calls Try.prog 45 #[.string s] W fun e w' => e = .returned (.int .i64 n) ∧ W = w') := fun W => inputs_yes n s W h
  have hn6 := h.2.1
  have hx : ((m : Int) != (n : Int)) = true := by simp; omega
  clear h
  go_enter Try.func33, Try.ntmps33
  go_wp2_with (first | (go_at_call 41; refine (HF.out _).mono ?_; rintro e w1 ⟨rfl, rfl⟩) | (go_at_call 45; refine (HI.out _).mono ?_; rintro e w1 ⟨rfl, rfl⟩))
  go_ret2
  exact ⟨rfl, Below.refl _ _⟩
theorem specCombW_noC (n : Nat) (s : ByteArray) (a : Option Addr) (cap : Nat) (xs : List Int) (w : World) (h : TabP n s) (hr : RO w.heap.size w a xs) (hm : xs.length = n) (hw : ¬ WOk xs) :
    Calls Try.prog 33 #[.string s, .slice a n cap] w fun e w' => e = .returned (.tuple #[.int .i64 0, .bool false]) ∧ Below w.heap.size w w' := by
  have HF : Hid (∀ W : World, Calls Try.prog 41 #[.string s] W fun e w' => e = .returned (.bool true) ∧ W = w') := fun W => l04Table_yes n s W h
  have HI : Hid (∀ W : World, Calls Try.prog 45 #[.string s] W fun e w' => e = .returned (.int .i64 n) ∧ W = w') := fun W => inputs_yes n s W h
  have hn6 := h.2.1
  have hx : ((n : Int) != (n : Int)) = false := by simp
  have HR := Lib.hid hr
  have HM := Lib.hid hm
  have HH := Lib.hid hw
  clear h hr hm hw
  go_enter Try.func33, Try.ntmps33
  go_wp2_with (first | (go_at_call 41; refine (HF.out _).mono ?_; rintro e w1 ⟨rfl, rfl⟩) | (go_at_call 45; refine (HI.out _).mono ?_; rintro e w1 ⟨rfl, rfl⟩))
  go_loop [6] (fun kv => ∃ k : Nat, k ≤ n ∧ kv = .int .i64 k ∧ Hid (∀ i (hi2 : i < xs.length), i < k → 0 ≤ xs[i] ∧ xs[i] ≤ 16)) (fun kv => n - (intOf kv).toNat)
  case atStart => exact ⟨0, Nat.zero_le _, rfl, fun i _ h => by omega⟩
  case round =>
    obtain ⟨k, hk, rfl, HG⟩ := hrel
    by_cases hlt : k < n
    · have hkx : k < xs.length := by rw [HM.out]; exact hlt
      obtain ⟨g, off, rfl, hg, hc⟩ := HR.out k xs[k] (List.getElem?_eq_getElem hkx)
      have HS : Hid (0 ≤ xs[k] ∧ xs[k] ≤ 16 → ∀ i (hi2 : i < xs.length), i < k + 1 → 0 ≤ xs[i] ∧ xs[i] ≤ 16) := fun e i hi2 hi3 => by
        by_cases hik : i = k
        · subst hik; exact e
        · exact HG.out i hi2 (by omega)
      obtain ⟨x, hxx⟩ : ∃ x, xs[k] = x := ⟨_, rfl⟩
      rw [hxx] at hc HS
      clear hxx hkx HG
      by_cases hx : 0 ≤ x ∧ x ≤ 16
      · go_wp2_with (go_at_call 61; refine (l00In_yes _ _ _ _ hx.1 hx.2).mono ?_; rintro e w1 ⟨rfl, rfl⟩)
        go_round
        case rel => exact ⟨k + 1, by omega, by go_num, HS.out hx⟩
        case measure => simp [intOf]; omega
      · go_wp2_with (go_at_call 61; refine (l00In_no _ _ _ _ hx).mono ?_; rintro e w1 ⟨rfl, rfl⟩)
        go_ret2
        exact ⟨rfl, Below.refl _ _⟩
    · exfalso
      apply HH.out
      intro x hx
      obtain ⟨i, hi2, rfl⟩ := List.getElem_of_mem hx
      exact HG.out i hi2 (by have := HM.out; omega)
set_option maxRecDepth 8000 in
theorem specCombW_yes (n : Nat) (s : ByteArray) (a : Option Addr) (cap : Nat) (xs : List Int) (w : World) (h : TabP n s) (hr : RO w.heap.size w a xs) (hm : xs.length = n) (hw : WOk xs) :
    Calls Try.prog 33 #[.string s, .slice a n cap] w fun e w' => e = .returned (.tuple #[.int .i64 (smW xs n (prodL (Wh.mob (tb s) n) s.size)), .bool true]) ∧ Below w.heap.size w w' := by
  have HF : Hid (∀ W : World, Calls Try.prog 41 #[.string s] W fun e w' => e = .returned (.bool true) ∧ W = w') := fun W => l04Table_yes n s W h
  have HI : Hid (∀ W : World, Calls Try.prog 45 #[.string s] W fun e w' => e = .returned (.int .i64 n) ∧ W = w') := fun W => inputs_yes n s W h
  have hn6 := h.2.1
  have hp := pow6 h.2.1
  rw [← h.1] at hp
  have HN : Hid (∀ W : World, Calls Try.prog 62 #[.string s] W fun e w' => e = .returned (.string (strOfNums (tabL (Wh.mob (tb s) n) s.size))) ∧ Below W.heap.size W w') := fun W => by
    have := l04Normal_any n s W h
    rwa [nfS_mob h] at this
  obtain ⟨g, hg⟩ : ∃ g, Wh.mob (tb s) n = g := ⟨_, rfl⟩
  rw [hg] at HN ⊢
  have HT : Hid (∃ T : ByteArray, strOfNums (tabL g s.size) = T ∧ T.size = s.size ∧ ∀ u, (hu : u < T.size) → ((T[u]'hu).toNat : Int) = 48 + ((g u).toNat : Int)) := by
    exact ⟨_, rfl, by rw [strOfNums_size, tabL_length], fun u hu => tabL_str g _ u (by rwa [strOfNums_size, tabL_length] at hu) hu⟩
  obtain ⟨T, hT, hTs, hv⟩ := HT.out
  rw [hT] at HN
  have HV := Lib.hid hv
  have hx : ((n : Int) != (n : Int)) = false := by simp
  have HR := Lib.hid hr
  have HXL := Lib.hid hm
  have HPW : Hid (∀ u k, k ≤ 6 → 0 ≤ prW xs u k ∧ prW xs u k ≤ 16777216) := fun u k hk => prW_le6 hw u hk
  have HSW : Hid (∀ u, u ≤ T.size → 0 ≤ smW xs n (prodL g u) ∧ smW xs n (prodL g u) ≤ 1073741824) := fun u hu => by
    have h1 := smW_le hw hn6 (prodL g u)
    have h2 := Wt.prodL_length g u
    omega
  have HWX : Hid (∀ (k : Nat) (hk : k < xs.length), 0 ≤ xs[k] ∧ xs[k] ≤ 16) := fun k hk => hw _ (List.getElem_mem hk)
  rw [← hTs] at hp ⊢
  clear hT hTs hv hg h HT hr hm hw
  go_enter Try.func33, Try.ntmps33
  go_wp2_with (first | (go_at_call 41; refine (HF.out _).mono ?_; rintro e w1 ⟨rfl, rfl⟩) | (go_at_call 45; refine (HI.out _).mono ?_; rintro e w1 ⟨rfl, rfl⟩))
  go_loop [6] (fun kv => ∃ k : Nat, k ≤ n ∧ kv = .int .i64 k) (fun kv => n - (intOf kv).toNat)
  case atStart => exact ⟨0, Nat.zero_le _, rfl⟩
  case round =>
    obtain ⟨k, hk, rfl⟩ := hrel
    by_cases hlt : k < n
    · have hkx : k < xs.length := by rw [HXL.out]; exact hlt
      obtain ⟨G, off, rfl, hg, hc⟩ := HR.out k xs[k] (List.getElem?_eq_getElem hkx)
      have hx := HWX.out k hkx
      obtain ⟨x, hxx⟩ : ∃ x, xs[k] = x := ⟨_, rfl⟩
      rw [hxx] at hc hx
      clear hxx hkx
      go_wp2_with (go_at_call 61; refine (l00In_yes _ _ _ _ hx.1 hx.2).mono ?_; rintro e w1 ⟨rfl, rfl⟩)
      go_round
      case rel => exact ⟨k + 1, by omega, by go_num⟩
      case measure => simp [intOf]; omega
    · obtain rfl : k = n := by omega
      go_wp2_with (go_at_call 62; refine (HN.out _).mono ?_; rintro e w2 ⟨rfl, hb2⟩)
      have HB2 := Lib.hid hb2
      have HR2 := Lib.hid (HR.out.below hb2)
      clear hb2
      go_wp2
      go_loop [8, 9, 10, 11] (fun d uv _ _ => ∃ u : Nat, u ≤ T.size ∧ uv = .int .i64 u ∧ d = .int .i64 (smW xs k (prodL g u))) (fun _ uv _ _ => T.size - (intOf uv).toNat)
      case atStart => exact ⟨0, Nat.zero_le _, rfl, rfl⟩
      case round =>
        obtain ⟨u, hu, rfl, rfl⟩ := hrel
        by_cases hlt : u < T.size
        · have hx := HV.out u hlt
          have hsb := HSW.out u hu
          have HX := Lib.hid (smW_snoc xs k (prodL g u) (u : Int))
          obtain ⟨d, hd⟩ : ∃ d, smW xs k (prodL g u) = d := ⟨_, rfl⟩
          rw [hd] at hsb HX ⊢
          cases hb : g u with
          | false =>
            have HP := Lib.hid (Wt.prodL_no hb)
            rw [hb] at hx
            have hc : (((T[u]'hlt).toNat : Int) == 48) = true := by rw [hx]; rfl
            clear hx hb HX
            go_wp2
            go_round
            case rel => exact ⟨u + 1, by omega, by go_num, by rw [HP.out, hd]⟩
            case measure => simp [intOf]; omega
          | true =>
            have HP := Lib.hid (Wt.prodL_yes hb)
            rw [hb] at hx
            have hc : (((T[u]'hlt).toNat : Int) == 48) = false := by rw [hx]; rfl
            have HX2 : Hid (smW xs k (prodL g (u + 1)) = d + prW xs u k) := by
              unfold Hid
              rw [HP.out, HX.out]
              rfl
            clear hx hb HX hd
            go_wp2
            go_loop [10, 11] (fun pv iv => ∃ i : Nat, i ≤ k ∧ iv = .int .i64 i ∧ pv = .int .i64 (prW xs u i)) (fun _ iv => k - (intOf iv).toNat)
            case atStart => exact ⟨0, Nat.zero_le _, rfl, rfl⟩
            case round =>
              obtain ⟨i, hi, rfl, rfl⟩ := hrel
              have hpb := HPW.out u i (by omega)
              by_cases hit : i < k
              · have hix : i < xs.length := by rw [HXL.out]; exact hit
                obtain ⟨G2, off, hae, hg, hcw⟩ := HR2.out i xs[i] (List.getElem?_eq_getElem hix)
                have hx := HWX.out i hix
                have hget : xs.getD i 0 = xs[i] := by simp [List.getD_eq_getElem?_getD, hix]
                have HY : Hid (u.testBit i = true → prW xs u (i + 1) = prW xs u i * xs[i]) := fun e => by rw [prW_yes e, hget]
                have HZ : Hid (u.testBit i = false → prW xs u (i + 1) = prW xs u i) := fun e => prW_no e
                have hpb2 := HPW.out u (i + 1) (by omega)
                obtain ⟨x, hxx⟩ : ∃ x, xs[i] = x := ⟨_, rfl⟩
                obtain ⟨p, hp2⟩ : ∃ p, prW xs u i = p := ⟨_, rfl⟩
                obtain ⟨p2, hp3⟩ : ∃ p2, prW xs u (i + 1) = p2 := ⟨_, rfl⟩
                rw [hxx] at hcw hx HY
                rw [hp2] at HY HZ hpb ⊢
                rw [hp3] at HY HZ hpb2
                have HP3 := Lib.hid hp3
                subst hae
                clear hxx hp2 hp3 hget hix
                cases hbit : u.testBit i with
                | true =>
                  have ht : (bits .and .i64 ((u : Int) / 2 ^ i) 1 == 1) = true := by rw [bitT, hbit]
                  have HE := Lib.hid (HY.out hbit)
                  have hb1 : 0 ≤ p * x ∧ p * x ≤ 16777216 := by rw [← HE.out]; exact hpb2
                  clear hbit HY HZ
                  go_wp2
                  go_round
                  case rel => exact ⟨i + 1, by omega, by go_num, by rw [HP3.out, HE.out]⟩
                  case measure => simp [intOf]; omega
                | false =>
                  have ht : (bits .and .i64 ((u : Int) / 2 ^ i) 1 == 1) = false := by rw [bitT, hbit]
                  have HE := Lib.hid (HZ.out hbit)
                  clear hbit HY HZ
                  go_wp2
                  go_round
                  case rel => exact ⟨i + 1, by omega, by go_num, by rw [HP3.out, HE.out]⟩
                  case measure => simp [intOf]; omega
              · obtain rfl : i = k := by omega
                go_wp2
                go_round
                case rel => exact ⟨u + 1, by omega, by go_num, by rw [HX2.out]⟩
                case measure => simp [intOf]; omega
        · obtain rfl : u = T.size := by omega
          go_wp2
          go_ret2
          exact ⟨rfl, HB2.out⟩
theorem lawCombW_core (s : ByteArray) (a : Option Addr) (n cap : Nat) (xs : List Int) (r : Int) (ok : Bool) (w : World) (h : RO w.heap.size w a xs) (hn : xs.length = n) (hl : n ≤ 1048576) (hs : s.size ≤ 1048576)
    (HS : Hid (∀ (W : World) b c, RO W.heap.size W b xs → Calls Try.prog 33 #[.string s, .slice b n c] W fun e w' => e = .returned (.tuple #[.int .i64 r, .bool ok]) ∧ Below W.heap.size W w'))
    (HI : Hid (∀ (W : World) b c, RO W.heap.size W b xs → Calls Try.prog 35 #[.string s, .slice b n c] W fun e w' => e = .returned (.tuple #[.int .i64 r, .bool ok]) ∧ Below W.heap.size W w')) :
    Calls Try.prog 10 #[.string s, .slice a n cap] w fun e w' => e = .returned (.bool true) ∧ Below w.heap.size w w' := by
  have HR := Lib.hid h
  have HN := Lib.hid hn
  have t0 : decide ((1048576 : Int) < (n : Int)) = false := by simp; omega
  have hne : (r != r) = false := by simp
  have hne2 : (ok != ok) = false := by simp
  clear h hn
  go_enter Try.func10, Try.ntmps10
  go_wp2_with fail
  refine (copy_any a n cap xs w HR.out HN.out hl).mono ?_
  rintro e w1 ⟨b1, c1, rfl, r1, _, hb1⟩
  go_wp2_with fail
  refine (HS.out w1 b1 c1 r1).mono ?_
  rintro e w2 ⟨rfl, hb2⟩
  have hB2 : Below w.heap.size w w2 := hb1.trans (hb2.mono hb1.size)
  clear r1 hb1 hb2
  have HR2 := Lib.hid ((HR.out.below hB2).up hB2.size)
  go_wp2_with fail
  refine (copy_any a n cap xs w2 HR2.out HN.out hl).mono ?_
  rintro e w3 ⟨b3, c3, rfl, r3, s3, hb3⟩
  go_wp2_with fail
  refine (HI.out w3 b3 c3 r3).mono ?_
  rintro e w4 ⟨rfl, hb4⟩
  have hB4 : Below w.heap.size w w4 := (hB2.trans (hb3.mono hB2.size)).trans (hb4.mono (Nat.le_trans hB2.size hb3.size))
  have HS4 := Lib.hid (s3.below hb4)
  have z3 := hb3.size
  have z4 := hb4.size
  clear r3 s3 hb3 hb4 HR2 hB2
  have HR4 := Lib.hid ((HR.out.below hB4).up hB4.size)
  go_wp2_with fail
  refine (copy_any a n cap xs w4 HR4.out HN.out hl).mono ?_
  rintro e w5 ⟨b5, c5, rfl, _, s5, hb5⟩
  have HB5 := Lib.hid (hB4.trans (hb5.mono hB4.size))
  have HS5 := Lib.hid (HS4.out.below (hb5.mono z4))
  have HE : Hid (Calls Try.prog 23 #[.slice b3 n c3, .slice b5 n c5] w5 fun e w' => e = .returned (.bool true) ∧ ∃ n, w' = w5.drewN n) := eq64_yes _ _ xs _ _ _ _ w5 HS5.out s5 (by rw [HN.out]; exact hl)
  clear hB4 hb5 s5 HS4 HS5 HR4
  go_wp2_with (go_at_call 23; with_reducible refine (HE.out).mono ?_; rintro e w6 ⟨rfl, m6, rfl⟩)
  go_ret
  exact ⟨rfl, below_drewN HB5.out m6⟩
theorem lawCombW (s : ByteArray) (a : Option Addr) (m cap : Nat) (zs : List Int) (w : World) (hm : s.size ≤ maxLen) (h : RowIn .i64 w a m zs) :
    Calls Try.prog 10 #[.string s, .slice a m cap] w fun e w' => e = .returned (.bool true) ∧ Below w.heap.size w w' := by
  by_cases hs : s.size ≤ 1048576
  · by_cases hl : m ≤ 1048576
    · obtain ⟨xs, hn, hr⟩ := h.ro
      by_cases hT : ∃ n, TabP n s
      · obtain ⟨n, hT⟩ := hT
        by_cases hmn : m = n
        · subst hmn
          by_cases hw : WOk xs
          · exact lawCombW_core s a m cap xs _ true w hr hn hl hs (fun W b c hb => specCombW_yes m s b c xs W hT hb hn hw) (fun W b c hb => combW_yes m s b c xs W hT hb hn hw)
          · exact lawCombW_core s a m cap xs 0 false w hr hn hl hs (fun W b c hb => specCombW_noC m s b c xs W hT hb hn hw) (fun W b c hb => combW_noC m s b c xs W hT hb hn hw)
        · exact lawCombW_core s a m cap xs 0 false w hr hn hl hs (fun W b c _ => specCombW_noB n s b m c W hl hT hmn) (fun W b c _ => combW_noB n s b m c W hl hT hmn)
      · exact lawCombW_core s a m cap xs 0 false w hr hn hl hs (fun W b c _ => specCombW_noA s b m c W hm hT) (fun W b c _ => combW_noA s b m c W hm hT)
    · have hle := h.len_le
      have t0 : decide ((1048576 : Int) < (m : Int)) = true := by simp; omega
      clear h
      go_enter Try.func10, Try.ntmps10
      go_wp2
      go_ret
      exact ⟨rfl, Below.refl _ _⟩
  · unfold maxLen at hm
    clear h
    go_enter Try.func10, Try.ntmps10
    go_wp2
    go_ret
    exact ⟨rfl, Below.refl _ _⟩
end Go.Proofs.Ytgpcacbjmjpdnab
