/- Streams combined by a table: CombineBits in the code and in the specification, and the law. -/
import Derived.Test.YtgpcacbjmjpdnabBuil
import Derived.Test.YtgpcacbjmjpdnabShelf
import Derived.Test.YtgpcacbjmjpdnabStrS
import Derived.Test.YtgpcacbjmjpdnabShrink
import Derived.Test.YtgpcacbjmjpdnabTabSpec
import Derived.Test.YtgpcacbjmjpdnabNorm
import Derived.Test.YtgpcacbjmjpdnabGT
namespace Go.Proofs.Ytgpcacbjmjpdnab
open Go.RowKit Go.PlainAid
set_option maxHeartbeats 1000000

theorem i64_orB (a b : Nat) (ha : a < 9223372036854775808) (hb : b < 9223372036854775808) : bits .or .i64 (a : Int) (b : Int) = ((a ||| b : Nat) : Int) := by
  have h : a ||| b < 2 ^ 63 := Nat.or_lt_two_pow ha hb
  show IntKind.i64.wrap ((BitVec.ofInt 64 (a : Int) ||| BitVec.ofInt 64 (b : Int)).toNat : Int) = _
  rw [BitVec.toNat_or, BitVec.ofInt_natCast, BitVec.ofInt_natCast, BitVec.toNat_ofNat, BitVec.toNat_ofNat, Nat.mod_eq_of_lt (by omega), Nat.mod_eq_of_lt (by omega), IntKind.wrap_i64]
  omega
/-- the streams have bits, all as many -/
def COk (L : Nat) (xs : List ByteArray) : Prop := ∀ s ∈ xs, s.size = L ∧ BitsP s
/-- the bits of all streams at t, as a number -/
def xat (xs : List ByteArray) (t k : Nat) : Nat := Wh.ob (fun i => decide (bt (xs.getD i ByteArray.empty) t = 49)) k
theorem xat_succ (xs : List ByteArray) (t k : Nat) : xat xs t (k + 1) = xat xs t k + (decide (bt (xs.getD k ByteArray.empty) t = 49)).toNat * 2 ^ k := rfl
theorem or_next64 {V b k : Nat} (hV : V < 2 ^ k) (hb : b ≤ 1) (hk : k ≤ 6) : bits .or .i64 (V : Int) ((b : Int) * 2 ^ k) = ((V + b * 2 ^ k : Nat) : Int) ∧ ((b : Int) * 2 ^ k) = ((b * 2 ^ k : Nat) : Int) ∧ b * 2 ^ k ≤ 64 := by
  have hp := pow6 hk
  have h3 : (b : Int) * 2 ^ k = ((b * 2 ^ k : Nat) : Int) := by push_cast; rfl
  have h5 : b * 2 ^ k ≤ 1 * 2 ^ k := Nat.mul_le_mul_right _ hb
  have h4 := Nat.two_pow_add_eq_or_of_lt hV b
  refine ⟨?_, h3, by omega⟩
  rw [h3, i64_orB _ _ (by omega) (by omega), Nat.or_comm, Nat.mul_comm b, ← h4, Nat.add_comm]
theorem lengthOf_yes (a : Option Addr) (n cap L : Nat) (xs : List ByteArray) (w : World) (h : RS w.heap.size w a xs) (hn : xs.length = n) (h0 : 0 < n) (hl : n ≤ 1048576) (hc : COk L xs) :
    Calls Try.prog 57 #[.slice a n cap] w fun e w' => e = .returned (.tuple #[.int .i64 L, .bool true]) ∧ Below w.heap.size w w' := by
  have HR := Lib.hid h
  have HN := Lib.hid hn
  have h0x : 0 < xs.length := by rw [hn]; exact h0
  obtain ⟨g, off, rfl, hg, hc0⟩ := HR.out.at h0x
  obtain ⟨hz0, hb0⟩ := hc _ (List.getElem_mem h0x)
  obtain ⟨x0, hx0⟩ : ∃ x, xs[0] = x := ⟨_, rfl⟩
  rw [hx0, Nat.add_zero] at hc0
  rw [hx0] at hz0 hb0
  have hL := hb0.len
  subst hz0
  have HB : Hid (∀ k (hk : k < xs.length) (W : World), Calls Try.prog 66 #[.string (xs[k]'hk), .int .i64 x0.size] W fun e w' => e = .returned (.bool true) ∧ Below W.heap.size W w') := fun k hk W => by
    obtain ⟨h1, h2⟩ := hc _ (List.getElem_mem hk)
    exact isBitsT_b _ x0.size true W (by unfold maxLen; omega) (decide_eq_true ⟨by omega, h2⟩)
  have hne0 : ((n : Int) == 0) = false := by rw [beq_eq_false_iff_ne]; omega
  clear h hn hc hx0 hb0
  go_enter Try.func57, Try.ntmps57
  go_wp2
  go_loopw [6, 16] (fun _ kv wr => ∃ k : Nat, k ≤ n ∧ kv = .int .i64 k ∧ Hid (Below w.heap.size w wr)) (fun _ kv _ => n - (intOf kv).toNat)
  case atStart => exact ⟨0, Nat.zero_le _, rfl, Below.refl _ _⟩
  case round =>
    obtain ⟨k, hk, rfl, HW⟩ := hrel
    by_cases hlt : k < n
    · have hkx : k < xs.length := by rw [HN.out]; exact hlt
      obtain ⟨g2, o2, hae, hg2, hck⟩ := HR.out.at hkx
      cases hae
      have HBk := Lib.hid (HB.out k hkx)
      obtain ⟨x, hx⟩ : ∃ x, xs[k] = x := ⟨_, rfl⟩
      rw [hx] at hck HBk
      have ck : wr.cell? ⟨g, off + k, none⟩ = some (.string x) := (HW.out.cell (p := ⟨g, off + k, none⟩) hg).trans hck
      clear hck hx hkx
      go_wp2_with (go_at_call 66; refine (HBk.out _).mono ?_; rintro e w2 ⟨rfl, hb2⟩)
      have HW2 : Hid (Below w.heap.size w w2) := HW.out.trans (hb2.mono HW.out.size)
      clear hb2 HW ck
      go_roundw
      case rel => exact ⟨k + 1, by omega, by go_num, HW2⟩
      case measure => simp [intOf]; omega
    · obtain rfl : k = n := by omega
      go_wp2
      go_ret2
      exact ⟨rfl, HW.out⟩
theorem lengthOf_no (a : Option Addr) (n cap : Nat) (xs : List ByteArray) (w : World) (h : RS w.heap.size w a xs) (hn : xs.length = n) (h0 : 0 < n) (hl : n ≤ 1048576) (hs : ∀ s ∈ xs, s.size ≤ 1048576) (hc : ¬ COk (xs.getD 0 ByteArray.empty).size xs) :
    Calls Try.prog 57 #[.slice a n cap] w fun e w' => e = .returned (.tuple #[.int .i64 0, .bool false]) ∧ Below w.heap.size w w' := by
  have HR := Lib.hid h
  have HN := Lib.hid hn
  have h0x : 0 < xs.length := by rw [hn]; exact h0
  have e0 : xs.getD 0 ByteArray.empty = xs[0] := by simp [List.getD_eq_getElem?_getD, h0x]
  rw [e0] at hc
  obtain ⟨g, off, rfl, hg, hc0⟩ := HR.out.at h0x
  have hs0 := hs _ (List.getElem_mem h0x)
  obtain ⟨x0, hx0⟩ : ∃ x, xs[0] = x := ⟨_, rfl⟩
  rw [hx0, Nat.add_zero] at hc0
  rw [hx0] at hc hs0
  have HB : Hid (∀ k (hk : k < xs.length) (W : World) (b : Bool), decide (((xs[k]'hk).size : Int) = x0.size ∧ BitsP (xs[k]'hk)) = b → Calls Try.prog 66 #[.string (xs[k]'hk), .int .i64 x0.size] W fun e w' => e = .returned (.bool b) ∧ Below W.heap.size W w') := fun k hk W b hb => by
    have := hs _ (List.getElem_mem hk)
    exact isBitsT_b _ x0.size b W (by unfold maxLen; omega) hb
  have HC := Lib.hid hc
  have hne0 : ((n : Int) == 0) = false := by rw [beq_eq_false_iff_ne]; omega
  clear h hn hc hx0 hs e0
  go_enter Try.func57, Try.ntmps57
  go_wp2
  go_loopw [6, 16] (fun _ kv wr => ∃ k : Nat, k ≤ n ∧ kv = .int .i64 k ∧ Hid (∀ i (hi : i < xs.length), i < k → (xs[i]'hi).size = x0.size ∧ BitsP (xs[i]'hi)) ∧ Hid (Below w.heap.size w wr)) (fun _ kv _ => n - (intOf kv).toNat)
  case atStart => exact ⟨0, Nat.zero_le _, rfl, fun i _ h => by omega, Below.refl _ _⟩
  case round =>
    obtain ⟨k, hk, rfl, HG, HW⟩ := hrel
    by_cases hlt : k < n
    · have hkx : k < xs.length := by rw [HN.out]; exact hlt
      obtain ⟨g2, o2, hae, hg2, hck⟩ := HR.out.at hkx
      cases hae
      have HBk := Lib.hid (HB.out k hkx)
      have HS : Hid ((xs[k]'hkx).size = x0.size ∧ BitsP (xs[k]'hkx) → ∀ i (hi : i < xs.length), i < k + 1 → (xs[i]'hi).size = x0.size ∧ BitsP (xs[i]'hi)) := fun e i hi h3 => by
        by_cases hik : i = k
        · subst hik; exact e
        · exact HG.out i hi (by omega)
      obtain ⟨x, hx⟩ : ∃ x, xs[k] = x := ⟨_, rfl⟩
      rw [hx] at hck HBk HS
      have ck : wr.cell? ⟨g, off + k, none⟩ = some (.string x) := (HW.out.cell (p := ⟨g, off + k, none⟩) hg).trans hck
      clear hck hx hkx HG
      by_cases hgood : (x.size : Int) = x0.size ∧ BitsP x
      · have HBt : Hid (∀ W : World, Calls Try.prog 66 #[.string x, .int .i64 x0.size] W fun e w' => e = .returned (.bool true) ∧ Below W.heap.size W w') := fun W => HBk.out W true (decide_eq_true hgood)
        have HS2 := Lib.hid (HS.out ⟨by omega, hgood.2⟩)
        clear hgood HS HBk
        go_wp2_with (go_at_call 66; refine (HBt.out _).mono ?_; rintro e w2 ⟨rfl, hb2⟩)
        have HW2 : Hid (Below w.heap.size w w2) := HW.out.trans (hb2.mono HW.out.size)
        clear hb2 HW ck
        go_roundw
        case rel => exact ⟨k + 1, by omega, by go_num, HS2, HW2⟩
        case measure => simp [intOf]; omega
      · have HBt : Hid (∀ W : World, Calls Try.prog 66 #[.string x, .int .i64 x0.size] W fun e w' => e = .returned (.bool false) ∧ Below W.heap.size W w') := fun W => HBk.out W false (decide_eq_false hgood)
        clear hgood HS HBk
        go_wp2_with (go_at_call 66; refine (HBt.out _).mono ?_; rintro e w2 ⟨rfl, hb2⟩)
        go_ret2
        exact ⟨rfl, HW.out.trans (hb2.mono HW.out.size)⟩
    · exfalso
      apply HC.out
      intro x hx
      obtain ⟨i, hi2, rfl⟩ := List.getElem_of_mem hx
      exact HG.out i hi2 (by have := HN.out; omega)
theorem lengthOf_nil (a : Option Addr) (cap : Nat) (w : World) :
    Calls Try.prog 57 #[.slice a 0 cap] w fun e w' => e = .returned (.tuple #[.int .i64 0, .bool true]) ∧ Below w.heap.size w w' := by
  go_enter Try.func57, Try.ntmps57
  go_wp2
  go_ret2
  exact ⟨rfl, Below.refl _ _⟩
/-- both cases -/
theorem lengthOf_all (a : Option Addr) (n cap L : Nat) (xs : List ByteArray) (w : World) (h : RS w.heap.size w a xs) (hn : xs.length = n) (hl : n ≤ 1048576) (hc : COk L xs) (hL : n = 0 → L = 0) :
    Calls Try.prog 57 #[.slice a n cap] w fun e w' => e = .returned (.tuple #[.int .i64 L, .bool true]) ∧ Below w.heap.size w w' := by
  by_cases h0 : 0 < n
  · exact lengthOf_yes a n cap L xs w h hn h0 hl hc
  · obtain rfl : n = 0 := by omega
    rw [hL rfl]
    exact lengthOf_nil a cap w
theorem BS.far {B b : Nat} {l : List Int} {V V1 : World} (h : BS B b l V) (hb : Below V.heap.size V V1) : BS B b l V1 := by
  rcases h with ⟨h1, v, h2, h3, h4⟩ | ⟨h1, v, h2, h3, h4⟩
  · exact .inl ⟨h1, v, (hb.block b (Array.getElem?_eq_some_iff.1 h2).1).trans h2, own_far h3 hb, h4⟩
  · exact .inr ⟨h1, v, (hb.block b (Array.getElem?_eq_some_iff.1 h2).1).trans h2, own_far h3 hb, h4⟩
theorem bit_of {s : ByteArray} (h : AllIn 48 49 s) {t : Nat} (ht : t < s.size) : (((s[t]'ht).toNat : Nat) : Int) = 48 + ((decide (bt s t = 49)).toNat : Int) := by
  have h1 := h t ht
  rw [get_bt s t ht] at h1 ⊢
  by_cases e : bt s t = 49
  · rw [e]; rfl
  · rw [decide_eq_false e]
    have : bt s t = 48 := by omega
    rw [this]; rfl
set_option maxRecDepth 8000 in
theorem combine_yes (n L : Nat) (s : ByteArray) (a : Option Addr) (cap : Nat) (xs : List ByteArray) (w : World) (h : TabP n s) (hr : RS w.heap.size w a xs) (hn : xs.length = n) (hc : COk L xs) (hL : L ≤ 400) (hL0 : n = 0 → L = 0) :
    Calls Try.prog 31 #[.string s, .slice a n cap] w fun e w' => e = .returned (.tuple #[.string (strOfNums (tabL (fun t => tb s (xat xs t n)) L)), .bool true]) ∧ Below w.heap.size w w' := by
  have hn6 := h.2.1
  have HF : Hid (∀ W : World, Calls Try.prog 43 #[.string s] W fun e w' => e = .returned (.tuple #[.agg #[.int .i64 n, .int .u64 (val s s.size)], .bool true]) ∧ Below W.heap.size W w') := fun W => funOf_yes n s W h
  have HLen : Hid (∀ W : World, RS W.heap.size W a xs → Calls Try.prog 57 #[.slice a n cap] W fun e w' => e = .returned (.tuple #[.int .i64 L, .bool true]) ∧ Below W.heap.size W w') := fun W hR => lengthOf_all a n cap L xs W hR hn (by omega) hc hL0
  have HDg : Hid (∀ (x : Nat) (W : World), x < 2 ^ n → Calls Try.prog 59 #[.agg #[.int .i64 n, .int .u64 (val s s.size)], .int .i64 x] W fun e w' => e = .returned (.int .u8 (48 + (tb s x).toNat)) ∧ Below W.heap.size W w') := fun x W hx => by
    have hp := pow6 hn6
    have := digit_any n (val s s.size) x W (val_lt s (by rw [h.1]; omega)) (by omega)
    rwa [val_bit s (by rw [h.1]; exact hx)] at this
  have HXl : Hid (∀ t, xat xs t n < 2 ^ n) := fun t => Wh.ob_lt _ n
  have HXi : Hid (∀ t i, xat xs t i < 2 ^ i) := fun t i => Wh.ob_lt _ i
  have HBit : Hid (∀ (i : Nat) (hi : i < xs.length) (t : Nat), t < L → ∃ y : ByteArray, xs[i]'hi = y ∧ ∃ ht : t < y.size, (((y[t]'ht).toNat : Nat) : Int) = 48 + ((decide (bt (xs.getD i ByteArray.empty) t = 49)).toNat : Int)) := fun i hi t ht => by
    obtain ⟨h1, h2⟩ := hc _ (List.getElem_mem hi)
    have e : xs.getD i ByteArray.empty = xs[i] := by simp [List.getD_eq_getElem?_getD, hi]
    rw [e]
    exact ⟨_, rfl, by omega, bit_of h2.2 (by omega)⟩
  have HR := Lib.hid hr
  have HXL := Lib.hid hn
  obtain ⟨U, hU⟩ : ∃ U, val s s.size = U := ⟨_, rfl⟩
  obtain ⟨g, hg⟩ : ∃ g, tb s = g := ⟨_, rfl⟩
  rw [hU, hg] at HDg
  rw [hU] at HF
  rw [hg]
  clear hU hg h hr hn hc hL0
  go_enter Try.func31, Try.ntmps31
  go_wp2_with (go_at_call 43; refine (HF.out _).mono ?_; rintro e w1 ⟨rfl, hb1⟩)
  have B1 := hb1.alloc hb1.size (.cells #[.int .i64 n, .int .u64 U] 54)
  have A1 := P2.new w1 (.int .i64 n) (.int .u64 U) 54
  have HR1 := Lib.hid ((HR.out.below B1).up B1.size)
  have HB1 := Lib.hid B1
  have hz1 := hb1.size
  clear hb1 B1
  go_wp2_with fail
  refine (HLen.out _ HR1.out).mono ?_
  rintro e w2 ⟨rfl, hb2⟩
  have A2 := A1.far hb2
  have hF := A2.lt
  have B2 := HB1.out.trans (hb2.mono HB1.out.size)
  have hz2 := B2.size
  have S3 := bs_new w2
  have A3 := A2.alloc (.cells #[.pointer none, .slice none 0 0] 75)
  have B3 := B2.alloc hz2 (.cells #[.pointer none, .slice none 0 0] 75)
  clear hb2 A1 A2 B2 HB1 HR1
  go_wp2
  go_loopw [10, 11, 12, 13, 36, 41] (fun _ _ _ _ kv _ wr => ∃ t : Nat, t ≤ L ∧ kv = .int .i64 t ∧ BS w2.heap.size w2.heap.size (tabL (fun t => g (xat xs t n)) t) wr ∧ P2 wr w1.heap.size (.int .i64 n) (.int .u64 U) ∧ Below w.heap.size w wr ∧ w2.heap.size ≤ wr.heap.size) (fun _ _ _ _ kv _ _ => L - (intOf kv).toNat)
  case atStart => exact ⟨0, Nat.zero_le _, rfl, S3, A3, B3, by simp⟩
  case round =>
    obtain ⟨t, ht, rfl, S, A, B, hzr⟩ := hrel
    clear S3 A3 B3
    by_cases hlt : t < L
    · have HRr := Lib.hid (HR.out.below B)
      have HTl := Lib.hid (tabL_succ (fun t => g (xat xs t n)) t)
      have hTL : (tabL (fun t => g (xat xs t n)) t).length = t := tabL_length _ _
      have HDx : Hid (∀ W : World, Calls Try.prog 59 #[.agg #[.int .i64 n, .int .u64 U], .int .i64 (xat xs t n)] W fun e w' => e = .returned (.int .u8 (48 + (g (xat xs t n)).toNat)) ∧ Below W.heap.size W w') := fun W => HDg.out _ W (HXl.out t)
      have HX := Lib.hid (And.intro S (And.intro A B))
      clear S A B
      go_wp2
      go_loop [11, 12, 13, 41] (fun xv _ _ iv => ∃ i : Nat, i ≤ n ∧ iv = .int .i64 i ∧ xv = .int .i64 (xat xs t i : Nat)) (fun _ _ _ iv => n - (intOf iv).toNat)
      case atStart => exact ⟨0, Nat.zero_le _, rfl, rfl⟩
      case round =>
        obtain ⟨i, hi, rfl, rfl⟩ := hrel
        by_cases hit : i < n
        · have hix : i < xs.length := by rw [HXL.out]; exact hit
          obtain ⟨G2, off, hae, hg2, hcw⟩ := HRr.out.at hix
          obtain ⟨y, hy, htx, hv⟩ := HBit.out i hix t hlt
          rw [hy] at hcw
          have hxs := Lib.hid (xat_succ xs t i)
          have hxl := HXi.out t i
          obtain ⟨c, hc⟩ : ∃ c, (decide (bt (xs.getD i ByteArray.empty) t = 49)).toNat = c := ⟨_, rfl⟩
          have hc1 : c ≤ 1 := by rw [← hc]; exact Bool.toNat_le _
          rw [hc] at hv hxs
          obtain ⟨X, hX⟩ : ∃ X, xat xs t i = X := ⟨_, rfl⟩
          rw [hX] at hxs hxl ⊢
          obtain ⟨ho, hcm, hcb⟩ := or_next64 hxl hc1 (show i ≤ 6 by omega)
          have hpi := pow6 (show i ≤ 6 by omega)
          subst hae
          clear hc hX hy hix
          have hor : bits .or .i64 (X : Int) (wrap64 ((48 + (c : Int) - 48) * 2 ^ i)) = ((X + c * 2 ^ i : Nat) : Int) := by
            rw [show (48 + (c : Int) - 48) = (c : Int) by omega, hcm]
            have hw : wrap64 ((c * 2 ^ i : Nat) : Int) = ((c * 2 ^ i : Nat) : Int) := by
              generalize c * 2 ^ i = z at *
              unfold wrap64
              omega
            rw [hw, ← hcm]
            exact ho
          clear ho hcm hcb
          go_wp2
          go_round
          case rel => exact ⟨i + 1, by omega, by go_num, by rw [hxs.out]; congr 1⟩
          case measure => simp [intOf]; omega
        · obtain rfl : i = n := by omega
          obtain ⟨⟨c0, c1⟩, _⟩ := HX.out.2.1
          obtain ⟨b, hb⟩ : ∃ b, (g (xat xs t i)).toNat = b := ⟨_, rfl⟩
          have hTl2 : Hid (tabL (fun t => g (xat xs t i)) (t + 1) = tabL (fun t => g (xat xs t i)) t ++ [48 + (b : Int)]) := by rw [← hb]; exact HTl.out
          rw [hb] at HDx
          have hb1 : b ≤ 1 := by rw [← hb]; exact Bool.toNat_le _
          obtain ⟨X, hX⟩ : ∃ X, xat xs t i = X := ⟨_, rfl⟩
          rw [hX] at HDx ⊢
          clear hb HTl
          go_wp2_with fail
          refine (HDx.out _).mono ?_
          rintro e w5 ⟨rfl, hb5⟩
          have S5 := Lib.hid (HX.out.1.far hb5)
          have A5 := HX.out.2.1.far hb5
          have B5 := HX.out.2.2.trans (hb5.mono HX.out.2.2.size)
          have hz5 : w2.heap.size ≤ w5.heap.size := Nat.le_trans hzr hb5.size
          have HAB := Lib.hid (And.intro A5 B5)
          clear hb5 A5 B5 HX c0 c1
          go_wp2_with fail
          refine (writeByte_any _ _ _ _ _ S5.out (by omega) hz5).mono ?_
          rintro e w6 ⟨rfl, S6, hb6⟩
          have A6 := HAB.out.1.below hb6 hF
          have B6 := HAB.out.2.trans (hb6.mono hz2)
          have hz6 := hb6.size
          have HX6 := Lib.hid (And.intro S6 (And.intro A6 B6))
          clear S6 A6 B6 hb6 HAB S5
          go_wp2
          go_roundw
          case rel => exact ⟨t + 1, by omega, by go_num, by rw [hTl2.out]; exact HX6.out.1, HX6.out.2.1, HX6.out.2.2, by omega⟩
          case measure => simp [intOf]; omega
    · obtain rfl : t = L := by omega
      have HX := Lib.hid (And.intro S B)
      clear S A B
      have hin : ∀ x ∈ tabL (fun t => g (xat xs t n)) t, 0 ≤ x ∧ x ≤ 255 := fun x hx => by
        unfold tabL at hx
        obtain ⟨y, _, rfl⟩ := List.mem_map.1 hx
        have h3 : ((fun t => g (xat xs t n)) y).toNat ≤ 1 := Bool.toNat_le _
        omega
      have HI := Lib.hid hin
      clear hin
      go_wp2_with (go_at_call 60; refine (bs_string _ _ _ _ HX.out.1 hzr HI.out).mono ?_; rintro e w4 ⟨rfl, hb4⟩)
      go_ret2
      exact ⟨rfl, HX.out.2.trans (hb4.mono hz2)⟩
theorem combine_noA (s : ByteArray) (a : Option Addr) (m cap : Nat) (w : World) (hm : s.size ≤ maxLen) (h : ¬ ∃ n, TabP n s) :
    Calls Try.prog 31 #[.string s, .slice a m cap] w fun e w' => e = .returned (.tuple #[.string ⟨#[]⟩, .bool false]) ∧ Below w.heap.size w w' := by
  have HF : Hid (∀ W : World, Calls Try.prog 43 #[.string s] W fun e w' => e = .returned (.tuple #[.agg #[.int .i64 0, .int .u64 0], .bool false]) ∧ Below W.heap.size W w') := fun W => funOf_no s W hm h
  clear h
  go_enter Try.func31, Try.ntmps31
  go_wp2_with (go_at_call 43; refine (HF.out _).mono ?_; rintro e w1 ⟨rfl, hb1⟩)
  go_ret2
  exact ⟨rfl, hb1.alloc hb1.size _⟩
theorem combine_noB (n : Nat) (s : ByteArray) (a : Option Addr) (m cap : Nat) (w : World) (hl : m ≤ 1048576) (h : TabP n s) (hne : ¬ m = n) :
    Calls Try.prog 31 #[.string s, .slice a m cap] w fun e w' => e = .returned (.tuple #[.string ⟨#[]⟩, .bool false]) ∧ Below w.heap.size w w' := by
  have HF : Hid (∀ W : World, Calls Try.prog 43 #[.string s] W fun e w' => e = .returned (.tuple #[.agg #[.int .i64 n, .int .u64 (val s s.size)], .bool true]) ∧ Below W.heap.size W w') := fun W => funOf_yes n s W h
  have hn6 := h.2.1
  obtain ⟨U, hU⟩ : ∃ U, val s s.size = U := ⟨_, rfl⟩
  rw [hU] at HF
  have hx : ((m : Int) != (n : Int)) = true := by simp; omega
  clear hU h
  go_enter Try.func31, Try.ntmps31
  go_wp2_with (go_at_call 43; refine (HF.out _).mono ?_; rintro e w1 ⟨rfl, hb1⟩)
  go_ret2
  exact ⟨rfl, hb1.alloc hb1.size _⟩
theorem combine_noC (n : Nat) (s : ByteArray) (a : Option Addr) (cap : Nat) (xs : List ByteArray) (w : World) (h : TabP n s) (hr : RS w.heap.size w a xs) (hn : xs.length = n) (h0 : 0 < n) (hs : ∀ s ∈ xs, s.size ≤ 1048576) (hc : ¬ COk (xs.getD 0 ByteArray.empty).size xs) :
    Calls Try.prog 31 #[.string s, .slice a n cap] w fun e w' => e = .returned (.tuple #[.string ⟨#[]⟩, .bool false]) ∧ Below w.heap.size w w' := by
  have HF : Hid (∀ W : World, Calls Try.prog 43 #[.string s] W fun e w' => e = .returned (.tuple #[.agg #[.int .i64 n, .int .u64 (val s s.size)], .bool true]) ∧ Below W.heap.size W w') := fun W => funOf_yes n s W h
  have hn6 := h.2.1
  have HLen : Hid (∀ W : World, RS W.heap.size W a xs → Calls Try.prog 57 #[.slice a n cap] W fun e w' => e = .returned (.tuple #[.int .i64 0, .bool false]) ∧ Below W.heap.size W w') := fun W hR => lengthOf_no a n cap xs W hR hn h0 (by omega) hs hc
  have HR := Lib.hid hr
  obtain ⟨U, hU⟩ : ∃ U, val s s.size = U := ⟨_, rfl⟩
  rw [hU] at HF
  clear hU h hr hn hc hs
  go_enter Try.func31, Try.ntmps31
  go_wp2_with (go_at_call 43; refine (HF.out _).mono ?_; rintro e w1 ⟨rfl, hb1⟩)
  have B1 := hb1.alloc hb1.size (.cells #[.int .i64 n, .int .u64 U] 54)
  have HR1 := Lib.hid ((HR.out.below B1).up B1.size)
  have HB1 := Lib.hid B1
  clear hb1 B1
  go_wp2_with fail
  refine (HLen.out _ HR1.out).mono ?_
  rintro e w2 ⟨rfl, hb2⟩
  have HB2 := Lib.hid (HB1.out.trans (hb2.mono HB1.out.size))
  clear hb2
  go_wp2
  go_ret2
  exact ⟨rfl, HB2.out⟩
theorem specCombine_noA (s : ByteArray) (a : Option Addr) (m cap : Nat) (w : World) (hm : s.size ≤ maxLen) (h : ¬ ∃ n, TabP n s) :
    Calls Try.prog 29 #[.string s, .slice a m cap] w fun e w' => e = .returned (.tuple #[.string ⟨#[]⟩, .bool false]) ∧ Below w.heap.size w w' := by
  have HF : Hid (∀ W : World, Calls Try.prog 41 #[.string s] W fun e w' => e = .returned (.bool false) ∧ W = w') := fun W => l04Table_no s W hm h
  clear h
  go_enter Try.func29, Try.ntmps29
  go_wp2_with (go_at_call 41; refine (HF.out _).mono ?_; rintro e w1 ⟨rfl, rfl⟩)
  go_ret2
  exact ⟨rfl, Below.refl _ _⟩
theorem specCombine_noB (n : Nat) (s : ByteArray) (a : Option Addr) (m cap : Nat) (w : World) (h : TabP n s) (hne : ¬ m = n) :
    Calls Try.prog 29 #[.string s, .slice a m cap] w fun e w' => e = .returned (.tuple #[.string ⟨#[]⟩, .bool false]) ∧ Below w.heap.size w w' := by
  have HF : Hid (∀ W : World, Calls Try.prog 41 #[.string s] W fun e w' => e = .returned (.bool true) ∧ W = w') := fun W => l04Table_yes n s W h
  have HI : Hid (∀ W : World, Calls Try.prog 45 #[.string s] W fun e w' => e = .returned (.int .i64 n) ∧ W = w') := fun W => inputs_yes n s W h
  have hn6 := h.2.1
  have hx : ((m : Int) != (n : Int)) = true := by simp; omega
  clear h
  go_enter Try.func29, Try.ntmps29
  go_wp2_with (first | (go_at_call 41; refine (HF.out _).mono ?_; rintro e w1 ⟨rfl, rfl⟩) | (go_at_call 45; refine (HI.out _).mono ?_; rintro e w1 ⟨rfl, rfl⟩))
  go_ret2
  exact ⟨rfl, Below.refl _ _⟩
theorem specCombine_nil (s : ByteArray) (a : Option Addr) (cap : Nat) (w : World) (h : TabP 0 s) :
    Calls Try.prog 29 #[.string s, .slice a 0 cap] w fun e w' => e = .returned (.tuple #[.string ⟨#[]⟩, .bool true]) ∧ Below w.heap.size w w' := by
  have HF : Hid (∀ W : World, Calls Try.prog 41 #[.string s] W fun e w' => e = .returned (.bool true) ∧ W = w') := fun W => l04Table_yes 0 s W h
  have HI : Hid (∀ W : World, Calls Try.prog 45 #[.string s] W fun e w' => e = .returned (.int .i64 0) ∧ W = w') := fun W => inputs_yes 0 s W h
  have hcv := conv_own (P := Try.prog) (dst := 9) Try.underlying69 Try.underlying5 Try.underlying9 (xs := []) (ownsRow_empty w 5 1)
  clear h
  go_enter Try.func29, Try.ntmps29
  go_wp2_with (first | (go_at_call 41; refine (HF.out _).mono ?_; rintro e w1 ⟨rfl, rfl⟩) | (go_at_call 45; refine (HI.out _).mono ?_; rintro e w1 ⟨rfl, rfl⟩))
  refine wp_loop_rounds 1 ?_
  rw [rounds_succ]
  go_wp2
  refine wp_loop_rounds 1 ?_
  rw [rounds_succ]
  go_wp2
  go_ret2
  exact ⟨rfl, (Below.refl _ _).alloc (Nat.le_refl _) _⟩
set_option maxRecDepth 8000 in
theorem specCombine_noC (n : Nat) (s : ByteArray) (a : Option Addr) (cap : Nat) (xs : List ByteArray) (w : World) (h : TabP n s) (hr : RS w.heap.size w a xs) (hn : xs.length = n) (h0 : 0 < n) (hs : ∀ s ∈ xs, s.size ≤ 1048576) (hc : ¬ COk (xs.getD 0 ByteArray.empty).size xs) :
    Calls Try.prog 29 #[.string s, .slice a n cap] w fun e w' => e = .returned (.tuple #[.string ⟨#[]⟩, .bool false]) ∧ Below w.heap.size w w' := by
  have HF : Hid (∀ W : World, Calls Try.prog 41 #[.string s] W fun e w' => e = .returned (.bool true) ∧ W = w') := fun W => l04Table_yes n s W h
  have HI : Hid (∀ W : World, Calls Try.prog 45 #[.string s] W fun e w' => e = .returned (.int .i64 n) ∧ W = w') := fun W => inputs_yes n s W h
  have hn6 := h.2.1
  have hx : ((n : Int) != (n : Int)) = false := by simp
  have HR := Lib.hid hr
  have HN := Lib.hid hn
  have h0x : 0 < xs.length := by rw [hn]; exact h0
  have e0 : xs.getD 0 ByteArray.empty = xs[0] := by simp [List.getD_eq_getElem?_getD, h0x]
  rw [e0] at hc
  obtain ⟨g, off, rfl, hg, hc0⟩ := HR.out.at h0x
  have hs0 := hs _ (List.getElem_mem h0x)
  obtain ⟨x0, hx0⟩ : ∃ x, xs[0] = x := ⟨_, rfl⟩
  rw [hx0, Nat.add_zero] at hc0
  rw [hx0] at hc hs0
  have HB : Hid (∀ k (hk : k < xs.length), (xs[k]'hk).size ≤ 1048576) := fun k hk => hs _ (List.getElem_mem hk)
  have HC := Lib.hid hc
  have HC0 := Lib.hid hc0
  clear h hr hn hc hx0 hs e0 hc0
  go_enter Try.func29, Try.ntmps29
  go_wp2_with (first | (go_at_call 41; refine (HF.out _).mono ?_; rintro e w1 ⟨rfl, rfl⟩) | (go_at_call 45; refine (HI.out _).mono ?_; rintro e w1 ⟨rfl, rfl⟩))
  go_loopw [6] (fun kv wr => ∃ k m : Nat, k ≤ n ∧ kv = .int .i64 k ∧ Hid (∀ i (hi : i < xs.length), i < k → (xs[i]'hi).size = x0.size ∧ BitsP (xs[i]'hi)) ∧ Hid (wr = w.drewN m)) (fun kv _ => n - (intOf kv).toNat)
  case atStart => exact ⟨0, 0, Nat.zero_le _, rfl, fun i _ h => by omega, rfl⟩
  case round =>
    obtain ⟨k, m, hk, rfl, HG, HW⟩ := hrel
    by_cases hlt : k < n
    · have hkx : k < xs.length := by rw [HN.out]; exact hlt
      obtain ⟨g2, o2, hae, hg2, hck⟩ := HR.out.at hkx
      cases hae
      have hsz := HB.out k hkx
      have HS : Hid ((xs[k]'hkx).size = x0.size ∧ BitsP (xs[k]'hkx) → ∀ i (hi : i < xs.length), i < k + 1 → (xs[i]'hi).size = x0.size ∧ BitsP (xs[i]'hi)) := fun e i hi h3 => by
        by_cases hik : i = k
        · subst hik; exact e
        · exact HG.out i hi (by omega)
      obtain ⟨x, hx2⟩ : ∃ x, xs[k] = x := ⟨_, rfl⟩
      rw [hx2] at hck hsz HS
      have ck : wr.cell? ⟨g, off + k, none⟩ = some (.string x) := by rw [HW.out]; exact hck
      have c0 : wr.cell? ⟨g, off, none⟩ = some (.string x0) := by rw [HW.out]; exact HC0.out
      have HBel : Hid (∀ q, Below w.heap.size w (wr.drewN q)) := fun q => by rw [HW.out]; exact below_drewN (below_drewN (Below.refl _ _) _) _
      clear hck hx2 hkx HG
      by_cases hbx : BitsP x
      · have HLt : Hid (∀ W : World, Calls Try.prog 56 #[.string x] W fun e w' => e = .returned (.bool true) ∧ W = w') := fun W => l01Bits_yes x W hbx
        by_cases hz : x.size = x0.size
        · have hq : ((x.size : Int) != (x0.size : Int)) = false := by simp [hz]
          have HS2 := Lib.hid (HS.out ⟨hz, hbx⟩)
          clear hz hbx HS
          go_wp2
          go_quiet ((go_at_call 56; exact quietG (HLt.out _)))
          go_wp2
          go_roundw
          case rel => exact ⟨k + 1, m + nq, by omega, by go_num, HS2, by unfold Hid; rw [HW.out, drewN_twoG]⟩
          case measure => simp [intOf]; omega
        · have hq : ((x.size : Int) != (x0.size : Int)) = true := by simp; omega
          clear hz hbx HS
          go_wp2
          go_quiet ((go_at_call 56; exact quietG (HLt.out _)))
          go_wp2
          go_ret2
          exact ⟨rfl, HBel.out nq⟩
      · have HLt : Hid (∀ W : World, Calls Try.prog 56 #[.string x] W fun e w' => e = .returned (.bool false) ∧ W = w') := fun W => l01Bits_no x W (by unfold maxLen; omega) hbx
        clear hbx HS
        go_wp2
        go_quiet ((go_at_call 56; exact quietG (HLt.out _)))
        go_wp2
        go_ret2
        exact ⟨rfl, HBel.out nq⟩
    · exfalso
      apply HC.out
      intro x hx
      obtain ⟨i, hi2, rfl⟩ := List.getElem_of_mem hx
      exact HG.out i hi2 (by have := HN.out; omega)
set_option maxRecDepth 8000 in
theorem specCombine_yes (n L : Nat) (s : ByteArray) (a : Option Addr) (cap : Nat) (xs : List ByteArray) (w : World) (h : TabP n s) (hr : RS w.heap.size w a xs) (hn : xs.length = n) (hc : COk L xs) (hL : L ≤ 400) (h0 : 0 < n) :
    Calls Try.prog 29 #[.string s, .slice a n cap] w fun e w' => e = .returned (.tuple #[.string (strOfNums (tabL (fun t => tb s (xat xs t n)) L)), .bool true]) ∧ Below w.heap.size w w' := by
  obtain ⟨i0, hi, hz0, hz1, hz2⟩ := info_parts Try.info5
  have HF : Hid (∀ W : World, Calls Try.prog 41 #[.string s] W fun e w' => e = .returned (.bool true) ∧ W = w') := fun W => l04Table_yes n s W h
  have HI : Hid (∀ W : World, Calls Try.prog 45 #[.string s] W fun e w' => e = .returned (.int .i64 n) ∧ W = w') := fun W => inputs_yes n s W h
  have hn6 := h.2.1
  have hx : ((n : Int) != (n : Int)) = false := by simp
  have HV : Hid (∀ y, (hy : y < s.size) → (((s[y]'hy).toNat : Nat) : Int) = 48 + ((tb s y).toNat : Int)) := fun y hy => by
    have := h.val hy
    rwa [← get_bt s y hy] at this
  have HXl : Hid (∀ t, xat xs t n < s.size) := fun t => by rw [h.1]; exact Wh.ob_lt _ n
  have HXi : Hid (∀ t i, xat xs t i < 2 ^ i) := fun t i => Wh.ob_lt _ i
  have HBit : Hid (∀ (i : Nat) (hi : i < xs.length) (t : Nat), t < L → ∃ y : ByteArray, xs[i]'hi = y ∧ ∃ ht : t < y.size, (((y[t]'ht).toNat : Nat) : Int) = 48 + ((decide (bt (xs.getD i ByteArray.empty) t = 49)).toNat : Int)) := fun i hi t ht => by
    obtain ⟨h1, h2⟩ := hc _ (List.getElem_mem hi)
    have e : xs.getD i ByteArray.empty = xs[i] := by simp [List.getD_eq_getElem?_getD, hi]
    rw [e]
    exact ⟨_, rfl, by omega, bit_of h2.2 (by omega)⟩
  have HB : Hid (∀ k (hk : k < xs.length) (W : World), (xs[k]'hk).size = L ∧ Calls Try.prog 56 #[.string (xs[k]'hk)] W fun e w' => e = .returned (.bool true) ∧ W = w') := fun k hk W => by
    obtain ⟨h1, h2⟩ := hc _ (List.getElem_mem hk)
    exact ⟨h1, l01Bits_yes _ W h2⟩
  have HR := Lib.hid hr
  have HN := Lib.hid hn
  have h0x : 0 < xs.length := by rw [hn]; exact h0
  obtain ⟨G, off, rfl, hG, hc0⟩ := HR.out.at h0x
  have hs0 := (HB.out 0 h0x w).1
  obtain ⟨x0, hx0⟩ : ∃ x, xs[0] = x := ⟨_, rfl⟩
  rw [hx0, Nat.add_zero] at hc0
  rw [hx0] at hs0
  subst hs0
  have HC0 := Lib.hid hc0
  obtain ⟨g, hg⟩ : ∃ g, tb s = g := ⟨_, rfl⟩
  rw [hg] at HV ⊢
  clear hg h hr hn hc hx0 hc0
  go_enter Try.func29, Try.ntmps29
  go_wp2_with (first | (go_at_call 41; refine (HF.out _).mono ?_; rintro e w1 ⟨rfl, rfl⟩) | (go_at_call 45; refine (HI.out _).mono ?_; rintro e w1 ⟨rfl, rfl⟩))
  go_loopw [6] (fun kv wr => ∃ k m : Nat, k ≤ n ∧ kv = .int .i64 k ∧ Hid (wr = w.drewN m)) (fun kv _ => n - (intOf kv).toNat)
  case atStart => exact ⟨0, 0, Nat.zero_le _, rfl, rfl⟩
  case round =>
    obtain ⟨k, m, hk, rfl, HW⟩ := hrel
    by_cases hlt : k < n
    · have hkx : k < xs.length := by rw [HN.out]; exact hlt
      obtain ⟨g2, o2, hae, hg2, hck⟩ := HR.out.at hkx
      cases hae
      have hsz := (HB.out k hkx w).1
      have HLt : Hid (∀ W : World, Calls Try.prog 56 #[.string (xs[k]'hkx)] W fun e w' => e = .returned (.bool true) ∧ W = w') := fun W => (HB.out k hkx W).2
      obtain ⟨x, hx2⟩ : ∃ x, xs[k] = x := ⟨_, rfl⟩
      rw [hx2] at hck hsz HLt
      have ck : wr.cell? ⟨G, off + k, none⟩ = some (.string x) := by rw [HW.out]; exact hck
      have c0 : wr.cell? ⟨G, off, none⟩ = some (.string x0) := by rw [HW.out]; exact HC0.out
      have hq : ((x.size : Int) != (x0.size : Int)) = false := by simp [hsz]
      clear hck hx2 hkx hsz
      go_wp2
      go_quiet ((go_at_call 56; exact quietG (HLt.out _)))
      go_wp2
      go_roundw
      case rel => exact ⟨k + 1, m + nq, by omega, by go_num, by unfold Hid; rw [HW.out, drewN_twoG]⟩
      case measure => simp [intOf]; omega
    · obtain rfl : k = n := by omega
      obtain ⟨wo, hwo⟩ : ∃ x, wr = x := ⟨_, rfl⟩
      have HBo : Hid (Below w.heap.size w wo) := by unfold Hid; rw [← hwo, HW.out]; exact below_drewN (Below.refl _ _) _
      rw [hwo]
      have hzo := HBo.out.size
      have O1 := own_base (ownsRow_empty wo 5 1) hzo
      have B1 := HBo.out.alloc hzo (.cells #[] 5)
      clear hwo HW
      go_wp2
      go_loopw [7, 8, 9, 10] (fun v0 kv _ _ wr => ∃ (t : Nat) (v : Value), v = v0 ∧ t ≤ x0.size ∧ kv = .int .i64 t ∧ wr.ownsRow w.heap.size 5 1 v t ((tabL (fun t => g (xat xs t k)) t).map (Value.int .u8)) ∧ Below w.heap.size w wr) (fun _ kv _ _ _ => x0.size - (intOf kv).toNat)
      case atStart => exact ⟨0, _, rfl, Nat.zero_le _, rfl, O1, B1⟩
      case round =>
        obtain ⟨t, v, rfl, ht, rfl, hown, hbel⟩ := hrel
        clear O1 B1
        have c0 : wr.cell? ⟨G, off, none⟩ = some (.string x0) := (hbel.cell (p := ⟨G, off, none⟩) hG).trans HC0.out
        by_cases hlt : t < x0.size
        · obtain ⟨wp, hwp⟩ : ∃ x, wr = x := ⟨_, rfl⟩
          rw [hwp] at hown hbel c0 ⊢
          have HRr := Lib.hid (HR.out.below hbel)
          have HTl := Lib.hid (tabL_succ (fun t => g (xat xs t k)) t)
          have HX := Lib.hid (And.intro hown hbel)
          clear hwp hown hbel
          go_wp2
          go_loop [9, 10] (fun xv iv => ∃ i : Nat, i ≤ k ∧ iv = .int .i64 i ∧ xv = .int .i64 (xat xs t i : Nat)) (fun _ iv => k - (intOf iv).toNat)
          case atStart => exact ⟨0, Nat.zero_le _, rfl, rfl⟩
          case round =>
            obtain ⟨i, hii, rfl, rfl⟩ := hrel
            by_cases hit : i < k
            · have hix : i < xs.length := by rw [HN.out]; exact hit
              obtain ⟨G2, o2, hae, hg2, hcw⟩ := HRr.out.at hix
              cases hae
              obtain ⟨y, hy, htx, hv⟩ := HBit.out i hix t hlt
              rw [hy] at hcw
              have hxs := Lib.hid (xat_succ xs t i)
              have hxl := HXi.out t i
              obtain ⟨c, hc⟩ : ∃ c, (decide (bt (xs.getD i ByteArray.empty) t = 49)).toNat = c := ⟨_, rfl⟩
              have hc1 : c ≤ 1 := by rw [← hc]; exact Bool.toNat_le _
              rw [hc] at hv hxs
              obtain ⟨X, hX⟩ : ∃ X, xat xs t i = X := ⟨_, rfl⟩
              rw [hX] at hxs hxl ⊢
              obtain ⟨ho, hcm, hcb⟩ := or_next64 hxl hc1 (show i ≤ 6 by omega)
              have hpi := pow6 (show i ≤ 6 by omega)
              clear hc hX hy hix
              have hor : bits .or .i64 (X : Int) (wrap64 ((48 + (c : Int) - 48) * 2 ^ i)) = ((X + c * 2 ^ i : Nat) : Int) := by
                rw [show (48 + (c : Int) - 48) = (c : Int) by omega, hcm]
                have hw : wrap64 ((c * 2 ^ i : Nat) : Int) = ((c * 2 ^ i : Nat) : Int) := by
                  generalize c * 2 ^ i = z at *
                  unfold wrap64
                  omega
                rw [hw, ← hcm]
                exact ho
              clear ho hcm hcb
              go_wp2
              go_round
              case rel => exact ⟨i + 1, by omega, by go_num, by rw [hxs.out]; congr 1⟩
              case measure => simp [intOf]; omega
            · obtain rfl : i = k := by omega
              have hXs := HXl.out t
              obtain ⟨X, hX⟩ : ∃ X, xat xs t i = X := ⟨_, rfl⟩
              rw [hX] at hXs ⊢
              have hvX := HV.out X hXs
              obtain ⟨b, hb⟩ : ∃ b, (g X).toNat = b := ⟨_, rfl⟩
              have hTl2 : Hid (tabL (fun t => g (xat xs t i)) (t + 1) = tabL (fun t => g (xat xs t i)) t ++ [48 + (b : Int)]) := by rw [← hb, ← hX]; exact HTl.out
              have hb1 : b ≤ 1 := by rw [← hb]; exact Bool.toNat_le _
              rw [hb] at hvX
              have hown := HX.out.1
              have hbel := HX.out.2
              clear hb HTl hX HX
              go_wp2_with (at_builtin; refine wpList_append_own _ rfl _ _ 69 rfl w.heap.size 5 i0 (.int .u8 0) 1 1 Try.underlying69 hi hz0 hz1 hz2 rfl (by decide) _ _ _ rfl (hown.alloc _) ⟨wp.heap.size, 0, none⟩ 1 1 [.int .u8 (48 + b)] rfl rfl (cell_one_new _ _ _) (by intro u hu; simp at hu; subst hu; rfl) (by unfold maxLen; omega) (by omega) (by have := hbel.size; simp; omega) ?_; intro v1 w1 hown1 hgrow _)
              have hb1 : Below w.heap.size w w1 := (hbel.alloc hbel.size _).grown hgrow (by have := hbel.size; simp; omega) (own_block hown)
              have HO : Hid (w1.ownsRow w.heap.size 5 1 v1 (t + 1) ((tabL (fun t => g (xat xs t i)) (t + 1)).map (Value.int .u8))) := by
                unfold Hid
                rw [hTl2.out]
                simpa using hown1
              clear hown1 hgrow hown hbel
              go_wp2
              go_roundw
              case rel => exact ⟨t + 1, _, rfl, by omega, by go_num, HO.out, hb1⟩
              case measure => simp [intOf]; omega
        · obtain rfl : t = x0.size := by omega
          have hcv := conv_own (P := Try.prog) (dst := 9) Try.underlying69 Try.underlying5 Try.underlying9 hown
          have HBB := Lib.hid hbel
          clear hown hbel
          go_wp2
          go_ret2
          exact ⟨rfl, HBB.out⟩
theorem lawComb_core (s : ByteArray) (a : Option Addr) (n cap : Nat) (xs : List ByteArray) (r : ByteArray) (ok : Bool) (w : World) (h : RS w.heap.size w a xs) (hn : xs.length = n) (hm : n ≤ maxLen) (hss : ∀ s ∈ xs, s.size ≤ maxLen) (hs : s.size ≤ 1048576)
    (HS : Hid (n ≤ 1048576 → (∀ s ∈ xs, s.size ≤ 1048576) → ∀ (W : World) b c, RS W.heap.size W b xs → Calls Try.prog 29 #[.string s, .slice b n c] W fun e w' => e = .returned (.tuple #[.string r, .bool ok]) ∧ Below W.heap.size W w'))
    (HI : Hid (n ≤ 1048576 → (∀ s ∈ xs, s.size ≤ 1048576) → ∀ (W : World) b c, RS W.heap.size W b xs → Calls Try.prog 31 #[.string s, .slice b n c] W fun e w' => e = .returned (.tuple #[.string r, .bool ok]) ∧ Below W.heap.size W w')) :
    Calls Try.prog 9 #[.string s, .slice a n cap] w fun e w' => e = .returned (.bool true) ∧ Below w.heap.size w w' := by
  have HR := Lib.hid h
  have HN := Lib.hid hn
  have HM := Lib.hid hm
  have HSS := Lib.hid hss
  have hne2 : (ok != ok) = false := by simp
  clear h hn hss hm
  go_enter Try.func9, Try.ntmps9
  go_wp2_with fail
  refine (szS_any a n cap xs w HR.out HN.out HM.out HSS.out).mono ?_
  rintro e w1 ⟨v, rfl, hv1, hv2, rfl⟩
  have HV := Lib.hid hv2
  clear hv2
  by_cases hv : v < 0
  · go_wp2
    go_ret
    exact ⟨rfl, Below.refl _ _⟩
  · obtain ⟨hl, hsm⟩ := HV.out (by omega)
    have HS := Lib.hid (HS.out hl hsm)
    have HI := Lib.hid (HI.out hl hsm)
    clear hsm HV
    go_wp2_with fail
    refine (toS_any a n cap xs w HR.out HN.out hl).mono ?_
    rintro e w1 ⟨b1, c1, rfl, r1, hb1⟩
    go_wp2_with fail
    refine (HS.out w1 b1 c1 r1).mono ?_
    rintro e w2 ⟨rfl, hb2⟩
    have hB2 : Below w.heap.size w w2 := hb1.trans (hb2.mono hb1.size)
    clear r1 hb1 hb2
    have HR2 := Lib.hid ((HR.out.below hB2).up hB2.size)
    go_wp2_with fail
    refine (toS_any a n cap xs w2 HR2.out HN.out hl).mono ?_
    rintro e w3 ⟨b3, c3, rfl, r3, hb3⟩
    go_wp2_with fail
    refine (HI.out w3 b3 c3 r3).mono ?_
    rintro e w4 ⟨rfl, hb4⟩
    have hB4 : Below w.heap.size w w4 := (hB2.trans (hb3.mono hB2.size)).trans (hb4.mono (Nat.le_trans hB2.size hb3.size))
    have HS4 := Lib.hid ((r3.below hb4).up hb4.size)
    clear r3 hb3 hb4 HR2 hB2
    have HR4 := Lib.hid ((HR.out.below hB4).up hB4.size)
    go_wp2_with fail
    refine (toS_any a n cap xs w4 HR4.out HN.out hl).mono ?_
    rintro e w5 ⟨b5, c5, rfl, r5, hb5⟩
    have HB5 := Lib.hid (hB4.trans (hb5.mono hB4.size))
    have HS5 := Lib.hid ((HS4.out.below hb5).up hb5.size)
    have HE : Hid (Calls Try.prog 32 #[.slice b3 n c3, .slice b5 n c5] w5 fun e w' => e = .returned (.bool true) ∧ ∃ n, w' = w5.drewN n) := eqS_yes _ _ n _ _ xs w5 HS5.out r5 HN.out hl
    clear hB4 hb5 r5 HS4 HS5 HR4
    go_wp2_with (go_at_call 32; with_reducible refine (HE.out).mono ?_; rintro e w6 ⟨rfl, m6, rfl⟩)
    go_ret
    exact ⟨rfl, below_drewN HB5.out m6⟩
theorem lawComb (s : ByteArray) (a : Option Addr) (m cap : Nat) (zs : List ByteArray) (w : World) (hm : s.size ≤ maxLen) (h : StrIn w a m zs) :
    Calls Try.prog 9 #[.string s, .slice a m cap] w fun e w' => e = .returned (.bool true) ∧ Below w.heap.size w w' := by
  obtain ⟨xs, hn, hr, hmm, hss⟩ := h.rs
  by_cases hs : s.size ≤ 1048576
  · by_cases hT : ∃ n, TabP n s
    · obtain ⟨n, hT⟩ := hT
      by_cases hmn : m = n
      · subst hmn
        by_cases h0 : 0 < m
        · by_cases hc : COk (xs.getD 0 ByteArray.empty).size xs
          · have hL : (xs.getD 0 ByteArray.empty).size ≤ 400 := by
              have h0x : 0 < xs.length := by rw [hn]; exact h0
              have e0 : xs.getD 0 ByteArray.empty = xs[0] := by simp [List.getD_eq_getElem?_getD, h0x]
              rw [e0]
              exact (hc _ (List.getElem_mem h0x)).2.len
            exact lawComb_core s a m cap xs _ true w hr hn hmm hss hs (fun _ _ W b c hb => specCombine_yes m _ s b c xs W hT hb hn hc hL h0) (fun _ _ W b c hb => combine_yes m _ s b c xs W hT hb hn hc hL (fun x => by omega))
          · exact lawComb_core s a m cap xs ⟨#[]⟩ false w hr hn hmm hss hs (fun _ hsz W b c hb => specCombine_noC m s b c xs W hT hb hn h0 hsz hc) (fun _ hsz W b c hb => combine_noC m s b c xs W hT hb hn h0 hsz hc)
        · obtain rfl : m = 0 := by omega
          have hx : xs = [] := List.eq_nil_of_length_eq_zero hn
          exact lawComb_core s a 0 cap xs ⟨#[]⟩ true w hr hn hmm hss hs (fun _ _ W b c _ => specCombine_nil s b c W hT) (fun _ _ W b c hb => combine_yes 0 0 s b c xs W hT hb hn (fun y hy => by rw [hx] at hy; cases hy) (by omega) (fun _ => rfl))
      · exact lawComb_core s a m cap xs ⟨#[]⟩ false w hr hn hmm hss hs (fun _ _ W b c _ => specCombine_noB n s b m c W hT hmn) (fun hl _ W b c _ => combine_noB n s b m c W hl hT hmn)
    · exact lawComb_core s a m cap xs ⟨#[]⟩ false w hr hn hmm hss hs (fun _ _ W b c _ => specCombine_noA s b m c W hm hT) (fun _ _ W b c _ => combine_noA s b m c W hm hT)
  · unfold maxLen at hm
    clear h hr hn hmm hss
    go_enter Try.func9, Try.ntmps9
    go_wp2
    go_ret
    exact ⟨rfl, Below.refl _ _⟩
end Go.Proofs.Ytgpcacbjmjpdnab
