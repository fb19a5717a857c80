/- The first bits that a linear machine outputs: impl.LinearBits, spec.LinearBits, the law. -/
import Derived.Test.YtciofobedgmbjaaLinD
import Derived.Test.YtciofobedgmbjaaCycVis
import Derived.Test.YtciofobedgmbjaaBytes
namespace Go.Proofs.Ytciofobedgmbjaa
open Go.RowKit Go.PlainAid
set_option maxHeartbeats 800000

/-- the state after n steps -/
def itL (f : Nat → Nat) (s : Nat) : Nat → Nat
  | 0 => s
  | n + 1 => G2.mpL f (itL f s n) 16
theorem itL_lt {f : Nat → Nat} {s : Nat} (hs : s < 65536) : ∀ n, itL f s n < 65536 := by
  intro n
  cases n with
  | zero => exact hs
  | succ n => exact G2.mpL_lt f _ 16
/-- the first k outputs -/
def lbits (f : Nat → Nat) (o s : Nat) : Nat → List Int
  | 0 => []
  | k + 1 => lbits f o s k ++ [48 + (G2.pv o (itL f s k) : Int)]
theorem lbits_length (f : Nat → Nat) (o s : Nat) : ∀ k, (lbits f o s k).length = k := by
  intro k
  induction k with
  | zero => rfl
  | succ k ih => simp [lbits, ih]
theorem LR.grow {W0 w : World} {rw : Option Nat} {b : Nat} {f : Nat → Nat} {o s : Nat} (h : LR W0 b f o s) (hg : W0.grownBy w rw) (hne : rw ≠ some b) : LR w b f o s :=
  have hb := hg.block b h.lt (Ne.symm hne)
  ⟨h.1.grow (by omega) hg hne, ⟨(World.cell?_of_block (a := ⟨b, 16, none⟩) hb).trans h.2.1.1, (World.frozen?_of_block (a := ⟨b, 16, none⟩) hb).trans h.2.1.2⟩, (World.cell?_of_block (a := ⟨b, 17, none⟩) hb).trans h.2.2.1, (World.frozen?_of_block (a := ⟨b, 17, none⟩) hb).trans h.2.2.2⟩
theorem bitsFrom_any (b : Nat) (f : Nat → Nat) (o s N : Nat) (w : World) (h : LR w b f o s) (hf : ∀ i, i < 16 → f i < 65536) (hs : s < 65536) (ho : o < 65536) (hN : N ≤ 400) :
    Calls Try.prog 42 #[.func (.func 39) #[.pointer (some ⟨b, 0, none⟩)] #[], .int .i64 N] w fun e w' => e = .returned (.string (strOfNums (lbits f o s N))) ∧ w.grownBy w' (some b) := by
  obtain ⟨i0, hi, hz0, hz1, hz2⟩ := info_parts Try.info5
  have HO : Hid (∀ (s : Nat) (W : World), LR W b f o s → s < 65536 → Calls Try.prog 39 #[.pointer (some ⟨b, 0, none⟩)] W fun e w' => e = .returned (.int .i64 (G2.pv o s)) ∧ LR w' b f o (G2.mpL f s 16) ∧ W.grownBy w' (some b)) := fun s W hl hs2 => output_any b f o s W hl hf hs2 ho
  have HS : Hid (∀ n, itL f s n < 65536) := itL_lt hs
  have hbw := h.lt
  have HL := Lib.hid h
  clear h hf hs
  go_enter Try.func42, Try.ntmps42
  go_wp2_with (at_make; refine wpList_make_full _ rfl _ _ 85 rfl w.heap.size 5 i0 _ 1 Try.underlying85 hi hz0 hz1 _ _ _ _ N rfl rfl rfl rfl (by rw [hz2]; omega) (by unfold maxLen; omega) (Nat.le_refl _) ?_; intro w3 hown hgrow)
  have HW : Hid (w3.ownsRow w.heap.size 5 1 (.slice (some ⟨w.heap.size, 0, none⟩) N N) N ((pad (lbits f o s 0) N).map (Value.int .u8))) := by rw [pad_made] at hown; exact hown
  have HL3 : Hid (LR w3 b f o (itL f s 0)) := HL.out.grow hgrow (by simp)
  have HG3 : Hid (w.grownBy w3 (some b)) := ⟨hgrow.os, hgrow.tape, hgrow.output, hgrow.size, fun k hk _ => hgrow.block k hk (by simp)⟩
  clear hown hgrow
  go_loopw [11] (fun iv wr => ∃ k : Nat, k ≤ N ∧ iv = .int .i64 k ∧ Hid (wr.ownsRow w.heap.size 5 1 (.slice (some ⟨w.heap.size, 0, none⟩) N N) N ((pad (lbits f o s k) N).map (Value.int .u8))) ∧ Hid (LR wr b f o (itL f s k)) ∧ Hid (w.grownBy wr (some b))) (fun iv _ => N - (intOf iv).toNat)
  case atStart => exact ⟨0, Nat.zero_le _, rfl, HW, HL3, HG3⟩
  case round =>
    obtain ⟨k, hk, rfl, KW, KL, KG⟩ := hrel
    clear HW HL3 HG3
    by_cases hlt : k < N
    · have hp := G2.pv_le o (itL f s k)
      have HB : Hid (lbits f o s (k + 1) = lbits f o s k ++ [48 + (G2.pv o (itL f s k) : Int)]) := rfl
      go_wp2_with fail
      refine (HO.out (itL f s k) _ KL.out (HS.out k)).mono ?_
      rintro e w4 ⟨rfl, hl4, hg4⟩
      have own4 : w4.ownsRow w.heap.size 5 1 (.slice (some ⟨w.heap.size, 0, none⟩) N N) N ((pad (lbits f o s k) N).map (Value.int .u8)) := World.ownsRow.kept KW.out hg4 (.inr (by simp [Value.ownBlock]; omega))
      obtain ⟨hc, hfz⟩ := own_next own4 (lbits_length f o s k) hlt
      have hst := own_step own4 (lbits_length f o s k) hlt (48 + (G2.pv o (itL f s k) : Int))
      have LW : Hid ((w4.setCell ⟨w.heap.size, k, none⟩ (.int .u8 (48 + (G2.pv o (itL f s k) : Int)))).ownsRow w.heap.size 5 1 (.slice (some ⟨w.heap.size, 0, none⟩) N N) N ((pad (lbits f o s (k + 1)) N).map (Value.int .u8))) := by unfold Hid; rw [HB.out]; exact hst
      have LL : Hid (LR (w4.setCell ⟨w.heap.size, k, none⟩ (.int .u8 (48 + (G2.pv o (itL f s k) : Int)))) b f o (itL f s (k + 1))) := by
        have hne : w.heap.size ≠ b := by omega
        refine ⟨hl4.1.other (.inl hne) _, ⟨?_, ?_⟩, ?_, ?_⟩
        · rw [cell_otherD (addr_neD (.inr hne))]; exact hl4.2.1.1
        · rw [World.frozen?_setCell]; exact hl4.2.1.2
        · rw [cell_otherD (addr_neD (.inr hne))]; exact hl4.2.2.1
        · rw [World.frozen?_setCell]; exact hl4.2.2.2
      have LG : Hid (w.grownBy (w4.setCell ⟨w.heap.size, k, none⟩ (.int .u8 (48 + (G2.pv o (itL f s k) : Int)))) (some b)) := gr_set ⟨hg4.os.trans KG.out.os, hg4.tape.trans KG.out.tape, hg4.output.trans KG.out.output, Nat.le_trans KG.out.size hg4.size, fun j hj hne => (hg4.block j (Nat.lt_of_lt_of_le hj KG.out.size) hne).trans (KG.out.block j hj hne)⟩ (p := ⟨w.heap.size, k, none⟩) (.inr (Nat.le_refl _)) _
      generalize G2.pv o (itL f s k) = d at hp LW LL LG ⊢
      clear hl4 hg4 own4 hst KW KL KG HB
      go_wp2
      go_roundw
      case rel => exact ⟨k + 1, by omega, by go_num, LW, LL, LG⟩
      case measure => first | (simp [intOf]; done) | (simp [intOf]; omega)
    · obtain rfl : k = N := by omega
      have hp : Hid (pad (lbits f o s k) k = lbits f o s k) := by
        unfold Hid
        have := pad_full (lbits f o s k)
        rwa [lbits_length] at this
      have hown := KW.out
      rw [hp.out] at hown
      have hcv := conv_own (P := Try.prog) (dst := 9) Try.underlying85 Try.underlying5 Try.underlying9 hown
      clear hown KW
      go_wp2
      go_ret
      exact ⟨rfl, KG.out⟩
/-- a valid machine, a state of it and a number of bits -/
def LinB (x : Int) (xs : List Int) (o s n : Int) : Prop := (LinP x xs o ∧ InP x s) ∧ 0 ≤ n ∧ n ≤ 400
theorem bitsL_yes (W : Nat) (a : Option Addr) (c : Nat) (xs : List Int) (o s N : Nat) (w : World) (h : RO w.heap.size w a xs) (hP : LinP W xs o) (hS : InP W s) (hN : N ≤ 400) :
    Calls Try.prog 17 #[.agg #[.int .i64 W, .slice a W c, .int .i64 o], .int .i64 s, .int .i64 N] w fun e w' => e = .returned (.tuple #[.string (strOfNums (lbits (rwF xs) o s N)), .bool true]) ∧ Below w.heap.size w w' := by
  obtain ⟨h1, hn, hs1, hs2, ho, hf, hfW, hy, hz⟩ := linN hP hS
  have h0 : ∀ (i : Nat) (y : Int), xs[i]? = some y → 0 ≤ y := fun i y hh => by rw [hy i y hh]; omega
  have A0 := D3.new w (.int .i64 W) (.slice a W c) (.int .i64 o) 27
  have B0 : Below w.heap.size w (w.alloc (.cells #[.int .i64 W, .slice a W c, .int .i64 o] 27)) := (Below.refl _ _).alloc (Nat.le_refl _) _
  have HS := Lib.hid (hasStL_any W a W c xs o s true _ ((h.below B0).up B0.size) hn (by omega) ⟨fun _ => ⟨hP, hS⟩, fun _ => rfl⟩)
  have HI : Hid (∀ W : World, Calls Try.prog 30 #[.int .i64 N, .int .i64 0, .int .i64 400] W fun e w' => e = .returned (.bool true) ∧ W = w') := fun W => btw64_yes _ _ _ W (by omega) (by omega)
  have HR := Lib.hid h
  have HF : Hid (∀ V : World, RO V.heap.size V a xs → Calls Try.prog 38 #[.agg #[.int .i64 W, .slice a W c, .int .i64 o], .int .i64 s] V fun e w' => ∃ b, e = .returned (.pointer (some ⟨b, 0, none⟩)) ∧ V.heap.size ≤ b ∧ LR w' b (rwF xs) o s ∧ Below V.heap.size V w') := fun V hV => runFrom_any W a W c xs o s V hV hn (by omega) (by omega) h0
  have HB : Hid (∀ (V : World) b, LR V b (rwF xs) o s → Calls Try.prog 42 #[.func (.func 39) #[.pointer (some ⟨b, 0, none⟩)] #[], .int .i64 N] V fun e w' => e = .returned (.string (strOfNums (lbits (rwF xs) o s N))) ∧ V.grownBy w' (some b)) := fun V b hl => bitsFrom_any b (rwF xs) o s N V hl (fun i _ => hf i) hs2 ho hN
  have hmf : ∀ (fn : Fn) (first cap : Array Value) (w : World), (Instr.makeFunc fn first cap).run Try.prog w = .ok (.func fn first cap) w := fun _ _ _ _ => rfl
  generalize strOfNums (lbits (rwF xs) o s N) = str at HB ⊢
  clear h hP hS hf hfW hy hz h0 hs1 hs2 ho
  go_enter Try.func17, Try.ntmps17
  go_wp2_with fail
  generalize w.alloc (.cells #[.int .i64 W, .slice a W c, .int .i64 o] 27) = w0 at A0 B0 HS ⊢
  refine (HS.out).mono ?_
  rintro e w1 ⟨rfl, hb⟩
  obtain ⟨⟨x0, x1, x2⟩, _⟩ := A0.far hb
  have B1 := B0.trans (hb.mono B0.size)
  clear hb HS A0 B0
  go_wp2_with (go_at_call 30; with_reducible refine (HI.out _).mono ?_; rintro e w2 ⟨rfl, rfl⟩)
  refine (HF.out w1 ((HR.out.below B1).up B1.size)).mono ?_
  rintro e w2 ⟨b, rfl, hbb, hl, hb⟩
  have B2 := B1.trans (hb.mono B1.size)
  have hzz := B1.size
  clear hb B1 x0 x1 x2
  go_wp2_with fail
  refine (HB.out w2 b hl).mono ?_
  rintro e w3 ⟨rfl, hg⟩
  have B3 := Lib.hid (B2.grown hg B2.size (fun q e => by cases e; omega))
  clear hl B2 hg
  go_wp2
  go_ret2
  exact ⟨rfl, B3.out⟩
theorem bitsL_no (x : Int) (a : Option Addr) (n c : Nat) (xs : List Int) (o s N : Int) (w : World) (h : RO w.heap.size w a xs) (hn : xs.length = n) (hl : n ≤ 1048576) (hP : ¬ LinB x xs o s N) :
    Calls Try.prog 17 #[.agg #[.int .i64 x, .slice a n c, .int .i64 o], .int .i64 s, .int .i64 N] w fun e w' => e = .returned (.tuple #[.string ⟨#[]⟩, .bool false]) ∧ Below w.heap.size w w' := by
  have B0 : Below w.heap.size w (w.alloc (.cells #[.int .i64 x, .slice a n c, .int .i64 o] 27)) := (Below.refl _ _).alloc (Nat.le_refl _) _
  by_cases hp : LinP x xs o ∧ InP x s
  · have HS := Lib.hid (hasStL_any x a n c xs o s true _ ((h.below B0).up B0.size) hn hl ⟨fun _ => hp, fun _ => rfl⟩)
    have HI : Hid (∀ W : World, Calls Try.prog 30 #[.int .i64 N, .int .i64 0, .int .i64 400] W fun e w' => e = .returned (.bool false) ∧ W = w') := fun W => btw64_no _ _ _ W (fun k => hP ⟨hp, k⟩)
    clear h hn hP hp
    go_enter Try.func17, Try.ntmps17
    go_wp2_with fail
    refine (HS.out).mono ?_
    rintro e w1 ⟨rfl, hb⟩
    have HB := Lib.hid (B0.trans (hb.mono B0.size))
    clear hb B0 HS
    go_wp2_with (go_at_call 30; with_reducible refine (HI.out _).mono ?_; rintro e w2 ⟨rfl, rfl⟩)
    go_ret2
    exact ⟨rfl, HB.out⟩
  · have HS := Lib.hid (hasStL_any x a n c xs o s false _ ((h.below B0).up B0.size) hn hl ⟨fun e => absurd e (by simp), fun k => absurd k hp⟩)
    clear h hn hP hp
    go_enter Try.func17, Try.ntmps17
    go_wp2_with fail
    refine (HS.out).mono ?_
    rintro e w1 ⟨rfl, hb⟩
    have HB := Lib.hid (B0.trans (hb.mono B0.size))
    clear hb B0 HS
    go_wp2
    go_ret2
    exact ⟨rfl, HB.out⟩
theorem l08Bits_any (g : Nat) (W : Nat) (a : Option Addr) (c : Nat) (xs : List Int) (o s N : Nat) (w0 w : World) (_ : w0.heap.size ≤ g) (hgw : g < w.heap.size) (hA : D3 w g (.int .i64 W) (.slice a W c) (.int .i64 o)) (hB0 : Below w0.heap.size w0 w) (h : RO w0.heap.size w0 a xs) (hP : LinP W xs o) (hS : InP W s) (hN : N ≤ 400) :
    Calls Try.prog 41 #[.pointer (some ⟨g, 0, none⟩), .int .i64 s, .int .i64 N] w fun e w' => e = .returned (.string (strOfNums (lbits (rwF xs) o s N))) ∧ Below w0.heap.size w0 w' := by
  obtain ⟨i0, hi, hz0, hz1, hz2⟩ := info_parts Try.info5
  obtain ⟨h1, hn, hs1, hs2, ho, hf, hfW, hy, hz⟩ := linN hP hS
  have HT : Hid (∀ (V : World) (S : Nat), D3 V g (.int .i64 W) (.slice a W c) (.int .i64 o) → Below w0.heap.size w0 V → S < 65536 → Calls Try.prog 36 #[.pointer (some ⟨g, 0, none⟩), .int .i64 S] V fun e w' => e = .returned (.tuple #[.int .i64 (G2.mpL (rwF xs) S 16), .int .i64 (G2.pv o S)]) ∧ ∃ k, w' = V.drewN k) := fun V S hD hB hSS => by
    have := l08Step_any g W a c xs o S V hD.1 ((h.below hB).up hB.size) hn (by omega) hf hy hSS ho
    have e : G2.mpL (rwF xs) S 16 = G2.mpL (rwF xs) S W := by
      have := G2.mpL_more (R := rwF xs) (R' := rwF xs) (s := S) (W := W) (fun _ _ => rfl) (fun i hi => by rw [hz i hi, G2.pv_zero]) (16 - W)
      rwa [show W + (16 - W) = 16 by omega] at this
    rwa [← e] at this
  have HSL : Hid (∀ n, itL (rwF xs) s n < 65536) := itL_lt hs2
  have HO := Lib.hid (ownsRow_empty w 5 1)
  have HA : Hid (D3 (w.alloc (.cells #[] 5)) g (.int .i64 W) (.slice a W c) (.int .i64 o)) := hA.alloc _
  have HB : Hid (Below w0.heap.size w0 (w.alloc (.cells #[] 5))) := hB0.alloc hB0.size _
  have hw0 := hB0.size
  clear h hP hS hf hfW hy hz hs1 hs2 ho hA hB0
  go_enter Try.func41, Try.ntmps41
  go_wp2
  go_loopw [1, 7, 8] (fun st v i wr => ∃ k : Nat, k ≤ N ∧ st = .int .i64 (itL (rwF xs) s k) ∧ i = .int .i64 k ∧ w.heap.size ≤ wr.heap.size ∧ Hid (wr.ownsRow w.heap.size 5 1 v k ((lbits (rwF xs) o s k).map (Value.int .u8))) ∧ Hid (D3 wr g (.int .i64 W) (.slice a W c) (.int .i64 o)) ∧ Hid (Below w0.heap.size w0 wr)) (fun _ _ i _ => N - (intOf i).toNat)
  case atStart => exact ⟨0, Nat.zero_le _, rfl, rfl, by simp, HO.out, HA, HB⟩
  case round =>
    obtain ⟨k, hk, rfl, rfl, hzz, HOk, HAk, HBk⟩ := hrel
    clear HO HA HB
    by_cases hlt : k < N
    · have hp := G2.pv_le o (itL (rwF xs) s k)
      have HLB : Hid (lbits (rwF xs) o s (k + 1) = lbits (rwF xs) o s k ++ [48 + (G2.pv o (itL (rwF xs) s k) : Int)]) := rfl
      have HIT : Hid (itL (rwF xs) s (k + 1) = G2.mpL (rwF xs) (itL (rwF xs) s k) 16) := rfl
      have HSk := Lib.hid (HT.out wr (itL (rwF xs) s k) HAk.out HBk.out (HSL.out k))
      generalize G2.pv o (itL (rwF xs) s k) = d at hp HLB HSk
      generalize G2.mpL (rwF xs) (itL (rwF xs) s k) 16 = t at HIT HSk
      generalize itL (rwF xs) s k = S at HSk ⊢
      go_wp2_with fail
      refine (HSk.out).mono ?_
      rintro e w4 ⟨rfl, m, rfl⟩
      have hown := own_drewNR HOk.out m
      have HA4 : Hid (D3 (wr.drewN m) g (.int .i64 W) (.slice a W c) (.int .i64 o)) := HAk.out.drewN m
      have HB4 : Hid (Below w0.heap.size w0 (wr.drewN m)) := below_drewN HBk.out m
      have hz4 : w.heap.size ≤ (wr.drewN m).heap.size := hzz
      clear HOk HAk HBk HSk hzz
      obtain ⟨wx, hwx⟩ : ∃ x, wr.drewN m = x := ⟨_, rfl⟩
      rw [hwx] at hown HA4 HB4 hz4 ⊢
      clear hwx
      go_wp2_with (at_builtin; refine wpList_append_own _ rfl _ _ 85 rfl w.heap.size 5 i0 (.int .u8 0) 1 1 Try.underlying85 hi hz0 hz1 hz2 rfl (by decide) _ _ _ rfl (hown.alloc _) ⟨wx.heap.size, 0, none⟩ 1 1 [.int .u8 (48 + (d : Int))] rfl rfl (cell_one_new _ _ _) (by intro u hu; simp at hu; subst hu; rfl) (by unfold maxLen; omega) (by omega) (by simp; omega) ?_; intro v1 w1 hown1 hgrow _)
      have hz1 : w.heap.size ≤ w1.heap.size := by have := hgrow.size; simp at this; omega
      have hBa : Below w.heap.size wx w1 := ((Below.refl w.heap.size wx).alloc hz4 _).grown hgrow (by simp; omega) (own_block hown)
      have HA1 : Hid (D3 w1 g (.int .i64 W) (.slice a W c) (.int .i64 o)) := HA4.out.below hBa hgw
      have HB1 : Hid (Below w0.heap.size w0 w1) := HB4.out.trans (hBa.mono (by omega))
      have HO1 : Hid (w1.ownsRow w.heap.size 5 1 v1 (k + 1) ((lbits (rwF xs) o s (k + 1)).map (Value.int .u8))) := by
        unfold Hid
        rw [HLB.out]
        simpa using hown1
      clear hown1 hgrow hown HA4 HB4 hz4 hBa
      go_wp2
      go_roundw
      case rel => exact ⟨k + 1, by omega, by rw [HIT.out], by go_num, hz1, HO1, HA1, HB1⟩
      case measure => simp [intOf]; omega
    · obtain rfl : k = N := by omega
      have hown := HOk.out
      have hcv := conv_own (P := Try.prog) (dst := 9) Try.underlying85 Try.underlying5 Try.underlying9 hown
      clear hown HOk
      go_wp2
      go_ret
      exact ⟨rfl, HBk.out⟩
theorem specBitsL_yes (W : Nat) (a : Option Addr) (c : Nat) (xs : List Int) (o s N : Nat) (w : World) (h : RO w.heap.size w a xs) (hP : LinP W xs o) (hS : InP W s) (hN : N ≤ 400) :
    Calls Try.prog 16 #[.agg #[.int .i64 W, .slice a W c, .int .i64 o], .int .i64 s, .int .i64 N] w fun e w' => e = .returned (.tuple #[.string (strOfNums (lbits (rwF xs) o s N)), .bool true]) ∧ Below w.heap.size w w' := by
  have hn : xs.length = W := by have := hP.2.1; omega
  have A0 := D3.new w (.int .i64 W) (.slice a W c) (.int .i64 o) 27
  have B0 : Below w.heap.size w (w.alloc (.cells #[.int .i64 W, .slice a W c, .int .i64 o] 27)) := (Below.refl _ _).alloc (Nat.le_refl _) _
  have HB := Lib.hid (l08Both_any w.heap.size W a W c xs o s true _ A0.1 ((h.below B0).up B0.size) hn (by have := hP.1; omega) ⟨fun _ => ⟨hP, hS⟩, fun _ => rfl⟩)
  have HI : Hid (∀ W : World, Calls Try.prog 40 #[.int .i64 N, .int .i64 0, .int .i64 400] W fun e w' => e = .returned (.bool true) ∧ W = w') := fun W => l00In_yes _ _ _ W (by omega) (by omega)
  have HC : Hid (∀ m : Nat, Calls Try.prog 41 #[.pointer (some ⟨w.heap.size, 0, none⟩), .int .i64 s, .int .i64 N] ((w.alloc (.cells #[.int .i64 W, .slice a W c, .int .i64 o] 27)).drewN m) fun e w' => e = .returned (.string (strOfNums (lbits (rwF xs) o s N))) ∧ Below w.heap.size w w') := fun m => l08Bits_any w.heap.size W a c xs o s N w _ (Nat.le_refl _) (A0.drewN m).lt (A0.drewN m) (below_drewN B0 m) h hP hS hN
  generalize strOfNums (lbits (rwF xs) o s N) = str at HC ⊢
  clear h hP hS hn A0 B0
  go_enter Try.func16, Try.ntmps16
  go_wp2_with fail
  generalize w.alloc (.cells #[.int .i64 W, .slice a W c, .int .i64 o] 27) = w0 at HB HC ⊢
  refine HB.out.mono ?_
  rintro e w1 ⟨rfl, m, rfl⟩
  go_wp2_with (go_at_call 40; with_reducible refine (HI.out _).mono ?_; rintro e w2 ⟨rfl, rfl⟩)
  refine (HC.out m).mono ?_
  rintro e w3 ⟨rfl, hb⟩
  have HBB := Lib.hid hb
  clear hb
  go_wp2
  go_ret2
  exact ⟨rfl, HBB.out⟩
theorem specBitsL_no (x : Int) (a : Option Addr) (n c : Nat) (xs : List Int) (o s N : Int) (w : World) (h : RO w.heap.size w a xs) (hn : xs.length = n) (hl : n ≤ 1048576) (hP : ¬ LinB x xs o s N) :
    Calls Try.prog 16 #[.agg #[.int .i64 x, .slice a n c, .int .i64 o], .int .i64 s, .int .i64 N] w fun e w' => e = .returned (.tuple #[.string ⟨#[]⟩, .bool false]) ∧ Below w.heap.size w w' := by
  have A0 := D3.new w (.int .i64 x) (.slice a n c) (.int .i64 o) 27
  have B0 : Below w.heap.size w (w.alloc (.cells #[.int .i64 x, .slice a n c, .int .i64 o] 27)) := (Below.refl _ _).alloc (Nat.le_refl _) _
  have HB0 := Lib.hid B0
  by_cases hp : LinP x xs o ∧ InP x s
  · have HB := Lib.hid (l08Both_any w.heap.size x a n c xs o s true _ A0.1 ((h.below B0).up B0.size) hn hl ⟨fun _ => hp, fun _ => rfl⟩)
    have HI : Hid (∀ W : World, Calls Try.prog 40 #[.int .i64 N, .int .i64 0, .int .i64 400] W fun e w' => e = .returned (.bool false) ∧ W = w') := fun W => l00In_no _ _ _ W (fun k => hP ⟨hp, k⟩)
    clear h hn hP hp A0 B0
    go_enter Try.func16, Try.ntmps16
    go_wp2_with fail
    refine HB.out.mono ?_
    rintro e w1 ⟨rfl, m, rfl⟩
    go_wp2_with (go_at_call 40; with_reducible refine (HI.out _).mono ?_; rintro e w2 ⟨rfl, rfl⟩)
    go_ret2
    exact ⟨rfl, below_drewN HB0.out _⟩
  · have HB := Lib.hid (l08Both_any w.heap.size x a n c xs o s false _ A0.1 ((h.below B0).up B0.size) hn hl ⟨fun e => absurd e (by simp), fun k => absurd k hp⟩)
    clear h hn hP hp A0 B0
    go_enter Try.func16, Try.ntmps16
    go_wp2_with fail
    refine HB.out.mono ?_
    rintro e w1 ⟨rfl, m, rfl⟩
    go_wp2
    go_ret2
    exact ⟨rfl, below_drewN HB0.out _⟩
theorem lawBitsL (x : Int) (a : Option Addr) (n cap : Nat) (zs : List Int) (o s N : Int) (w : World) (h : RowIn .i64 w a n zs) :
    Calls Try.prog 5 #[.agg #[.int .i64 x, .slice a n cap, .int .i64 o], .int .i64 s, .int .i64 N] w fun e w' => e = .returned (.bool true) ∧ Below w.heap.size w w' :=
  lawLinearBits_any x a n cap zs o s N w h fun xs hn hl hr => by
    by_cases hP : LinB x xs o s N
    · obtain ⟨W, O, S, rfl, rfl, rfl⟩ := linI hP.1
      obtain ⟨M, rfl⟩ := Int.eq_ofNat_of_zero_le hP.2.1
      have hM : M ≤ 400 := by have := hP.2.2; omega
      obtain rfl : n = W := by have := hP.1.1.2.1; omega
      exact lawLinearBits_core n a n cap xs O S M (strOfNums (lbits (rwF xs) O S M)) true w hr hn hl (fun W' b' c hr' _ => specBitsL_yes n b' c xs O S M W' hr' hP.1.1 hP.1.2 hM) (fun W' b' c hr' _ => bitsL_yes n b' c xs O S M W' hr' hP.1.1 hP.1.2 hM)
    · exact lawLinearBits_core x a n cap xs o s N ⟨#[]⟩ false w hr hn hl (fun W b' c hr' _ => specBitsL_no x b' n c xs o s N W hr' hn hl hP) (fun W b' c hr' _ => bitsL_no x b' n c xs o s N W hr' hn hl hP)
end Go.Proofs.Ytciofobedgmbjaa
