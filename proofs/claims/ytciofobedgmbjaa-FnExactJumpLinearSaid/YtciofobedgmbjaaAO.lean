/- Linear machines: masks before a step and powers in the specification; the law FnExactJumpLinear. -/
import Derived.Test.YtciofobedgmbjaaAN
import Derived.Test.YtciofobedgmbjaaLinD
import Derived.Test.YtciofobedgmbjaaS7P
namespace Go.Proofs.Ytciofobedgmbjaa
open Go.RowKit Go.PlainAid
set_option maxHeartbeats 800000

/-- the numbers f 0 .. f (n-1) -/
def lsI (n : Nat) (f : Nat → Nat) : List Int := (List.range n).map fun i => ((f i : Nat) : Int)
theorem lsI_length (n : Nat) (f : Nat → Nat) : (lsI n f).length = n := by simp [lsI]
theorem lsI_get {n : Nat} (f : Nat → Nat) {k : Nat} (hk : k < n) : (lsI n f)[k]? = some ((f k : Nat) : Int) := by simp [lsI, hk]
theorem lsI_succ (n : Nat) (f : Nat → Nat) : lsI (n + 1) f = lsI n f ++ [((f n : Nat) : Int)] := by simp [lsI, List.range_succ]
theorem lsI_congr {n : Nat} {f g : Nat → Nat} (h : ∀ i, i < n → f i = g i) : lsI n f = lsI n g := by
  unfold lsI
  apply List.map_congr_left
  intro i hi
  rw [h i (List.mem_range.1 hi)]
theorem lsI_of {xs : List Int} {n : Nat} (hn : xs.length = n) (hy : ∀ (i : Nat) (y : Int), xs[i]? = some y → y = (rwF xs i : Nat)) : xs = lsI n (rwF xs) := by
  apply List.ext_getElem?
  intro i
  by_cases h : i < n
  · obtain ⟨y, e⟩ : ∃ y, xs[i]? = some y := ⟨_, List.getElem?_eq_getElem (by omega)⟩
    rw [lsI_get _ h, e, ← hy i y e]
  · rw [List.getElem?_eq_none (by omega), List.getElem?_eq_none (by rw [lsI_length]; omega)]
theorem l08Row_any (m : Nat) (a : Option Addr) (n c : Nat) (f : Nat → Nat) (w : World) (h : RO w.heap.size w a (lsI n f)) (hl : n ≤ 16) (hf : ∀ i, i < n → f i < 65536) :
    Calls Try.prog 66 #[.int .i64 m, .slice a n c] w fun e w' => e = .returned (.int .i64 (G2.xrL f m n)) ∧ w = w' := by
  have HR := Lib.hid h
  clear h
  go_enter Try.func66, Try.ntmps66
  go_wp2
  go_loopw [5, 6] (fun nv iv wr => ∃ k z : Nat, k ≤ n ∧ nv = .int .i64 z ∧ iv = .int .i64 k ∧ z < 65536 ∧ Hid (z = G2.xrL f m k) ∧ w = wr) (fun _ iv _ => n - (intOf iv).toNat)
  case atStart => exact ⟨0, 0, Nat.zero_le _, rfl, rfl, by omega, rfl, rfl⟩
  case round =>
    obtain ⟨k, z, hk, rfl, rfl, hz, HN, rfl⟩ := hrel
    by_cases hlt : k < n
    · have hk16 : k < 16 := by omega
      obtain ⟨g, off, rfl, hg, hc⟩ := HR.out k _ (lsI_get f hlt)
      have hfk := hf k hlt
      have E := xr_and m k
      cases hb : m.testBit k with
      | true =>
        rw [hb] at E
        simp only [Bool.toNat_true] at E
        have HN2 : Hid (z ^^^ f k = G2.xrL f m (k + 1)) := by unfold Hid; rw [G2.xrL, hb, if_pos rfl, ← HN.out]
        have hl2 : z ^^^ f k < 65536 := Nat.xor_lt_two_pow (n := 16) hz hfk
        have E2 := i64_xorN z (f k) (by omega) (by omega)
        generalize z ^^^ f k = y at HN2 hl2 E2
        clear HN hb hf
        go_wp2
        go_roundw
        case rel => exact ⟨k + 1, y, by omega, by first | rfl | (rw [E2]), by go_num, hl2, HN2, by first | trivial | rfl⟩
        case measure => first | (simp [intOf]; done) | (simp [intOf]; omega)
      | false =>
        rw [hb] at E
        simp only [Bool.toNat_false] at E
        have HN2 : Hid (z = G2.xrL f m (k + 1)) := by unfold Hid; rw [G2.xrL, hb, ← HN.out]; rfl
        clear HN hb hf
        go_wp2
        go_roundw
        case rel => exact ⟨k + 1, z, by omega, rfl, by go_num, hz, HN2, by first | trivial | rfl⟩
        case measure => first | (simp [intOf]; done) | (simp [intOf]; omega)
    · obtain rfl : k = n := by omega
      go_wp2
      go_ret
      exact ⟨by rw [← HN.out]; rfl, by first | trivial | rfl⟩
/-- a list of numbers that was made -/
def ListNew (w : World) (n : Nat) (f : Nat → Nat) (e : Ending) (w' : World) : Prop := ∃ g c, e = .returned (.slice (some ⟨g, 0, none⟩) n c) ∧ Rw w.heap.size g n c (lsI n f) w' ∧ Below w.heap.size w w'
theorem l08Then_any (a b : Option Addr) (n ca cb : Nat) (f s : Nat → Nat) (w : World) (h1 : RO w.heap.size w a (lsI n f)) (h2 : RO w.heap.size w b (lsI n s)) (hl : n ≤ 16) (hf : ∀ i, i < n → f i < 65536) :
    Calls Try.prog 60 #[.slice a n ca, .slice b n cb] w (ListNew w n (G2.thn n f s)) := by
  obtain ⟨i0, hi, hz0, hz1, hz2⟩ := info_parts Try.info2
  have H2 := Lib.hid h2
  have HC : Hid (∀ (m : Nat) (W : World), Below w.heap.size w W → Calls Try.prog 66 #[.int .i64 m, .slice a n ca] W fun e w' => e = .returned (.int .i64 (G2.xrL f m n)) ∧ W = w') := fun m W hW => l08Row_any m a n ca f W ((h1.below hW).up hW.size) hl hf
  have R0 : Hid (Rw w.heap.size w.heap.size 0 0 (lsI 0 (G2.thn n f s)) (w.alloc (.cells #[] 2))) := Rw.empty w
  have B0 : Hid (Below w.heap.size w (w.alloc (.cells #[] 2))) := (Below.refl _ _).alloc (Nat.le_refl _) _
  clear h1 h2 hf
  go_enter Try.func60, Try.ntmps60
  go_wp2
  go_loopw [5, 6] (fun sv iv wr => ∃ k g2 cap2 : Nat, k ≤ n ∧ sv = .slice (some ⟨g2, 0, none⟩) k cap2 ∧ iv = .int .i64 k ∧ Hid (Rw w.heap.size g2 k cap2 (lsI k (G2.thn n f s)) wr) ∧ Hid (Below w.heap.size w wr)) (fun _ iv _ => n - (intOf iv).toNat)
  case atStart => exact ⟨0, _, _, Nat.zero_le _, rfl, rfl, R0, B0⟩
  case round =>
    obtain ⟨k, g2, cap2, hk, rfl, rfl, HS, HB⟩ := hrel
    clear R0 B0
    by_cases hlt : k < n
    · obtain ⟨g, off, rfl, hg, hc0⟩ := H2.out k _ (lsI_get s hlt)
      have hc := (HB.out.cell (p := ⟨g, off + k, none⟩) hg).trans hc0
      have hzz := HB.out.size
      have HV : Hid (G2.xrL f (s k) n = G2.thn n f s k) := rfl
      clear hc0
      go_wp2_with fail
      refine (HC.out (s k) wr HB.out).mono ?_
      rintro e w3 ⟨rfl, rfl⟩
      rw [HV.out]
      go_wp2_with (at_builtin; refine wpList_append_own_at _ rfl _ _ 22 rfl w.heap.size 2 i0 (.int .i64 0) 1 8 Try.underlying22 hi hz0 hz1 hz2 rfl (by decide) _ _ _ rfl (World.ownsRow.alloc (HS.out) _) ⟨wr.heap.size, 0, none⟩ 1 1 [.int .i64 (G2.thn n f s k : Nat)] rfl rfl (cell_one_new _ _ _) (by intro u hu; simp at hu; subst hu; rfl) (by unfold maxLen; omega) (by omega) (by first | (simp; done) | (simp; omega)) ?_; intro v1 w1 hown1 hgrow1 hnil1 hat1)
      obtain ⟨g1, cap1, rfl, hr1, hg1, hgr⟩ := Rw.app HS.out hown1 hgrow1 hat1
      have HB1 : Hid (Below w.heap.size w w1) := HB.out.grown hgr hzz (fun q e => by cases e; exact HS.out.le)
      have HS5 : Hid (Rw w.heap.size g1 (k + 1) cap1 (lsI (k + 1) (G2.thn n f s)) w1) := by
        unfold Hid
        rw [lsI_succ]
        exact hr1
      clear hown1 hgrow1 hnil1 hat1 hr1 hg1 hgr HS HB hc
      go_wp2
      go_roundw
      case rel => exact ⟨k + 1, g1, cap1, by omega, by first | rfl | go_num, by go_num, HS5, HB1⟩
      case measure => first | (simp [intOf]; done) | (simp [intOf]; omega)
    · obtain rfl : k = n := by omega
      go_wp2
      go_ret
      exact ⟨_, _, rfl, HS.out, HB.out⟩
set_option maxRecDepth 10000 in
theorem l08Power_any (a : Option Addr) (n ca N : Nat) (f : Nat → Nat) (w : World) (h1 : RO w.heap.size w a (lsI n f)) (hl : n ≤ 16) (hf : ∀ i, i < n → f i < 2 ^ n) (hN : N ≤ 1000000000000000000) :
    Calls Try.prog 44 #[.slice a n ca, .int .i64 N] w (ListNew w n (G2.pwL n f N)) := by
  obtain ⟨i0, hi, hz0, hz1, hz2⟩ := info_parts Try.info2
  have hp16 : 2 ^ n ≤ 65536 := by have := Nat.pow_le_pow_right (show 0 < 2 by omega) hl; omega
  have HT : Hid (∀ (a b : Option Addr) (ca cb : Nat) (o r : Nat → Nat) (W : World), RO W.heap.size W a (lsI n o) → RO W.heap.size W b (lsI n r) → (∀ i, i < n → o i < 2 ^ n) → Calls Try.prog 60 #[.slice a n ca, .slice b n cb] W (ListNew W n (G2.thn n o r))) := fun a b ca cb o r W ho hr hb => l08Then_any a b n ca cb o r W ho hr hl fun i hi => by have := hb i hi; omega
  have H1 := Lib.hid h1
  have HF := Lib.hid hf
  have R0 : Hid (Rw w.heap.size w.heap.size 0 0 (lsI 0 fun i => 2 ^ i) (w.alloc (.cells #[] 2))) := Rw.empty w
  have B0 : Hid (Below w.heap.size w (w.alloc (.cells #[] 2))) := (Below.refl _ _).alloc (Nat.le_refl _) _
  clear h1 hf hp16
  go_enter Try.func44, Try.ntmps44
  go_wp2
  go_loopw [5, 6] (fun sv iv wr => ∃ k g2 cap2 : Nat, k ≤ n ∧ sv = .slice (some ⟨g2, 0, none⟩) k cap2 ∧ iv = .int .i64 k ∧ Hid (Rw w.heap.size g2 k cap2 (lsI k fun i => 2 ^ i) wr) ∧ Hid (Below w.heap.size w wr)) (fun _ iv _ => n - (intOf iv).toNat)
  case atStart => exact ⟨0, _, _, Nat.zero_le _, rfl, rfl, R0, B0⟩
  case round =>
    obtain ⟨k, g2, cap2, hk, rfl, rfl, HS, HB⟩ := hrel
    clear R0 B0
    by_cases hlt : k < n
    · obtain ⟨p1, p2, _⟩ := pow_wrap (k := k) (by omega)
      have hzz := HB.out.size
      obtain ⟨p, hp⟩ : ∃ p, 2 ^ k = p := ⟨_, rfl⟩
      have HP := Lib.hid hp
      rw [hp] at p1 p2
      clear hp
      go_wp2_with (at_builtin; refine wpList_append_own_at _ rfl _ _ 22 rfl w.heap.size 2 i0 (.int .i64 0) 1 8 Try.underlying22 hi hz0 hz1 hz2 rfl (by decide) _ _ _ rfl (World.ownsRow.alloc (HS.out) _) ⟨wr.heap.size, 0, none⟩ 1 1 [.int .i64 (p : Nat)] rfl rfl (cell_one_new _ _ _) (by intro u hu; simp at hu; subst hu; rfl) (by unfold maxLen; omega) (by omega) (by first | (simp; done) | (simp; omega)) ?_; intro v1 w1 hown1 hgrow1 hnil1 hat1)
      obtain ⟨g1, cap1, rfl, hr1, hg1, hgr⟩ := Rw.app HS.out hown1 hgrow1 hat1
      have HB1 : Hid (Below w.heap.size w w1) := HB.out.grown hgr hzz (fun q e => by cases e; exact HS.out.le)
      have HS5 : Hid (Rw w.heap.size g1 (k + 1) cap1 (lsI (k + 1) fun i => 2 ^ i) w1) := by
        unfold Hid
        rw [lsI_succ, HP.out]
        exact hr1
      clear hown1 hgrow1 hnil1 hat1 hr1 hg1 hgr HS HB
      go_wp2
      go_roundw
      case rel => exact ⟨k + 1, g1, cap1, by omega, by first | rfl | go_num, by go_num, HS5, HB1⟩
      case measure => first | (simp [intOf]; done) | (simp [intOf]; omega)
    · obtain rfl : k = n := by omega
      clear hlt
      go_wp2
      go_loopw [0, 1, 5] (fun rv nv sv wr => ∃ (m g2 cap2 c2 : Nat) (b : Option Addr) (o r : Nat → Nat), m ≤ N ∧ rv = .slice b k c2 ∧ nv = .int .i64 m ∧ sv = .slice (some ⟨g2, 0, none⟩) k cap2 ∧ Hid (RO wr.heap.size wr b (lsI k r)) ∧ Hid (Rw w.heap.size g2 k cap2 (lsI k o) wr) ∧ Hid (Below w.heap.size w wr) ∧ Hid (∀ i, i < k → o i < 2 ^ k) ∧ Hid (∀ i, i < k → r i < 2 ^ k) ∧ Hid (G2.pwG k 64 o r m = G2.pwL k f N)) (fun _ nv _ _ => (intOf nv).toNat)
      case atStart => exact ⟨N, g2, cap2, ca, a, fun i => 2 ^ i, f, Nat.le_refl _, rfl, rfl, rfl, (H1.out.below HB.out).up HB.out.size, HS, HB, fun i hi => Nat.pow_lt_pow_right (by omega) hi, HF.out, rfl⟩
      case round =>
        obtain ⟨m, g3, cap3, c3, b, o, r, hm, rfl, rfl, rfl, JR, JS, JB, HO, HR, HE⟩ := hrel
        clear HS HB
        by_cases h0 : m = 0
        · subst h0
          have E0 : Hid (G2.pwL k f N = o) := by unfold Hid; rw [← HE.out]; rfl
          have RES : Hid (ListNew w k (G2.pwL k f N) (.returned (.slice (some ⟨g3, 0, none⟩) k cap3)) wr) := ⟨g3, cap3, rfl, by rw [E0.out]; exact JS.out, JB.out⟩
          clear JR JS JB HO HR HE HT E0
          go_wp2
          go_ret
          exact RES.out
        · have hn0 : 0 < m := by omega
          have hnI : (0 : Int) < (m : Int) := by omega
          have HS := G2.pwG_step k 64 o r m (by omega) h0
          rw [HE.out] at HS
          have HR2 : Hid (∀ i, i < k → G2.thn k r r i < 2 ^ k) := fun i _ => G2.thn_lt HR.out i
          rcases (show m % 2 = 1 ∨ m % 2 = 0 by omega) with hp | hp
          · rw [if_pos hp] at HS
            have HE2 := Lib.hid HS
            have t1 : ((m : Int) % 2) = 1 := by omega
            have HO2 : Hid (∀ i, i < k → G2.thn k o r i < 2 ^ k) := fun i _ => G2.thn_lt HO.out i
            clear HS HE
            go_wp2_with fail
            refine (HT.out _ b cap3 c3 o r wr JS.out.ro JR.out HO.out).mono ?_
            rintro e w5 ⟨g5, c5, rfl, hr5, hb5⟩
            have PS : Hid (Rw w.heap.size g5 k c5 (lsI k (G2.thn k o r)) w5) := hr5.base JB.out.size
            have PR : Hid (RO w5.heap.size w5 b (lsI k r)) := (JR.out.below hb5).up hb5.size
            have PB : Hid (Below w.heap.size w w5) := JB.out.trans (hb5.mono JB.out.size)
            clear hr5 hb5 JS JR JB
            go_wp2_with fail
            refine (HT.out b b c3 c3 r r w5 PR.out PR.out HR.out).mono ?_
            rintro e w7 ⟨g7, c7, rfl, hr7, hb7⟩
            have QS : Hid (Rw w.heap.size g5 k c5 (lsI k (G2.thn k o r)) w7) := PS.out.far hb7
            have QR : Hid (RO w7.heap.size w7 (some ⟨g7, 0, none⟩) (lsI k (G2.thn k r r))) := hr7.ro
            have QB : Hid (Below w.heap.size w w7) := PB.out.trans (hb7.mono PB.out.size)
            clear hr7 hb7 PS PR PB
            go_wp2
            go_roundw
            case rel => exact ⟨m / 2, g5, c5, c7, _, G2.thn k o r, G2.thn k r r, by omega, rfl, by go_num, rfl, QR, QS, QB, HO2, HR2, HE2⟩
            case measure => first | (simp [intOf]; done) | (simp [intOf]; omega)
          · rw [if_neg (by omega)] at HS
            have HE2 := Lib.hid HS
            have t1 : ((m : Int) % 2) = 0 := by omega
            clear HS HE
            go_wp2_with fail
            refine (HT.out b b c3 c3 r r wr JR.out JR.out HR.out).mono ?_
            rintro e w7 ⟨g7, c7, rfl, hr7, hb7⟩
            have QS : Hid (Rw w.heap.size g3 k cap3 (lsI k o) w7) := JS.out.far hb7
            have QR : Hid (RO w7.heap.size w7 (some ⟨g7, 0, none⟩) (lsI k (G2.thn k r r))) := hr7.ro
            have QB : Hid (Below w.heap.size w w7) := JB.out.trans (hb7.mono JB.out.size)
            clear hr7 hb7 JS JR JB
            go_wp2
            go_roundw
            case rel => exact ⟨m / 2, g3, cap3, c7, _, o, G2.thn k r r, by omega, rfl, by go_num, rfl, QR, QS, QB, HO, HR2, HE2⟩
            case measure => first | (simp [intOf]; done) | (simp [intOf]; omega)
/-- a valid machine, a state of it and a number of steps -/
def LinJ (x : Int) (xs : List Int) (o s n : Int) : Prop := (LinP x xs o ∧ InP x s) ∧ 0 ≤ n ∧ n ≤ 1000000000000000000
theorem jumpL_yes (W : Nat) (a : Option Addr) (c : Nat) (xs : List Int) (o s N : Nat) (w : World) (h : RO w.heap.size w a xs) (hP : LinP W xs o) (hS : InP W s) (hN : N ≤ 1000000000000000000) :
    Calls Try.prog 19 #[.agg #[.int .i64 W, .slice a W c, .int .i64 o], .int .i64 s, .int .i64 N] w fun e w' => e = .returned (.tuple #[.int .i64 (G2.mpL (G2.pwL 16 (rwF xs) N) s 16), .bool true]) ∧ Below w.heap.size w w' := by
  obtain ⟨h1, hn, hs1, hs2, ho, hf, hfW, hy, hz⟩ := linN hP hS
  have h0 : ∀ (i : Nat) (y : Int), xs[i]? = some y → 0 ≤ y := fun i y hh => by rw [hy i y hh]; omega
  have A0 := D3.new w (.int .i64 W) (.slice a W c) (.int .i64 o) 27
  have B0 : Below w.heap.size w (w.alloc (.cells #[.int .i64 W, .slice a W c, .int .i64 o] 27)) := (Below.refl _ _).alloc (Nat.le_refl _) _
  have HS := Lib.hid (hasStL_any W a W c xs o s true _ ((h.below B0).up B0.size) hn (by omega) ⟨fun _ => ⟨hP, hS⟩, fun _ => rfl⟩)
  have HI : Hid (∀ W : World, Calls Try.prog 30 #[.int .i64 N, .int .i64 0, .int .i64 1000000000000000000] W fun e w' => e = .returned (.bool true) ∧ W = w') := fun W => btw64_yes _ _ _ W (by omega) (by omega)
  have HR := Lib.hid h
  have HM : Hid (∀ V : World, RO V.heap.size V a xs → Calls Try.prog 45 #[.agg #[.int .i64 W, .slice a W c, .int .i64 o]] V fun e w' => e = .returned (.agg (vs 16 (rwF xs)).toArray) ∧ Below V.heap.size V w') := fun V hV => matrix_any W a W c xs o V hV hn (by omega) (by omega) h0
  have HP : Hid (∀ V : World, Calls Try.prog 46 #[.agg (vs 16 (rwF xs)).toArray, .int .i64 N] V fun e w' => e = .returned (.agg (vs 16 (G2.pwL 16 (rwF xs) N)).toArray) ∧ Below V.heap.size V w') := fun V => power_any (rwF xs) N V (fun i _ => hf i) hN
  have HA : Hid (∀ V : World, Calls Try.prog 47 #[.agg (vs 16 (G2.pwL 16 (rwF xs) N)).toArray, .int .i64 s] V fun e w' => e = .returned (.int .i64 (G2.mpL (G2.pwL 16 (rwF xs) N) s 16)) ∧ Below V.heap.size V w') := fun V => after_any _ s V (fun i hi => G2.pwL_lt (W := 16) (fun j _ => hf j) N i hi) hs2
  generalize G2.mpL (G2.pwL 16 (rwF xs) N) s 16 = t at HA ⊢
  generalize (vs 16 (G2.pwL 16 (rwF xs) N)).toArray = A2 at HA HP
  generalize (vs 16 (rwF xs)).toArray = A1 at HP HM
  clear h hP hS hf hfW hy hz h0 hs1 hs2 ho
  go_enter Try.func19, Try.ntmps19
  go_wp2_with fail
  generalize w.alloc (.cells #[.int .i64 W, .slice a W c, .int .i64 o] 27) = w0 at A0 B0 HS ⊢
  refine (HS.out).mono ?_
  rintro e w1 ⟨rfl, hb⟩
  obtain ⟨⟨x0, x1, x2⟩, _⟩ := A0.far hb
  have B1 := B0.trans (hb.mono B0.size)
  clear hb HS A0 B0
  go_wp2_with (go_at_call 30; with_reducible refine (HI.out _).mono ?_; rintro e w2 ⟨rfl, rfl⟩)
  refine (HM.out w1 ((HR.out.below B1).up B1.size)).mono ?_
  rintro e w2 ⟨rfl, hb⟩
  have B2 := B1.trans (hb.mono B1.size)
  clear hb B1 x0 x1 x2
  go_wp2_with fail
  refine (HP.out w2).mono ?_
  rintro e w3 ⟨rfl, hb⟩
  have B3 := B2.trans (hb.mono B2.size)
  clear hb B2
  go_wp2_with fail
  refine (HA.out w3).mono ?_
  rintro e w4 ⟨rfl, hb⟩
  have B4 := Lib.hid (B3.trans (hb.mono B3.size))
  clear hb B3
  go_wp2
  go_ret2
  exact ⟨rfl, B4.out⟩
theorem jumpL_no (x : Int) (a : Option Addr) (n c : Nat) (xs : List Int) (o s N : Int) (w : World) (h : RO w.heap.size w a xs) (hn : xs.length = n) (hl : n ≤ 1048576) (hP : ¬ LinJ x xs o s N) :
    Calls Try.prog 19 #[.agg #[.int .i64 x, .slice a n c, .int .i64 o], .int .i64 s, .int .i64 N] w fun e w' => e = .returned (.tuple #[.int .i64 0, .bool false]) ∧ Below w.heap.size w w' := by
  have B0 : Below w.heap.size w (w.alloc (.cells #[.int .i64 x, .slice a n c, .int .i64 o] 27)) := (Below.refl _ _).alloc (Nat.le_refl _) _
  by_cases hp : LinP x xs o ∧ InP x s
  · have HS := Lib.hid (hasStL_any x a n c xs o s true _ ((h.below B0).up B0.size) hn hl ⟨fun _ => hp, fun _ => rfl⟩)
    have HI : Hid (∀ W : World, Calls Try.prog 30 #[.int .i64 N, .int .i64 0, .int .i64 1000000000000000000] W fun e w' => e = .returned (.bool false) ∧ W = w') := fun W => btw64_no _ _ _ W (fun k => hP ⟨hp, k⟩)
    clear h hn hP hp
    go_enter Try.func19, Try.ntmps19
    go_wp2_with fail
    refine (HS.out).mono ?_
    rintro e w1 ⟨rfl, hb⟩
    have HB := Lib.hid (B0.trans (hb.mono B0.size))
    clear hb B0 HS
    go_wp2_with (go_at_call 30; with_reducible refine (HI.out _).mono ?_; rintro e w2 ⟨rfl, rfl⟩)
    go_ret2
    exact ⟨rfl, HB.out⟩
  · have HS := Lib.hid (hasStL_any x a n c xs o s false _ ((h.below B0).up B0.size) hn hl ⟨fun e => absurd e (by simp), fun k => absurd k hp⟩)
    clear h hn hP hp
    go_enter Try.func19, Try.ntmps19
    go_wp2_with fail
    refine (HS.out).mono ?_
    rintro e w1 ⟨rfl, hb⟩
    have HB := Lib.hid (B0.trans (hb.mono B0.size))
    clear hb B0 HS
    go_wp2
    go_ret2
    exact ⟨rfl, HB.out⟩
theorem specJumpL_yes (W : Nat) (a : Option Addr) (c : Nat) (xs : List Int) (o s N : Nat) (w : World) (h : RO w.heap.size w a xs) (hP : LinP W xs o) (hS : InP W s) (hN : N ≤ 1000000000000000000) :
    Calls Try.prog 18 #[.agg #[.int .i64 W, .slice a W c, .int .i64 o], .int .i64 s, .int .i64 N] w fun e w' => e = .returned (.tuple #[.int .i64 (G2.mpL (G2.pwL W (rwF xs) N) s W), .bool true]) ∧ Below w.heap.size w w' := by
  obtain ⟨h1, hn, hs1, hs2, ho, hf, hfW, hy, hz⟩ := linN hP hS
  have A0 := D3.new w (.int .i64 W) (.slice a W c) (.int .i64 o) 27
  have B0 : Below w.heap.size w (w.alloc (.cells #[.int .i64 W, .slice a W c, .int .i64 o] 27)) := (Below.refl _ _).alloc (Nat.le_refl _) _
  have hr0 := (h.below B0).up B0.size
  have HB := Lib.hid (l08Both_any w.heap.size W a W c xs o s true _ A0.1 hr0 hn (by omega) ⟨fun _ => ⟨hP, hS⟩, fun _ => rfl⟩)
  have HI : Hid (∀ W : World, Calls Try.prog 40 #[.int .i64 N, .int .i64 0, .int .i64 1000000000000000000] W fun e w' => e = .returned (.bool true) ∧ W = w') := fun W => l00In_yes _ _ _ W (by omega) (by omega)
  have hxs := lsI_of hn hy
  have hpl : ∀ i, i < W → G2.pwL W (rwF xs) N i < 2 ^ W := fun i hi => G2.pwL_lt (fun j _ => hfW j) N i hi
  have hp16 : 2 ^ W ≤ 65536 := by have := Nat.pow_le_pow_right (show 0 < 2 by omega) h1.2; omega
  have HP : Hid (∀ V : World, RO V.heap.size V a xs → Calls Try.prog 44 #[.slice a W c, .int .i64 N] V (ListNew V W (G2.pwL W (rwF xs) N))) := fun V hV => l08Power_any a W c N (rwF xs) V (by rw [← hxs]; exact hV) h1.2 (fun i _ => hfW i) hN
  have HM : Hid (∀ (V : World) g cc, RO V.heap.size V (some ⟨g, 0, none⟩) (lsI W (G2.pwL W (rwF xs) N)) → Calls Try.prog 43 #[.slice (some ⟨g, 0, none⟩) W cc, .int .i64 s] V fun e w' => e = .returned (.int .i64 (G2.mpL (G2.pwL W (rwF xs) N) s W)) ∧ V = w') := fun V g cc hV => by
    have hrw : ∀ i, i < W → rwF (lsI W (G2.pwL W (rwF xs) N)) i = G2.pwL W (rwF xs) N i := fun i hi => by
      unfold rwF
      rw [List.getD_eq_getElem?_getD, lsI_get _ hi]; simp
    have hrz : ∀ i, W ≤ i → rwF (lsI W (G2.pwL W (rwF xs) N)) i = 0 := fun i hi => by
      unfold rwF
      rw [List.getD_eq_getElem?_getD, List.getElem?_eq_none (by rw [lsI_length]; exact hi)]; rfl
    have := l08Map_any (some ⟨g, 0, none⟩) W cc (lsI W (G2.pwL W (rwF xs) N)) s V hV (lsI_length _ _) h1.2 (fun i => by
      by_cases hi : i < W
      · rw [hrw i hi]; have := hpl i hi; omega
      · rw [hrz i (by omega)]; omega) (fun i y hh => by
      have hi : i < W := by have := (List.getElem?_eq_some_iff.1 hh).1; rwa [lsI_length] at this
      rw [lsI_get _ hi] at hh
      cases hh
      rw [hrw i hi]) hs2
    have e : G2.mpL (rwF (lsI W (G2.pwL W (rwF xs) N))) s W = G2.mpL (G2.pwL W (rwF xs) N) s W := by
      apply Nat.eq_of_testBit_eq
      intro j
      rw [G2.mpL_bit, G2.mpL_bit]
      by_cases hj : j < W
      · rw [hrw j hj]
      · simp [hj]
    rwa [e] at this
  have HR := Lib.hid h
  have HB0 := Lib.hid B0
  have HA0 := Lib.hid A0
  generalize G2.mpL (G2.pwL W (rwF xs) N) s W = t at HM ⊢
  clear h hP hS hf hfW hy hz hs1 hs2 ho hxs hpl hp16 hr0 A0 B0
  go_enter Try.func18, Try.ntmps18
  go_wp2_with fail
  generalize w.alloc (.cells #[.int .i64 W, .slice a W c, .int .i64 o] 27) = w0 at HA0 HB0 HB ⊢
  refine HB.out.mono ?_
  rintro e w1 ⟨rfl, m, rfl⟩
  obtain ⟨⟨x0, x1, x2⟩, _⟩ := HA0.out.drewN m
  have B1 := below_drewN HB0.out m
  generalize w0.drewN m = w1 at x0 x1 x2 B1 ⊢
  clear HB HA0 HB0
  go_wp2_with (go_at_call 40; with_reducible refine (HI.out _).mono ?_; rintro e w2 ⟨rfl, rfl⟩)
  refine (HP.out w1 ((HR.out.below B1).up B1.size)).mono ?_
  rintro e w3 ⟨g, cc, rfl, hr, hb⟩
  have B3 := B1.trans (hb.mono B1.size)
  have HRR := Lib.hid hr.ro
  clear hb B1 x0 x1 x2 hr
  go_wp2_with fail
  refine (HM.out w3 g cc HRR.out).mono ?_
  rintro e w4 ⟨rfl, rfl⟩
  have HB4 := Lib.hid B3
  clear B3
  go_wp2
  go_ret2
  exact ⟨rfl, HB4.out⟩
theorem specJumpL_no (x : Int) (a : Option Addr) (n c : Nat) (xs : List Int) (o s N : Int) (w : World) (h : RO w.heap.size w a xs) (hn : xs.length = n) (hl : n ≤ 1048576) (hP : ¬ LinJ x xs o s N) :
    Calls Try.prog 18 #[.agg #[.int .i64 x, .slice a n c, .int .i64 o], .int .i64 s, .int .i64 N] w fun e w' => e = .returned (.tuple #[.int .i64 0, .bool false]) ∧ Below w.heap.size w w' := by
  have A0 := D3.new w (.int .i64 x) (.slice a n c) (.int .i64 o) 27
  have B0 : Below w.heap.size w (w.alloc (.cells #[.int .i64 x, .slice a n c, .int .i64 o] 27)) := (Below.refl _ _).alloc (Nat.le_refl _) _
  have HB0 := Lib.hid B0
  by_cases hp : LinP x xs o ∧ InP x s
  · have HB := Lib.hid (l08Both_any w.heap.size x a n c xs o s true _ A0.1 ((h.below B0).up B0.size) hn hl ⟨fun _ => hp, fun _ => rfl⟩)
    have HI : Hid (∀ W : World, Calls Try.prog 40 #[.int .i64 N, .int .i64 0, .int .i64 1000000000000000000] W fun e w' => e = .returned (.bool false) ∧ W = w') := fun W => l00In_no _ _ _ W (fun k => hP ⟨hp, k⟩)
    clear h hn hP hp A0 B0
    go_enter Try.func18, Try.ntmps18
    go_wp2_with fail
    refine HB.out.mono ?_
    rintro e w1 ⟨rfl, m, rfl⟩
    go_wp2_with (go_at_call 40; with_reducible refine (HI.out _).mono ?_; rintro e w2 ⟨rfl, rfl⟩)
    go_ret2
    exact ⟨rfl, below_drewN HB0.out _⟩
  · have HB := Lib.hid (l08Both_any w.heap.size x a n c xs o s false _ A0.1 ((h.below B0).up B0.size) hn hl ⟨fun e => absurd e (by simp), fun k => absurd k hp⟩)
    clear h hn hP hp A0 B0
    go_enter Try.func18, Try.ntmps18
    go_wp2_with fail
    refine HB.out.mono ?_
    rintro e w1 ⟨rfl, m, rfl⟩
    go_wp2
    go_ret2
    exact ⟨rfl, below_drewN HB0.out _⟩
theorem lawJumpL (x : Int) (a : Option Addr) (n cap : Nat) (zs : List Int) (o s N : Int) (w : World) (h : RowIn .i64 w a n zs) :
    Calls Try.prog 6 #[.agg #[.int .i64 x, .slice a n cap, .int .i64 o], .int .i64 s, .int .i64 N] w fun e w' => e = .returned (.bool true) ∧ Below w.heap.size w w' :=
  lawJumpLinear_any x a n cap zs o s N w h fun xs hn hl hr => by
    by_cases hP : LinJ x xs o s N
    · obtain ⟨W, O, S, rfl, rfl, rfl⟩ := linI hP.1
      obtain ⟨M, rfl⟩ := Int.eq_ofNat_of_zero_le hP.2.1
      have hM : M ≤ 1000000000000000000 := by have := hP.2.2; omega
      obtain ⟨h1, hn2, hs1, hs2, ho, hf, hfW, hy, hz⟩ := linN hP.1.1 hP.1.2
      obtain rfl : n = W := by omega
      have e := G2.mpL_same h1.2 (fun i _ => hfW i) hz M S hs1
      refine lawJumpLinear_core n a n cap xs O S M (G2.mpL (G2.pwL n (rwF xs) M) S n : Nat) true w hr hn hl (fun W' b' c hr' _ => specJumpL_yes n b' c xs O S M W' hr' hP.1.1 hP.1.2 hM) (fun W' b' c hr' _ => ?_)
      have := jumpL_yes n b' c xs O S M W' hr' hP.1.1 hP.1.2 hM
      rwa [e] at this
    · exact lawJumpLinear_core x a n cap xs o s N 0 false w hr hn hl (fun W b' c hr' _ => specJumpL_no x b' n c xs o s N W hr' hn hl hP) (fun W b' c hr' _ => jumpL_no x b' n c xs o s N W hr' hn hl hP)
end Go.Proofs.Ytciofobedgmbjaa
