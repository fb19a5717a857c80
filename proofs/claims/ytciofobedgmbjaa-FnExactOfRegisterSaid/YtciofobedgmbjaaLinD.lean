/- Linear machines: a step in the specification; the law FnExactStepLinear. -/
import Derived.Test.YtciofobedgmbjaaLinC
import Derived.Test.YtciofobedgmbjaaLinV
namespace Go.Proofs.Ytciofobedgmbjaa
open Go.RowKit Go.PlainAid
set_option maxHeartbeats 800000

/-- a valid machine in numbers -/
theorem linN {W : Nat} {xs : List Int} {o s : Nat} (hP : LinP W xs o) (hS : InP W s) : (1 ≤ W ∧ W ≤ 16) ∧ xs.length = W ∧ s < 2 ^ W ∧ s < 65536 ∧ o < 65536 ∧ (∀ i, rwF xs i < 65536) ∧ (∀ i, rwF xs i < 2 ^ W) ∧ (∀ (i : Nat) (y : Int), xs[i]? = some y → y = (rwF xs i : Nat)) ∧ ∀ i, W ≤ i → rwF xs i = 0 := by
  have hn : xs.length = W := by have := hP.2.1; omega
  have h1 := hP.1
  have hlt : ∀ t : Int, InP W t → ∃ m : Nat, t = m ∧ m < 2 ^ W ∧ m < 65536 := fun t ht => state_of (by omega) ht
  have hp : 0 < 2 ^ W := Nat.pow_pos (by omega)
  have hr : ∀ i, rwF xs i < 2 ^ W ∧ rwF xs i < 65536 := fun i => by
    unfold rwF
    by_cases e : i < xs.length
    · have hx : xs[i]? = some xs[i] := List.getElem?_eq_getElem e
      obtain ⟨m, h2, h3⟩ := hlt _ (hP.2.2.1 i _ hx)
      rw [List.getD_eq_getElem?_getD, hx]
      simp only [Option.getD_some]
      omega
    · rw [List.getD_eq_getElem?_getD, List.getElem?_eq_none (by omega)]
      simp only [Option.getD_none]
      omega
  obtain ⟨m, h2, h3⟩ := hlt s hS
  obtain ⟨m2, h4, h5⟩ := hlt o hP.2.2.2
  refine ⟨by omega, hn, by omega, by omega, by omega, fun i => (hr i).2, fun i => (hr i).1, fun i y hy => ?_, fun i hi => ?_⟩
  · obtain ⟨m3, h6, _⟩ := hlt y (hP.2.2.1 i y hy)
    unfold rwF
    rw [List.getD_eq_getElem?_getD, hy]
    simp only [Option.getD_some]
    omega
  · unfold rwF
    rw [List.getD_eq_getElem?_getD, List.getElem?_eq_none (by omega)]; rfl
theorem linI {x : Int} {xs : List Int} {o s : Int} (h : LinP x xs o ∧ InP x s) : ∃ W O S : Nat, x = W ∧ o = O ∧ s = S := by
  obtain ⟨h1, h2⟩ := h
  obtain ⟨W, rfl⟩ := Int.eq_ofNat_of_zero_le (show 0 ≤ x by have := h1.1; omega)
  obtain ⟨O, e, _⟩ := state_of (by have := h1.1; omega) h1.2.2.2
  obtain ⟨S, e2, _⟩ := state_of (by have := h1.1; omega) h2
  exact ⟨W, O, S, rfl, e, e2⟩
theorem l08Map_any (a : Option Addr) (n c : Nat) (xs : List Int) (s : Nat) (w : World) (h : RO w.heap.size w a xs) (hn : xs.length = n) (hl : n ≤ 16) (hf : ∀ i, rwF xs i < 65536) (hy : ∀ (i : Nat) (y : Int), xs[i]? = some y → y = (rwF xs i : Nat)) (hs : s < 65536) :
    Calls Try.prog 43 #[.slice a n c, .int .i64 s] w fun e w' => e = .returned (.int .i64 (G2.mpL (rwF xs) s n)) ∧ w = w' := by
  have HR := Lib.hid h
  have HN := Lib.hid hn
  have HY := Lib.hid hy
  clear h hn hy
  go_enter Try.func43, Try.ntmps43
  go_wp2
  go_loopw [5, 6] (fun nv iv wr => ∃ k m : Nat, k ≤ n ∧ nv = .int .i64 m ∧ iv = .int .i64 k ∧ Hid (m = G2.mpL (rwF xs) s k) ∧ w = wr) (fun _ iv _ => n - (intOf iv).toNat)
  case atStart => exact ⟨0, 0, Nat.zero_le _, rfl, rfl, rfl, rfl⟩
  case round =>
    obtain ⟨k, m, hk, rfl, rfl, HM, rfl⟩ := hrel
    by_cases hlt : k < n
    · have hk16 : k < 16 := by omega
      obtain ⟨y, hyk⟩ : ∃ y, xs[k]? = some y := ⟨_, List.getElem?_eq_getElem (by have := HN.out; omega)⟩
      obtain ⟨g, off, rfl, hg, hc⟩ := HR.out k y hyk
      obtain rfl := HY.out k y hyk
      have hfk := hf k
      obtain ⟨r, hr⟩ : ∃ r, rwF xs k = r := ⟨_, rfl⟩
      have HMR := Lib.hid hr
      rw [hr] at hc hfk
      obtain ⟨q, hq⟩ : ∃ q, r &&& s = q := ⟨_, rfl⟩
      have hq1 : q ≤ r := by rw [← hq]; exact Nat.and_le_left
      have E := i64_andI (r : Int) (s : Int) r s q rfl rfl hq (by omega) (by omega)
      obtain ⟨d, hd⟩ : ∃ c, Pop.pcF 64 q % 2 = c := ⟨_, rfl⟩
      have HP : Hid (∀ W : World, Calls Try.prog 57 #[.int .i64 q] W fun e w' => e = .returned (.int .i64 d) ∧ W = w') := fun W => by rw [← hd]; exact l02Parity_any q W (by omega)
      have HO := mp_or (rwF xs) s k d hk16 (by unfold G2.pv; rw [hr, hq]; exact hd)
      rw [← HM.out] at HO
      obtain ⟨n2, hn2⟩ : ∃ n2, G2.mpL (rwF xs) s (k + 1) = n2 := ⟨_, rfl⟩
      rw [hn2] at HO
      have HN2 : Hid (n2 = G2.mpL (rwF xs) s (k + 1)) := hn2.symm
      clear hq hd hn2 HM hyk hr hf
      go_wp2_with (go_at_call 57; with_reducible refine (HP.out _).mono ?_; rintro e w1 ⟨rfl, rfl⟩)
      go_roundw
      case rel => exact ⟨k + 1, n2, by omega, by first | rfl | (rw [HO]), by go_num, HN2, by first | trivial | rfl⟩
      case measure => first | (simp [intOf]; done) | (simp [intOf]; omega)
    · obtain rfl : k = n := by omega
      go_wp2
      go_ret
      exact ⟨by rw [← HM.out]; rfl, by first | trivial | rfl⟩
theorem l08Both_any (g : Nat) (x : Int) (a : Option Addr) (n c : Nat) (xs : List Int) (o s : Int) (b : Bool) (w : World) (hc : w.cell? ⟨g, 0, none⟩ = some (.int .i64 x) ∧ w.cell? ⟨g, 1, none⟩ = some (.slice a n c) ∧ w.cell? ⟨g, 2, none⟩ = some (.int .i64 o)) (h : RO w.heap.size w a xs) (hn : xs.length = n) (hl : n ≤ 1048576) (hb : b = true ↔ LinP x xs o ∧ InP x s) :
    Calls Try.prog 35 #[.pointer (some ⟨g, 0, none⟩), .int .i64 s] w fun e w' => e = .returned (.bool b) ∧ ∃ m, w' = w.drewN m := by
  by_cases hp : LinP x xs o
  · have HL := Lib.hid (l08Is_any g x a n c xs o true w hc h hn hl ⟨fun _ => hp, fun _ => rfl⟩)
    obtain ⟨W, rfl⟩ := Int.eq_ofNat_of_zero_le (show 0 ≤ x by have := hp.1; omega)
    have HS : Hid (∀ w : World, Calls Try.prog 56 #[.int .i64 W, .int .i64 s] w fun e w' => e = .returned (.bool b) ∧ w = w') := fun w => l02State_b W s b w (by have := hp.1; omega) (by
      rw [Bool.eq_iff_iff, decide_eq_true_eq, hb]
      exact ⟨fun k => ⟨hp, k⟩, fun k => k.2⟩)
    obtain ⟨c0, c1, c2⟩ := hc
    clear h hn hb hp
    cases b
    all_goals
      go_enter Try.func35, Try.ntmps35
      go_wp2_with fail
      refine HL.out.mono ?_
      rintro e w1 ⟨rfl, m, rfl⟩
      have d0 : (w.drewN m).cell? ⟨g, 0, none⟩ = some (.int .i64 W) := c0
      go_wp2_with (go_at_call 56; with_reducible refine (HS.out _).mono ?_; rintro e w1 ⟨rfl, rfl⟩)
      go_ret
      exact ⟨rfl, m, rfl⟩
  · have HL := Lib.hid (l08Is_any g x a n c xs o false w hc h hn hl ⟨fun e => absurd e (by simp), fun k => absurd k hp⟩)
    obtain rfl : b = false := by
      cases b with
      | false => rfl
      | true => exact absurd (hb.1 rfl).1 hp
    clear h hn hb hp hc
    go_enter Try.func35, Try.ntmps35
    go_wp2_with fail
    refine HL.out.mono ?_
    rintro e w1 ⟨rfl, m, rfl⟩
    go_wp2
    go_ret
    exact ⟨rfl, m, rfl⟩
theorem l08Step_any (g : Nat) (W : Nat) (a : Option Addr) (c : Nat) (xs : List Int) (o s : Nat) (w : World) (hc : w.cell? ⟨g, 0, none⟩ = some (.int .i64 W) ∧ w.cell? ⟨g, 1, none⟩ = some (.slice a W c) ∧ w.cell? ⟨g, 2, none⟩ = some (.int .i64 o)) (h : RO w.heap.size w a xs) (hn : xs.length = W) (hl : W ≤ 16) (hf : ∀ i, rwF xs i < 65536) (hy : ∀ (i : Nat) (y : Int), xs[i]? = some y → y = (rwF xs i : Nat)) (hs : s < 65536) (ho : o < 65536) :
    Calls Try.prog 36 #[.pointer (some ⟨g, 0, none⟩), .int .i64 s] w fun e w' => e = .returned (.tuple #[.int .i64 (G2.mpL (rwF xs) s W), .int .i64 (G2.pv o s)]) ∧ ∃ m, w' = w.drewN m := by
  obtain ⟨c0, c1, c2⟩ := hc
  obtain ⟨q, hq⟩ : ∃ q, o &&& s = q := ⟨_, rfl⟩
  have hq1 : q ≤ o := by rw [← hq]; exact Nat.and_le_left
  have E := i64_andI (o : Int) (s : Int) o s q rfl rfl hq (by omega) (by omega)
  obtain ⟨d, hd⟩ : ∃ c, Pop.pcF 64 q % 2 = c := ⟨_, rfl⟩
  have HP : Hid (∀ W : World, Calls Try.prog 57 #[.int .i64 q] W fun e w' => e = .returned (.int .i64 d) ∧ W = w') := fun W => by rw [← hd]; exact l02Parity_any q W (by omega)
  have HV : Hid (G2.pv o s = d) := by unfold Hid G2.pv; rw [hq]; exact hd
  have HM : Hid (∀ m : Nat, Calls Try.prog 43 #[.slice a W c, .int .i64 s] (w.drewN m) fun e w' => e = .returned (.int .i64 (G2.mpL (rwF xs) s W)) ∧ w.drewN m = w') := fun m => l08Map_any a W c xs s _ h hn hl hf hy hs
  rw [HV.out]
  generalize G2.mpL (rwF xs) s W = t at HM ⊢
  clear h hn hf hy hq hd
  go_enter Try.func36, Try.ntmps36
  go_wp2
  go_quiet ((first | (go_at_call 57; with_reducible exact quietG (HP.out _)) | (go_at_call 43; with_reducible exact quietG (HM.out _))))
  go_wp2
  go_ret2
  exact ⟨rfl, _, rfl⟩
theorem specStepL_yes (W : Nat) (a : Option Addr) (c : Nat) (xs : List Int) (o s : Nat) (w : World) (h : RO w.heap.size w a xs) (hP : LinP W xs o) (hS : InP W s) :
    Calls Try.prog 14 #[.agg #[.int .i64 W, .slice a W c, .int .i64 o], .int .i64 s] w fun e w' => e = .returned (.tuple #[.int .i64 (G2.mpL (rwF xs) s W), .int .i64 (G2.pv o s), .bool true]) ∧ Below w.heap.size w w' := by
  obtain ⟨h1, hn, hs1, hs2, ho, hf, _, hy, _⟩ := linN hP hS
  have A0 := D3.new w (.int .i64 W) (.slice a W c) (.int .i64 o) 27
  have B0 : Below w.heap.size w (w.alloc (.cells #[.int .i64 W, .slice a W c, .int .i64 o] 27)) := (Below.refl _ _).alloc (Nat.le_refl _) _
  have hr0 := (h.below B0).up B0.size
  have HB := Lib.hid (l08Both_any w.heap.size W a W c xs o s true _ A0.1 hr0 hn (by omega) ⟨fun _ => ⟨hP, hS⟩, fun _ => rfl⟩)
  have HT : Hid (∀ m : Nat, Calls Try.prog 36 #[.pointer (some ⟨w.heap.size, 0, none⟩), .int .i64 s] ((w.alloc (.cells #[.int .i64 W, .slice a W c, .int .i64 o] 27)).drewN m) fun e w' => e = .returned (.tuple #[.int .i64 (G2.mpL (rwF xs) s W), .int .i64 (G2.pv o s)]) ∧ ∃ k, w' = ((w.alloc (.cells #[.int .i64 W, .slice a W c, .int .i64 o] 27)).drewN m).drewN k) := fun m => l08Step_any w.heap.size W a c xs o s _ A0.1 hr0 hn (by omega) hf hy hs2 ho
  have HB0 := Lib.hid B0
  generalize G2.mpL (rwF xs) s W = t at HT ⊢
  generalize G2.pv o s = d at HT ⊢
  clear A0 B0 hr0 hP hS hy hf h
  go_enter Try.func14, Try.ntmps14
  go_wp2_with fail
  generalize w.alloc (.cells #[.int .i64 W, .slice a W c, .int .i64 o] 27) = w0 at HB HT HB0 ⊢
  refine HB.out.mono ?_
  rintro e w1 ⟨rfl, m, rfl⟩
  go_wp2_with fail
  refine (HT.out m).mono ?_
  rintro e w2 ⟨rfl, k, rfl⟩
  go_wp2
  go_ret3
  exact ⟨rfl, below_drewN HB0.out _⟩
theorem specStepL_no (x : Int) (a : Option Addr) (n c : Nat) (xs : List Int) (o s : Int) (w : World) (h : RO w.heap.size w a xs) (hn : xs.length = n) (hl : n ≤ 1048576) (hP : ¬ (LinP x xs o ∧ InP x s)) :
    Calls Try.prog 14 #[.agg #[.int .i64 x, .slice a n c, .int .i64 o], .int .i64 s] w fun e w' => e = .returned (.tuple #[.int .i64 0, .int .i64 0, .bool false]) ∧ Below w.heap.size w w' := by
  have A0 := D3.new w (.int .i64 x) (.slice a n c) (.int .i64 o) 27
  have B0 : Below w.heap.size w (w.alloc (.cells #[.int .i64 x, .slice a n c, .int .i64 o] 27)) := (Below.refl _ _).alloc (Nat.le_refl _) _
  have HB := Lib.hid (l08Both_any w.heap.size x a n c xs o s false _ A0.1 ((h.below B0).up B0.size) hn hl ⟨fun e => absurd e (by simp), fun k => absurd k hP⟩)
  have HB0 := Lib.hid B0
  clear A0 B0 hP h hn
  go_enter Try.func14, Try.ntmps14
  go_wp2_with fail
  refine HB.out.mono ?_
  rintro e w1 ⟨rfl, m, rfl⟩
  go_wp2
  go_ret3
  exact ⟨rfl, below_drewN HB0.out _⟩
theorem lawStepL (x : Int) (a : Option Addr) (n cap : Nat) (zs : List Int) (o s : Int) (w : World) (h : RowIn .i64 w a n zs) :
    Calls Try.prog 4 #[.agg #[.int .i64 x, .slice a n cap, .int .i64 o], .int .i64 s] w fun e w' => e = .returned (.bool true) ∧ Below w.heap.size w w' :=
  lawStepLinear_any x a n cap zs o s w h fun xs hn hl hr => by
    by_cases hP : LinP x xs o ∧ InP x s
    · obtain ⟨W, O, S, rfl, rfl, rfl⟩ := linI hP
      obtain ⟨h1, hn2, hs1, hs2, ho, hf, hfW, hy, hz⟩ := linN hP.1 hP.2
      obtain rfl : n = W := by omega
      have e : G2.mpL (rwF xs) S 16 = G2.mpL (rwF xs) S n := by
        have := G2.mpL_more (R := rwF xs) (R' := rwF xs) (s := S) (W := n) (fun _ _ => rfl) (fun i hi => by rw [hz i hi, G2.pv_zero]) (16 - n)
        rwa [show n + (16 - n) = 16 by omega] at this
      refine lawStepLinear_core n a n cap xs O S (G2.mpL (rwF xs) S n : Nat) (G2.pv O S : Nat) true w hr hn hl (fun W' b' c hr' _ => specStepL_yes n b' c xs O S W' hr' hP.1 hP.2) (fun W' b' c hr' _ => ?_)
      have := stepL_yes n b' c xs O S W' hr' hP.1 hP.2
      rwa [e] at this
    · exact lawStepLinear_core x a n cap xs o s 0 0 false w hr hn hl (fun W b' c hr' _ => specStepL_no x b' n c xs o s W hr' hn hl hP) (fun W b' c hr' _ => stepL_no x b' n c xs o s W hr' hn hl hP)
end Go.Proofs.Ytciofobedgmbjaa
