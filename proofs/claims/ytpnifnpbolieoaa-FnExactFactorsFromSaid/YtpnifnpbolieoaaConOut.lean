/- What outputs tell: impl.areOutputs, impl.differencesOf, spec.l03Outputs, impl.ModulusFrom, spec.ModulusFrom, the law FnExactModulusFrom. -/
import Derived.Test.YtpnifnpbolieoaaRowL
import Derived.Test.YtpnifnpbolieoaaGcd
import Derived.RegionTactic
import Derived.ChangeAlike
namespace Go.Proofs.Ytpnifnpbolieoaa
open Go.RowKit Go.PlainAid
set_option maxHeartbeats 800000

/-- the first k numbers lie from 0 on below m -/
def Inm (xs : List Int) (m : Int) (k : Nat) : Prop := ∀ i x, i < k → xs[i]? = some x → 0 ≤ x ∧ x ≤ m - 1
theorem Inm.next {xs : List Int} {m x : Int} {k : Nat} (h : Inm xs m k) (hx : xs[k]? = some x) (h0 : 0 ≤ x ∧ x ≤ m - 1) : Inm xs m (k + 1) := fun i y hi hy => by
  by_cases e : i = k
  · subst e
    rw [hx] at hy
    cases hy
    exact h0
  · exact h i y (by omega) hy
/-- outputs with a modulus -/
def OutP (xs : List Int) (m : Int) : Prop := (3 ≤ xs.length ∧ xs.length ≤ 64) ∧ Inm xs m xs.length

theorem areOut_yes (a : Option Addr) (n cap : Nat) (xs : List Int) (m : Int) (w : World) (h : RO w.heap.size w a xs) (hn : xs.length = n) (m0 : 0 ≤ m) (m1 : m ≤ 100000) (hO : OutP xs m) :
    Calls Try.prog 61 #[.slice a n cap, .int .i64 m] w fun e w' => e = .returned (.bool true) ∧ w = w' := by
  have HR := Lib.hid h
  have hlen := Lib.hid hn
  have HO := Lib.hid hO
  have HL : Hid (∀ w : World, Calls Try.prog 103 #[.int .i64 n, .int .i64 3, .int .i64 64] w fun e w' => e = .returned (.bool true) ∧ w = w') := fun w => btwI_yes _ _ _ _ (by have := hO.1; omega) (by have := hO.1; omega)
  have hn2 : n ≤ 64 := by have := hO.1; omega
  clear h hn hO
  go_enter Try.func61, Try.ntmps61
  go_wp2_with (go_at_call 103; with_reducible refine (HL.out _).mono ?_; rintro e w1 ⟨rfl, rfl⟩)
  go_loop [6, 13] (fun _ iv => ∃ k : Nat, k ≤ n ∧ iv = .int .i64 k) (fun _ iv => n - (intOf iv).toNat)
  case atStart => exact ⟨0, Nat.zero_le _, rfl⟩
  case round =>
    obtain ⟨k, hk, rfl⟩ := hrel
    by_cases hlt : k < n
    · obtain ⟨x, hx⟩ : ∃ x, xs[k]? = some x := ⟨_, List.getElem?_eq_getElem (by have := hlen.out; omega)⟩
      obtain ⟨g, off, rfl, hg, hc⟩ := HR.out k x hx
      have hx2 := HO.out.2 k x (by have := hlen.out; omega) hx
      have HI : Hid (∀ w : World, Calls Try.prog 93 #[.int .i64 x, .int .i64 0, .int .i64 (m - 1)] w fun e w' => e = .returned (.bool true) ∧ w = w') := fun w => btw64_yes _ _ _ _ hx2.1 hx2.2
      clear hx hx2
      go_wp2_with (go_at_call 93; with_reducible refine (HI.out _).mono ?_; rintro e w1 ⟨rfl, rfl⟩)
      go_round
      case rel => exact ⟨k + 1, by omega, by go_num⟩
      case measure => simp [intOf]; omega
    · obtain rfl : k = n := by omega
      go_wp2
      go_ret
      exact ⟨rfl, rfl⟩
theorem areOut_no (a : Option Addr) (n cap : Nat) (xs : List Int) (m : Int) (w : World) (h : RO w.heap.size w a xs) (hn : xs.length = n) (hl : n ≤ 1048576) (m0 : 0 ≤ m) (m1 : m ≤ 100000) (hO : ¬ OutP xs m) :
    Calls Try.prog 61 #[.slice a n cap, .int .i64 m] w fun e w' => e = .returned (.bool false) ∧ w = w' := by
  have HR := Lib.hid h
  have hlen := Lib.hid hn
  have HO := Lib.hid hO
  clear h hO
  by_cases hb : 3 ≤ n ∧ n ≤ 64
  · have HL : Hid (∀ w : World, Calls Try.prog 103 #[.int .i64 n, .int .i64 3, .int .i64 64] w fun e w' => e = .returned (.bool true) ∧ w = w') := fun w => btwI_yes _ _ _ _ (by omega) (by omega)
    have HB : Hid (3 ≤ n ∧ n ≤ 64) := hb
    clear hn hb
    go_enter Try.func61, Try.ntmps61
    go_wp2_with (go_at_call 103; with_reducible refine (HL.out _).mono ?_; rintro e w1 ⟨rfl, rfl⟩)
    go_loop [6, 13] (fun _ iv => ∃ k : Nat, k ≤ n ∧ iv = .int .i64 k ∧ Hid (Inm xs m k)) (fun _ iv => n - (intOf iv).toNat)
    case atStart => exact ⟨0, Nat.zero_le _, rfl, fun i x hi _ => by omega⟩
    case round =>
      obtain ⟨k, hk, rfl, HK⟩ := hrel
      have hlt : k < n := by
        apply Nat.lt_of_le_of_ne hk
        intro e
        exact HO.out ⟨by rw [hlen.out]; exact HB.out, by rw [hlen.out, ← e]; exact HK.out⟩
      obtain ⟨x, hx⟩ : ∃ x, xs[k]? = some x := ⟨_, List.getElem?_eq_getElem (by have := hlen.out; omega)⟩
      have HX := Lib.hid hx
      obtain ⟨g, off, rfl, hg, hc⟩ := HR.out k x hx
      by_cases hx2 : 0 ≤ x ∧ x ≤ m - 1
      · have HI : Hid (∀ w : World, Calls Try.prog 93 #[.int .i64 x, .int .i64 0, .int .i64 (m - 1)] w fun e w' => e = .returned (.bool true) ∧ w = w') := fun w => btw64_yes _ _ _ _ hx2.1 hx2.2
        have HK2 := Lib.hid (HK.out.next hx hx2)
        clear hx hx2
        go_wp2_with (go_at_call 93; with_reducible refine (HI.out _).mono ?_; rintro e w1 ⟨rfl, rfl⟩)
        go_round
        case rel => exact ⟨k + 1, by omega, by go_num, HK2⟩
        case measure => simp [intOf]; omega
      · have HI : Hid (∀ w : World, Calls Try.prog 93 #[.int .i64 x, .int .i64 0, .int .i64 (m - 1)] w fun e w' => e = .returned (.bool false) ∧ w = w') := fun w => btw64_no _ _ _ _ hx2
        clear hx hx2
        go_wp2_with (go_at_call 93; with_reducible refine (HI.out _).mono ?_; rintro e w1 ⟨rfl, rfl⟩)
        go_ret
        exact ⟨rfl, rfl⟩
  · have HL : Hid (∀ w : World, Calls Try.prog 103 #[.int .i64 n, .int .i64 3, .int .i64 64] w fun e w' => e = .returned (.bool false) ∧ w = w') := fun w => btwI_no _ _ _ _ (by omega)
    clear hn hb
    go_enter Try.func61, Try.ntmps61
    go_wp2_with (go_at_call 103; with_reducible refine (HL.out _).mono ?_; rintro e w1 ⟨rfl, rfl⟩)
    go_ret
    exact ⟨rfl, rfl⟩
theorem l03Out_yes (a : Option Addr) (n cap : Nat) (xs : List Int) (w : World) (h : RO w.heap.size w a xs) (hn : xs.length = n) (hO : OutP xs 100000) :
    Calls Try.prog 58 #[.slice a n cap] w fun e w' => e = .returned (.bool true) ∧ w = w' := by
  have HR := Lib.hid h
  have hlen := Lib.hid hn
  have HO := Lib.hid hO
  have hn2 : n ≤ 64 := by have := hO.1; omega
  have hn3 : 3 ≤ n := by have := hO.1; omega
  clear h hn hO
  go_enter Try.func58, Try.ntmps58
  go_wp2
  go_loop [3] (fun iv => ∃ k : Nat, k ≤ n ∧ iv = .int .i64 k) (fun iv => n - (intOf iv).toNat)
  case atStart => exact ⟨0, Nat.zero_le _, rfl⟩
  case round =>
    obtain ⟨k, hk, rfl⟩ := hrel
    by_cases hlt : k < n
    · obtain ⟨x, hx⟩ : ∃ x, xs[k]? = some x := ⟨_, List.getElem?_eq_getElem (by have := hlen.out; omega)⟩
      obtain ⟨g, off, rfl, hg, hc⟩ := HR.out k x hx
      have hx2 := HO.out.2 k x (by have := hlen.out; omega) hx
      have HI : Hid (∀ w : World, Calls Try.prog 64 #[.int .i64 x, .int .i64 0, .int .i64 99999] w fun e w' => e = .returned (.bool true) ∧ w = w') := fun w => l00In_yes _ _ _ _ hx2.1 (by omega)
      clear hx hx2
      go_wp2_with (go_at_call 64; with_reducible refine (HI.out _).mono ?_; rintro e w1 ⟨rfl, rfl⟩)
      go_round
      case rel => exact ⟨k + 1, by omega, by go_num⟩
      case measure => simp [intOf]; omega
    · obtain rfl : k = n := by omega
      have t1 : decide ((3 : Int) ≤ (k : Int)) = true := by rw [decide_eq_true_iff]; omega
      have t2 : decide ((k : Int) ≤ 64) = true := by rw [decide_eq_true_iff]; omega
      go_wp2
      go_ret
      exact ⟨rfl, rfl⟩
theorem l03Out_no (a : Option Addr) (n cap : Nat) (xs : List Int) (w : World) (h : RO w.heap.size w a xs) (hn : xs.length = n) (hl : n ≤ 1048576) (hO : ¬ OutP xs 100000) :
    Calls Try.prog 58 #[.slice a n cap] w fun e w' => e = .returned (.bool false) ∧ w = w' := by
  have HR := Lib.hid h
  have hlen := Lib.hid hn
  have HO := Lib.hid hO
  clear h hn hO
  go_enter Try.func58, Try.ntmps58
  go_wp2
  go_loop [3] (fun iv => ∃ k : Nat, k ≤ n ∧ iv = .int .i64 k ∧ Hid (Inm xs 100000 k)) (fun iv => n - (intOf iv).toNat)
  case atStart => exact ⟨0, Nat.zero_le _, rfl, fun i x hi _ => by omega⟩
  case round =>
    obtain ⟨k, hk, rfl, HK⟩ := hrel
    by_cases hlt : k < n
    · obtain ⟨x, hx⟩ : ∃ x, xs[k]? = some x := ⟨_, List.getElem?_eq_getElem (by have := hlen.out; omega)⟩
      obtain ⟨g, off, rfl, hg, hc⟩ := HR.out k x hx
      by_cases hx2 : 0 ≤ x ∧ x ≤ 99999
      · have HI : Hid (∀ w : World, Calls Try.prog 64 #[.int .i64 x, .int .i64 0, .int .i64 99999] w fun e w' => e = .returned (.bool true) ∧ w = w') := fun w => l00In_yes _ _ _ _ hx2.1 hx2.2
        have HK2 := Lib.hid (HK.out.next hx (by omega))
        clear hx hx2
        go_wp2_with (go_at_call 64; with_reducible refine (HI.out _).mono ?_; rintro e w1 ⟨rfl, rfl⟩)
        go_round
        case rel => exact ⟨k + 1, by omega, by go_num, HK2⟩
        case measure => simp [intOf]; omega
      · have HI : Hid (∀ w : World, Calls Try.prog 64 #[.int .i64 x, .int .i64 0, .int .i64 99999] w fun e w' => e = .returned (.bool false) ∧ w = w') := fun w => l00In_no _ _ _ _ hx2
        clear hx hx2
        go_wp2_with (go_at_call 64; with_reducible refine (HI.out _).mono ?_; rintro e w1 ⟨rfl, rfl⟩)
        go_ret
        exact ⟨rfl, rfl⟩
    · obtain rfl : k = n := by omega
      have hb : ¬ (3 ≤ k ∧ k ≤ 64) := fun e => HO.out ⟨by rw [hlen.out]; exact e, by rw [hlen.out]; exact HK.out⟩
      by_cases h3 : 3 ≤ k
      · have t1 : decide ((3 : Int) ≤ (k : Int)) = true := by rw [decide_eq_true_iff]; omega
        have t2 : decide ((k : Int) ≤ 64) = false := by rw [decide_eq_false_iff_not]; omega
        clear hb
        go_wp2
        go_ret
        exact ⟨rfl, rfl⟩
      · have t1 : decide ((3 : Int) ≤ (k : Int)) = false := by rw [decide_eq_false_iff_not]; omega
        clear hb
        go_wp2
        go_ret
        exact ⟨rfl, rfl⟩

/-- element i, and the difference behind it -/
def el (xs : List Int) (i : Nat) : Int := xs[i]?.getD 0
def df (xs : List Int) (i : Nat) : Int := el xs (i + 1) - el xs i
theorem el_get {xs : List Int} {i : Nat} (h : i < xs.length) : xs[i]? = some (el xs i) := by unfold el; rw [List.getElem?_eq_getElem h]; rfl
/-- the first k differences -/
def dfL (xs : List Int) (k : Nat) : List Int := (List.range k).map (df xs)
theorem dfL_length (xs : List Int) (k : Nat) : (dfL xs k).length = k := by simp [dfL]
theorem dfL_succ (xs : List Int) (k : Nat) : dfL xs (k + 1) = dfL xs k ++ [df xs k] := by simp [dfL, List.range_succ]
theorem dfL_get (xs : List Int) {i k : Nat} (h : i < k) : (dfL xs k)[i]? = some (df xs i) := by simp [dfL, h]
theorem OutP.el {xs : List Int} {m : Int} (h : OutP xs m) {i : Nat} (hi : i < xs.length) : 0 ≤ el xs i ∧ el xs i ≤ m - 1 := h.2 i _ hi (el_get hi)

theorem diffs_any (a : Option Addr) (n cap : Nat) (xs : List Int) (m : Int) (w : World) (h : RO w.heap.size w a xs) (hn : xs.length = n) (m1 : m ≤ 100000) (hO : OutP xs m) :
    Calls Try.prog 62 #[.slice a n cap] w fun e w' => ∃ v, e = .returned v ∧ w'.ownsRow w.heap.size 2 1 v (n - 1) ((dfL xs (n - 1)).map (Value.int .i64)) ∧ Below w.heap.size w w' := by
  obtain ⟨i0, hi, hz0, hz1, hz2⟩ := info_parts Try.info2
  have HR := Lib.hid h
  have hlen := Lib.hid hn
  have HO := Lib.hid hO
  obtain ⟨l, hl⟩ : ∃ l, n = l + 1 := ⟨n - 1, by have := hO.1; omega⟩
  have hl2 : l ≤ 63 := by have := hO.1; omega
  have hl3 : ((n : Int) - 1) = (l : Int) := by omega
  have hln : n - 1 = l := by omega
  have hnl : Hid (n = l + 1) := hl
  rw [hln]
  clear h hn hO hl hln
  go_enter Try.func62, Try.ntmps62
  go_wp2_with (at_make; refine wpList_make_full _ rfl _ _ 22 rfl w.heap.size 2 i0 _ 1 Try.underlying22 hi hz0 hz1 _ _ _ _ l rfl rfl rfl rfl (by rw [hz2]; omega) (by unfold maxLen; omega) (Nat.le_refl _) ?_; intro w3 hown hgrow)
  have hown3 : w3.ownsRow w.heap.size 2 1 (.slice (some ⟨w.heap.size, 0, none⟩) l l) l ((pad (dfL xs 0) l).map (Value.int .i64)) := by rw [pad_made] at hown; exact hown
  have B3 : Hid (Below w.heap.size w w3) := (Below.refl w.heap.size w).grown hgrow (Nat.le_refl _) (by simp)
  clear hown hgrow
  go_loopw [4, 11] (fun _ iv wr => ∃ k : Nat, k ≤ l ∧ iv = .int .i64 k ∧ Hid (wr.ownsRow w.heap.size 2 1 (.slice (some ⟨w.heap.size, 0, none⟩) l l) l ((pad (dfL xs k) l).map (Value.int .i64))) ∧ Hid (Below w.heap.size w wr)) (fun _ iv _ => l - (intOf iv).toNat)
  case atStart => exact ⟨0, Nat.zero_le _, rfl, hown3, B3⟩
  case round =>
    obtain ⟨k, hk, rfl, HW, HB⟩ := hrel
    clear hown3 B3
    by_cases hlt : k < l
    · have h0 : k < xs.length := by have := hlen.out; have := hnl.out; omega
      have h1 : k + 1 < xs.length := by have := hlen.out; have := hnl.out; omega
      have hkn : k + 1 < n := by have := hnl.out; omega
      obtain ⟨b0, b1⟩ := HO.out.el h0
      obtain ⟨b2, b3⟩ := HO.out.el h1
      obtain ⟨g, off, ha, hg, hc⟩ := HR.out k _ (el_get h0)
      obtain ⟨g', off', ha', hg', hc'⟩ := HR.out (k + 1) _ (el_get h1)
      subst ha
      simp only [Option.some.injEq, Addr.mk.injEq] at ha'
      obtain ⟨rfl, rfl, _⟩ := ha'
      have hT : Hid (dfL xs (k + 1) = dfL xs k ++ [el xs (k + 1) - el xs k]) := dfL_succ xs k
      obtain ⟨x0, hx0⟩ : ∃ x, el xs k = x := ⟨_, rfl⟩
      obtain ⟨x1, hx1⟩ : ∃ x, el xs (k + 1) = x := ⟨_, rfl⟩
      rw [hx0] at b0 b1 hc hT
      rw [hx1] at b2 b3 hc' hT
      have e0 := (HB.out.cell (p := ⟨g, off + k, none⟩) hg).trans hc
      have e1 := (HB.out.cell (p := ⟨g, off + (k + 1), none⟩) hg).trans hc'
      clear hc hc' hx0 hx1 h0 h1 hg'
      have hmx : Try.prog.follows .mixedOrders = true := by kernel_rfl
      have K0 : ∀ q : GW wr, q.w.cell? ⟨g, off + k, none⟩ = some (.int .i64 x0) := fun q => cell_below e0 q.h
      have K1 : ∀ q : GW wr, q.w.cell? ⟨g, off + (k + 1), none⟩ = some (.int .i64 x1) := fun q => cell_below e1 q.h
      clear e0 e1
      have s1 : IntKind.i64.wrap ((k : Int) + 1) = (k : Int) + 1 := IntWalk.i64_in _ (by omega)
      have s2 : (0 : Int) ≤ (k : Int) + 1 := by omega
      have s3 : ((k : Int) + 1).toNat = k + 1 := by omega
      have s4 : (k : Int) + 1 < (n : Int) := by omega
      have s6 : k < n := by omega
      have s7 : (k : Int) < (n : Int) := by omega
      have s5 : IntKind.i64.wrap (x1 - x0) = x1 - x0 := IntWalk.i64_in _ (by omega)
      go_wp2
      refine wp_region_quiet_tail (C := fun w' => ∃ q : GW wr, w' = q.w) 13 hmx (by kernel_rfl) ⟨⟨wr.drew, (Below.refl _ _).drew⟩, rfl⟩ ?_
      simp only [List.take_succ_cons, List.take_zero, List.drop_succ_cons, List.drop_zero]
      repeat (quiet_step (fail))
      refine wpQuiet_nil ?_
      rintro W2 ⟨⟨_, hW2⟩, rfl⟩
      clear K0 K1
      have hown := own_belowO HW.out hW2
      have HB2 := Lib.hid (HB.out.trans (hW2.mono HB.out.size))
      clear HW HB hW2
      obtain ⟨hd, hf⟩ := own_next hown (dfL_length xs k) hlt
      have HW3 := Lib.hid (own_step hown (dfL_length xs k) hlt (x1 - x0))
      have HB3 : Hid (Below w.heap.size w (W2.setCell ⟨w.heap.size, k, none⟩ (.int .i64 (x1 - x0)))) := HB2.out.setCell (p := ⟨w.heap.size, k, none⟩) (Nat.le_refl _) _
      clear hown
      go_wp2
      go_roundw
      case rel => exact ⟨k + 1, by omega, by go_num, by unfold Hid; rw [hT.out]; exact HW3.out, HB3⟩
      case measure => simp [intOf]; omega
    · obtain rfl : k = l := by omega
      have hp : Hid (pad (dfL xs k) k = dfL xs k) := by
        unfold Hid
        have h1 := pad_full (dfL xs k)
        rwa [dfL_length] at h1
      have HW2 := HW.out
      rw [hp.out] at HW2
      have HW2 := Lib.hid HW2
      clear HW
      go_wp2
      go_ret
      exact ⟨_, rfl, HW2.out, HB.out⟩
end Go.Proofs.Ytpnifnpbolieoaa
