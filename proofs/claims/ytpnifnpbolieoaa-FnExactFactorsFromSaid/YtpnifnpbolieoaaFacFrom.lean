/- The factors behind outputs: impl.FactorsFrom, spec.FactorsFrom, and the law FnExactFactorsFrom. -/
import Derived.Test.YtpnifnpbolieoaaModFrom
import Derived.Deep.LoopGhost
import Derived.WalkMore
import Derived.Deep.AppendLies
namespace Go.Proofs.Ytpnifnpbolieoaa
open Go.RowKit Go.PlainAid
set_option maxHeartbeats 1600000

/-- a factor leads over the k-th difference to the next one -/
def Leads (xs : List Int) (m a : Int) (k : Nat) : Prop := (a * df xs k - df xs (k + 1)) % m = 0
def GoodF (xs : List Int) (m a : Int) (c : Nat) : Prop := ∀ k, k < c → Leads xs m a k
open Classical in
/-- the good factors below a -/
noncomputable def facL (xs : List Int) (m : Int) (c : Nat) : Nat → List Int
  | 0 => []
  | a + 1 => if GoodF xs m a c then facL xs m c a ++ [(a : Int)] else facL xs m c a
theorem facL_yes {xs : List Int} {m : Int} {c a : Nat} (h : GoodF xs m a c) : facL xs m c (a + 1) = facL xs m c a ++ [(a : Int)] := by rw [facL, if_pos h]
theorem facL_no {xs : List Int} {m : Int} {c a : Nat} (h : ¬ GoodF xs m a c) : facL xs m c (a + 1) = facL xs m c a := by rw [facL, if_neg h]
theorem facL_step (xs : List Int) (m : Int) (c a : Nat) : (facL xs m c a).length ≤ (facL xs m c (a + 1)).length := by
  by_cases h : GoodF xs m a c
  · rw [facL_yes h, List.length_append]
    omega
  · rw [facL_no h]
    exact Nat.le_refl _
theorem facL_mono (xs : List Int) (m : Int) (c a : Nat) : ∀ d, (facL xs m c a).length ≤ (facL xs m c (a + d)).length
  | 0 => Nat.le_refl _
  | d + 1 => Nat.le_trans (facL_mono xs m c a d) (facL_step xs m c (a + d))
theorem facL_over {xs : List Int} {m : Int} {c a M : Nat} (h : GoodF xs m a c) (hl : (facL xs m c a).length = 64) (ha : a < M) : 64 < (facL xs m c M).length := by
  have h1 := facL_mono xs m c (a + 1) (M - (a + 1))
  rw [show a + 1 + (M - (a + 1)) = M by omega, facL_yes h, List.length_append] at h1
  simp at h1
  omega
theorem GoodF.next {xs : List Int} {m a : Int} {k : Nat} (h : GoodF xs m a k) (hk : Leads xs m a k) : GoodF xs m a (k + 1) := fun i hi => by
  by_cases e : i = k
  · rw [e]
    exact hk
  · exact h i (by omega)
theorem tmod_zero (x m : Int) : x.tmod m = 0 ↔ x % m = 0 := by
  rw [← Int.dvd_iff_tmod_eq_zero, Int.dvd_iff_emod_eq_zero]
theorem OutP.up {xs : List Int} {m : Int} (h : OutP xs m) (hm : m ≤ 100000) : OutP xs 100000 := ⟨h.1, fun i x hi hx => by have := h.2 i x hi hx; omega⟩

theorem own_any {w : World} {B : Nat} {e : TypeId} {size n : Nat} {v : Value} {xs : List Value} (h : w.ownsRow B e size v n xs) : ∃ b cp, v = .slice b n cp := by
  obtain ⟨_, ⟨rfl, h0⟩ | ⟨g, cap, cur, rfl, _⟩⟩ := h
  · exact ⟨none, 0, by rw [h0]⟩
  · exact ⟨_, _, rfl⟩
theorem own_drewU' {w : World} {B : Nat} {e : TypeId} {size n : Nat} {v : Value} {xs : List Value} (h : w.ownsRow B e size v n xs) (m : Nat) : (w.drewN m).ownsRow B e size v n xs := h
/-- what the flag of a round tells -/
def Flag (xs : List Int) (m a : Int) (c q : Nat) (f : Bool) : Prop := (f = true → GoodF xs m a q) ∧ (f = false → ¬ GoodF xs m a (c + 1))
theorem isModulus_yes (m : Int) (w : World) (h : 2 ≤ m ∧ m ≤ 100000) : Calls Try.prog 65 #[.int .i64 m] w fun e w' => e = .returned (.bool true) ∧ w = w' := by
  have HI : Hid (∀ w : World, Calls Try.prog 93 #[.int .i64 m, .int .i64 2, .int .i64 100000] w fun e w' => e = .returned (.bool true) ∧ w = w') := fun w => btw64_yes _ _ _ _ h.1 h.2
  clear h
  go_enter Try.func65, Try.ntmps65
  go_wp2_with (go_at_call 93; with_reducible refine (HI.out _).mono ?_; rintro e w1 ⟨rfl, rfl⟩)
  go_ret
  exact ⟨rfl, rfl⟩
theorem isModulus_no (m : Int) (w : World) (h : ¬ (2 ≤ m ∧ m ≤ 100000)) : Calls Try.prog 65 #[.int .i64 m] w fun e w' => e = .returned (.bool false) ∧ w = w' := by
  have HI : Hid (∀ w : World, Calls Try.prog 93 #[.int .i64 m, .int .i64 2, .int .i64 100000] w fun e w' => e = .returned (.bool false) ∧ w = w') := fun w => btw64_no _ _ _ _ h
  clear h
  go_enter Try.func65, Try.ntmps65
  go_wp2_with (go_at_call 93; with_reducible refine (HI.out _).mono ?_; rintro e w1 ⟨rfl, rfl⟩)
  go_ret
  exact ⟨rfl, rfl⟩

set_option maxRecDepth 8000 in
theorem facFrom_yes (a : Option Addr) (n cap c M : Nat) (xs : List Int) (w : World) (h : RO w.heap.size w a xs) (hn : xs.length = n) (hm : 2 ≤ M ∧ M ≤ 100000) (hO : OutP xs M) (hc : n = c + 3) :
    Calls Try.prog 20 #[.int .i64 M, .slice a n cap] w fun e w' => (∃ v, e = .returned (.tuple #[v, .bool true]) ∧ (facL xs M (c + 1) M).length ≤ 64 ∧ SL w.heap.size w'.heap.size w' v (facL xs M (c + 1) M) ∧ Below w.heap.size w w') ∨ (e = .returned (.tuple #[.slice none 0 0, .bool false]) ∧ 64 < (facL xs M (c + 1) M).length ∧ Below w.heap.size w w') := by
  obtain ⟨i0, hi, hz0, hz1, hz2⟩ := info_parts Try.info2
  have HA : Hid (Calls Try.prog 61 #[.slice a n cap, .int .i64 M] w fun e w' => e = .returned (.bool true) ∧ w = w') := areOut_yes a n cap xs M w h hn (by omega) (by omega) hO
  have HM : Hid (Calls Try.prog 65 #[.int .i64 M] w fun e w' => e = .returned (.bool true) ∧ w = w') := isModulus_yes M w (by omega)
  have HD : Hid (Calls Try.prog 62 #[.slice a n cap] w fun e w' => ∃ g cp, e = .returned (.slice (some ⟨g, 0, none⟩) (c + 2) cp) ∧ c + 2 ≤ cp ∧ (∀ k, k < c + 2 → w'.cell? ⟨g, k, none⟩ = some (.int .i64 (df xs k))) ∧ Below w.heap.size w w') := by
    refine (diffs_any a n cap xs M w h hn (by omega) hO).mono ?_
    rintro e w' ⟨v, rfl, hown, hb⟩
    rw [show n - 1 = c + 2 by omega] at hown
    obtain ⟨g, cp, rfl, _⟩ := own_shape hown (by omega)
    refine ⟨g, cp, rfl, ?_, fun k hk => own_cellsI hown k _ hk (dfL_get xs hk), hb⟩
    obtain ⟨_, ⟨hv, _⟩ | ⟨g2, cp2, cur, hv, _, _, h1, _⟩⟩ := hown
    · cases hv
    · cases hv
      exact h1
  have hO2 := hO.up (by omega)
  have hc2 : c ≤ 61 := by have := hO.1; omega
  have HF : Hid (∀ i, i < c + 2 → -99999 ≤ df xs i ∧ df xs i ≤ 99999) := fun i hi => hO2.df (by omega)
  clear h hn hO hO2 hc
  have hM2 : 2 ≤ M := hm.1
  have hM3 : M ≤ 100000 := hm.2
  clear hm
  go_enter Try.func20, Try.ntmps20
  go_wp2
  go_step3
  go_wp2_with (first | (go_at_call 65; with_reducible refine (HM.out).mono ?_; rintro e w1 ⟨rfl, rfl⟩) | (go_at_call 61; with_reducible refine (HA.out).mono ?_; rintro e w1 ⟨rfl, rfl⟩) | (go_at_call 62; with_reducible refine (HD.out).mono ?_; rintro e w1 ⟨g, cp, rfl, hcp, hcel, hbel⟩))
  have HX := Lib.hid hcel
  have HB := Lib.hid hbel
  clear hcel hbel HA HM HD
  have HW0 := Lib.hid (ownsRow_empty w1 2 1)
  have HB0 : Hid (Below w1.heap.size w1 (w1.alloc (.cells #[] 2))) := (Below.refl _ _).alloc (Nat.le_refl _) _
  have hg0 : g < w1.heap.size := World.block_lt_of_cell? w1 _ (HX.out 0 (by omega))
  go_step3
  go_wp2
  go_loopg [7, 24] M (fun gh fv cv wr => ∃ α : Nat, α + gh = M ∧ cv = .int .i64 α ∧ (facL xs M (c + 1) α).length ≤ 64 ∧ Hid (wr.ownsRow w1.heap.size 2 1 fv (facL xs M (c + 1) α).length ((facL xs M (c + 1) α).map (Value.int .i64))) ∧ Hid (Below w1.heap.size w1 wr))
  case atStart => exact ⟨0, by omega, rfl, Nat.zero_le _, HW0, HB0⟩
  case round =>
    obtain ⟨α, hα, rfl, hl, HW, HB1⟩ := hrel
    clear HW0 HB0
    cases gk with
    | zero =>
      obtain rfl : α = M := by omega
      go_wp2
      try rw [Exit.noGoto_ret]
      have HS := Lib.hid (SL.of_own (own_base HW.out HB.out.size))
      have HF2 := Lib.hid (HB.out.trans (HB1.out.mono HB.out.size))
      clear HW HB1
      go_ret2
      exact .inl ⟨_, rfl, hl, HS.out, HF2.out⟩
    | succ gh =>
      have hαM : α < M := by omega
      have hαI : (α : Int) < (M : Int) := by omega
      have hcI : ((c + 1 : Nat) : Int) = (c : Int) + 1 := by omega
      go_wp2
      go_loopg [30] (c + 1) (fun g2 kv wy => ∃ k : Nat, k + g2 = c + 1 ∧ kv = .int .i64 k ∧ Hid (GoodF xs M α k) ∧ wy = wr)
      case atStart => exact ⟨0, by omega, rfl, fun i hi => by omega, rfl⟩
      case round =>
        obtain ⟨k, hk, rfl, HK, rfl⟩ := hrel
        cases gk with
        | zero =>
          obtain rfl : k = c + 1 := by omega
          by_cases h64 : (facL xs M (c + 1) α).length = 64
          · have hover := facL_over HK.out h64 hαM
            have t1 : (((facL xs M (c + 1) α).length : Int) == 64) = true := by simp; omega
            obtain ⟨b, cb, rfl⟩ := own_any HW.out
            obtain ⟨fl, hfl⟩ : ∃ f, (facL xs M (c + 1) α).length = f := ⟨_, rfl⟩
            have HF2 := Lib.hid (HB.out.trans (HB1.out.mono HB.out.size))
            rw [hfl] at t1 ⊢
            clear HW HK h64 hl hfl
            go_wp2
            try rw [Exit.noGoto_ret]
            go_ret2
            exact .inr ⟨rfl, hover, HF2.out⟩
          · have t1 : (((facL xs M (c + 1) α).length : Int) == 64) = false := by rw [beq_eq_false_iff_ne]; omega
            have HY := Lib.hid (facL_yes HK.out)
            have hl3 : (facL xs M (c + 1) α).length + 1 ≤ 64 := by omega
            have hown := HW.out
            have hz := HB1.out.size
            obtain ⟨b, cb, rfl⟩ := own_any hown
            clear HW HK h64
            go_wp2_with (at_builtin; refine wpList_append_own _ rfl _ _ 22 rfl w1.heap.size 2 i0 (.int .i64 0) 1 8 Try.underlying22 hi hz0 hz1 hz2 rfl (by decide) _ _ _ rfl (hown.alloc _) ⟨wr.heap.size, 0, none⟩ 1 1 [.int .i64 α] rfl rfl (cell_one_new _ _ _) (by intro u hu; simp at hu; subst hu; rfl) (by unfold maxLen; omega) (by omega) (by simp; omega) ?_; intro v1 w4 hown1 hgrow hiff; clear hiff)
            have HB4 : Hid (Below w1.heap.size w1 w4) := (HB1.out.alloc hz _).grown hgrow (by simp; omega) (own_block hown)
            have HW4 : Hid (w4.ownsRow w1.heap.size 2 1 v1 (facL xs M (c + 1) (α + 1)).length ((facL xs M (c + 1) (α + 1)).map (Value.int .i64))) := by
              unfold Hid
              rw [HY.out, List.length_append]
              simpa using hown1
            have hl4 : (facL xs M (c + 1) (α + 1)).length ≤ 64 := by rw [HY.out, List.length_append]; exact hl3
            clear hown1 hgrow hown HB1 t1
            go_wp2
            go_roundg gh
            case measure => omega
            case rel => exact ⟨α + 1, by omega, by go_num, hl4, HW4, HB4⟩
        | succ g2 =>
          have hkc : k < c + 1 := by omega
          have hkI : (k : Int) < (c : Int) + 1 := by omega
          have c0 := (HB1.out.cell (p := ⟨g, k, none⟩) hg0).trans (HX.out k (by omega))
          have c1 := (HB1.out.cell (p := ⟨g, k + 1, none⟩) hg0).trans (HX.out (k + 1) (by omega))
          obtain ⟨a1, a2⟩ := HF.out k (by omega)
          obtain ⟨b1, b2⟩ := HF.out (k + 1) (by omega)
          have hPb : -9999900000 ≤ (α : Int) * df xs k ∧ (α : Int) * df xs k ≤ 9999900000 := by
            have h : ((α : Int) * df xs k).natAbs ≤ 100000 * 99999 := by
              rw [Int.natAbs_mul]
              exact Nat.mul_le_mul (by omega) (by omega)
            omega
          have s1 : k < c + 2 := by omega
          have s2 : (k : Int) < (c : Int) + 2 := by omega
          have s3 : 1 + k = k + 1 := by omega
          have hM0 : ¬ (M : Int) = 0 := by omega
          by_cases hlead : Leads xs M α k
          · have HK2 := Lib.hid (HK.out.next hlead)
            have hR := (tmod_zero _ _).2 hlead
            obtain ⟨x0, e0⟩ : ∃ x, df xs k = x := ⟨_, rfl⟩
            obtain ⟨x1, e1⟩ : ∃ x, df xs (k + 1) = x := ⟨_, rfl⟩
            rw [e0] at c0 hPb hR
            rw [e1] at c1 hR
            rw [e0] at a1 a2
            rw [e1] at b1 b2
            obtain ⟨P, hP⟩ : ∃ P, (α : Int) * x0 = P := ⟨_, rfl⟩
            rw [hP] at hPb hR
            clear hlead e0 e1 HK
            go_wp2
            go_roundg g2
            case measure => omega
            case rel => exact ⟨k + 1, by omega, by go_num, HK2, rfl⟩
          · have hR : ((α : Int) * df xs k - df xs (k + 1)).tmod M ≠ 0 := fun e => hlead ((tmod_zero _ _).1 e)
            have HNO : Hid (facL xs M (c + 1) (α + 1) = facL xs M (c + 1) α) := facL_no (fun hgood => hlead (hgood k hkc))
            obtain ⟨x0, e0⟩ : ∃ x, df xs k = x := ⟨_, rfl⟩
            obtain ⟨x1, e1⟩ : ∃ x, df xs (k + 1) = x := ⟨_, rfl⟩
            rw [e0] at c0 hPb hR
            rw [e1] at c1 hR
            rw [e0] at a1 a2
            rw [e1] at b1 b2
            obtain ⟨P, hP⟩ : ∃ P, (α : Int) * x0 = P := ⟨_, rfl⟩
            rw [hP] at hPb hR
            obtain ⟨R, hRR⟩ : ∃ R, (P - x1).tmod M = R := ⟨_, rfl⟩
            rw [hRR] at hR
            have hne : (R != 0) = true := by simpa using hR
            clear hlead e0 e1 HK hR
            go_wp2
            go_roundg gh
            case measure => omega
            case rel => exact ⟨α + 1, by omega, by go_num, by rw [HNO.out]; exact hl, by unfold Hid; rw [HNO.out]; exact HW.out, HB1⟩
theorem facFrom_no (a : Option Addr) (n cap : Nat) (m : Int) (xs : List Int) (w : World) (h : RO w.heap.size w a xs) (hn : xs.length = n) (hl : n ≤ 1048576) (hO : ¬ ((2 ≤ m ∧ m ≤ 100000) ∧ OutP xs m)) :
    Calls Try.prog 20 #[.int .i64 m, .slice a n cap] w fun e w' => e = .returned (.tuple #[.slice none 0 0, .bool false]) ∧ w = w' := by
  by_cases hm : 2 ≤ m ∧ m ≤ 100000
  · have HM : Hid (Calls Try.prog 65 #[.int .i64 m] w fun e w' => e = .returned (.bool true) ∧ w = w') := isModulus_yes m w hm
    have HA : Hid (Calls Try.prog 61 #[.slice a n cap, .int .i64 m] w fun e w' => e = .returned (.bool false) ∧ w = w') := areOut_no a n cap xs m w h hn hl (by omega) (by omega) (fun x => hO ⟨hm, x⟩)
    clear h hn hO hm
    go_enter Try.func20, Try.ntmps20
    go_wp2
    go_step3
    go_wp2_with (first | (go_at_call 65; with_reducible refine (HM.out).mono ?_; rintro e w1 ⟨rfl, rfl⟩) | (go_at_call 61; with_reducible refine (HA.out).mono ?_; rintro e w1 ⟨rfl, rfl⟩))
    try rw [Exit.noGoto_ret]
    go_ret2
    exact ⟨rfl, rfl⟩
  · have HM : Hid (Calls Try.prog 65 #[.int .i64 m] w fun e w' => e = .returned (.bool false) ∧ w = w') := isModulus_no m w hm
    clear h hn hO hm
    go_enter Try.func20, Try.ntmps20
    go_wp2
    go_step3
    go_wp2_with (go_at_call 65; with_reducible refine (HM.out).mono ?_; rintro e w1 ⟨rfl, rfl⟩)
    try rw [Exit.noGoto_ret]
    go_ret2
    exact ⟨rfl, rfl⟩

set_option maxRecDepth 8000 in
theorem specFac_yes (a : Option Addr) (n cap c M : Nat) (xs : List Int) (w : World) (h : RO w.heap.size w a xs) (hn : xs.length = n) (hm : 2 ≤ M ∧ M ≤ 100000) (hO : OutP xs M) (hc : n = c + 3) :
    Calls Try.prog 19 #[.int .i64 M, .slice a n cap] w fun e w' => (∃ v, e = .returned (.tuple #[v, .bool true]) ∧ (facL xs M (c + 1) M).length ≤ 64 ∧ SL w.heap.size w'.heap.size w' v (facL xs M (c + 1) M) ∧ Below w.heap.size w w') ∨ (e = .returned (.tuple #[.slice none 0 0, .bool false]) ∧ 64 < (facL xs M (c + 1) M).length ∧ Below w.heap.size w w') := by
  obtain ⟨i0, hi, hz0, hz1, hz2⟩ := info_parts Try.info2
  have hO2 := hO.up (by omega)
  have HA : Hid (Calls Try.prog 58 #[.slice a n cap] w fun e w' => e = .returned (.bool true) ∧ w = w') := l03Out_yes a n cap xs w h hn hO2
  have HM : Hid (Calls Try.prog 64 #[.int .i64 M, .int .i64 2, .int .i64 100000] w fun e w' => e = .returned (.bool true) ∧ w = w') := l00In_yes _ _ _ _ (by omega) (by omega)
  have hc2 : c ≤ 61 := by have := hO.1; omega
  have HE : Hid (∀ i, i < n → 0 ≤ el xs i ∧ el xs i ≤ (M : Int) - 1) := fun i hi => hO.el (by omega)
  have HR : Hid (∀ i, i < n → ∃ g off, a = some ⟨g, off, none⟩ ∧ g < w.heap.size ∧ w.cell? ⟨g, off + i, none⟩ = some (.int .i64 (el xs i))) := fun i hi => h i _ (el_get (by omega))
  have HC := Lib.hid hc
  have hn64 : n ≤ 64 := by omega
  have hM2 : 2 ≤ M := hm.1
  have hM3 : M ≤ 100000 := hm.2
  clear h hn hO hO2 hm hc
  go_enter Try.func19, Try.ntmps19
  go_wp2_with (first | (go_at_call 64; with_reducible refine (HM.out).mono ?_; rintro e w1 ⟨rfl, rfl⟩) | (go_at_call 58; with_reducible refine (HA.out).mono ?_; rintro e w1 ⟨rfl, rfl⟩))
  clear HA HM
  go_loop [6] (fun iv => ∃ k : Nat, k ≤ n ∧ iv = .int .i64 k) (fun iv => n - (intOf iv).toNat)
  case atStart => exact ⟨0, Nat.zero_le _, rfl⟩
  case round =>
    obtain ⟨k, hk, rfl⟩ := hrel
    by_cases hlt : k < n
    · obtain ⟨g, off, rfl, hg, hcl⟩ := HR.out k hlt
      have he := HE.out k hlt
      obtain ⟨x, hx⟩ : ∃ x, el xs k = x := ⟨_, rfl⟩
      rw [hx] at hcl he
      have t1 : decide ((M : Int) ≤ x) = false := by rw [decide_eq_false_iff_not]; omega
      clear hx
      go_wp2
      go_round
      case rel => exact ⟨k + 1, by omega, by go_num⟩
      case measure => simp [intOf]; omega
    · obtain rfl : k = n := by omega
      have HW0 := Lib.hid (ownsRow_empty w 2 1)
      have HB0 : Hid (Below w.heap.size w (w.alloc (.cells #[] 2))) := (Below.refl _ _).alloc (Nat.le_refl _) _
      go_wp2
      go_loopg [7, 8] M (fun gh fv cv wr => ∃ α : Nat, α + gh = M ∧ cv = .int .i64 α ∧ (facL xs M (c + 1) α).length ≤ 64 ∧ Hid (wr.ownsRow w.heap.size 2 1 fv (facL xs M (c + 1) α).length ((facL xs M (c + 1) α).map (Value.int .i64))) ∧ Hid (Below w.heap.size w wr))
      case atStart => exact ⟨0, by omega, rfl, Nat.zero_le _, HW0, HB0⟩
      case round =>
        obtain ⟨α, hα, rfl, hl, HW, HB1⟩ := hrel
        clear HW0 HB0
        cases gk with
        | zero =>
          obtain rfl : α = M := by omega
          have HS := Lib.hid (SL.of_own HW.out)
          clear HW
          go_wp2
          go_ret2
          exact .inl ⟨_, rfl, hl, HS.out, HB1.out⟩
        | succ gh =>
          have hαM : α < M := by omega
          have hαI : (α : Int) < (M : Int) := by omega
          go_wp2
          go_loopg [9, 10] (c + 1) (fun g2 fb iv wy => ∃ (q : Nat) (f : Bool) (d : Nat), q + g2 = c + 1 ∧ iv = .int .i64 ((q : Int) + 2) ∧ fb = .bool f ∧ Hid (Flag xs M α c q f) ∧ wy = wr.drewN d)
          case atStart => exact ⟨0, true, 0, by omega, rfl, rfl, ⟨fun _ i hi => by omega, fun e => by cases e⟩, rfl⟩
          case round =>
            obtain ⟨q, f, d, hq, rfl, rfl, HK, rfl⟩ := hrel
            have hn3 := HC.out
            cases f with
            | false =>
              have HNO : Hid (facL xs M (c + 1) (α + 1) = facL xs M (c + 1) α) := facL_no (HK.out.2 rfl)
              by_cases hqc : q < c + 1
              · have t1 : decide ((q : Int) + 2 < (k : Int)) = true := by rw [decide_eq_true_iff]; omega
                clear HK hn3
                go_wp2
                go_roundg gh
                case measure => omega
                case rel => exact ⟨α + 1, by omega, by go_num, by rw [HNO.out]; exact hl, by unfold Hid; rw [HNO.out]; exact own_drewU' HW.out d, below_drewN HB1.out d⟩
              · have t1 : decide ((q : Int) + 2 < (k : Int)) = false := by rw [decide_eq_false_iff_not]; omega
                clear HK hn3
                go_wp2
                go_roundg gh
                case measure => omega
                case rel => exact ⟨α + 1, by omega, by go_num, by rw [HNO.out]; exact hl, by unfold Hid; rw [HNO.out]; exact own_drewU' HW.out d, below_drewN HB1.out d⟩
            | true =>
              cases gk with
              | zero =>
                have t1 : decide ((q : Int) + 2 < (k : Int)) = false := by rw [decide_eq_false_iff_not]; omega
                have hqe : q = c + 1 := by omega
                have HGo : Hid (GoodF xs M α (c + 1)) := by unfold Hid; rw [← hqe]; exact HK.out.1 rfl
                clear hqe hq
                have HW2 : Hid ((wr.drewN d).ownsRow w.heap.size 2 1 _ _ _) := own_drewU' HW.out d
                have HB2 := Lib.hid (below_drewN HB1.out d)
                clear HK hn3 HW HB1
                generalize wr.drewN d = wz at HW2 HB2 ⊢
                by_cases h64 : (facL xs M (c + 1) α).length = 64
                · have hover := facL_over HGo.out h64 hαM
                  have t2 : (((facL xs M (c + 1) α).length : Int) == 64) = true := by simp; omega
                  obtain ⟨b, cb, rfl⟩ := own_any HW2.out
                  obtain ⟨fl, hfl⟩ : ∃ f, (facL xs M (c + 1) α).length = f := ⟨_, rfl⟩
                  rw [hfl] at t2 ⊢
                  clear HW2 HGo h64 hl hfl
                  go_wp2
                  go_ret2
                  exact .inr ⟨rfl, hover, HB2.out⟩
                · have t2 : (((facL xs M (c + 1) α).length : Int) == 64) = false := by rw [beq_eq_false_iff_ne]; omega
                  have HY := Lib.hid (facL_yes HGo.out)
                  have hl3 : (facL xs M (c + 1) α).length + 1 ≤ 64 := by omega
                  have hown := HW2.out
                  have hz := HB2.out.size
                  obtain ⟨b, cb, rfl⟩ := own_any hown
                  clear HW2 HGo h64
                  go_wp2_with (at_builtin; refine wpList_append_own _ rfl _ _ 22 rfl w.heap.size 2 i0 (.int .i64 0) 1 8 Try.underlying22 hi hz0 hz1 hz2 rfl (by decide) _ _ _ rfl (hown.alloc _) ⟨wz.heap.size, 0, none⟩ 1 1 [.int .i64 α] rfl rfl (cell_one_new _ _ _) (by intro u hu; simp at hu; subst hu; rfl) (by unfold maxLen; omega) (by omega) (by simp; omega) ?_; intro v1 w4 hown1 hgrow hiff; clear hiff)
                  have HB4 : Hid (Below w.heap.size w w4) := (HB2.out.alloc hz _).grown hgrow (by simp; omega) (own_block hown)
                  have HW4 : Hid (w4.ownsRow w.heap.size 2 1 v1 (facL xs M (c + 1) (α + 1)).length ((facL xs M (c + 1) (α + 1)).map (Value.int .i64))) := by
                    unfold Hid
                    rw [HY.out, List.length_append]
                    simpa using hown1
                  have hl4 : (facL xs M (c + 1) (α + 1)).length ≤ 64 := by rw [HY.out, List.length_append]; exact hl3
                  clear hown1 hgrow hown HB2 t1 t2
                  go_wp2
                  go_roundg gh
                  case measure => omega
                  case rel => exact ⟨α + 1, by omega, by go_num, hl4, HW4, HB4⟩
              | succ g2 =>
                have t1 : decide ((q : Int) + 2 < (k : Int)) = true := by rw [decide_eq_true_iff]; omega
                have l0 := HE.out q (by omega)
                have l1 := HE.out (q + 1) (by omega)
                have l2 := HE.out (q + 2) (by omega)
                obtain ⟨g, off, ha, hg, c0⟩ := HR.out q (by omega)
                obtain ⟨g', off', ha', _, c1⟩ := HR.out (q + 1) (by omega)
                obtain ⟨g'', off'', ha'', _, c2⟩ := HR.out (q + 2) (by omega)
                subst ha
                simp only [Option.some.injEq, Addr.mk.injEq] at ha' ha''
                obtain ⟨rfl, rfl, _⟩ := ha'
                obtain ⟨rfl, rfl, _⟩ := ha''
                have d0 := (HB1.out.cell (p := ⟨g, off + q, none⟩) hg).trans c0
                have d1 := (HB1.out.cell (p := ⟨g, off + (q + 1), none⟩) hg).trans c1
                have d2 := (HB1.out.cell (p := ⟨g, off + (q + 2), none⟩) hg).trans c2
                have HLd : Hid (Leads xs M α q ↔ ((el xs (q + 2) - el xs (q + 1)) - α * (el xs (q + 1) - el xs q)).tmod M = 0) := by
                  unfold Hid Leads df
                  rw [tmod_zero]
                  have e : (el xs (q + 2) - el xs (q + 1)) - (α : Int) * (el xs (q + 1) - el xs q) = -((α : Int) * (el xs (q + 1) - el xs q) - (el xs (q + 1 + 1) - el xs (q + 1))) := by
                    show (el xs (q + 2) - el xs (q + 1)) - _ = -(_ - (el xs (q + 2) - el xs (q + 1)))
                    omega
                  rw [e, ← Int.dvd_iff_emod_eq_zero, ← Int.dvd_iff_emod_eq_zero, Int.dvd_neg]
                obtain ⟨x0, e0⟩ : ∃ x, el xs q = x := ⟨_, rfl⟩
                obtain ⟨x1, e1⟩ : ∃ x, el xs (q + 1) = x := ⟨_, rfl⟩
                obtain ⟨x2, e2⟩ : ∃ x, el xs (q + 2) = x := ⟨_, rfl⟩
                rw [e0] at d0 l0
                rw [e1] at d1 l1
                rw [e2] at d2 l2
                rw [e0, e1, e2] at HLd
                have hPb : -9999900000 ≤ (α : Int) * (x1 - x0) ∧ (α : Int) * (x1 - x0) ≤ 9999900000 := by
                  have h : ((α : Int) * (x1 - x0)).natAbs ≤ 100000 * 99999 := by
                    rw [Int.natAbs_mul]
                    exact Nat.mul_le_mul (by omega) (by omega)
                  omega
                obtain ⟨d3, hd3⟩ : ∃ y, x1 - x0 = y := ⟨_, rfl⟩
                obtain ⟨d4, hd4⟩ : ∃ y, x2 - x1 = y := ⟨_, rfl⟩
                rw [hd3] at HLd hPb
                rw [hd4] at HLd
                obtain ⟨P, hP⟩ : ∃ P, (α : Int) * d3 = P := ⟨_, rfl⟩
                rw [hP] at HLd hPb
                obtain ⟨R, hRR⟩ : ∃ R, (d4 - P).tmod M = R := ⟨_, rfl⟩
                rw [hRR] at HLd
                have s1 : IntKind.i64.wrap d3 = d3 := IntWalk.i64_in _ (by omega)
                have s2 : IntKind.i64.wrap d4 = d4 := IntWalk.i64_in _ (by omega)
                have s3 : IntKind.i64.wrap P = P := IntWalk.i64_in _ (by omega)
                have s4 : IntKind.i64.wrap (d4 - P) = d4 - P := IntWalk.i64_in _ (by omega)
                have s5 : IntKind.i64.wrap (q : Int) = (q : Int) := IntWalk.i64_in _ (by omega)
                have s6 : IntKind.i64.wrap ((q : Int) + 1) = (q : Int) + 1 := IntWalk.i64_in _ (by omega)
                have s7 : (q : Int) + 2 - 1 = (q : Int) + 1 := by omega
                have s8 : (0 : Int) ≤ (q : Int) + 1 := by omega
                have s9 : (0 : Int) ≤ (q : Int) + 2 := by omega
                have s10 : ((q : Int) + 1).toNat = q + 1 := by omega
                have s11 : ((q : Int) + 2).toNat = q + 2 := by omega
                have s12 : (q : Int) + 1 < (k : Int) := by omega
                have s13 : (q : Int) + 2 < (k : Int) := by omega
                have s14 : (q : Int) < (k : Int) := by omega
                have s15 : q < k := by omega
                have s16 : q + 1 < k := by omega
                have s17 : q + 2 < k := by omega
                have hM0 : ¬ (M : Int) = 0 := by omega
                have HRow := HW
                clear c0 c1 c2 e0 e1 e2 hn3 l0 l1 l2
                by_cases hR : R = 0
                · have HK2 : Hid (Flag xs M α c (q + 1) true) := ⟨fun _ => (HK.out.1 rfl).next (HLd.out.2 hR), fun e => by cases e⟩
                  have hr : (R == 0) = true := by simpa using hR
                  clear hR HLd HK
                  go_wp2
                  go_quiet (fail)
                  go_wp2
                  go_roundg g2
                  case measure => omega
                  case rel => exact ⟨q + 1, true, d + nq, by omega, by go_num, rfl, HK2, rfl⟩
                · have hnl : ¬ Leads xs M α q := fun x => hR (HLd.out.1 x)
                  have HK2 : Hid (Flag xs M α c (q + 1) false) := ⟨(fun e => by cases e), fun _ hgood => hnl (hgood q (by omega))⟩
                  clear hnl
                  have hr : (R == 0) = false := by simpa using hR
                  clear hR HLd HK
                  go_wp2
                  go_quiet (fail)
                  go_wp2
                  go_roundg g2
                  case measure => omega
                  case rel => exact ⟨q + 1, false, d + nq, by omega, by go_num, rfl, HK2, rfl⟩
theorem specFac_no (a : Option Addr) (n cap : Nat) (m : Int) (xs : List Int) (w : World) (h : RO w.heap.size w a xs) (hn : xs.length = n) (hl : n ≤ 1048576) (hO : ¬ ((2 ≤ m ∧ m ≤ 100000) ∧ OutP xs m)) :
    Calls Try.prog 19 #[.int .i64 m, .slice a n cap] w fun e w' => e = .returned (.tuple #[.slice none 0 0, .bool false]) ∧ w = w' := by
  by_cases hm : 2 ≤ m ∧ m ≤ 100000
  · have HM : Hid (Calls Try.prog 64 #[.int .i64 m, .int .i64 2, .int .i64 100000] w fun e w' => e = .returned (.bool true) ∧ w = w') := l00In_yes _ _ _ _ hm.1 hm.2
    by_cases hO2 : OutP xs 100000
    · have HA : Hid (Calls Try.prog 58 #[.slice a n cap] w fun e w' => e = .returned (.bool true) ∧ w = w') := l03Out_yes a n cap xs w h hn hO2
      have HR := Lib.hid h
      have HNo : Hid (¬ Inm xs m n) := fun x => hO ⟨hm, ⟨hO2.1, by rw [hn]; exact x⟩⟩
      have HE : Hid (∀ i, i < n → 0 ≤ el xs i ∧ xs[i]? = some (el xs i)) := fun i hi => ⟨(hO2.el (by omega)).1, el_get (by omega)⟩
      have hn64 : n ≤ 64 := by have := hO2.1; omega
      clear h hn hO hm hO2
      go_enter Try.func19, Try.ntmps19
      go_wp2_with (first | (go_at_call 64; with_reducible refine (HM.out).mono ?_; rintro e w1 ⟨rfl, rfl⟩) | (go_at_call 58; with_reducible refine (HA.out).mono ?_; rintro e w1 ⟨rfl, rfl⟩))
      clear HA HM
      go_loop [6] (fun iv => ∃ k : Nat, k ≤ n ∧ iv = .int .i64 k ∧ Hid (Inm xs m k)) (fun iv => n - (intOf iv).toNat)
      case atStart => exact ⟨0, Nat.zero_le _, rfl, fun i x hi _ => by omega⟩
      case round =>
        obtain ⟨k, hk, rfl, HK⟩ := hrel
        have hlt : k < n := by
          apply Nat.lt_of_le_of_ne hk
          intro e
          exact HNo.out (by rw [← e]; exact HK.out)
        obtain ⟨h0, hx⟩ := HE.out k hlt
        obtain ⟨g, off, rfl, hg, hcl⟩ := HR.out k _ hx
        obtain ⟨x, hxx⟩ : ∃ x, el xs k = x := ⟨_, rfl⟩
        rw [hxx] at hcl h0 hx
        by_cases hxm : m ≤ x
        · have t1 : decide (m ≤ x) = true := by simpa using hxm
          clear hxm hx hxx
          go_wp2
          go_ret2
          exact ⟨rfl, rfl⟩
        · have t1 : decide (m ≤ x) = false := by simpa using hxm
          have HK2 := Lib.hid (HK.out.next hx ⟨h0, by omega⟩)
          clear hxm hx hxx
          go_wp2
          go_round
          case rel => exact ⟨k + 1, by omega, by go_num, HK2⟩
          case measure => simp [intOf]; omega
    · have HA : Hid (Calls Try.prog 58 #[.slice a n cap] w fun e w' => e = .returned (.bool false) ∧ w = w') := l03Out_no a n cap xs w h hn hl hO2
      clear h hn hO hm hO2
      go_enter Try.func19, Try.ntmps19
      go_wp2_with (first | (go_at_call 64; with_reducible refine (HM.out).mono ?_; rintro e w1 ⟨rfl, rfl⟩) | (go_at_call 58; with_reducible refine (HA.out).mono ?_; rintro e w1 ⟨rfl, rfl⟩))
      go_ret2
      exact ⟨rfl, rfl⟩
  · have HM : Hid (Calls Try.prog 64 #[.int .i64 m, .int .i64 2, .int .i64 100000] w fun e w' => e = .returned (.bool false) ∧ w = w') := l00In_no _ _ _ _ hm
    clear h hn hO hm
    go_enter Try.func19, Try.ntmps19
    go_wp2_with (go_at_call 64; with_reducible refine (HM.out).mono ?_; rintro e w1 ⟨rfl, rfl⟩)
    go_ret2
    exact ⟨rfl, rfl⟩
theorem SL.lower {base base' top : Nat} {w : World} {v : Value} {xs : List Int} (h : SL base top w v xs) (hb : base' ≤ base) : SL base' top w v xs := by
  rcases h with h | ⟨g, cap, rfl, h1, h2, h3, h4, h5⟩
  · exact .inl h
  · exact .inr ⟨g, cap, rfl, h1, by omega, h3, h4, h5⟩
theorem SL.block_lt {base top : Nat} {w : World} {v : Value} {xs : List Int} (h : SL base top w v xs) : ∀ g, v.ownBlock = some g → g < top := by
  intro g hg
  rcases h with ⟨rfl, _⟩ | ⟨g', cap, rfl, _, _, h3, _⟩
  · simp [Value.ownBlock] at hg
  · simp [Value.ownBlock] at hg
    omega
theorem SL.other2 {base top : Nat} {w w1 : World} {v : Value} {xs : List Int} {row : Option Nat} (h : SL base top w v xs) (hg : w.grownBy w1 row) (ht : top ≤ w.heap.size) (hr : ∀ g, row = some g → g < base) : SL base top w1 v xs := by
  rcases h with h | ⟨g, cap, rfl, h1, h2, h3, h4, h5⟩
  · exact .inl h
  · have hne : some g ≠ row := fun e => by have := hr g e.symm; omega
    exact .inr ⟨g, cap, rfl, h1, h2, h3, fun i hi => (hg.cell_far ⟨g, i, none⟩ (by show g < _; omega) hne).trans (h4 i hi), fun i => (hg.frozen_far ⟨g, i, none⟩ (by show g < _; omega) hne).trans (h5 i)⟩
/-- a call over a copy of a slice, with a slice as its result -/
def GivesOf (f : FuncId) (m : Int) (n : Nat) (ys xs : List Int) (ok : Bool) : Prop := ∀ (W : World) b c, RO W.heap.size W b ys → Calls Try.prog f #[.int .i64 m, .slice b n c] W fun e w' => ∃ v, e = .returned (.tuple #[v, .bool ok]) ∧ SL W.heap.size w'.heap.size w' v xs ∧ Below W.heap.size W w'
set_option maxRecDepth 8000 in
theorem lawFac_core (m : Int) (a : Option Addr) (n cap : Nat) (ys xs : List Int) (ok : Bool) (w : World) (h : RO w.heap.size w a ys) (hn : ys.length = n) (hl : n ≤ 1048576) (hx : xs.length ≤ 400)
    (HS : Hid (GivesOf 19 m n ys xs ok)) (HI : Hid (GivesOf 20 m n ys xs ok)) :
    Calls Try.prog 4 #[.int .i64 m, .slice a n cap] w fun e w' => e = .returned (.bool true) ∧ Below w.heap.size w w' := by
  have HR := Lib.hid h
  have HN := Lib.hid hn
  have t0 : decide ((1048576 : Int) < (n : Int)) = false := by simp; omega
  have hok : (ok != ok) = false := by simp
  have hq : (((1 : Int) + (xs.length : Int)) != ((1 : Int) + (xs.length : Int))) = false := by simp
  have hyl : ys.length ≤ 1048576 := by omega
  clear h hn
  go_enter Try.func4, Try.ntmps4
  go_wp2_with fail
  refine (copy_any a n cap ys w HR.out HN.out hl).mono ?_
  rintro e w1 ⟨b1, c1, rfl, r1, _, hb1⟩
  go_wp2_with fail
  refine (HS.out w1 b1 c1 r1).mono ?_
  rintro e w2 ⟨v0, rfl, s0, hb2⟩
  have hB2 : Below w.heap.size w w2 := hb1.trans (hb2.mono hb1.size)
  have z1 := hb1.size
  have z2 := hb2.size
  clear r1 hb1 hb2
  have HR2 := Lib.hid ((HR.out.below hB2).up hB2.size)
  go_wp2_with fail
  refine (copy_any a n cap ys w2 HR2.out HN.out hl).mono ?_
  rintro e w3 ⟨b3, c3, rfl, r3, s3, hb3⟩
  have s03 := s0.below hb3
  have hB3 := hB2.trans (hb3.mono hB2.size)
  have z3 := hb3.size
  clear s0 hb3 hB2 HR2
  go_wp2_with fail
  refine (HI.out w3 b3 c3 r3).mono ?_
  rintro e w4 ⟨g0, rfl, sg, hb4⟩
  have s04 := s03.below (hb4.mono z3)
  have s34 := s3.below hb4
  have hB4 := hB3.trans (hb4.mono hB3.size)
  have z4 := hb4.size
  have H4 := Lib.hid (And.intro s04 (And.intro s34 (And.intro sg hB4)))
  clear s03 s3 r3 hb4 hB3 s04 s34 sg hB4
  go_wp2_with fail
  refine (eq64_yes _ _ xs _ _ _ _ _ H4.out.2.2.1 H4.out.1 (by omega)).mono ?_
  rintro e w5 ⟨rfl, n5, rfl⟩
  have H5 := Lib.hid (And.intro (H4.out.1.drewN n5) (And.intro (H4.out.2.1.drewN n5) (And.intro (H4.out.2.2.1.drewN n5) (below_drewN H4.out.2.2.2 n5))))
  have z5 : w4.heap.size = (w4.drewN n5).heap.size := rfl
  clear H4
  generalize w4.drewN n5 = w5 at H5 z5 ⊢
  have HR5 := Lib.hid ((HR.out.below H5.out.2.2.2).up H5.out.2.2.2.size)
  go_wp2_with fail
  refine (copy_any a n cap ys w5 HR5.out HN.out hl).mono ?_
  rintro e w6 ⟨b6, c6, rfl, _, s6, hb6⟩
  have H6 := Lib.hid (And.intro (H5.out.1.below (hb6.mono (by omega))) (And.intro (H5.out.2.1.below (hb6.mono (by omega))) (And.intro (H5.out.2.2.1.below (hb6.mono (by omega))) (H5.out.2.2.2.trans (hb6.mono H5.out.2.2.2.size)))))
  have z6 := hb6.size
  have S6 := Lib.hid s6
  clear H5 HR5 hb6 s6
  go_wp2_with fail
  refine (eq64_yes _ _ ys _ _ _ _ _ (H6.out.2.1) S6.out hyl).mono ?_
  rintro e w7 ⟨rfl, n7, rfl⟩
  have H7 := Lib.hid (And.intro (H6.out.1.drewN n7) (And.intro (H6.out.2.1.drewN n7) (And.intro (H6.out.2.2.1.drewN n7) (below_drewN H6.out.2.2.2 n7))))
  have z7 : w6.heap.size = (w6.drewN n7).heap.size := rfl
  clear H6 S6
  generalize w6.drewN n7 = w7 at H7 z7 ⊢
  have tk : decide (((1 : Int) + (ys.length : Int)) < 0) = false := by simp; omega
  go_wp2_with fail
  refine (mark64_any _ ys _ _ 1 _ H7.out.2.1 hyl (by omega) (by omega)).mono ?_
  rintro e w8 ⟨rfl, _, hg8⟩
  have z8 : w7.heap.size ≤ w8.heap.size := hg8.size
  have H8 := Lib.hid (And.intro (H7.out.1.other hg8 (by omega) (fun g e => H7.out.2.1.block g e)) (And.intro (H7.out.2.2.1.other2 hg8 (by omega) (fun g e => H7.out.2.1.block_lt g e)) (H7.out.2.2.2.grown hg8 (by omega) (fun g e => by have := H7.out.2.1.block g e; omega))))
  clear H7 hg8
  go_wp2_with fail
  refine (eq64_yes _ _ xs _ _ _ _ _ H8.out.2.1 H8.out.1 (by omega)).mono ?_
  rintro e w9 ⟨rfl, n8, rfl⟩
  go_wp2_with fail
  refine (mark64_any _ xs _ _ 1 _ (H8.out.2.1.drewN n8) (by omega) (by omega) (by omega)).mono ?_
  rintro e w9 ⟨rfl, hm, hg⟩
  have zw3 : w.heap.size ≤ w3.heap.size := by omega
  have K := Lib.hid (Kept.mk0 (w1 := w3) H8.out.2.2 zw3 (by omega) ((H8.out.1.lower z1).up (by omega)) (H8.out.2.1.up (by omega)) (by
    exact hm.up (by omega)) hg)
  clear hm hg H8
  go_wp2_with fail
  refine (held64_any _ _ _ _ 1 _ K.out.sb (by omega) (by omega) (by omega)).mono ?_
  rintro e w10 ⟨rfl, rfl⟩
  have HR9 := Lib.hid ((HR.out.below K.out.bel).up K.out.bel.size)
  go_wp2_with fail
  refine (copy_any a n cap ys w9 HR9.out HN.out hl).mono ?_
  rintro e w11 ⟨b11, c11, rfl, r11, _, hb11⟩
  have K11 := Lib.hid (K.out.next hb11 zw3)
  clear K hb11 HR9
  go_wp2_with fail
  refine (HI.out w11 b11 c11 r11).mono ?_
  rintro e w12 ⟨vc, rfl, hc, hb12⟩
  have K12 := Lib.hid (K11.out.next hb12 zw3)
  have HC := Lib.hid hc
  clear K11 hb12 hc r11
  go_wp2_with fail
  refine (eq64_yes _ _ xs _ _ _ _ _ HC.out K12.out.sa (by omega)).mono ?_
  rintro e w13 ⟨rfl, n12, rfl⟩
  have K13 := Lib.hid (K12.out.drewN n12)
  clear K12 HC
  go_wp2_with fail
  refine (held64_any _ _ _ _ 1 _ K13.out.sb (by omega) (by omega) (by omega)).mono ?_
  rintro e w14 ⟨rfl, rfl⟩
  go_wp2
  go_ret
  exact ⟨rfl, K13.out.bel⟩
theorem lawFac (m : Int) (a : Option Addr) (n cap : Nat) (zs : List Int) (w : World) (h : RowIn .i64 w a n zs) :
    Calls Try.prog 4 #[.int .i64 m, .slice a n cap] w fun e w' => e = .returned (.bool true) ∧ Below w.heap.size w w' := by
  by_cases hl : n ≤ 1048576
  · obtain ⟨ys, hn, hr⟩ := h.ro
    by_cases hO : (2 ≤ m ∧ m ≤ 100000) ∧ OutP ys m
    · obtain ⟨hm, hP⟩ := hO
      obtain ⟨M, rfl⟩ := Int.eq_ofNat_of_zero_le (show 0 ≤ m by omega)
      obtain ⟨c, hc⟩ : ∃ c, n = c + 3 := ⟨n - 3, by have := hP.1; omega⟩
      by_cases h64 : (facL ys M (c + 1) M).length ≤ 64
      · refine lawFac_core M a n cap ys (facL ys M (c + 1) M) true w hr hn hl (by omega) (fun W b d hb => ?_) (fun W b d hb => ?_)
        · refine (specFac_yes b n d c M ys W hb hn (by omega) hP hc).mono ?_
          rintro e w' (⟨v, he, _, hs, hbl⟩ | ⟨_, h2, _⟩)
          · exact ⟨v, he, hs, hbl⟩
          · omega
        · refine (facFrom_yes b n d c M ys W hb hn (by omega) hP hc).mono ?_
          rintro e w' (⟨v, he, _, hs, hbl⟩ | ⟨_, h2, _⟩)
          · exact ⟨v, he, hs, hbl⟩
          · omega
      · refine lawFac_core M a n cap ys [] false w hr hn hl (by simp) (fun W b d hb => ?_) (fun W b d hb => ?_)
        · refine (specFac_yes b n d c M ys W hb hn (by omega) hP hc).mono ?_
          rintro e w' (⟨v, _, h2, _⟩ | ⟨he, _, hbl⟩)
          · omega
          · exact ⟨_, he, .inl ⟨rfl, rfl⟩, hbl⟩
        · refine (facFrom_yes b n d c M ys W hb hn (by omega) hP hc).mono ?_
          rintro e w' (⟨v, _, h2, _⟩ | ⟨he, _, hbl⟩)
          · omega
          · exact ⟨_, he, .inl ⟨rfl, rfl⟩, hbl⟩
    · refine lawFac_core m a n cap ys [] false w hr hn hl (by simp) (fun W b d hb => ?_) (fun W b d hb => ?_)
      · exact (specFac_no b n d m ys W hb hn hl hO).mono fun e w' ⟨he, hw⟩ => ⟨_, he, .inl ⟨rfl, rfl⟩, hw ▸ Below.refl _ _⟩
      · exact (facFrom_no b n d m ys W hb hn hl hO).mono fun e w' ⟨he, hw⟩ => ⟨_, he, .inl ⟨rfl, rfl⟩, hw ▸ Below.refl _ _⟩
  · have hle := h.len_le
    have t0 : decide ((1048576 : Int) < (n : Int)) = true := by simp; omega
    clear h
    go_enter Try.func4, Try.ntmps4
    go_wp2
    go_ret
    exact ⟨rfl, Below.refl _ _⟩
end Go.Proofs.Ytpnifnpbolieoaa
