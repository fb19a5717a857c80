/- The number behind outputs: impl.ModulusFrom, spec.ModulusFrom, and the law FnExactModulusFrom. -/
import Derived.Test.YtpnifnpbolieoaaConOut
import Derived.Test.YtpnifnpbolieoaaRowC
import Derived.Deep.RegionHeld3
import Derived.Deep.AppendLies
namespace Go.Proofs.Ytpnifnpbolieoaa
open Go.RowKit Go.PlainAid
set_option maxHeartbeats 800000

def tOf (xs : List Int) (k : Nat) : Int := df xs (k + 2) * df xs k - df xs (k + 1) * df xs (k + 1)
/-- the common divisor of the first k numbers -/
def gTo (xs : List Int) : Nat → Int
  | 0 => 0
  | k + 1 => gcdI (gTo xs k) (tOf xs k)
theorem prod_in (x y : Int) (h1 : -99999 ≤ x) (h2 : x ≤ 99999) (h3 : -99999 ≤ y) (h4 : y ≤ 99999) : -9999800001 ≤ x * y ∧ x * y ≤ 9999800001 := by
  have h : (x * y).natAbs ≤ 99999 * 99999 := by
    rw [Int.natAbs_mul]
    exact Nat.mul_le_mul (by omega) (by omega)
  omega
theorem OutP.df {xs : List Int} (h : OutP xs 100000) {i : Nat} (hi : i + 1 < xs.length) : -99999 ≤ df xs i ∧ df xs i ≤ 99999 := by
  have h1 := h.el (i := i) (by omega)
  have h2 := h.el hi
  unfold Proofs.Ytpnifnpbolieoaa.df
  omega
theorem gTo_in {xs : List Int} (h : OutP xs 100000) : ∀ k, k + 3 ≤ xs.length → 0 ≤ gTo xs k ∧ gTo xs k ≤ 20000000000 := by
  intro k
  induction k with
  | zero => intro _; show (0 : Int) ≤ 0 ∧ (0 : Int) ≤ 20000000000; omega
  | succ k ih =>
    intro hk
    obtain ⟨h0, h1⟩ := ih (by omega)
    obtain ⟨a1, a2⟩ := h.df (i := k) (by omega)
    obtain ⟨b1, b2⟩ := h.df (i := k + 1) (by omega)
    obtain ⟨c1, c2⟩ := h.df (i := k + 2) (by omega)
    have p1 := prod_in _ _ c1 c2 a1 a2
    have p2 := prod_in _ _ b1 b2 b1 b2
    refine ⟨gcdI_nonneg _ _, ?_⟩
    show gcdI (gTo xs k) (tOf xs k) ≤ _
    by_cases ht : tOf xs k = 0
    · rw [ht, gcdI_zero]
      omega
    · have h3 : Int.gcd (gTo xs k) (tOf xs k) ≤ (tOf xs k).natAbs := Nat.le_of_dvd (by omega) (Int.gcd_dvd_natAbs_right _ _)
      unfold gcdI
      unfold tOf at h3 ht ⊢
      omega
theorem gcdI_abs (a b : Int) : gcdI a (b.natAbs : Nat) = gcdI a b := by simp [gcdI, Int.gcd]

set_option maxRecDepth 4000 in
theorem modFrom_yes (a : Option Addr) (n cap c : Nat) (xs : List Int) (w : World) (h : RO w.heap.size w a xs) (hn : xs.length = n) (hO : OutP xs 100000) (hc : n = c + 3) :
    Calls Try.prog 17 #[.slice a n cap] w fun e w' => e = .returned (.tuple #[.int .i64 (gTo xs c), .bool (gTo xs c != 0)]) ∧ Below w.heap.size w w' := by
  have HA : Hid (Calls Try.prog 61 #[.slice a n cap, .int .i64 100000] w fun e w' => e = .returned (.bool true) ∧ w = w') := areOut_yes a n cap xs 100000 w h hn (by decide) (by decide) hO
  have HD : Hid (Calls Try.prog 62 #[.slice a n cap] w fun e w' => ∃ g cp, e = .returned (.slice (some ⟨g, 0, none⟩) (c + 2) cp) ∧ (∀ k, k < c + 2 → w'.cell? ⟨g, k, none⟩ = some (.int .i64 (df xs k))) ∧ Below w.heap.size w w') := by
    refine (diffs_any a n cap xs 100000 w h hn (by decide) hO).mono ?_
    rintro e w' ⟨v, rfl, hown, hb⟩
    rw [show n - 1 = c + 2 by omega] at hown
    obtain ⟨g, cp, rfl, _⟩ := own_shape hown (by omega)
    exact ⟨g, cp, rfl, fun k hk => own_cellsI hown k _ hk (dfL_get xs hk), hb⟩
  have hc2 : c ≤ 61 := by have := hO.1; omega
  have HF : Hid (∀ i, i < c + 2 → -99999 ≤ df xs i ∧ df xs i ≤ 99999) := fun i hi => hO.df (by omega)
  have HG : Hid (∀ k, k ≤ c → 0 ≤ gTo xs k ∧ gTo xs k ≤ 20000000000) := fun k hk => gTo_in hO k (by omega)
  clear h hn hO hc
  go_enter Try.func17, Try.ntmps17
  go_wp2_with (first | (go_at_call 61; with_reducible refine (HA.out).mono ?_; rintro e w1 ⟨rfl, rfl⟩) | (go_at_call 62; with_reducible refine (HD.out).mono ?_; rintro e w1 ⟨g, cp, rfl, hcel, hbel⟩))
  have HX := Lib.hid hcel
  have HB := Lib.hid hbel
  clear hcel hbel HA HD
  go_loopw [5, 6, 7, 8, 9, 18] (fun dv _ _ _ _ iv wr => ∃ k d : Nat, k ≤ c ∧ iv = .int .i64 k ∧ dv = .int .i64 (gTo xs k) ∧ wr = w1.drewN d) (fun _ _ _ _ _ iv _ => c - (intOf iv).toNat)
  case atStart => exact ⟨0, 0, Nat.zero_le _, rfl, rfl, rfl⟩
  case round =>
    obtain ⟨k, d, hk, rfl, rfl, rfl⟩ := hrel
    obtain ⟨G, hG⟩ : ∃ G, gTo xs k = G := ⟨_, rfl⟩
    obtain ⟨g0, g1⟩ := HG.out k hk
    rw [hG] at g0 g1 ⊢
    by_cases hlt : k < c
    · have c0 := HX.out k (by omega)
      have c1 := HX.out (k + 1) (by omega)
      have c2 := HX.out (k + 2) (by omega)
      obtain ⟨a1, a2⟩ := HF.out k (by omega)
      obtain ⟨b1, b2⟩ := HF.out (k + 1) (by omega)
      obtain ⟨d1, d2⟩ := HF.out (k + 2) (by omega)
      have HT : Hid (gTo xs (k + 1) = gcdI G (df xs (k + 2) * df xs k - df xs (k + 1) * df xs (k + 1))) := by rw [← hG]; rfl
      have p1 := prod_in _ _ d1 d2 a1 a2
      have p2 := prod_in _ _ b1 b2 b1 b2
      obtain ⟨x0, e0⟩ : ∃ x, df xs k = x := ⟨_, rfl⟩
      obtain ⟨x1, e1⟩ : ∃ x, df xs (k + 1) = x := ⟨_, rfl⟩
      obtain ⟨x2, e2⟩ : ∃ x, df xs (k + 2) = x := ⟨_, rfl⟩
      rw [e0] at c0 p1 HT
      rw [e1] at c1 p2 HT
      rw [e2] at c2 p1 HT
      obtain ⟨P, hP⟩ : ∃ P, x2 * x0 = P := ⟨_, rfl⟩
      obtain ⟨Q, hQ⟩ : ∃ Q, x1 * x1 = Q := ⟨_, rfl⟩
      rw [hP] at p1 HT
      rw [hQ] at p2 HT
      have s1 : IntKind.i64.wrap ((k : Int) + 1) = (k : Int) + 1 := IntWalk.i64_in _ (by omega)
      have s2 : IntKind.i64.wrap ((k : Int) + 2) = (k : Int) + 2 := IntWalk.i64_in _ (by omega)
      have s3 : (0 : Int) ≤ (k : Int) + 1 := by omega
      have s4 : (0 : Int) ≤ (k : Int) + 2 := by omega
      have s5 : ((k : Int) + 1).toNat = k + 1 := by omega
      have s6 : ((k : Int) + 2).toNat = k + 2 := by omega
      have HC : Hid (∀ w : World, Calls Try.prog 63 #[.int .i64 G, .int .i64 (P - Q)] w fun e w' => e = .returned (.int .i64 (gcdI G (P - Q))) ∧ ∃ n, w' = w.drewN n) := fun w => common_any G (P - Q) w (by omega) (by omega) (by omega) (by omega)
      clear hG a1 a2 b1 b2 d1 d2 e0 e1 e2
      go_wp2
      go_quiet (fail)
      go_wp2_with (go_at_call 63; with_reducible refine (HC.out _).mono ?_; rintro e w2 ⟨rfl, m2, rfl⟩)
      exact ⟨⟨k + 1, d + nq + m2, by omega, by go_num, by rw [HT.out], rfl⟩, by simp [intOf]; omega⟩
    · obtain rfl : k = c := by omega
      go_wp2
      go_ret2
      exact ⟨by rw [hG]; rfl, below_drewN HB.out _⟩
theorem modFrom_no (a : Option Addr) (n cap : Nat) (xs : List Int) (w : World) (h : RO w.heap.size w a xs) (hn : xs.length = n) (hl : n ≤ 1048576) (hO : ¬ OutP xs 100000) :
    Calls Try.prog 17 #[.slice a n cap] w fun e w' => e = .returned (.tuple #[.int .i64 0, .bool false]) ∧ w = w' := by
  have HA : Hid (Calls Try.prog 61 #[.slice a n cap, .int .i64 100000] w fun e w' => e = .returned (.bool false) ∧ w = w') := areOut_no a n cap xs 100000 w h hn hl (by decide) (by decide) hO
  clear h hn hO
  go_enter Try.func17, Try.ntmps17
  go_wp2_with (go_at_call 61; with_reducible refine (HA.out).mono ?_; rintro e w1 ⟨rfl, rfl⟩)
  go_ret2
  exact ⟨rfl, rfl⟩

set_option maxRecDepth 4000 in
theorem specMod_yes (a : Option Addr) (n cap c : Nat) (xs : List Int) (w : World) (h : RO w.heap.size w a xs) (hn : xs.length = n) (hO : OutP xs 100000) (hc : n = c + 3) (hc1 : 1 ≤ c) :
    Calls Try.prog 15 #[.slice a n cap] w fun e w' => e = .returned (.tuple #[.int .i64 (gTo xs c), .bool (gTo xs c != 0)]) ∧ Below w.heap.size w w' := by
  obtain ⟨i0, hi, hz0, hz1, hz2⟩ := info_parts Try.info2
  have HA : Hid (Calls Try.prog 58 #[.slice a n cap] w fun e w' => e = .returned (.bool true) ∧ w = w') := l03Out_yes a n cap xs w h hn hO
  have hc2 : c ≤ 61 := by have := hO.1; omega
  have HF : Hid (∀ i, i < c + 2 → -99999 ≤ df xs i ∧ df xs i ≤ 99999) := fun i hi => hO.df (by omega)
  have HG : Hid (∀ k, k ≤ c → 0 ≤ gTo xs k ∧ gTo xs k ≤ 20000000000) := fun k hk => gTo_in hO k (by omega)
  have HE : Hid (∀ i, i < c + 3 → 0 ≤ el xs i ∧ el xs i ≤ 99999) := fun i hi => by have := hO.el (i := i) (by omega); omega
  have HR : Hid (∀ i, i < c + 3 → ∃ g off, a = some ⟨g, off, none⟩ ∧ g < w.heap.size ∧ w.cell? ⟨g, off + i, none⟩ = some (.int .i64 (el xs i))) := fun i hi => h i _ (el_get (by omega))
  subst hc
  have q1 : ((c + 3 : Nat) : Int) = (c : Int) + 3 := by omega
  clear h hn hO
  go_enter Try.func15, Try.ntmps15
  have q2 : decide ((c : Int) + 3 < 4) = false := by simp; omega
  go_wp2_with (go_at_call 58; with_reducible refine (HA.out).mono ?_; rintro e w1 ⟨rfl, rfl⟩)
  obtain ⟨L, hL⟩ : ∃ L, L = c + 2 := ⟨_, rfl⟩
  have HLE := Lib.hid hL
  clear hL
  have HW0 := Lib.hid (ownsRow_empty w 2 1)
  have HB0 : Hid (Below w.heap.size w (w.alloc (.cells #[] 2))) := (Below.refl _ _).alloc (Nat.le_refl _) _
  go_loopw [4, 5] (fun v iv wr => ∃ k : Nat, k ≤ L ∧ iv = .int .i64 ((k : Int) + 1) ∧ Hid (wr.ownsRow w.heap.size 2 1 v k ((dfL xs k).map (Value.int .i64))) ∧ Hid (Below w.heap.size w wr)) (fun _ iv _ => c + 3 - (intOf iv).toNat)
  case atStart => exact ⟨0, Nat.zero_le _, rfl, HW0, HB0⟩
  case round =>
    obtain ⟨k, hk, rfl, HW, HB⟩ := hrel
    clear HW0 HB0
    by_cases hlt : k < L
    · have hL := HLE.out
      obtain ⟨b0, b1⟩ := HE.out k (by omega)
      obtain ⟨b2, b3⟩ := HE.out (k + 1) (by omega)
      obtain ⟨g, off, ha, hg, hc⟩ := HR.out k (by omega)
      obtain ⟨g', off', ha', hg', hc'⟩ := HR.out (k + 1) (by omega)
      subst ha
      simp only [Option.some.injEq, Addr.mk.injEq] at ha'
      obtain ⟨rfl, rfl, _⟩ := ha'
      have hT : Hid (dfL xs (k + 1) = dfL xs k ++ [el xs (k + 1) - el xs k]) := dfL_succ xs k
      obtain ⟨x0, hx0⟩ : ∃ x, el xs k = x := ⟨_, rfl⟩
      obtain ⟨x1, hx1⟩ : ∃ x, el xs (k + 1) = x := ⟨_, rfl⟩
      rw [hx0] at b0 b1 hc hT
      rw [hx1] at b2 b3 hc' hT
      have e0 := (HB.out.cell (p := ⟨g, off + k, none⟩) hg).trans hc
      have e1 := (HB.out.cell (p := ⟨g, off + (k + 1), none⟩) hg).trans hc'
      clear hc hc' hx0 hx1 hg'
      have s1 : IntKind.i64.wrap (k : Int) = (k : Int) := IntWalk.i64_in _ (by omega)
      have s2 : (0 : Int) ≤ (k : Int) + 1 := by omega
      have s3 : ((k : Int) + 1).toNat = k + 1 := by omega
      have s4 : (k : Int) + 1 < (c : Int) + 3 := by omega
      have s5 : IntKind.i64.wrap (x1 - x0) = x1 - x0 := IntWalk.i64_in _ (by omega)
      have s6 : k < c + 3 := by omega
      have s7 : (k : Int) < (c : Int) + 3 := by omega
      have s8 : k + 1 < c + 3 := by omega
      have s9 : (0 : Int) ≤ (k : Int) := by omega
      clear hL
      have hown := HW.out
      have hz := HB.out.size
      have hgw : g < wr.heap.size := by omega
      have ag : u4.ownBlock ≠ some g := fun x => by have := own_block hown g x; omega
      clear HW
      go_wp2_with fail
      go_region_held3 (fun w' => w'.cell? ⟨g, off + (k + 1), none⟩ = some (.int .i64 x1) ∧ w'.cell? ⟨g, off + k, none⟩ = some (.int .i64 x0))
        (first
          | (go_keep; done)
          | (go_split_ands
             refine ⟨?_, ?_⟩
             · (rw [hgrow.cell_far _ (by simp; omega) (Ne.symm ag)]; assumption)
             · (rw [hgrow.cell_far _ (by simp; omega) (Ne.symm ag)]; assumption)))
        ((refine step_append_lies _ (by rfl) _ _ _ (by rfl) w.heap.size 2 i0 _ 1 8 Try.underlying22 hi hz0 hz1 hz2 rfl (by omega) _ _ _ (by rfl) ((hown.alloc _).drew) ⟨wr.heap.size, 0, none⟩ 1 1 [.int .i64 (x1 - x0)] (by rfl) (by rfl) (World.news_of_block (cs := #[.int .i64 (x1 - x0)]) (t := 2) (fr := (0, 0)) (heap_alloc_new wr _)) (by simp [Value.oneCell']) (by omega) (by unfold maxLen; omega) (by omega) (by simp; omega) (wr.heap.size + 1) (by simp) ?_; intro gg cap' w4 hown1 hgrow hat hlt2))
      have HB4 : Hid (Below w.heap.size w w4) := ((HB.out.alloc hz _).drew).grown hgrow (by simp; omega) (own_block hown)
      have HW4 : Hid (w4.ownsRow w.heap.size 2 1 (.slice (some ⟨gg, 0, none⟩) (k + 1) cap') (k + 1) ((dfL xs (k + 1)).map (Value.int .i64))) := by
        unfold Hid
        rw [hT.out]
        simpa using hown1
      clear hown hown1 hgrow hat hlt2 HB e0 e1 s1 s3
      go_wp2
      go_roundw
      case rel => exact ⟨k + 1, by omega, by go_num, HW4, HB4⟩
      case measure => simp [intOf]; omega
    · have hL := HLE.out
      obtain rfl : k = L := by omega
      obtain ⟨g, cp, rfl, _⟩ := own_shape HW.out (by omega)
      have HX : Hid (∀ j, j < c + 2 → wr.cell? ⟨g, j, none⟩ = some (.int .i64 (df xs j))) := fun j hj => own_cellsI HW.out j _ (by omega) (dfL_get xs (by omega))
      have t1 : decide ((k : Int) + 1 < (c : Int) + 3) = false := by simp; omega
      clear HW hL
      go_wp2
      go_loopw [6, 7, 8] (fun gv iv _ w2 => ∃ q d : Nat, q ≤ c ∧ iv = .int .i64 q ∧ gv = .int .i64 (gTo xs q) ∧ w2 = wr.drewN d) (fun _ iv _ _ => c - (intOf iv).toNat)
      case atStart => exact ⟨0, 0, Nat.zero_le _, rfl, rfl, rfl⟩
      case round =>
        obtain ⟨q, d, hq, rfl, rfl, rfl⟩ := hrel
        obtain ⟨G, hG⟩ : ∃ G, gTo xs q = G := ⟨_, rfl⟩
        obtain ⟨g0, g1⟩ := HG.out q hq
        rw [hG] at g0 g1 ⊢
        have s2 : IntKind.i64.wrap ((q : Int) + 2) = (q : Int) + 2 := IntWalk.i64_in _ (by omega)
        have hL := HLE.out
        have s11 : decide ((q : Int) + 2 < (k : Int)) = decide (q < c) := by rw [hL]; simp
        by_cases hlt : q < c
        · have s12 : decide ((q : Int) + 2 < (k : Int)) = true := by rw [s11]; simpa using hlt
          have s13 : (q : Int) + 2 < (k : Int) := by omega
          have s14 : (q : Int) + 1 < (k : Int) := by omega
          have s15 : (q : Int) < (k : Int) := by omega
          have s16 : q < k := by omega
          have s17 : q + 1 < k := by omega
          have s18 : q + 2 < k := by omega
          clear s11
          have c0 := HX.out q (by omega)
          have c1 := HX.out (q + 1) (by omega)
          have c2 := HX.out (q + 2) (by omega)
          obtain ⟨a1, a2⟩ := HF.out q (by omega)
          obtain ⟨b1, b2⟩ := HF.out (q + 1) (by omega)
          obtain ⟨d1, d2⟩ := HF.out (q + 2) (by omega)
          have HT : Hid (gTo xs (q + 1) = gcdI G (df xs (q + 2) * df xs q - df xs (q + 1) * df xs (q + 1))) := by rw [← hG]; rfl
          have p1 := prod_in _ _ d1 d2 a1 a2
          have p2 := prod_in _ _ b1 b2 b1 b2
          obtain ⟨x0, e0⟩ : ∃ x, df xs q = x := ⟨_, rfl⟩
          obtain ⟨x1, e1⟩ : ∃ x, df xs (q + 1) = x := ⟨_, rfl⟩
          obtain ⟨x2, e2⟩ : ∃ x, df xs (q + 2) = x := ⟨_, rfl⟩
          rw [e0] at c0 p1 HT
          rw [e1] at c1 p2 HT
          rw [e2] at c2 p1 HT
          obtain ⟨P, hP⟩ : ∃ P, x2 * x0 = P := ⟨_, rfl⟩
          obtain ⟨Q, hQ⟩ : ∃ Q, x1 * x1 = Q := ⟨_, rfl⟩
          rw [hP] at p1 HT
          rw [hQ] at p2 HT
          obtain ⟨T, hTT⟩ : ∃ T, P - Q = T := ⟨_, rfl⟩
          rw [hTT] at HT
          have p3 : -20000000000 ≤ T ∧ T ≤ 20000000000 := by omega
          have s7 : IntKind.i64.wrap P = P := IntWalk.i64_in _ (by omega)
          have s8 : IntKind.i64.wrap Q = Q := IntWalk.i64_in _ (by omega)
          have s9 : IntKind.i64.wrap T = T := IntWalk.i64_in _ (by omega)
          have s10 : IntKind.i64.wrap (-T) = -T := IntWalk.i64_in _ (by omega)
          have s1 : IntKind.i64.wrap ((q : Int) + 1) = (q : Int) + 1 := IntWalk.i64_in _ (by omega)
          have s3 : (0 : Int) ≤ (q : Int) + 1 := by omega
          have s4 : (0 : Int) ≤ (q : Int) + 2 := by omega
          have s5 : ((q : Int) + 1).toNat = q + 1 := by omega
          have s6 : ((q : Int) + 2).toNat = q + 2 := by omega
          have HM : Hid (∀ w : World, Calls Try.prog 60 #[.int .i64 T, .int .i64 (-T)] w fun e w' => e = .returned (.int .i64 (T.natAbs : Nat)) ∧ w = w') := fun w => l00Max_abs T w (by omega) (by omega)
          have HC : Hid (∀ w : World, Calls Try.prog 59 #[.int .i64 G, .int .i64 (T.natAbs : Nat)] w fun e w' => e = .returned (.int .i64 (gcdI G T)) ∧ w = w') := fun w => by
            rw [← gcdI_abs]
            exact l01Gcd_any G (T.natAbs : Nat) w (by omega) (by omega) (by omega) (by omega)
          clear hL
          clear hG a1 a2 b1 b2 d1 d2 e0 e1 e2 p1 p2
          go_wp2
          go_quiet (fail)
          go_wp2_with (first | (go_at_call 60; with_reducible refine (HM.out _).mono ?_; rintro e w2 ⟨rfl, rfl⟩) | (go_at_call 59; with_reducible refine (HC.out _).mono ?_; rintro e w2 ⟨rfl, rfl⟩))
          exact ⟨⟨q + 1, d + nq, by omega, by go_num, by rw [HT.out], rfl⟩, by simp [intOf]; omega⟩
        · have s12 : decide ((q : Int) + 2 < (k : Int)) = false := by rw [s11]; simpa using hlt
          clear s11 hL
          obtain rfl : q = c := by omega
          by_cases hz : G = 0
          · subst hz
            go_wp2
            go_ret2
            exact ⟨by rw [hG]; rfl, below_drewN HB.out _⟩
          · have hz2 : (G == 0) = false := by simpa using hz
            have hz3 : (G != 0) = true := by simpa using hz
            clear hz
            go_wp2
            go_ret2
            exact ⟨by rw [hG, hz3]; rfl, below_drewN HB.out _⟩
theorem specMod_no (a : Option Addr) (n cap : Nat) (xs : List Int) (w : World) (h : RO w.heap.size w a xs) (hn : xs.length = n) (hl : n ≤ 1048576) (hO : ¬ (OutP xs 100000 ∧ 4 ≤ n)) :
    Calls Try.prog 15 #[.slice a n cap] w fun e w' => e = .returned (.tuple #[.int .i64 0, .bool false]) ∧ w = w' := by
  by_cases hO2 : OutP xs 100000
  · have HA : Hid (Calls Try.prog 58 #[.slice a n cap] w fun e w' => e = .returned (.bool true) ∧ w = w') := l03Out_yes a n cap xs w h hn hO2
    have hn2 : ¬ 4 ≤ n := fun x => hO ⟨hO2, x⟩
    have t1 : decide ((n : Int) < 4) = true := by simp; omega
    clear h hn hO hO2
    go_enter Try.func15, Try.ntmps15
    go_wp2_with (go_at_call 58; with_reducible refine (HA.out).mono ?_; rintro e w1 ⟨rfl, rfl⟩)
    go_ret2
    exact ⟨rfl, rfl⟩
  · have HA : Hid (Calls Try.prog 58 #[.slice a n cap] w fun e w' => e = .returned (.bool false) ∧ w = w') := l03Out_no a n cap xs w h hn hl hO2
    clear h hn hO hO2
    go_enter Try.func15, Try.ntmps15
    go_wp2_with (go_at_call 58; with_reducible refine (HA.out).mono ?_; rintro e w1 ⟨rfl, rfl⟩)
    go_ret2
    exact ⟨rfl, rfl⟩
theorem lawMod_core (a : Option Addr) (n cap : Nat) (xs : List Int) (r : Int) (ok : Bool) (w : World) (h : RO w.heap.size w a xs) (hn : xs.length = n) (hl : n ≤ 1048576)
    (HS : Hid (∀ (W : World) b c, RO W.heap.size W b xs → Calls Try.prog 15 #[.slice b n c] W fun e w' => e = .returned (.tuple #[.int .i64 r, .bool ok]) ∧ Below W.heap.size W w'))
    (HI : Hid (∀ (W : World) b c, RO W.heap.size W b xs → Calls Try.prog 17 #[.slice b n c] W fun e w' => e = .returned (.tuple #[.int .i64 r, .bool ok]) ∧ Below W.heap.size W w')) :
    Calls Try.prog 3 #[.slice a n cap] w fun e w' => e = .returned (.bool true) ∧ Below w.heap.size w w' := by
  have HR := Lib.hid h
  have HN := Lib.hid hn
  have t0 : decide ((1048576 : Int) < (n : Int)) = false := by simp; omega
  have hne : (r != r) = false := by simp
  have hne2 : (ok != ok) = false := by simp
  clear h hn
  go_enter Try.func3, Try.ntmps3
  go_wp2_with fail
  refine (copy_any a n cap xs w HR.out HN.out hl).mono ?_
  rintro e w1 ⟨b1, c1, rfl, r1, _, hb1⟩
  go_wp2_with fail
  refine (HS.out w1 b1 c1 r1).mono ?_
  rintro e w2 ⟨rfl, hb2⟩
  have hB2 : Below w.heap.size w w2 := hb1.trans (hb2.mono hb1.size)
  clear r1 hb1 hb2
  have HR2 := Lib.hid ((HR.out.below hB2).up hB2.size)
  go_wp2_with fail
  refine (copy_any a n cap xs w2 HR2.out HN.out hl).mono ?_
  rintro e w3 ⟨b3, c3, rfl, r3, s3, hb3⟩
  go_wp2_with fail
  refine (HI.out w3 b3 c3 r3).mono ?_
  rintro e w4 ⟨rfl, hb4⟩
  have hB4 : Below w.heap.size w w4 := (hB2.trans (hb3.mono hB2.size)).trans (hb4.mono (Nat.le_trans hB2.size hb3.size))
  have HS4 := Lib.hid (s3.below hb4)
  have z3 := hb3.size
  have z4 := hb4.size
  clear r3 s3 hb3 hb4 HR2 hB2
  have HR4 := Lib.hid ((HR.out.below hB4).up hB4.size)
  go_wp2_with fail
  refine (copy_any a n cap xs w4 HR4.out HN.out hl).mono ?_
  rintro e w5 ⟨b5, c5, rfl, _, s5, hb5⟩
  have HB5 := Lib.hid (hB4.trans (hb5.mono hB4.size))
  have HS5 := Lib.hid (HS4.out.below (hb5.mono z4))
  have HE : Hid (Calls Try.prog 18 #[.slice b3 n c3, .slice b5 n c5] w5 fun e w' => e = .returned (.bool true) ∧ ∃ n, w' = w5.drewN n) := eq64_yes _ _ xs _ _ _ _ w5 HS5.out s5 (by rw [HN.out]; exact hl)
  clear hB4 hb5 s5 HS4 HS5 HR4
  go_wp2_with (go_at_call 18; with_reducible refine (HE.out).mono ?_; rintro e w6 ⟨rfl, m6, rfl⟩)
  go_ret
  exact ⟨rfl, below_drewN HB5.out m6⟩
theorem lawMod (a : Option Addr) (n cap : Nat) (zs : List Int) (w : World) (h : RowIn .i64 w a n zs) :
    Calls Try.prog 3 #[.slice a n cap] w fun e w' => e = .returned (.bool true) ∧ Below w.heap.size w w' := by
  by_cases hl : n ≤ 1048576
  · obtain ⟨xs, hn, hr⟩ := h.ro
    by_cases hO : OutP xs 100000 ∧ 4 ≤ n
    · obtain ⟨c, hc⟩ : ∃ c, n = c + 3 := ⟨n - 3, by omega⟩
      exact lawMod_core a n cap xs (gTo xs c) (gTo xs c != 0) w hr hn hl (fun W b d hb => specMod_yes b n d c xs W hb hn hO.1 hc (by omega)) (fun W b d hb => modFrom_yes b n d c xs W hb hn hO.1 hc)
    · refine lawMod_core a n cap xs 0 false w hr hn hl (fun W b d hb => (specMod_no b n d xs W hb hn hl hO).mono fun e w' ⟨he, hw⟩ => ⟨he, hw ▸ Below.refl _ _⟩) (fun W b d hb => ?_)
      by_cases hO2 : OutP xs 100000
      · have h3 : n = 0 + 3 := by
          have := hO2.1
          have : ¬ 4 ≤ n := fun x => hO ⟨hO2, x⟩
          omega
        exact modFrom_yes b n d 0 xs W hb hn hO2 h3
      · exact (modFrom_no b n d xs W hb hn hl hO2).mono fun e w' ⟨he, hw⟩ => ⟨he, hw ▸ Below.refl _ _⟩
  · have hle := h.len_le
    have t0 : decide ((1048576 : Int) < (n : Int)) = true := by simp; omega
    clear h
    go_enter Try.func3, Try.ntmps3
    go_wp2
    go_ret
    exact ⟨rfl, Below.refl _ _⟩
end Go.Proofs.Ytpnifnpbolieoaa
