/- The cost of a die in the code: impl.DiceCost. -/
import Derived.Test.YtamedggnkbhgeabDMath
import Derived.Test.YtamedggnkbhgeabCycK
import Derived.Test.YtamedggnkbhgeabMake
import Derived.Test.YtamedggnkbhgeabMix
namespace Go.Proofs.Ytamedggnkbhgeab
open Go.RowKit Go.PlainAid
set_option maxHeartbeats 1000000

theorem nextD_any (n x : Nat) (w : World) (hn : 1 ≤ n) (hn2 : n ≤ 32) (hx : x ≤ 32) :
    Calls Try.prog 42 #[.agg #[.int .i64 n, .int .i64 2, .int .i64 0], .int .i64 x] w fun e w' => e = .returned (.int .i64 (2 * x % n : Nat)) ∧ Below w.heap.size w w' := by
  have HV : Hid ((2 * (x : Int)) % n = (2 * x % n : Nat)) := by unfold Hid; simp
  have hm0 : ¬ n = 0 := by omega
  go_enter Try.func42, Try.ntmps42
  go_wp2
  go_ret
  exact ⟨retI HV.out, (Below.refl _ _).alloc (Nat.le_refl _) _⟩
theorem nextP_any (n k : Nat) (w : World) (hn : 1 ≤ n) (hn2 : n ≤ 32) :
    Calls Try.prog 42 #[.agg #[.int .i64 n, .int .i64 2, .int .i64 0], .int .i64 (pw2 n k)] w fun e w' => e = .returned (.int .i64 (pw2 n (k + 1))) ∧ Below w.heap.size w w' := by
  have := nextD_any n (pw2 n k) w hn hn2 (by have := pw2_lt hn k; omega)
  rwa [← pw2_next] at this
/-- a struct of three in block b -/
def D3 (V : World) (b : Nat) (x y z : Value) : Prop := V.cell? ⟨b, 0, none⟩ = some x ∧ V.cell? ⟨b, 1, none⟩ = some y ∧ V.cell? ⟨b, 2, none⟩ = some z
theorem D3.new (w : World) (x y z : Value) (t : TypeId) : D3 (w.alloc (.cells #[x, y, z] t)) w.heap.size x y z := ⟨by simp [go_sem], by simp [go_sem], by simp [go_sem]⟩
theorem D3.far {V V1 : World} {b : Nat} {x y z : Value} (h : D3 V b x y z) (hb : Below V.heap.size V V1) : D3 V1 b x y z :=
  have hlt := World.block_lt_of_cell? V _ h.1
  ⟨(hb.cell (p := ⟨b, 0, none⟩) hlt).trans h.1, (hb.cell (p := ⟨b, 1, none⟩) hlt).trans h.2.1, (hb.cell (p := ⟨b, 2, none⟩) hlt).trans h.2.2⟩
theorem D3.drew {V : World} {b : Nat} {x y z : Value} (h : D3 V b x y z) : D3 V.drew b x y z := h
theorem D3.grow {W0 w : World} {rw : Option Nat} {b : Nat} {x y z : Value} (h : D3 W0 b x y z) (hg : W0.grownBy w rw) (hne : rw ≠ some b) : D3 w b x y z :=
  have hb := hg.block b (World.block_lt_of_cell? W0 _ h.1) (Ne.symm hne)
  ⟨(World.cell?_of_block (a := ⟨b, 0, none⟩) hb).trans h.1, (World.cell?_of_block (a := ⟨b, 1, none⟩) hb).trans h.2.1, (World.cell?_of_block (a := ⟨b, 2, none⟩) hb).trans h.2.2⟩
theorem D3.gr {W0 : World} {rw : Option Nat} {b : Nat} {x y z : Value} (h : D3 W0 b x y z) (hne : rw ≠ some b) : (∀ q : GR W0 rw, q.w.cell? ⟨b, 0, none⟩ = some x) ∧ (∀ q : GR W0 rw, q.w.cell? ⟨b, 1, none⟩ = some y) ∧ (∀ q : GR W0 rw, q.w.cell? ⟨b, 2, none⟩ = some z) :=
  ⟨fun q => (h.grow q.h hne).1, fun q => (h.grow q.h hne).2.1, fun q => (h.grow q.h hne).2.2⟩
theorem remUp_any (n k : Nat) (w : World) (hn : 1 ≤ n) (hn2 : n ≤ 32) (hk : k ≤ 32) :
    Calls Try.prog 43 #[.agg #[.int .i64 n, .int .i64 2, .int .i64 0], .int .i64 k] w fun e w' => e = .returned (.int .i64 (rsum n k)) ∧ Below w.heap.size w w' := by
  have HN : Hid (∀ (k : Nat) (W : World), Calls Try.prog 42 #[.agg #[.int .i64 n, .int .i64 2, .int .i64 0], .int .i64 (pw2 n k)] W fun e w' => e = .returned (.int .i64 (pw2 n (k + 1))) ∧ Below W.heap.size W w') := fun k W => nextP_any n k W hn hn2
  have HL : Hid (∀ k, pw2 n k < n) := fun k => pw2_lt hn k
  have HS : Hid (∀ k, rsum n k ≤ 64 * (2 ^ k - 1)) := rsum_le hn hn2
  have h1 : (1 : Int).tmod (n : Int) = (pw2 n 0 : Nat) := by unfold pw2; simp [Int.tmod]
  have hm0 : ¬ n = 0 := by omega
  go_enter Try.func43, Try.ntmps43
  have A0 := Lib.hid (D3.new w (.int .i64 n) (.int .i64 2) (.int .i64 0) 54)
  have B0 := Lib.hid ((Below.refl w.heap.size w).alloc (Nat.le_refl _) (.cells #[.int .i64 n, .int .i64 2, .int .i64 0] 54))
  go_wp2_with fail
  go_quiet (fail)
  go_wp2_with fail
  go_loopw [5, 6, 11] (fun sv pv iv wr => ∃ i : Nat, i ≤ k ∧ sv = .int .i64 (rsum n i) ∧ pv = .int .i64 (pw2 n i) ∧ iv = .int .i64 i ∧ Hid (D3 wr w.heap.size (.int .i64 n) (.int .i64 2) (.int .i64 0)) ∧ Hid (Below w.heap.size w wr)) (fun _ _ iv _ => k - (intOf iv).toNat)
  case atStart => exact ⟨0, Nat.zero_le _, rfl, rfl, rfl, A0.out, below_drewN B0.out _⟩
  case round =>
    obtain ⟨i, hi, rfl, rfl, rfl, HA, HB⟩ := hrel
    clear A0 B0
    by_cases hlt : i < k
    · have hp := HL.out i
      have hs := HS.out i
      have hpw : 2 ^ i ≤ 4294967296 := by
        have : 2 ^ i ≤ 2 ^ 32 := Nat.pow_le_pow_right (by omega) (by omega)
        omega
      have hs2 : rsum n i ≤ 274877906944 := by omega
      have HE : Hid (2 * ((rsum n i : Int) + (pw2 n i : Int)) = (rsum n (i + 1) : Nat)) := by unfold Hid; rw [rsum]; simp
      have HNi := Lib.hid (HN.out i)
      generalize pw2 n i = p at hp HE HNi
      generalize rsum n i = r at hs2 HE
      clear hs hpw
      obtain ⟨c0, c1, c2⟩ := id HA.out
      go_wp2_with fail
      refine (HNi.out _).mono ?_
      rintro e w4 ⟨rfl, hb⟩
      have HA4 := Lib.hid (HA.out.far hb)
      have HB4 := Lib.hid (HB.out.trans (hb.mono HB.out.size))
      clear hb c0 c1 c2
      go_wp2
      go_roundw
      case rel => exact ⟨i + 1, by omega, by rw [← HE.out], rfl, by go_num, HA4.out, HB4.out⟩
      case measure => simp [intOf]; omega
    · obtain rfl : i = k := by omega
      go_wp2
      go_ret
      exact ⟨rfl, HB.out⟩
theorem cycleD (n b c : Nat) (h1 : 1 ≤ n) (h2 : n ≤ 32) (hC : CycP (pw2 n) b c) (w : World) :
    Calls Try.prog 41 #[.func (.func 42) #[] #[], .agg #[.int .i64 n, .int .i64 2, .int .i64 0], .int .i64 (pw2 n 0)] w fun e w' => e = .returned (.tuple #[.int .i64 b, .int .i64 c]) ∧ Below w.heap.size w w' := by
  have hbc := cyc_small h1 hC
  refine (cycleK_any (pw2 n) n 2 0 w 100 b c (pw2_steps n) hC.1 (by omega) hC.2.1 (by omega) (fun k W => nextP_any n k W h1 h2)).mono ?_
  rintro e w' ⟨⟨b', c', rfl, hC'⟩, hb⟩
  obtain ⟨rfl, rfl⟩ := hC'.unique hC
  exact ⟨rfl, hb⟩
theorem onesE_any (W : Nat) (P : Int) (w : World) (hW : W ≤ 60) (hP : 2 ^ W = P) :
    Calls Try.prog 44 #[.int .i64 W] w fun e w' => e = .returned (.int .i64 (P - 1)) ∧ w = w' := by
  have p1 : 1 ≤ P ∧ P ≤ 1152921504606846976 := by
    have h : (2 : Nat) ^ W ≤ 2 ^ 60 := Nat.pow_le_pow_right (by omega) hW
    have h2 : 0 < (2 : Nat) ^ W := Nat.pow_pos (by omega)
    have e : ((2 ^ W : Nat) : Int) = (2 : Int) ^ W := by simp
    rw [← hP, ← e]
    omega
  go_enter Try.func44, Try.ntmps44
  go_wp2
  go_ret
  exact ⟨rfl, rfl⟩
theorem die_in {b c : Nat} (h1 : 0 < c) (h2 : b + c ≤ 32) : 2 ≤ (2 : Int) ^ c ∧ (2 : Int) ^ c ≤ 4294967296 ∧ 1 ≤ ((2 : Int) ^ c - 1) * 2 ^ b ∧ ((2 : Int) ^ c - 1) * 2 ^ b ≤ 4294967296 := by
  have e1 : ((2 ^ c : Nat) : Int) = (2 : Int) ^ c := by simp
  have e2 : ((2 ^ b : Nat) : Int) = (2 : Int) ^ b := by simp
  have c1 : 2 ^ 1 ≤ 2 ^ c := Nat.pow_le_pow_right (by omega) h1
  have c2 : 2 ^ c ≤ 2 ^ 32 := Nat.pow_le_pow_right (by omega) (by omega)
  have b1 : 0 < 2 ^ b := Nat.pow_pos (by omega)
  have bc : 2 ^ c * 2 ^ b ≤ 2 ^ 32 := by rw [← Nat.pow_add]; exact Nat.pow_le_pow_right (by omega) (by omega)
  have k1 : 1 * 2 ^ b ≤ (2 ^ c - 1) * 2 ^ b := Nat.mul_le_mul_right _ (by omega)
  have k2 : (2 ^ c - 1) * 2 ^ b ≤ 2 ^ c * 2 ^ b := Nat.mul_le_mul_right _ (by omega)
  have e3 : (((2 ^ c - 1) * 2 ^ b : Nat) : Int) = ((2 : Int) ^ c - 1) * 2 ^ b := by
    rw [Int.natCast_mul, Int.natCast_sub (by omega), e1, e2]
    rfl
  rw [← e3, ← e1]
  exact ⟨by omega, by omega, by omega, by omega⟩
theorem rsum_in {n k : Nat} (h1 : 1 ≤ n) (h2 : n ≤ 32) (hk : k ≤ 32) : rsum n k ≤ 274877906944 := by
  have := rsum_le h1 h2 k
  have : 2 ^ k ≤ 2 ^ 32 := Nat.pow_le_pow_right (by omega) hk
  omega
theorem die_yes (n b c : Nat) (w : World) (h1 : 1 ≤ n) (h2 : n ≤ 32) (hC : CycP (pw2 n) b c) (x y : Int) (hx : x = mkN ((rsum n (b + c) : Int) - rsum n b) ((2 ^ c - 1) * 2 ^ b)) (hy : y = mkD ((rsum n (b + c) : Int) - rsum n b) ((2 ^ c - 1) * 2 ^ b)) :
    Calls Try.prog 17 #[.int .i64 n] w fun e w' => e = .returned (.tuple #[.agg #[.int .i64 x, .int .i64 y], .bool true]) ∧ Below w.heap.size w w' := by
  have hbc := cyc_small h1 hC
  have HC : Hid (∀ W : World, Calls Try.prog 41 #[.func (.func 42) #[] #[], .agg #[.int .i64 n, .int .i64 2, .int .i64 0], .int .i64 (pw2 n 0)] W fun e w' => e = .returned (.tuple #[.int .i64 b, .int .i64 c]) ∧ Below W.heap.size W w') := cycleD n b c h1 h2 hC
  have HR : Hid (∀ (k : Nat) (W : World), k ≤ 32 → Calls Try.prog 43 #[.agg #[.int .i64 n, .int .i64 2, .int .i64 0], .int .i64 k] W fun e w' => e = .returned (.int .i64 (rsum n k)) ∧ Below W.heap.size W w') := fun k W hk => remUp_any n k W h1 h2 hk
  have hq : (1 : Int).tmod (n : Int) = (pw2 n 0 : Nat) := by unfold pw2; simp [Int.tmod]
  have hm0 : ¬ n = 0 := by omega
  obtain ⟨P, hP⟩ : ∃ P : Int, P = 2 ^ c := ⟨_, rfl⟩
  obtain ⟨z, hz⟩ : ∃ z : Int, z = (rsum n (b + c) : Int) - rsum n b := ⟨_, rfl⟩
  obtain ⟨hP1, hP2, hD1, hD2⟩ := die_in (b := b) (c := c) hC.1 (by omega)
  have hz1 := (rsum_in h1 h2 (show b + c ≤ 32 by omega))
  have hz2 := (rsum_in h1 h2 (show b ≤ 32 by omega))
  rw [← hz, ← hP] at hx hy
  rw [← hP] at hP1 hP2 hD1 hD2
  have HO : Hid (∀ W : World, Calls Try.prog 44 #[.int .i64 c] W fun e w' => e = .returned (.int .i64 (P - 1)) ∧ W = w') := fun W => onesE_any c P W (by omega) hP.symm
  have HM : Hid (∀ W : World, Calls Try.prog 34 #[.int .i64 z, .int .i64 (wrap64 ((P - 1) * 2 ^ b))] W fun e w' => e = .returned (.tuple #[.agg #[.int .i64 x, .int .i64 y], .bool true]) ∧ Below W.heap.size W w') := fun W => by
    rw [IntWalk.wrap64_in _ (by omega), hx, hy]
    exact make_yes _ _ W (by omega) (by omega) (by omega) (by omega) (by omega)
  have hZ := Lib.hid hz
  clear hx hy hC hz hP hD1 hD2
  go_enter Try.func17, Try.ntmps17
  have A0 := (D2.new w (.int .i64 0) (.int .i64 0) 23).alloc (.cells #[.int .i64 n, .int .i64 2, .int .i64 0] 54)
  have A1 := D3.new (w.alloc (.cells #[.int .i64 0, .int .i64 0] 23)) (.int .i64 n) (.int .i64 2) (.int .i64 0) 54
  have B : Below w.heap.size w ((w.alloc (.cells #[.int .i64 0, .int .i64 0] 23)).alloc (.cells #[.int .i64 n, .int .i64 2, .int .i64 0] 54)) := ((Below.refl _ w).alloc (Nat.le_refl _) _).alloc (by simp) _
  simp only [World.size_alloc] at A1
  go_wp2_with fail
  refine (btw64_yes n 1 32 _ (by omega) (by omega)).mono ?_
  rintro e w1 ⟨rfl, rfl⟩
  go_wp2_with fail
  generalize ((w.alloc (.cells #[.int .i64 0, .int .i64 0] 23)).alloc (.cells #[.int .i64 n, .int .i64 2, .int .i64 0] 54)) = w1 at A0 A1 B ⊢
  obtain ⟨q0, q1, q2⟩ := (A1.drew).gr (rw := none) (by simp)
  refine wp_region_mix (none) [0, 1, 2, 3, 4, 5, 6] [7, 8] (by kernel_rfl) (by kernel_rfl) ?_
  simp only [pickOps, List.filterMap_cons, List.filterMap_nil, List.getElem?_toArray, List.getElem?_cons_succ, List.getElem?_cons_zero]
  repeat (refine wpQuietG_step (fun K hK => ?_); go_simp; first | (refine hK _ ?_; clear hK K) | (apply Exists.intro; refine ⟨fun _ => ?_, hK _ ?_⟩; ((with_reducible exact HC.out _)); clear hK K))
  refine wpQuietG_nil ?_
  clear q0 q1 q2
  intro W hW1 hW2
  go_wp2
  try refine ⟨hW1, ?_⟩
  intro W3 hW3 hW4
  go_wp2
  try refine ⟨hW3, ?_⟩
  intro W4 hW5 hW6
  replace hW5 := gr_undrew hW5
  replace A0 := A0.grow hW5 (by simp)
  replace A1 := A1.grow hW5 (by simp)
  replace B := B.grown hW5 B.size (by simp)
  clear hW1 hW2 hW3 hW4 hW5 hW6
  have hsum : IntKind.i64.wrap ((b : Int) + (c : Int)) = ((b + c : Nat) : Int) := by rw [IntWalk.i64_in _ (by omega)]; omega
  have hdif : IntKind.i64.wrap ((rsum n (b + c) : Int) - (rsum n b : Int)) = z := by rw [hZ.out]; exact IntWalk.i64_in _ (by omega)
  have HR1 := Lib.hid (fun W => HR.out (b + c) W (by omega))
  have HR2 := Lib.hid (fun W => HR.out b W (by omega))
  generalize rsum n (b + c) = r1 at HR1 hdif
  generalize rsum n b = r2 at HR2 hdif
  generalize b + c = bc at HR1 hsum
  go_wp2_with fail
  obtain ⟨q0, q1, q2⟩ := (A1.drew).gr (rw := none) (by simp)
  refine wp_region_mix (none) [0, 1, 2, 3, 4, 5, 6, 7, 8] [9] (by kernel_rfl) (by kernel_rfl) ?_
  simp only [pickOps, List.filterMap_cons, List.filterMap_nil, List.getElem?_toArray, List.getElem?_cons_succ, List.getElem?_cons_zero]
  repeat (refine wpQuietG_step (fun K hK => ?_); go_simp; first | (refine hK _ ?_; clear hK K) | (apply Exists.intro; refine ⟨fun _ => ?_, hK _ ?_⟩; (first | (with_reducible exact HR1.out _) | (with_reducible exact HR2.out _)); clear hK K))
  refine wpQuietG_nil ?_
  clear q0 q1 q2 hsum hdif
  intro W hW1 hW2
  go_wp2
  try refine ⟨hW1, ?_⟩
  intro W5 hW3 hW4
  replace hW3 := gr_undrew hW3
  replace A0 := A0.grow hW3 (by simp)
  replace B := B.grown hW3 B.size (by simp)
  clear hW1 hW2 hW3 hW4 A1
  go_wp2_with fail
  refine (HO.out _).mono ?_
  rintro e w7 ⟨rfl, rfl⟩
  go_wp2_with fail
  refine (HM.out _).mono ?_
  rintro e w8 ⟨rfl, hb⟩
  replace A0 := A0.far hb
  replace B := B.trans (hb.mono B.size)
  clear hb
  obtain ⟨p0, p1⟩ := (A0.put (.int .i64 x) (.int .i64 y)).1
  obtain ⟨⟨x0, x1⟩, x2, x3⟩ := id A0
  go_wp2
  unfold putD at p0 p1
  exact bodyPost_ret (v := .tuple #[.agg #[.int .i64 x, .int .i64 y], .bool true]) (by simp [results, Try.results17, go_sem, p0, p1]) rfl ⟨rfl, below_putD B (Nat.le_refl _) _ _⟩
theorem die_no (n : Int) (w : World) (h : ¬ (1 ≤ n ∧ n ≤ 32)) :
    Calls Try.prog 17 #[.int .i64 n] w fun e w' => e = .returned (.tuple #[.agg #[.int .i64 0, .int .i64 0], .bool false]) ∧ Below w.heap.size w w' := by
  have HB : Hid (∀ W : World, Calls Try.prog 32 #[.int .i64 n, .int .i64 1, .int .i64 32] W fun e w' => e = .returned (.bool false) ∧ W = w') := fun W => btw64_no n 1 32 W h
  clear h
  go_enter Try.func17, Try.ntmps17
  go_wp2_with fail
  refine (HB.out _).mono ?_
  rintro e w1 ⟨rfl, rfl⟩
  go_wp2
  go_returns
  exact ⟨rfl, by go_grown⟩
end Go.Proofs.Ytamedggnkbhgeab
