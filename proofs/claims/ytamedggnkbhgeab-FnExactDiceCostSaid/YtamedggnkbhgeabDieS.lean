/- The cost of a die in the specification: spec.DiceCost; and the law FnExactDiceCost. -/
import Derived.Test.YtamedggnkbhgeabDie
import Derived.Test.YtamedggnkbhgeabFrSpec
import Derived.Test.YtamedggnkbhgeabSlice64
namespace Go.Proofs.Ytamedggnkbhgeab
open Go.RowKit Go.PlainAid
set_option maxHeartbeats 2000000

/-- the first k remainders -/
def pwL (n k : Nat) : List Int := (List.range k).map fun i => (pw2 n i : Int)
theorem pwL_length (n k : Nat) : (pwL n k).length = k := by simp [pwL]
theorem pwL_next (n k : Nat) : pwL n (k + 1) = pwL n k ++ [(pw2 n k : Int)] := by simp [pwL, List.range_succ]
theorem pwL_get (n k i : Nat) (h : i < k) : (pwL n k)[i]? = some (pw2 n i : Int) := by simp [pwL, h]
theorem pwL_cell {w : World} {B g n k cap : Nat} (h : w.ownsRow B 2 1 (.slice (some ⟨g, 0, none⟩) k cap) k ((pwL n k).map (Value.int .i64))) {i : Nat} (hi : i < k) : w.cell? ⟨g, i, none⟩ = some (.int .i64 (pw2 n i)) := by
  rw [h.cellAt i (by omega), List.getElem?_map, pwL_get n k i hi]
  rfl
theorem own_slice1 {w : World} {B n : Nat} {e : TypeId} {v : Value} {xs : List Value} (h : w.ownsRow B e 1 v n xs) (hn : 0 < n) : ∃ g cap, v = .slice (some ⟨g, 0, none⟩) n cap := by
  rcases h.2 with ⟨_, h0⟩ | ⟨g, cap, cur, hv, _⟩
  · omega
  · exact ⟨g, cap, hv⟩
theorem tsum_le {s : Nat → Nat} (h : ∀ i, s i ≤ 32) (b : Nat) : ∀ i, tsum s b i ≤ i * (32 * 2 ^ b) := by
  intro i
  induction i with
  | zero => simp [tsum]
  | succ i ih =>
    have h1 : 2 ^ (b - i) ≤ 2 ^ b := Nat.pow_le_pow_right (by omega) (by omega)
    have h2 : s i * 2 ^ (b - i) ≤ 32 * 2 ^ b := Nat.mul_le_mul (h i) h1
    unfold tsum
    rw [Nat.succ_mul]
    omega
theorem pow_32 {k : Nat} (h : k ≤ 32) : 2 ^ k ≤ 4294967296 := by
  have : 2 ^ k ≤ 2 ^ 32 := Nat.pow_le_pow_right (by omega) h
  omega
theorem tsum_step {s : Nat → Nat} (h : ∀ i, s i ≤ 32) {b i d : Nat} (hb : b ≤ 32) (hi : i < b) (hd : b - i = d) : wrap64 ((tsum s b i : Int) + wrap64 ((s i : Int) * 2 ^ d)) = (tsum s b (i + 1) : Nat) := by
  have h1 := tsum_le h b i
  have h2 := tsum_le h b (i + 1)
  have h3 := pow_32 hb
  have h4 : i * (32 * 2 ^ b) ≤ 32 * (32 * 4294967296) := Nat.mul_le_mul (by omega) (Nat.mul_le_mul_left _ h3)
  have h5 : (i + 1) * (32 * 2 ^ b) ≤ 32 * (32 * 4294967296) := Nat.mul_le_mul (by omega) (Nat.mul_le_mul_left _ h3)
  have e : tsum s b (i + 1) = tsum s b i + s i * 2 ^ d := by rw [tsum, hd]
  have e2 : ((s i * 2 ^ d : Nat) : Int) = (s i : Int) * 2 ^ d := by simp
  rw [e] at h2 ⊢
  rw [← e2, IntWalk.wrap64_in ((s i * 2 ^ d : Nat) : Int) (by omega), IntWalk.wrap64_in _ (by omega)]
  omega
def lenV : Value → Nat
  | .slice _ n _ => n
  | _ => 0
set_option maxRecDepth 20000 in
theorem specDie_yes (n b c : Nat) (w : World) (h1 : 1 ≤ n) (h2 : n ≤ 32) (hC : CycP (pw2 n) b c) (x y fn fd gn gd : Int) (ok : Bool)
    (HM1 : Hid (∀ W : World, Calls Try.prog 31 #[.int .i64 (tsum (pw2 n) b b), .int .i64 (wrap64 (2 ^ b))] W fun e w' => e = .returned (.agg #[.int .i64 fn, .int .i64 fd]) ∧ Below W.heap.size W w'))
    (HM2 : Hid (∀ W : World, Calls Try.prog 31 #[.int .i64 (tsum (fun k => pw2 n (b + k)) c c), .int .i64 (wrap64 (wrap64 (wrap64 (2 ^ c) - 1) * 2 ^ b))] W fun e w' => e = .returned (.agg #[.int .i64 gn, .int .i64 gd]) ∧ Below W.heap.size W w'))
    (HA : Hid (∀ W : World, Calls Try.prog 40 #[.agg #[.int .i64 fn, .int .i64 fd], .agg #[.int .i64 gn, .int .i64 gd]] W fun e w' => e = .returned (.tuple #[.agg #[.int .i64 x, .int .i64 y], .bool ok]) ∧ Below W.heap.size W w')) :
    Calls Try.prog 16 #[.int .i64 n] w fun e w' => e = .returned (.tuple #[.agg #[.int .i64 x, .int .i64 y], .bool ok]) ∧ Below w.heap.size w w' := by
  obtain ⟨i0, hi, hz0, hz1, hz2⟩ := info_parts Try.info2
  have hbc := cyc_small h1 hC
  have hq : (1 : Int).tmod (n : Int) = (pw2 n 0 : Nat) := by unfold pw2; simp [Int.tmod]
  have hm0 : ¬ n = 0 := by omega
  have HC := Lib.hid hC
  have HL : Hid (∀ k, pw2 n k < n) := fun k => pw2_lt h1 k
  have HN : Hid (∀ k, (2 * (pw2 n k : Int)) % n = (pw2 n (k + 1) : Nat)) := fun k => by rw [pw2_next]; simp
  clear hC
  go_enter Try.func16, Try.ntmps16
  go_wp2_with fail
  refine (l00In_yes n 1 32 _ (by omega) (by omega)).mono ?_
  rintro e w1 ⟨rfl, rfl⟩
  have A0 := D2.new w (.int .i64 0) (.int .i64 0) 23
  have B0 := (Below.refl w.heap.size w).alloc (Nat.le_refl _) (.cells #[.int .i64 0, .int .i64 0] 23)
  have hg : w.heap.size + 1 = (w.alloc (.cells #[.int .i64 0, .int .i64 0] 23)).heap.size := by simp
  have HO0 := World.ownsRow_lit (e := 2) (size := 1) (base := w.heap.size + 1) (w.alloc (.cells #[.int .i64 0, .int .i64 0] 23)) #[.int .i64 (pw2 n 0)] 1 (by rw [← hg]; omega) (by decide) (by simp)
  rw [← hg] at HO0
  have HG := Lib.hid hg
  clear hg
  go_wp2_with fail
  generalize (w.alloc (.cells #[.int .i64 0, .int .i64 0] 23)) = w0 at A0 B0 HG HO0 ⊢
  have HOw := Lib.hid HO0
  have B1 : Hid (Below (w.heap.size + 1) w0 (w0.alloc (.cells #[.int .i64 (pw2 n 0)] 2))) := (Below.refl _ w0).alloc (Nat.le_of_eq HG.out) _
  clear HO0
  go_loopw [4, 5, 6, 7] (fun lv bv _ _ wr => ∃ (k : Nat) (v : Value), v = lv ∧ bv = .int .i64 0 ∧ k < n ∧ Hid (wr.ownsRow (w.heap.size + 1) 2 1 v (k + 1) ((pwL n (k + 1)).map (Value.int .i64))) ∧ Hid (Unlike (pw2 n) (k + 1)) ∧ Hid (Below (w.heap.size + 1) w0 wr)) (fun lv _ _ _ _ => n - lenV lv)
  case atStart => exact ⟨0, _, rfl, rfl, by omega, HOw.out, (fun i j h1 h2 => by omega), B1.out⟩
  case round =>
    obtain ⟨k, v, rfl, rfl, hk, HO, HU, HB⟩ := hrel
    clear HOw B1
    obtain ⟨g, cap, rfl⟩ := own_slice1 HO.out (by omega)
    obtain ⟨K, hK⟩ : ∃ K, K = k + 1 := ⟨_, rfl⟩
    have HKK := Lib.hid hK
    have hc0 := pwL_cell HO.out (show k < k + 1 by omega)
    rw [← hK] at HO HU ⊢
    have hK1 : ((K : Nat) : Int) - 1 = (k : Nat) := by omega
    have hkK : k < K := by omega
    have hNx : 2 * (pw2 n k : Int) % (n : Int) = (pw2 n K : Nat) := by rw [hK]; exact HN.out k
    have hp := HL.out k
    have hX := HL.out K
    obtain ⟨X, hXe⟩ : ∃ X, X = pw2 n K := ⟨_, rfl⟩
    have HXE := Lib.hid hXe
    rw [← hXe] at hNx hX
    generalize pw2 n k = p at hc0 hNx hp
    have HNX := Lib.hid hNx
    clear hK hXe hNx
    go_wp2_with fail
    rw [HNX.out]
    go_loop [7] (fun av => ∃ j : Nat, j ≤ K ∧ av = .int .i64 j ∧ Hid (∀ i, i < j → ¬ pw2 n i = X)) (fun av => K - (intOf av).toNat)
    case atStart => exact ⟨0, Nat.zero_le _, rfl, fun i hi => by omega⟩
    case round =>
      obtain ⟨j, hj, rfl, HJ⟩ := hrel
      by_cases hlt : j < K
      · have hcj : wr.cell? ⟨g, j, none⟩ = some (.int .i64 (pw2 n j)) := by
          have h5 := HO.out
          rw [HKK.out] at h5
          exact pwL_cell h5 (by have := HKK.out; omega)
        by_cases hq : pw2 n j = X
        · have HCC : Hid (CycP (pw2 n) j (K - j)) := HU.out.cyc (pw2_steps n) hlt (by rw [hq, HXE.out])
          obtain ⟨rfl, hcl⟩ := HCC.out.unique HC.out
          rw [hq] at hcj
          have hne : ((X : Int) != (X : Int)) = false := by simp
          have hKj : ((K : Nat) : Int) - (j : Nat) = (c : Nat) := by have := HC.out.1; omega
          have hKc : K = j + c := by have := HC.out.1; omega
          have HCE : Hid (∀ i, i < K → wr.cell? ⟨g, i, none⟩ = some (.int .i64 (pw2 n i))) := fun i hi => by
            have h5 := HO.out
            rw [HKK.out] at h5
            exact pwL_cell h5 (by have := HKK.out; omega)
          have HKC := Lib.hid hKc
          have HKJ := Lib.hid hKj
          clear hq hKj hKc hcl hc0 HCC
          go_wp2_with fail
          rw [HKJ.out]
          clear hcj hne
          go_loop [9, 10] (fun tv iv => ∃ i : Nat, i ≤ j ∧ iv = .int .i64 i ∧ tv = .int .i64 (tsum (pw2 n) j i)) (fun _ iv => j - (intOf iv).toNat)
          case atStart => exact ⟨0, Nat.zero_le _, rfl, rfl⟩
          case round =>
            obtain ⟨i, hi2, rfl, rfl⟩ := hrel
            by_cases hlt2 : i < j
            · have hci := HCE.out i (by omega)
              have hsub : ((j : Nat) : Int) - (i : Nat) = ((j - i : Nat) : Int) := by omega
              have hd : j - i ≤ 32 := by omega
              obtain ⟨d, hdd⟩ : ∃ d, j - i = d := ⟨_, rfl⟩
              rw [hdd] at hsub hd
              have HE : Hid (wrap64 ((tsum (pw2 n) j i : Int) + wrap64 ((pw2 n i : Int) * 2 ^ d)) = (tsum (pw2 n) j (i + 1) : Nat)) := tsum_step (fun i => by have := HL.out i; omega) (by omega) hlt2 hdd
              clear hdd
              go_wp2
              go_round
              case rel => exact ⟨i + 1, by omega, by go_num, by rw [HE.out]⟩
              case measure => simp [intOf]; omega
            · obtain rfl : i = j := by omega
              go_wp2_with fail
              go_loop [11, 12] (fun tv kv => ∃ k : Nat, k ≤ c ∧ kv = .int .i64 k ∧ tv = .int .i64 (tsum (fun k => pw2 n (i + k)) c k)) (fun _ kv => c - (intOf kv).toNat)
              case atStart => exact ⟨0, Nat.zero_le _, rfl, rfl⟩
              case round =>
                obtain ⟨l, hl, rfl, rfl⟩ := hrel
                by_cases hlt3 : l < c
                · obtain ⟨m, hm⟩ : ∃ m, i + l = m := ⟨_, rfl⟩
                  have hcm := HCE.out m (by have := HKC.out; omega)
                  have hadd : ((i : Nat) : Int) + (l : Nat) = (m : Nat) := by omega
                  have hsub : ((c : Nat) : Int) - (l : Nat) = ((c - l : Nat) : Int) := by omega
                  obtain ⟨d, hdd⟩ : ∃ d, c - l = d := ⟨_, rfl⟩
                  have hd : d ≤ 32 := by omega
                  have HE : Hid (wrap64 ((tsum (fun k => pw2 n (i + k)) c l : Int) + wrap64 ((pw2 n m : Int) * 2 ^ d)) = (tsum (fun k => pw2 n (i + k)) c (l + 1) : Nat)) := by
                    have := tsum_step (s := fun k => pw2 n (i + k)) (fun k => by have := HL.out (i + k); show pw2 n (i + k) ≤ 32; omega) (by omega) hlt3 hdd
                    unfold Hid
                    rw [← hm]
                    exact this
                  rw [hdd] at hsub
                  have hmK : m < K := by have := HKC.out; omega
                  clear hdd hm
                  go_wp2
                  go_round
                  case rel => exact ⟨l + 1, by omega, by go_num, by rw [HE.out]⟩
                  case measure => simp [intOf]; omega
                · obtain rfl : l = c := by omega
                  have A1 := A0.below HB.out (by omega)
                  have B1 : Below w.heap.size w wr := B0.trans (HB.out.mono (by omega))
                  go_wp2_with fail
                  refine (HM1.out _).mono ?_
                  rintro e w5 ⟨rfl, hb⟩
                  replace A1 := A1.far hb
                  replace B1 := B1.trans (hb.mono B1.size)
                  clear hb
                  have A2 := D2.new w5 (.int .i64 fn) (.int .i64 fd) 23
                  replace A1 := A1.alloc (.cells #[.int .i64 fn, .int .i64 fd] 23)
                  replace B1 := B1.alloc B1.size (.cells #[.int .i64 fn, .int .i64 fd] 23)
                  go_wp2_with fail
                  refine (HM2.out _).mono ?_
                  rintro e w6 ⟨rfl, hb⟩
                  replace A1 := A1.far hb
                  replace A2 := A2.far hb
                  replace B1 := B1.trans (hb.mono B1.size)
                  clear hb
                  have A3 := D2.new w6 (.int .i64 gn) (.int .i64 gd) 23
                  replace A1 := A1.alloc (.cells #[.int .i64 gn, .int .i64 gd] 23)
                  replace A2 := A2.alloc (.cells #[.int .i64 gn, .int .i64 gd] 23)
                  replace B1 := B1.alloc B1.size (.cells #[.int .i64 gn, .int .i64 gd] 23)
                  obtain ⟨⟨x0, x1⟩, _, _⟩ := id A2
                  obtain ⟨⟨y0, y1⟩, _, _⟩ := id A3
                  go_wp2_with fail
                  refine (HA.out _).mono ?_
                  rintro e w7 ⟨rfl, hb⟩
                  clear x0 x1 y0 y1 A2 A3
                  replace A1 := A1.far hb
                  replace B1 := B1.trans (hb.mono B1.size)
                  clear hb
                  obtain ⟨p0, p1⟩ := (A1.put (.int .i64 x) (.int .i64 y)).1
                  obtain ⟨⟨u0, u1⟩, u2, u3⟩ := id A1
                  go_wp2
                  unfold putD at p0 p1
                  exact bodyPost_ret (v := .tuple #[.agg #[.int .i64 x, .int .i64 y], .bool ok]) (by simp [results, Try.results16, go_sem, p0, p1]) rfl ⟨rfl, below_putD B1 (Nat.le_refl _) _ _⟩
        · have hne : ((pw2 n j : Int) != (X : Int)) = true := by simp; omega
          have HJ2 : Hid (∀ i, i < j + 1 → ¬ pw2 n i = X) := fun i hi => by
            by_cases e : i = j
            · rw [e]; exact hq
            · exact HJ.out i (by omega)
          generalize pw2 n j = q at hcj hne
          clear hq
          go_wp2
          go_round
          case rel => exact ⟨j + 1, by omega, by go_num, HJ2⟩
          case measure => simp [intOf]; omega
      · obtain rfl : j = K := by omega
        have HU2 : Hid (Unlike (pw2 n) (j + 1)) := HU.out.next fun i hi => by rw [← HXE.out]; exact HJ.out i hi
        have HRoom : Hid (j < n) := HU2.out.room HL.out
        go_wp2_with (at_builtin; refine wpList_append_own _ rfl _ _ 51 rfl (w.heap.size + 1) 2 i0 (.int .i64 0) 1 8 Try.underlying51 hi hz0 hz1 hz2 rfl (by decide) _ _ _ rfl (HO.out.alloc _) ⟨wr.heap.size, 0, none⟩ 1 1 [.int .i64 X] rfl rfl (cell_one_new _ _ _) (by intro u hu; simp at hu; subst hu; rfl) (by unfold maxLen; omega) (by omega) (by have := HB.out.size; have := HG.out; simp; omega) ?_)
        intro v2 w6 hown6 hgrow6 _
        have HO6 : Hid (w6.ownsRow (w.heap.size + 1) 2 1 v2 (j + 1) ((pwL n (j + 1)).map (Value.int .i64))) := by
          unfold Hid
          rw [pwL_next, ← HXE.out]
          simpa using hown6
        have HB6 : Hid (Below (w.heap.size + 1) w0 w6) := (HB.out.alloc (by have := HB.out.size; have := HG.out; omega) _).grown hgrow6 (by have := HB.out.size; have := HG.out; simp; omega) (own_block HO.out)
        clear hown6 hgrow6
        go_wp2
        go_roundw
        case rel => exact ⟨j, v2, rfl, rfl, HRoom.out, HO6, HU2, HB6⟩
        case measure => 
          obtain ⟨g2, cap2, rfl⟩ := own_slice1 HO6.out (by omega)
          have h7 := HRoom.out
          simp [lenV]
          omega
theorem specDie_no (n : Int) (w : World) (h : ¬ (1 ≤ n ∧ n ≤ 32)) :
    Calls Try.prog 16 #[.int .i64 n] w fun e w' => e = .returned (.tuple #[.agg #[.int .i64 0, .int .i64 0], .bool false]) ∧ Below w.heap.size w w' := by
  have HB : Hid (∀ W : World, Calls Try.prog 39 #[.int .i64 n, .int .i64 1, .int .i64 32] W fun e w' => e = .returned (.bool false) ∧ W = w') := fun W => l00In_no n 1 32 W h
  clear h
  go_enter Try.func16, Try.ntmps16
  go_wp2_with fail
  refine (HB.out _).mono ?_
  rintro e w1 ⟨rfl, rfl⟩
  go_wp2
  go_returns
  exact ⟨rfl, by go_grown⟩
theorem lawDie_core (n : Int) (w : World) (a b : Int) (ok : Bool)
    (HS : Hid (∀ W : World, Calls Try.prog 16 #[.int .i64 n] W fun e w' => e = .returned (.tuple #[.agg #[.int .i64 a, .int .i64 b], .bool ok]) ∧ Below W.heap.size W w'))
    (HI : Hid (∀ W : World, Calls Try.prog 17 #[.int .i64 n] W fun e w' => e = .returned (.tuple #[.agg #[.int .i64 a, .int .i64 b], .bool ok]) ∧ Below W.heap.size W w')) :
    Calls Try.prog 5 #[.int .i64 n] w fun e w' => e = .returned (.bool true) ∧ Below w.heap.size w w' := by
  have hok : (ok != ok) = false := by simp
  go_enter Try.func5, Try.ntmps5
  go_wp2_with fail
  refine (HS.out _).mono ?_
  rintro e w1 ⟨rfl, hb1⟩
  have z1 := hb1.size
  go_wp2_with fail
  refine (HI.out _).mono ?_
  rintro e w2 ⟨rfl, hb⟩
  obtain ⟨b2, z2, c2, d2⟩ := keep2 (b := w1.heap.size) (x := .int .i64 a) (y := .int .i64 b) (hb1.alloc hb1.size _) hb hb1.size (by simp) (by simp [go_sem]) (by simp [go_sem])
  clear hb hb1
  go_wp2_with fail
  refine (eqFrac_yes _ _ _).mono ?_
  rintro e w3 ⟨rfl, hb⟩
  go_wp2
  go_ret
  exact ⟨rfl, (b2.alloc (by omega) _).trans (hb.mono (by simp; omega))⟩
theorem lawDie (n : Int) (w : World) :
    Calls Try.prog 5 #[.int .i64 n] w fun e w' => e = .returned (.bool true) ∧ Below w.heap.size w w' := by
  by_cases h : 1 ≤ n ∧ n ≤ 32
  · obtain ⟨m, rfl⟩ := Int.eq_ofNat_of_zero_le (a := n) (by omega)
    have h1 : 1 ≤ m := by omega
    have h2 : m ≤ 32 := by omega
    obtain ⟨b, c, hC⟩ := cyc_exists (pw2_steps m) (fun i => pw2_lt h1 i)
    have hbc := cyc_small h1 hC
    have hok := dieOk_of h1 h2 hC.1 hbc hC.2.1
    simp only [dieOk, Bool.and_eq_true, decide_eq_true_eq] at hok
    obtain ⟨⟨⟨v1, v2⟩, e1, e2⟩, s1, s2, s3, s4⟩ := hok
    have hb32 : b ≤ 32 := by omega
    have p1 := pow_32 hb32
    have p2 : 0 < 2 ^ b := Nat.pow_pos (by omega)
    have c1 : ((2 ^ b : Nat) : Int) = (2 : Int) ^ b := by simp
    obtain ⟨d1, d2, d3, d4⟩ := die_in (b := b) (c := c) hC.1 (by omega)
    have t1 := tsum_le (s := pw2 m) (fun i => by have := pw2_lt h1 i; omega) b b
    have t2 := tsum_le (s := fun k => pw2 m (b + k)) (fun k => by have := pw2_lt h1 (b + k); show pw2 m (b + k) ≤ 32; omega) c c
    have q1 : b * (32 * 2 ^ b) ≤ 32 * (32 * 4294967296) := Nat.mul_le_mul hb32 (Nat.mul_le_mul_left _ p1)
    have q2 : c * (32 * 2 ^ c) ≤ 32 * (32 * 4294967296) := Nat.mul_le_mul (by omega) (Nat.mul_le_mul_left _ (pow_32 (by omega)))
    obtain ⟨x, y, ok, hv, _, hs⟩ := add_gives _ _ _ _ v1 v2
    obtain ⟨rfl, rfl, rfl⟩ : x = mkN ((rsum m (b + c) : Int) - rsum m b) ((2 ^ c - 1) * 2 ^ b) ∧ y = mkD ((rsum m (b + c) : Int) - rsum m b) ((2 ^ c - 1) * 2 ^ b) ∧ ok = true := by
      rcases hv with ⟨_, r1, r2, r3⟩ | ⟨hno, _⟩
      · exact ⟨r1.trans e1, r2.trans e2, r3⟩
      · exact absurd ⟨⟨s1, s2⟩, s3, s4⟩ hno
    refine lawDie_core m w _ _ true (fun W => specDie_yes m b c W h1 h2 hC _ _ _ _ _ _ true (fun W => ?_) (fun W => ?_) hs) (fun W => die_yes m b c W h1 h2 hC _ _ rfl rfl)
    · rw [IntWalk.wrap64_in _ (by omega)]
      exact fmake_any _ _ W (by omega) (by omega) (by omega) (by omega) (by omega)
    · rw [IntWalk.wrap64_in ((2 : Int) ^ c) (by omega), IntWalk.wrap64_in ((2 : Int) ^ c - 1) (by omega), IntWalk.wrap64_in _ (by omega)]
      exact fmake_any _ _ W (by omega) (by omega) (by omega) (by omega) (by omega)
  · exact lawDie_core n w 0 0 false (fun W => specDie_no n W h) (fun W => die_no n W h)
end Go.Proofs.Ytamedggnkbhgeab
