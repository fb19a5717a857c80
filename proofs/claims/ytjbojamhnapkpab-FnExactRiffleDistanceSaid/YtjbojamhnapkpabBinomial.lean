/- The ways to choose: impl.BinomialOf, spec.l01Choose, spec.BinomialOf, and the law FnExactBinomialOf. -/
import Derived.Test.YtjbojamhnapkpabBtw
import Derived.Test.YtjbojamhnapkpabBytes
import Derived.Test.YtjbojamhnapkpabChoose
import Derived.Deep.RegionHeld3
import Derived.Deep.AppendLies
import Derived.Laws.Pointers
namespace Go.Proofs.Ytjbojamhnapkpab
open Go.RowKit Go.PlainAid
set_option maxHeartbeats 400000

theorem binom_yes (n k : Nat) (w : World) (hn : n ≤ 60) (hk : k ≤ n) :
    Calls Try.prog 96 #[.int .i64 n, .int .i64 k] w fun e w' => e = .returned (.tuple #[.int .i64 (Choose.ch n k : Nat), .bool true]) ∧ w = w' := by
  go_enter Try.func96, Try.ntmps96
  go_wp2_with (go_at_call 63; refine (btw64_yes _ _ _ _ (by omega) (by omega)).mono ?_; rintro e w' ⟨rfl, rfl⟩)
  go_loop [6, 7, 18] (fun c _ i => ∃ j : Nat, j ≤ k ∧ i = .int .i64 j ∧ c = .int .i64 (Choose.ch n j : Nat)) (fun _ _ i => k - (intOf i).toNat)
  case atStart => exact ⟨0, Nat.zero_le _, rfl, by rw [Choose.ch_zero]; rfl⟩
  case round =>
    obtain ⟨j, hj, rfl, rfl⟩ := hrel
    by_cases hlt : j < k
    · obtain ⟨c1, c2⟩ := Choose.ch_in n j hn (by omega)
      have ha := Choose.absorb_sub n j (by omega)
      have hd2 := (Choose.ch_in n (j + 1) hn (by omega)).2
      obtain ⟨c, hc⟩ : ∃ c, Choose.ch n j = c := ⟨_, rfl⟩
      obtain ⟨d, hd⟩ : ∃ d, Choose.ch n (j + 1) = d := ⟨_, rfl⟩
      obtain ⟨P, hP⟩ : ∃ P, c * (n - j) = P := ⟨_, rfl⟩
      rw [hc, hd, hP] at ha
      rw [hd] at hd2
      rw [hc, hP] at c1
      rw [hc] at c2
      have E : (c : Int) * ((n : Int) - (j : Int)) = (P : Int) := by
        rw [← hP, Int.natCast_mul, Int.natCast_sub (by omega)]
      have D : (P : Int) / ((j : Int) + 1) = (d : Int) := by
        rw [ha]
        exact_mod_cast Nat.mul_div_cancel d (by omega : 0 < j + 1)
      have HD : Hid (Choose.ch n (j + 1) = d) := hd
      clear ha hd hP
      rw [hc]
      go_wp2
      go_round
      case rel => exact ⟨j + 1, by omega, by go_num, by rw [HD.out]⟩
      case measure => simp [intOf]; omega
    · obtain rfl : j = k := by omega
      go_wp2
      go_ret2
      exact ⟨rfl, rfl⟩
theorem binom_no (n k : Int) (w : World) (h : ¬ ((0 ≤ n ∧ n ≤ 60) ∧ (0 ≤ k ∧ k ≤ n))) :
    Calls Try.prog 96 #[.int .i64 n, .int .i64 k] w fun e w' => e = .returned (.tuple #[.int .i64 0, .bool false]) ∧ w = w' := by
  by_cases hn : 0 ≤ n ∧ n ≤ 60
  · have HK : Hid (¬ (0 ≤ k ∧ k ≤ n)) := fun x => h ⟨hn, x⟩
    have HN := Lib.hid hn
    clear h hn
    go_enter Try.func96, Try.ntmps96
    go_wp2_with fail
    refine (btw64_yes _ _ _ _ HN.out.1 HN.out.2).mono ?_
    rintro e w' ⟨rfl, rfl⟩
    go_wp2_with fail
    refine (btw64_no _ _ _ _ HK.out).mono ?_
    rintro e w' ⟨rfl, rfl⟩
    go_wp2
    go_ret2
    exact ⟨rfl, rfl⟩
  · have HN := Lib.hid hn
    clear h hn
    go_enter Try.func96, Try.ntmps96
    go_wp2_with (go_at_call 63; refine (btw64_no _ _ _ _ HN.out).mono ?_; rintro e w' ⟨rfl, rfl⟩)
    go_ret2
    exact ⟨rfl, rfl⟩

theorem Try.info2 : (Try.prog.info? 2).map (fun i => (i.zero, i.size, i.bytes)) = some (some (.int .i64 0), 1, 8) := by kernel_rfl

/-- the first j numbers of a row of Pascal -/
def chs (n j : Nat) : List Int := (List.range j).map fun t => (Choose.ch n t : Int)
theorem chs_length (n j : Nat) : (chs n j).length = j := by simp [chs]
theorem chs_succ (n j : Nat) : chs n (j + 1) = chs n j ++ [(Choose.ch n j : Int)] := by simp [chs, List.range_succ]
theorem chs_get (n j i : Nat) (h : i < j) : ((chs n j).map (Value.int .i64))[i]? = some (.int .i64 (Choose.ch n i : Nat)) := by
  unfold chs
  rw [List.map_map, List.getElem?_map, List.getElem?_range h]
  rfl
theorem own_ltB {w : World} {base : Nat} {e : TypeId} {size n g cap : Nat} {xs : List Value} (h : w.ownsRow base e size (.slice (some ⟨g, 0, none⟩) n cap) n xs) : g < w.heap.size := by
  obtain ⟨_, ⟨h0, _⟩ | ⟨g', cap', cur, hv, hg, hb, _⟩⟩ := h
  · simp at h0
  · simp at hv
    have := (Array.getElem?_eq_some_iff.1 hb).1
    omega

theorem choose_any (n k : Nat) (w : World) (hn : n ≤ 60) (hk : k ≤ n) :
    Calls Try.prog 95 #[.int .i64 n, .int .i64 k] w fun e w' => e = .returned (.int .i64 (Choose.ch n k : Nat)) ∧ Below w.heap.size w w' := by
  obtain ⟨i0, hi, hz0, hz1, hz2⟩ := info_parts Try.info2
  have h00 : Hid (chs 0 1 = [1]) := by unfold Hid; rfl
  go_enter Try.func95, Try.ntmps95
  go_wp2
  go_loopw [5, 6] (fun v i wr => ∃ t L : Nat, t ≤ n ∧ Hid (L = t + 1) ∧ i = .int .i64 t ∧ wr.ownsRow w.heap.size 2 1 v L ((chs t L).map (Value.int .i64)) ∧ Below w.heap.size w wr) (fun _ i _ => n - (intOf i).toNat)
  case atStart =>
    refine ⟨0, 1, by omega, rfl, rfl, ?_, (Below.refl _ _).alloc (Nat.le_refl _) _⟩
    rw [h00.out]
    exact World.ownsRow_lit _ _ _ (Nat.le_refl _) (by simp [maxLen]) (by simp)
  case round =>
    obtain ⟨t, L, ht, hL, rfl, hown, hbel⟩ := hrel
    by_cases hlt : t < n
    · obtain ⟨g, cap, hv, hg⟩ := own_shape hown (by have := hL.out; omega)
      subst hv
      have hgl := own_ltB hown
      go_wp2
      obtain ⟨wo, rfl⟩ : ∃ wo : World, wo = wr := ⟨_, rfl⟩
      go_loopw [7, 8] (fun u jv wr => ∃ j : Nat, 1 ≤ j ∧ j ≤ L ∧ jv = .int .i64 j ∧ wr.ownsRow wo.heap.size 2 1 u j ((chs (t + 1) j).map (Value.int .i64)) ∧ Below wo.heap.size wo wr) (fun _ jv _ => L - (intOf jv).toNat)
      case atStart =>
        refine ⟨1, by omega, by have := hL.out; omega, rfl, ?_, (Below.refl _ _).alloc (Nat.le_refl _) _⟩
        have e : chs (t + 1) 1 = [1] := by simp [chs, Choose.ch_zero]
        rw [e]
        exact World.ownsRow_lit _ _ _ (Nat.le_refl _) (by simp [maxLen]) (by simp)
      case round =>
        obtain ⟨j, hj1, hj2, rfl, hownI, hbelI⟩ := hrel
        by_cases hjl : j < L
        · have HL := hL.out
          have ca : wr.cell? ⟨g, j - 1, none⟩ = some (.int .i64 (Choose.ch t (j - 1) : Nat)) := by
            rw [hbelI.cell (p := ⟨g, j - 1, none⟩) hgl, hown.cellAt (j - 1) (by omega)]
            exact chs_get t L (j - 1) (by omega)
          have cb : wr.cell? ⟨g, j, none⟩ = some (.int .i64 (Choose.ch t j : Nat)) := by
            rw [hbelI.cell (p := ⟨g, j, none⟩) hgl, hown.cellAt j (by omega)]
            exact chs_get t L j (by omega)
          have a2 := (Choose.ch_in t (j - 1) (by omega) (by omega)).2
          have b2 := (Choose.ch_in t j (by omega) (by omega)).2
          have hs : Choose.ch t (j - 1) + Choose.ch t j = Choose.ch (t + 1) j := by
            obtain ⟨m, rfl⟩ : ∃ m, j = m + 1 := ⟨j - 1, by omega⟩
            rw [Choose.ch_succ]; rfl
          obtain ⟨A, hA⟩ : ∃ A, Choose.ch t (j - 1) = A := ⟨_, rfl⟩
          obtain ⟨B, hB⟩ : ∃ B, Choose.ch t j = B := ⟨_, rfl⟩
          obtain ⟨C, hC⟩ : ∃ C, Choose.ch (t + 1) j = C := ⟨_, rfl⟩
          rw [hA, hB, hC] at hs
          rw [hA] at ca a2
          rw [hB] at cb b2
          have HC : Hid (chs (t + 1) (j + 1) = chs (t + 1) j ++ [(C : Int)]) := by unfold Hid; rw [chs_succ, hC]
          have s1 : IntKind.i64.wrap (C : Int) = (C : Int) := IntWalk.i64_in _ (by omega)
          have hL61 : L ≤ 61 := by omega
          have hgw : g < wr.heap.size := by have := hbelI.size; omega
          have s2 : (A : Int) + (B : Int) = (C : Int) := by omega
          have q1 : IntKind.i64.wrap ((j : Int) - 1) = (j : Int) - 1 := IntWalk.i64_in _ (by omega)
          have q2 : (0 : Int) ≤ (j : Int) - 1 := by omega
          have q3 : ((j : Int) - 1).toNat = j - 1 := by omega
          have q5 : (j : Int) - 1 < (L : Int) := by omega
          have q6 : (1 : Int) ≤ (j : Int) := by omega
          have q7 : (j : Int) < (L : Int) := by omega
          have ag : u7.ownBlock ≠ some g := fun x => by have := own_block hownI g x; omega
          clear hA hB hC hs HL hown
          go_wp2_with fail
          go_region_held3 (fun w' => w'.cell? ⟨g, j - 1, none⟩ = some (.int .i64 (A : Int)) ∧ w'.cell? ⟨g, j, none⟩ = some (.int .i64 (B : Int)))
            (first
              | (go_keep; done)
              | (go_split_ands
                 refine ⟨?_, ?_⟩
                 · (rw [hgrow.cell_far _ (by simp; omega) (Ne.symm ag)]; assumption)
                 · (rw [hgrow.cell_far _ (by simp; omega) (Ne.symm ag)]; assumption)))
            ((refine step_append_lies _ (by rfl) _ _ _ (by rfl) wo.heap.size 2 i0 _ 1 8 Try.underlying22 hi hz0 hz1 hz2 rfl (by omega) _ _ _ (by rfl) ((hownI.alloc _).drew) ⟨wr.heap.size, 0, none⟩ 1 1 [.int .i64 (C : Int)] (by rfl) (by rfl) (World.news_of_block (cs := #[.int .i64 (C : Int)]) (t := 2) (fr := (0, 0)) (heap_alloc_new wr _)) (by simp [Value.oneCell']) (by omega) (by unfold maxLen; omega) (by omega) (by have := hbelI.size; simp; omega) (wr.heap.size + 1) (by simp) ?_; intro gg cap w1 hown1 hgrow hat hlt2))
          have hb1 : Below wo.heap.size wo w1 := ((hbelI.alloc hbelI.size _).drew).grown hgrow (by have := hbelI.size; simp; omega) (own_block hownI)
          have HO : Hid (w1.ownsRow wo.heap.size 2 1 (.slice (some ⟨gg, 0, none⟩) (j + 1) cap) (j + 1) ((chs (t + 1) (j + 1)).map (Value.int .i64))) := by
            unfold Hid
            rw [HC.out]
            simpa using hown1
          clear hown1 hgrow hat hlt2 hownI hbelI ca cb s1 s2 q1 q3
          go_wp2
          go_roundw
          case rel => exact ⟨j + 1, by omega, by omega, by go_num, HO.out, hb1⟩
          case measure => simp [intOf]; omega
        · obtain rfl : j = L := by omega
          have HL := Lib.hid hL.out
          have hL61 : j ≤ 61 := by have := hL.out; omega
          have hbw : Below w.heap.size w wr := hbel.trans (hbelI.mono hbel.size)
          have HC : Hid (chs (t + 1) (j + 1) = chs (t + 1) j ++ [1]) := by
            unfold Hid
            rw [chs_succ, HL.out, Choose.ch_self]; rfl
          have hbase := hbel.size
          have hIsz := hbelI.size
          clear hown hbel hbelI
          go_wp2_with (at_builtin; refine wpList_append_own _ rfl _ _ 22 rfl wo.heap.size 2 i0 (.int .i64 0) 1 8 Try.underlying22 hi hz0 hz1 hz2 rfl (by decide) _ _ _ rfl (hownI.alloc _) ⟨wr.heap.size, 0, none⟩ 1 1 [.int .i64 1] rfl rfl (cell_one_new _ _ _) (by intro u hu; simp at hu; subst hu; rfl) (by unfold maxLen; omega) (by omega) (by simp; omega) ?_; intro v1 w1 hown1 hgrow _)
          have hb1 : Below w.heap.size w w1 := (hbw.alloc hbw.size _).grown hgrow (by have := hbw.size; simp; omega) (fun x hx => by have := own_block hownI x hx; omega)
          have HO : Hid (w1.ownsRow w.heap.size 2 1 v1 (j + 1) ((chs (t + 1) (j + 1)).map (Value.int .i64))) := by
            unfold Hid
            rw [HC.out]
            exact own_base (by simpa using hown1) hbase
          clear hown1 hgrow hownI
          go_wp2
          go_roundw
          case rel => exact ⟨t + 1, j + 1, by omega, by have := HL.out; unfold Hid; omega, by go_num, HO.out, hb1⟩
          case measure => simp [intOf]; omega
    · obtain rfl : t = n := by omega
      obtain ⟨g, cap, hv, hg⟩ := own_shape hown (by have := hL.out; omega)
      subst hv
      have hc : wr.cell? ⟨g, k, none⟩ = some (.int .i64 (Choose.ch t k : Nat)) := by
        rw [hown.cellAt k (by have := hL.out; omega)]
        exact chs_get t L k (by have := hL.out; omega)
      have hkL : k < L := by have := hL.out; omega
      go_wp2
      go_ret
      exact ⟨rfl, hbel⟩

end Go.Proofs.Ytjbojamhnapkpab
