/- Echelons of rows, in an array or behind a width: impl.leastBit, (*impl.echelon).add. -/
import Derived.Test.YtciofobedgmbjabDoorVA
import Derived.Test.YtciofobedgmbjabDoorG4
import Derived.Test.YtciofobedgmbjabDoorTz
import Derived.Test.YtciofobedgmbjabDoorGT
import Derived.Test.YtciofobedgmbjabDoorReg
import Derived.Test.YtciofobedgmbjabDoorMix
namespace Go.Proofs.YtciofobedgmbjabDoor
open Go.RowKit Go.PlainAid
open G2 (Same KerE Ech Bd Low putE pv)
set_option maxHeartbeats 800000

theorem least_any (x B : Nat) (w : World) (hx : x < 1000000) (hT : Tz B w) :
    Calls Tryd.prog 34 #[.int .i64 x] w fun e w' => e = .returned (.int .i64 (Lib.ctz 64 x)) ∧ w = w' := by
  have H := Lib.hid (tz_any x (by omega) B w hT)
  clear hT
  go_enter Tryd.func34, Tryd.ntmps34
  go_wp2_with fail
  refine H.out.mono ?_
  rintro e w1 ⟨rfl, rfl⟩
  go_wp2
  go_ret
  exact ⟨rfl, rfl⟩
theorem tz_drewN {B : Nat} {w : World} (h : Tz B w) (n : Nat) : Tz B (w.drewN n) := h.on (below_drewN (Below.refl _ _) n)
/-- how far a row is from its end -/
def ecM (r : Nat) : Nat := if r = 0 then 0 else 65 - Lib.ctz 64 r
set_option maxRecDepth 10000 in
theorem ecAdd_any (b o B W : Nat) (e : Nat → Nat) (r0 : Nat) (eqs : List Nat) (w : World) (hT : Tz B w) (hB : B ≤ b) (hE : MA w b o 64 e) (hS : Same e W eqs) (hr : r0 < 2 ^ (W + 1)) (hW : W ≤ 16) :
    Calls Tryd.prog 31 #[.pointer (some ⟨b, o, none⟩), .int .i64 r0] w fun x w' => ∃ ok e', x = .returned (.bool ok) ∧ Same e' W (eqs ++ [r0]) ∧ MA w' b o 64 e' ∧ (w.grownBy w' (some b)) ∧ ∀ j, j < o → w'.cell? ⟨b, j, none⟩ = w.cell? ⟨b, j, none⟩ := by
  have hpW : 2 ^ (W + 1) ≤ 2 ^ 17 := Nat.pow_le_pow_right (by omega) (by omega)
  have HS := Lib.hid hS
  have HE := Lib.hid hE
  have HT := Lib.hid hT
  have HR := Lib.hid hr
  clear hS hE hT hr
  go_enter Tryd.func31, Tryd.ntmps31
  go_wp2
  go_loopw [1] (fun rv wr => ∃ r m : Nat, rv = .int .i64 r ∧ Hid (r < 2 ^ (W + 1)) ∧ Hid (∀ x, KerE e x → pv r x = pv r0 x) ∧ wr = w.drewN m) (fun rv _ => ecM (intOf rv).toNat)
  case atStart => exact ⟨r0, 0, rfl, HR.out, fun _ _ => rfl, rfl⟩
  case round =>
    obtain ⟨r, m, rfl, HRr, HK, hw⟩ := hrel
    have HTr : Hid (Tz B wr) := by unfold Hid; rw [hw]; exact tz_drewN HT.out m
    have HEr : Hid (MA wr b o 64 e) := by unfold Hid; rw [hw]; exact HE.out.drewN m
    have HGr : Hid (w.grownBy wr (some b)) := by unfold Hid; rw [hw]; exact ⟨rfl, rfl, rfl, Nat.le_refl _, fun _ _ _ => rfl⟩
    have HCr : Hid (∀ j, wr.cell? ⟨b, j, none⟩ = w.cell? ⟨b, j, none⟩) := by unfold Hid; rw [hw]; exact fun _ => rfl
    have HW := Lib.hid hw
    clear hw HE
    by_cases h0 : r = 0
    · subst h0
      have HN : Hid (Same e W (eqs ++ [r0])) := G2.same_none HS.out HK.out
      clear HS HK
      go_wp2
      go_quiet (fail)
      go_wp2
      go_ret
      exact ⟨false, e, rfl, HN.out, HEr.out.drewN _, gr_step HGr.out (below_drewN (Below.refl _ _) _), fun j _ => HCr.out j⟩
    · have t1 : ((r : Int) != 0) = true := by simpa using h0
      have t2 : ((r : Int) == 0) = false := by simpa using h0
      have hr16 : r < 131072 := Nat.lt_of_lt_of_le HRr.out hpW
      obtain ⟨hb1, hb2, hb3⟩ := G2.ctz_bits h0 (by omega)
      obtain ⟨k, hk⟩ : ∃ k, Lib.ctz 64 r = k := ⟨_, rfl⟩
      have HL : Hid (∀ n, Calls Tryd.prog 34 #[.int .i64 r] (wr.drewN n) fun x w' => x = .returned (.int .i64 k) ∧ wr.drewN n = w') := fun n => by
        rw [← hk]
        exact least_any r B _ (by omega) (tz_drewN HTr.out n)
      have HKK := Lib.hid hk
      rw [hk] at hb1 hb2 hb3
      obtain ⟨ck, fk⟩ := HEr.out k hb3
      have hkI : (k : Int) < 64 := by omega
      by_cases he : e k = 0
      · have HN : Hid (Same (putE e k r) W (eqs ++ [r0])) := by
          have := G2.same_put HS.out HRr.out (by omega) h0 (by rw [hk]; exact he) HK.out
          rwa [hk] at this
        rw [he] at ck
        clear hk hb1 hb2
        go_wp2
        go_quiet ((go_at_call 34; with_reducible exact quietG (HL.out _)))
        go_wp2
        obtain ⟨w2, hw2⟩ : ∃ w2, wr.drewN nq = w2 := ⟨_, rfl⟩
        have HTs : Hid (Tz B w2) := by rw [← hw2]; exact tz_drewN HTr.out nq
        have HEs : Hid (MA w2 b o 64 e) := by rw [← hw2]; exact HEr.out.drewN nq
        have HGs : Hid (w.grownBy w2 (some b)) := by rw [← hw2]; exact gr_step HGr.out (below_drewN (Below.refl _ _) nq)
        have HCs : Hid (∀ j, w2.cell? ⟨b, j, none⟩ = w.cell? ⟨b, j, none⟩) := by rw [← hw2]; exact fun j => HCr.out j
        rw [hw2]
        clear hw2 HTr HEr HGr HCr HL ck fk HK HS
        have hbl := HEs.out.lt (by omega)
        have HL2 : Hid (∀ q : GR w2.drew (some b), Calls Tryd.prog 34 #[.int .i64 r] q.w fun x w' => x = .returned (.int .i64 k) ∧ Below q.w.heap.size q.w w') := fun q => by
          rw [← HKK.out]
          exact (least_any r B q.w (by omega) (HTs.out.on (((Below.refl B w2).drew).grown q.h (by show B ≤ w2.heap.size; omega) (fun g e => by cases e; exact hB)))).mono fun x w' ⟨h1, h2⟩ => ⟨h1, by rw [← h2]; exact Below.refl _ _⟩
        refine wp_region_mix (some b) [0, 1, 2, 3, 4, 5] [6] (by kernel_rfl) (by kernel_rfl) ?_
        simp only [pickOps, List.filterMap_cons, List.filterMap_nil, List.getElem?_toArray, List.getElem?_cons_succ, List.getElem?_cons_zero]
        repeat (refine wpQuietG_step (fun K hK => ?_); go_simp; first | (refine hK _ ?_; clear hK K) | (apply Exists.intro; refine ⟨fun _ => ?_, hK _ ?_⟩; (first | (with_reducible exact HL2.out _)); clear hK K))
        refine wpQuietG_nil ?_
        intro V hV1 hV2
        replace hV2 := of_drew hV2
        have HEv := HEs.out.below hV2 hbl
        obtain ⟨ck, fk⟩ := HEv k hb3
        have HEn : Hid (MA (V.setCell ⟨b, o + k, none⟩ (.int .i64 r)) b o 64 (putE e k r)) := HEv.set r fun j _ => rfl
        have HGn : Hid (w.grownBy (V.setCell ⟨b, o + k, none⟩ (.int .i64 r)) (some b)) := gr_set (gr_step HGs.out hV2) (.inl rfl) _
        have HCn : Hid (∀ j, j < o → (V.setCell ⟨b, o + k, none⟩ (.int .i64 r)).cell? ⟨b, j, none⟩ = w.cell? ⟨b, j, none⟩) := fun j hj => by
          rw [cell_otherD (addr_neD (by omega))]
          exact (hV2.cell (p := ⟨b, j, none⟩) hbl).trans (HCs.out j)
        clear HEs HGs HCs HL2 HTs
        go_wp2
        try refine ⟨gr_set hV1 (.inl rfl) _, ?_⟩
        clear ck fk HEv hV1 hV2
        generalize V.setCell ⟨b, o + k, none⟩ (.int .i64 r) = V2 at HEn HGn HCn ⊢
        intro V3 hV3 hV4
        have hbl2 := HEn.out.lt (by omega)
        have HEm := Lib.hid (HEn.out.below hV4 hbl2)
        have HGm := Lib.hid (gr_step HGn.out hV4)
        have HCm : Hid (∀ j, j < o → V3.cell? ⟨b, j, none⟩ = w.cell? ⟨b, j, none⟩) := fun j hj => (hV4.cell (p := ⟨b, j, none⟩) hbl2).trans (HCn.out j hj)
        clear hV3 hV4 HEn HGn HCn
        go_wp2
        go_ret
        exact ⟨true, _, rfl, HN.out, HEm.out, HGm.out, HCm.out⟩
      · have hek : e k < 2 ^ (W + 1) := HS.out.2.1 k
        have hx := i64_xorN r (e k) (by omega) (by omega)
        have HR2 : Hid (r ^^^ e k < 2 ^ (W + 1)) := Nat.xor_lt_two_pow HRr.out hek
        have HK2 : Hid (∀ x, KerE e x → pv (r ^^^ e k) x = pv r0 x) := fun x hx => (G2.red_ker hx).trans (HK.out x hx)
        have HM : Hid (ecM (r ^^^ e k) < ecM r) := by
          unfold Hid ecM
          rw [if_neg h0, hk]
          by_cases hz : r ^^^ e k = 0
          · rw [if_pos hz]; omega
          · rw [if_neg hz]
            have h1 : r ^^^ e k < 2 ^ 64 := by have := HR2.out; omega
            have := G2.ctz_up (x := r) (y := e k) h0 (by omega) (by rw [hk]; exact HS.out.1.2 k he) (by rw [hk]; exact HS.out.1.1 k) hz h1
            rw [hk] at this
            omega
        have t3 : ((e k : Int) != 0) = true := by simpa using he
        generalize e k = ek at hx HR2 HK2 HM t3 ck
        generalize r ^^^ ek = r2 at hx HR2 HK2 HM
        clear hk hb1 hb2 hek he HK HS
        go_wp2
        go_quiet ((go_at_call 34; with_reducible exact quietG (HL.out _)))
        obtain ⟨w2, hw2⟩ : ∃ w2, wr.drewN nq = w2 := ⟨_, rfl⟩
        have HLs : Hid (∀ n, Calls Tryd.prog 34 #[.int .i64 r] (w2.drewN n) fun x w' => x = .returned (.int .i64 k) ∧ w2.drewN n = w') := fun n => by
          have := HL.out (nq + n)
          rw [← drewN_twoG, hw2] at this
          exact this
        obtain ⟨M, hM⟩ : ∃ M, w2 = w.drewN M := ⟨m + nq, by rw [← hw2, HW.out, drewN_twoG]⟩
        have HWs := Lib.hid hM
        have cs : w2.cell? ⟨b, o + k, none⟩ = some (.int .i64 ek) := by rw [← hw2]; exact ck
        rw [hw2]
        clear hw2 HTr HEr HGr HCr HL ck fk HW t2 hM
        go_wp2
        go_quiet ((go_at_call 34; with_reducible exact quietG (HLs.out _)))
        go_wp2
        go_roundw
        case rel => exact ⟨r2, M + nq, rfl, HR2, HK2, by rw [HWs.out, drewN_twoG]⟩
        case measure => simp only [intOf, Int.toNat_natCast]; exact HM.out
theorem or_bitN {s b d : Nat} (hs : s < 131072) (hb : b ≤ 1) (hd : d < 17) : bits .or .i64 (s : Int) (wrap64 ((b : Int) * 2 ^ d)) = ((s ||| b * 2 ^ d : Nat) : Int) := by
  have h2 := shl_in (a := b) (k := d) (A := 1) (by omega) (by omega)
  rw [cast_shl, wrap64_nat _ h2, i64_orN _ _ (by omega) h2]
theorem or_bitN_lt {s b d W : Nat} (hs : s < 2 ^ (W + 1)) (hb : b ≤ 1) (hd : d < W) : s ||| b * 2 ^ d < 2 ^ (W + 1) := by
  apply Nat.or_lt_two_pow hs
  have h1 : 2 ^ d ≤ 2 ^ W := Nat.pow_le_pow_right (by omega) (by omega)
  have h2 : 2 ^ W < 2 ^ (W + 1) := Nat.pow_lt_pow_right (by omega) (by omega)
  have h3 : b * 2 ^ d ≤ 1 * 2 ^ d := Nat.mul_le_mul_right _ hb
  omega
theorem pow16 {W : Nat} (hW : W ≤ 16) : wrap64 ((2 : Int) ^ W) = ((2 ^ W : Nat) : Int) ∧ IntKind.i64.wrap ((2 : Int) ^ W) = ((2 ^ W : Nat) : Int) ∧ 2 ^ W ≤ 65536 := by
  have h1 : 2 ^ W ≤ 2 ^ 16 := Nat.pow_le_pow_right (by omega) (by omega)
  have h2 : ((2 : Int) ^ W) = ((2 ^ W : Nat) : Int) := by simp
  rw [h2]
  generalize 2 ^ W = p at h1 ⊢
  exact ⟨wrap64_nat _ (by omega), IntWalk.i64_in _ (by omega), by omega⟩
theorem ecLs_no (b o W : Nat) (e : Nat → Nat) (w : World) (hE : MA w b o 64 e) (hW : W ≤ 16) (h : ¬ e W = 0) :
    Calls Tryd.prog 29 #[.pointer (some ⟨b, o, none⟩), .int .i64 W] w fun x w' => x = .returned (.tuple #[.int .i64 0, .bool false]) ∧ w = w' := by
  obtain ⟨ck, fk⟩ := hE W (by omega)
  have t1 : ((e W : Int) != 0) = true := by simpa using h
  have hWI : (W : Int) < 64 := by omega
  clear hE h fk
  go_enter Tryd.func29, Tryd.ntmps29
  go_wp2
  go_ret2
  exact ⟨rfl, rfl⟩
theorem ecLs_yes (b o W : Nat) (e : Nat → Nat) (w : World) (hE : MA w b o 64 e) (hW : W ≤ 16) (h : e W = 0) (hB : Bd e W) :
    Calls Tryd.prog 29 #[.pointer (some ⟨b, o, none⟩), .int .i64 W] w fun x w' => x = .returned (.tuple #[.int .i64 (G2.solE e W % 2 ^ W : Nat), .bool true]) ∧ w = w' := by
  obtain ⟨ck, fk⟩ := hE W (by omega)
  have HE := Lib.hid hE
  have HB := Lib.hid hB
  obtain ⟨p1, p2, p3⟩ := pow16 hW
  have hWI : (W : Int) < 64 := by omega
  rw [h] at ck
  have HS0 : Hid (G2.fillE e W (2 ^ W) = G2.solE e W) := rfl
  have HL0 : Hid (2 ^ W < 2 ^ (W + 1)) := Nat.pow_lt_pow_right (by omega) (by omega)
  have HO : Hid (∀ V : World, Calls Tryd.prog 33 #[.int .i64 W] V fun e w' => e = .returned (.int .i64 ((2 ^ W : Nat) - 1 : Int)) ∧ V = w') := fun V => ones_any W ((2 ^ W : Nat) : Int) V (by omega) (by simp)
  have HA : Hid (∀ s : Nat, s < 131072 → bits .and .i64 (s : Int) (((2 ^ W : Nat) : Int) - 1) = ((s % 2 ^ W : Nat) : Int)) := fun s hs => by
    have hp : 0 < 2 ^ W := Nat.pow_pos (by omega)
    rw [show ((2 ^ W : Nat) : Int) - 1 = ((2 ^ W - 1 : Nat) : Int) by omega, i64_andN _ _ (by omega) (by omega), Nat.and_two_pow_sub_one_eq_mod]
  have hp17 : Hid (2 ^ (W + 1) ≤ 131072) := by unfold Hid; rw [Nat.pow_succ]; omega
  obtain ⟨P, hP⟩ : ∃ P, 2 ^ W = P := ⟨_, rfl⟩
  rw [hP] at p1 p2 p3 HS0 HL0 HO HA ⊢
  clear hE hB h hP fk
  go_enter Tryd.func29, Tryd.ntmps29
  go_wp2
  clear ck
  go_loopw [6, 7] (fun sv iv wr => ∃ c s : Nat, c ≤ W ∧ sv = .int .i64 s ∧ iv = .int .i64 ((c : Int) - 1) ∧ s < 131072 ∧ Hid (s < 2 ^ (W + 1)) ∧ Hid (G2.fillE e c s = G2.solE e W) ∧ w = wr) (fun _ iv _ => (intOf iv + 1).toNat)
  case atStart => exact ⟨W, P, Nat.le_refl _, rfl, by go_num, by have := HL0.out; have := hp17.out; omega, HL0.out, HS0.out, rfl⟩
  case round =>
    obtain ⟨c, s, hc, rfl, rfl, hs, HL, HF, rfl⟩ := hrel
    clear HL0 HS0
    cases c with
    | zero =>
      have ha := HA.out s hs
      have HF2 : Hid (s = G2.solE e W) := HF.out
      rw [show ((0 : Nat) : Int) - 1 = -1 from rfl]
      go_wp2_with (go_at_call 33; with_reducible refine (HO.out _).mono ?_; rintro e w1 ⟨rfl, rfl⟩)
      go_ret2
      rw [← HF2.out]
      exact ⟨rfl, by first | trivial | rfl⟩
    | succ d =>
      obtain ⟨cd, _⟩ := HE.out d (by omega)
      have hdI : (d : Int) < 64 := by omega
      have hed : e d < 2 ^ (W + 1) := HB.out d
      have h17 := hp17.out
      obtain ⟨q, hq⟩ : ∃ q, e d &&& s = q := ⟨_, rfl⟩
      have hq1 : q ≤ s := by rw [← hq]; exact Nat.and_le_right
      have E1 := i64_andI (e d : Int) (s : Int) (e d) s q rfl rfl hq (by omega) (by omega)
      obtain ⟨c1, hc1⟩ : ∃ c1, G2.pv (e d) s = c1 := ⟨_, rfl⟩
      have hcb : c1 ≤ 1 := by rw [← hc1]; exact G2.pv_le _ _
      have HP : Hid (∀ V : World, Calls Tryd.prog 32 #[.int .i64 q] V fun e w' => e = .returned (.int .i64 c1) ∧ V = w') := fun V => by
        rw [← hc1, G2.pv, hq]
        exact parity_any q V (by omega)
      have E2 := or_bitN hs hcb (show d < 17 by omega)
      have HL2 : Hid ((s ||| c1 * 2 ^ d) < 2 ^ (W + 1)) := or_bitN_lt HL.out hcb (by omega)
      have HF2 : Hid (G2.fillE e d (s ||| c1 * 2 ^ d) = G2.solE e W) := by
        unfold Hid
        rw [← HF.out, ← hc1]
        rfl
      obtain ⟨s2, hs2⟩ : ∃ s2, s ||| c1 * 2 ^ d = s2 := ⟨_, rfl⟩
      rw [hs2] at E2 HL2 HF2
      have hs3 : s2 < 131072 := by have := HL2.out; omega
      rw [show ((d + 1 : Nat) : Int) - 1 = (d : Int) by omega]
      clear hq hc1 hs2 HF hed h17
      go_wp2_with (go_at_call 32; with_reducible refine (HP.out _).mono ?_; rintro e w1 ⟨rfl, rfl⟩)
      go_roundw
      case rel => exact ⟨d, s2, by omega, rfl, by go_num, hs3, HL2, HF2, by first | trivial | rfl⟩
      case measure => first | (simp [intOf]; done) | (simp [intOf]; omega)
end Go.Proofs.YtciofobedgmbjabDoor
