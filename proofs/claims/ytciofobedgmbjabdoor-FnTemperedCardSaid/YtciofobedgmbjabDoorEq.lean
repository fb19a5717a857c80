/- Equations on states: (*impl.equations).add, open; impl.matrix.before. -/
import Derived.Test.YtciofobedgmbjabDoorEc
import Derived.Deep.QuietTactic
import Derived.Deep.CutBlock
import Derived.Deep.Cut
namespace Go.Proofs.YtciofobedgmbjabDoor
open Go.RowKit Go.PlainAid
open G2 (Same KerE Ech Bd Low putE pv)
set_option maxHeartbeats 800000

/-- equations in a block: the width and an echelon with their solutions -/
def EqB (w : World) (b W : Nat) (eqs : List Nat) (e : Nat → Nat) : Prop := (w.cell? ⟨b, 0, none⟩ = some (.int .i64 W) ∧ MA w b 1 64 e) ∧ Same e W eqs
theorem EqB.drewN {w : World} {b W : Nat} {eqs : List Nat} {e : Nat → Nat} (h : EqB w b W eqs e) (n : Nat) : EqB (w.drewN n) b W eqs e := h
set_option maxRecDepth 10000 in
theorem eqAdd_any (b B W : Nat) (e : Nat → Nat) (eqs : List Nat) (r d : Nat) (err : Value) (w : World) (hT : Tz B w) (hB : B ≤ b) (hQ : EqB w b W eqs e) (hr : r < 2 ^ W) (hd : d ≤ 1) (hW : W ≤ 16) (hG : 0 < B) (hE : w.cell? ⟨0, 0, none⟩ = some err) :
    Calls Tryd.prog 27 #[.pointer (some ⟨b, 0, none⟩), .int .i64 r, .int .i64 d] w fun x w' => ∃ e', x = .returned (if e' W = 0 then .nilIface else err) ∧ EqB w' b W (eqs ++ [r ||| d * 2 ^ W]) e' ∧ w.grownBy w' (some b) := by
  have hmx : Tryd.prog.follows .mixedOrders = true := by kernel_rfl
  obtain ⟨⟨hc, hM⟩, hS⟩ := hQ
  obtain ⟨p1, p2, p3⟩ := pow16 hW
  have E2 : bits .or .i64 (r : Int) (IntKind.i64.wrap ((d : Int) * 2 ^ W)) = ((r ||| d * 2 ^ W : Nat) : Int) := by
    have h2 := shl_in (a := d) (k := W) (A := 1) (by omega) (by omega)
    rw [cast_shl, IntWalk.i64_in _ (by omega), i64_orN _ _ (by omega) h2]
  have hlt : r ||| d * 2 ^ W < 2 ^ (W + 1) := by
    have h2 : 2 ^ W < 2 ^ (W + 1) := Nat.pow_lt_pow_right (by omega) (by omega)
    have h3 : d * 2 ^ W ≤ 1 * 2 ^ W := Nat.mul_le_mul_right _ hd
    exact Nat.or_lt_two_pow (by omega) (by omega)
  obtain ⟨q, hq⟩ : ∃ q, r ||| d * 2 ^ W = q := ⟨_, rfl⟩
  rw [hq] at E2 hlt ⊢
  have HA : Hid (∀ V : World, Below w.heap.size w V → Calls Tryd.prog 31 #[.pointer (some ⟨b, 1, none⟩), .int .i64 q] V fun x w' => ∃ ok e', x = .returned (.bool ok) ∧ Same e' W (eqs ++ [q]) ∧ MA w' b 1 64 e' ∧ (V.grownBy w' (some b)) ∧ ∀ j, j < 1 → w'.cell? ⟨b, j, none⟩ = V.cell? ⟨b, j, none⟩) := fun V hV =>
    ecAdd_any b 1 B W e q eqs V (hT.on (hV.mono (by have := hM.lt (by omega); omega))) hB (hM.far (by omega) hV) hS hlt hW
  have HC := Lib.hid (And.intro hc (And.intro (hM.lt (by omega)) (And.intro hE (show 0 < b by omega))))
  have c0 : ∀ q : GT w, q.w.cell? ⟨b, 0, none⟩ = some (.int .i64 W) := gt_cell hc
  clear hq hT hc hM hS hE p1 p2 p3
  go_enter Tryd.func27, Tryd.ntmps27
  go_upto_region 1 with fail
  refine wp_region_quiet_tail (C := fun w' => ∃ q : GT w, w' = q.w) 11 hmx (by kernel_rfl) ⟨⟨w.drew, (Below.refl _ _).drew⟩, rfl⟩ ?_
  simp only [List.take_succ_cons, List.take_zero, List.drop_succ_cons, List.drop_zero]
  repeat (quiet_step (fail))
  refine wpQuiet_nil ?_
  rintro V ⟨⟨_, hV⟩, rfl⟩
  clear c0
  go_wp2_with fail
  refine (HA.out V hV).mono ?_
  rintro x w2 ⟨ok, e', rfl, hs, hm, hg, hcc⟩
  have hlt2 := HC.out.2.1
  have hB2 : B ≤ w.heap.size := by omega
  have hg2 : w.grownBy w2 (some b) := World.grownBy.trans (gr_step (gr_refl w (some b)) hV) hg
  have HQ2 : Hid (EqB w2 b W (eqs ++ [q]) e') := ⟨⟨(hcc 0 (by omega)).trans ((hV.cell (p := ⟨b, 0, none⟩) hlt2).trans HC.out.1), hm⟩, hs⟩
  have HG2 := Lib.hid hg2
  have hb2 : Below b w w2 := (Below.refl b w).grown hg2 (by omega) (fun g e => by cases e; exact Nat.le_refl _)
  have ce : w2.cell? ⟨0, 0, none⟩ = some err := (hb2.cell (p := ⟨0, 0, none⟩) HC.out.2.2.2).trans HC.out.2.2.1
  have cw : w2.cell? ⟨b, 0, none⟩ = some (.int .i64 W) := HQ2.out.1.1
  obtain ⟨ck, _⟩ := hm W (by omega)
  have hWI : (W : Int) < 64 := by omega
  clear hV hg hg2 hm hs hcc HA hb2
  by_cases h0 : e' W = 0
  · rw [h0] at ck
    go_wp2
    go_quiet (fail)
    go_wp2
    go_ret
    exact ⟨e', by rw [if_pos h0]; rfl, HQ2.out.drewN _, gr_step HG2.out (below_drewN (Below.refl _ _) _)⟩
  · have t1 : ((e' W : Int) != 0) = true := by simpa using h0
    go_wp2
    go_quiet (fail)
    go_wp2
    go_ret
    exact ⟨e', by rw [if_neg h0]; rfl, HQ2.out.drewN _, gr_step HG2.out (below_drewN (Below.refl _ _) _)⟩
/-- the open bits among the first k -/
theorem opE_snoc (e : Nat → Nat) : ∀ n c, G2.opE e c (n + 1) = G2.opE e c n + (if e (c + n) = 0 then 1 else 0) := by
  intro n
  induction n with
  | zero => intro c; simp [G2.opE]
  | succ n ih =>
    intro c
    rw [G2.opE, ih (c + 1), G2.opE]
    rw [show c + 1 + n = c + (n + 1) by omega]
    omega
theorem eqOpen_any (b W : Nat) (e : Nat → Nat) (eqs : List Nat) (w : World) (hQ : EqB w b W eqs e) (hW : W ≤ 16) :
    Calls Tryd.prog 28 #[.pointer (some ⟨b, 0, none⟩)] w fun x w' => x = .returned (.int .i64 (G2.opE e 0 W : Nat)) ∧ ∃ m, w' = w.drewN m := by
  obtain ⟨⟨cw, hM⟩, _⟩ := hQ
  have HM := Lib.hid hM
  have hWI : (W : Int) ≤ 64 := by omega
  have hLe : Hid (∀ k, G2.opE e 0 k ≤ k) := fun k => G2.opE_le e k 0
  clear hM
  go_enter Tryd.func28, Tryd.ntmps28
  go_wp2
  go_quiet (fail)
  go_wp2
  have HMs : Hid (MA (w.drewN nq) b 1 64 e) := HM.out.drewN nq
  have HWs : Hid (∃ m, w.drewN nq = w.drewN m) := ⟨nq, rfl⟩
  generalize w.drewN nq = w2 at HMs HWs ⊢
  clear HM cw
  go_loopw [3, 19] (fun fv iv wr => ∃ k f : Nat, k ≤ W ∧ fv = .int .i64 f ∧ iv = .int .i64 k ∧ f ≤ 16 ∧ Hid (f + k = W + G2.opE e 0 k) ∧ w2 = wr) (fun _ iv _ => W - (intOf iv).toNat)
  case atStart => exact ⟨0, W, Nat.zero_le _, rfl, rfl, hW, rfl, rfl⟩
  case round =>
    obtain ⟨k, f, hk, rfl, rfl, hf, HF, rfl⟩ := hrel
    by_cases hlt : k < W
    · obtain ⟨ck, _⟩ := HMs.out k (by omega)
      have hs := opE_snoc e k 0
      rw [Nat.zero_add] at hs
      by_cases h0 : e k = 0
      · have HF2 : Hid (f + (k + 1) = W + G2.opE e 0 (k + 1)) := by unfold Hid; rw [hs, if_pos h0]; have := HF.out; omega
        rw [h0] at ck
        clear h0 HF hs
        go_wp2
        go_roundw
        case rel => exact ⟨k + 1, f, by omega, rfl, by go_num, hf, HF2, by first | trivial | rfl⟩
        case measure => first | (simp [intOf]; done) | (simp [intOf]; omega)
      · have hf1 : 1 ≤ f := by have h1 := HF.out; have h2 : k ≤ W := hk; omega
        obtain ⟨f2, rfl⟩ : ∃ f2, f = f2 + 1 := ⟨f - 1, by omega⟩
        have HF2 : Hid (f2 + (k + 1) = W + G2.opE e 0 (k + 1)) := by unfold Hid; rw [hs, if_neg h0]; have := HF.out; omega
        have t1 : ((e k : Int) != 0) = true := by simpa using h0
        have hfI : ((f2 + 1 : Nat) : Int) - 1 = (f2 : Int) := by omega
        clear h0 HF hs hf1
        go_wp2
        go_roundw
        case rel => exact ⟨k + 1, f2, by omega, by go_num, by go_num, by omega, HF2, by first | trivial | rfl⟩
        case measure => first | (simp [intOf]; done) | (simp [intOf]; omega)
    · obtain rfl : k = W := by omega
      have HF2 : Hid (f = G2.opE e 0 k) := by unfold Hid; have := HF.out; omega
      go_wp2
      go_ret
      exact ⟨by rw [← HF2.out]; rfl, HWs.out⟩
end Go.Proofs.YtciofobedgmbjabDoor
