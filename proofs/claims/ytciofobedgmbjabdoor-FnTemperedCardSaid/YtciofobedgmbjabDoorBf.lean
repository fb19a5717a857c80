/- The state before a step: impl.matrix.before. -/
import Derived.Test.YtciofobedgmbjabDoorEq
import Derived.Test.YtciofobedgmbjabDoorTM
namespace Go.Proofs.YtciofobedgmbjabDoor
open Go.RowKit Go.PlainAid
open G2 (Same KerE Ech Bd Low putE pv)
set_option maxHeartbeats 800000

theorem xr_andB (m k : Nat) : bits .and .i64 ((m : Int) / 2 ^ k) 1 = (((m.testBit k).toNat : Nat) : Int) := by
  have e : (m : Int) / 2 ^ k = ((m / 2 ^ k : Nat) : Int) := by simp
  rw [e, and_one_i64', Nat.testBit_eq_decide_div_mod_eq]
  rcases (show m / 2 ^ k % 2 = 0 ∨ m / 2 ^ k % 2 = 1 by omega) with h | h
  · rw [h]; simp; omega
  · rw [h]; simp; omega
def eqZ (W j : Nat) : Nat := if j = 0 then W else 0
theorem built_eq (W : Nat) : Tryd.prog.built 54 [(0, .int .i64 W)] = some (vs 65 (eqZ W)).toArray := by kernel_rfl
theorem eq_info : (Tryd.prog.info? 54).map (·.size) = some 65 := by kernel_rfl
theorem zero_eq (V : World) : (zeroValue 54).run Tryd.prog V = .ok (.agg (vs 65 (fun _ => 0)).toArray) V := by kernel_rfl
theorem EqB.start {V : World} {b W : Nat} (h : MA V b 0 65 (eqZ W)) : EqB V b W [] (fun _ => 0) := by
  refine ⟨⟨(h 0 (by omega)).1, fun j hj => ?_⟩, G2.none_same W⟩
  have := h (1 + j) (by omega)
  rw [Nat.zero_add] at this
  have e : eqZ W (1 + j) = 0 := by unfold eqZ; rw [if_neg (by omega)]
  rwa [e] at this
theorem EqB.below {V V1 : World} {b W m : Nat} {eqs : List Nat} {e : Nat → Nat} (h : EqB V b W eqs e) (hb : Below m V V1) (hm : b < m) : EqB V1 b W eqs e :=
  ⟨⟨(hb.cell (p := ⟨b, 0, none⟩) hm).trans h.1.1, h.1.2.below hb hm⟩, h.2⟩
/-- what before returns -/
def BefR (f : Nat → Nat) (W z : Nat) (x : Ending) : Prop := (∃ e, Same e W (G2.eqM f W z W) ∧ e W = 0 ∧ G2.opE e 0 W = 0 ∧ x = .returned (.tuple #[.int .i64 (G2.solE e W % 2 ^ W : Nat), .bool true])) ∨ ((¬ G2.Slv (G2.eqM f W z W) W ∨ ∃ e, Same e W (G2.eqM f W z W) ∧ ¬ G2.opE e 0 W = 0) ∧ x = .returned (.tuple #[.int .i64 0, .bool false]))
theorem slv_pre {f : Nat → Nat} {W z : Nat} : ∀ n k, G2.Slv (G2.eqM f W z (k + n)) W → G2.Slv (G2.eqM f W z k) W := by
  intro n
  induction n with
  | zero => exact fun k h => h
  | succ n ih =>
    rintro k ⟨x, h1, h2, h3⟩
    refine ih k ⟨x, h1, h2, ?_⟩
    rw [← Nat.add_assoc, G2.eqM, G2.ker_snoc] at h3
    exact h3.1
set_option maxRecDepth 10000 in
theorem before_any (B W z : Nat) (f : Nat → Nat) (te : TypeId) (pe : Value) (w : World) (hT : Tz B w) (hB : B ≤ w.heap.size) (hW : W ≤ 16) (hz : z < 2 ^ W) (hf : ∀ i, i < W → f i < 2 ^ W) (hG : 0 < B) (hE : w.cell? ⟨0, 0, none⟩ = some (.iface te pe)) :
    Calls Tryd.prog 20 #[.agg (vs 16 f).toArray, .int .i64 z, .int .i64 W] w fun x w' => BefR f W z x ∧ Below w.heap.size w w' := by
  have HBD := Lib.hid (built_eq W)
  have hp : 2 ^ W ≤ 65536 := (pow16 hW).2.2
  have MM : MA (w.alloc (.cells (vs 16 f).toArray 40)) w.heap.size 0 16 f := MA.new 40 0 (fun j hj => vs_arr f hj)
  have HMM := Lib.hid MM
  have HB1 : Hid (Below w.heap.size w (w.alloc (.cells (vs 16 f).toArray 40)) ∧ (w.alloc (.cells (vs 16 f).toArray 40)).heap.size = w.heap.size + 1) := ⟨(Below.refl _ _).alloc (Nat.le_refl _) _, by simp⟩
  have HAD : Hid (∀ (V : World) (b : Nat) (e : Nat → Nat) (eqs : List Nat) (k : Nat), k < W → w.heap.size ≤ b → Below w.heap.size w V → EqB V b W eqs e → Calls Tryd.prog 27 #[.pointer (some ⟨b, 0, none⟩), .int .i64 (f k), .int .i64 ((z.testBit k).toNat : Nat)] V fun x w' => ∃ e', x = .returned (if e' W = 0 then .nilIface else .iface te pe) ∧ EqB w' b W (eqs ++ [f k ||| (z.testBit k).toNat * 2 ^ W]) e' ∧ V.grownBy w' (some b)) := fun V b e eqs k hk hb hV hQ =>
    eqAdd_any b B W e eqs (f k) (z.testBit k).toNat (.iface te pe) V (hT.on (hV.mono hB)) (by omega) hQ (hf k hk) (by cases z.testBit k <;> simp) hW hG ((hV.cell (p := ⟨0, 0, none⟩) (by show 0 < w.heap.size; omega)).trans hE)
  clear MM hT hE
  go_enter Tryd.func20, Tryd.ntmps20
  generalize hAA : (vs 16 f).toArray = A at HMM HB1 ⊢
  clear hAA
  go_upto_region 1 with fail
  obtain ⟨w1, hw1⟩ : ∃ w1, w.alloc (.cells A 40) = w1 := ⟨_, rfl⟩
  rw [hw1] at HMM HB1 ⊢
  clear hw1
  have hzv := zero_eq
  go_upto_region 2 with (first | (refine wpl_build rfl 54 #[(0, Operand.tmp 12)] (vs 65 (eqZ W)).toArray rfl (by simp only [List.map_toArray, List.map_cons, List.map_nil, Act.eval]; exact HBD.out) ?_) | (refine wpList_store_mid rfl 54 (Operand.tmp 8) (Operand.tmp 13) rfl w1.heap.size 0 (vs 65 (eqZ W)).toArray rfl rfl (by rw [vs_size]; exact (MA.new 54 0 (fun j hj => vs_arr (n := 65) (fun _ => 0) hj)).there) (by rw [eq_info, vs_size]) (vs_all 65 _) ?_; rw [List.toList_toArray]))
  have hJ0 : Hid (MA ((w1.alloc (.cells (vs 65 (fun _ => 0)).toArray 54)).setCells w1.heap.size 0 (vs 65 (eqZ W))) w.heap.size 0 16 f ∧ EqB ((w1.alloc (.cells (vs 65 (fun _ => 0)).toArray 54)).setCells w1.heap.size 0 (vs 65 (eqZ W))) w1.heap.size W (G2.eqM f W z 0) (fun _ => 0) ∧ Below w.heap.size w ((w1.alloc (.cells (vs 65 (fun _ => 0)).toArray 54)).setCells w1.heap.size 0 (vs 65 (eqZ W)))) := by
    obtain ⟨k1, k2⟩ := HB1.out
    refine ⟨(HMM.out.far (by omega) ((Below.refl _ _).alloc (Nat.le_refl _) _)).away _ (.inl (by omega)), EqB.start ((MA.new 54 0 (fun j hj => vs_arr (n := 65) (fun _ => 0) hj)).put (eqZ W)), below_setCells (by omega) _ _ _ (k1.alloc k1.size _)⟩
  have hbb : w.heap.size < w1.heap.size := by have := HB1.out.2; omega
  generalize ((w1.alloc (.cells (vs 65 (fun _ => 0)).toArray 54)).setCells w1.heap.size 0 (vs 65 (eqZ W))) = w3 at hJ0 ⊢
  generalize w1.heap.size = b at hJ0 hbb ⊢
  generalize (vs 65 (eqZ W)).toArray = EQ
  clear HB1 HMM HBD hzv w1
  have hWI : (W : Int) ≤ 16 := by omega
  go_wp2
  go_loopw [17] (fun iv wr => ∃ (k : Nat) (e : Nat → Nat), k ≤ W ∧ iv = .int .i64 k ∧ Hid (MA wr w.heap.size 0 16 f ∧ EqB wr b W (G2.eqM f W z k) e ∧ Below w.heap.size w wr) ∧ Hid (e W = 0)) (fun iv _ => W - (intOf iv).toNat)
  case atStart => exact ⟨0, fun _ => 0, Nat.zero_le _, rfl, hJ0, rfl⟩
  case round =>
    obtain ⟨k, e, hk, rfl, HJ, H0⟩ := hrel
    clear hJ0
    have hzz := HJ.out.2.2.size
    by_cases hlt : k < W
    · obtain ⟨ck, _⟩ := HJ.out.1 k (by omega)
      rw [Nat.zero_add] at ck
      have E1 := xr_andB z k
      have HC := Lib.hid (HAD.out wr b e _ k hlt (by omega) HJ.out.2.2 HJ.out.2.1)
      have HEQ : Hid (G2.eqM f W z (k + 1) = G2.eqM f W z k ++ [f k ||| (z.testBit k).toNat * 2 ^ W]) := rfl
      obtain ⟨zb, hzb⟩ : ∃ zb, (z.testBit k).toNat = zb := ⟨_, rfl⟩
      rw [hzb] at E1 HC HEQ
      obtain ⟨fk, hfk⟩ : ∃ fk, f k = fk := ⟨_, rfl⟩
      rw [hfk] at ck HC HEQ
      clear hzb hfk
      go_wp2_with fail
      refine HC.out.mono ?_
      rintro x w4 ⟨e', rfl, hQ', hg⟩
      have HJ4 : Hid (MA w4 w.heap.size 0 16 f ∧ EqB w4 b W (G2.eqM f W z (k + 1)) e' ∧ Below w.heap.size w w4) := by
        unfold Hid
        rw [HEQ.out]
        exact ⟨HJ.out.1.grow (by omega) hg (by simp; omega), hQ', HJ.out.2.2.grown hg hzz (fun q e => by cases e; omega)⟩
      clear HC hQ' hg ck
      by_cases h0 : e' W = 0
      · rw [if_pos h0]
        have H04 := Lib.hid h0
        clear h0
        go_wp2
        go_roundw
        case rel => exact ⟨k + 1, e', by omega, by go_num, HJ4, H04⟩
        case measure => first | (simp [intOf]; done) | (simp [intOf]; omega)
      · rw [if_neg h0]
        have HNO : Hid (BefR f W z (.returned (.tuple #[.int .i64 0, .bool false]))) := by
          refine .inr ⟨.inl fun hs => ?_, rfl⟩
          have h1 : G2.Slv (G2.eqM f W z (k + 1)) W := slv_pre (W - (k + 1)) (k + 1) (by rw [show k + 1 + (W - (k + 1)) = W by omega]; exact hs)
          exact h0 ((G2.slv_iff HJ4.out.2.1.2 (by omega)).1 h1)
        clear h0
        go_wp2
        go_ret2
        exact ⟨HNO.out, HJ4.out.2.2⟩
    · obtain rfl : k = W := by omega
      have HO := Lib.hid (eqOpen_any b k e _ wr HJ.out.2.1 hW)
      clear HAD
      go_wp2_with fail
      refine HO.out.mono ?_
      rintro x w4 ⟨rfl, m, hm⟩
      have HJ4 : Hid (EqB w4 b k (G2.eqM f k z k) e ∧ Below w.heap.size w w4) := by unfold Hid; rw [hm]; exact ⟨HJ.out.2.1.drewN m, below_drewN HJ.out.2.2 m⟩
      clear hm HO HJ
      by_cases ho : G2.opE e 0 k = 0
      · have HL := Lib.hid (ecLs_yes b 1 k e w4 HJ4.out.1.1.2 hW H0.out HJ4.out.1.2.2.1)
        rw [ho]
        have HYES : Hid (BefR f k z (.returned (.tuple #[.int .i64 (G2.solE e k % 2 ^ k : Nat), .bool true]))) := .inl ⟨e, HJ4.out.1.2, H0.out, ho, rfl⟩
        clear ho
        go_wp2_with fail
        refine HL.out.mono ?_
        rintro x w5 ⟨rfl, rfl⟩
        generalize G2.solE e k % 2 ^ k = v at HYES ⊢
        clear HL
        go_wp2
        go_ret2
        exact ⟨HYES.out, HJ4.out.2⟩
      · have HNO : Hid (BefR f k z (.returned (.tuple #[.int .i64 0, .bool false]))) := .inr ⟨.inr ⟨e, HJ4.out.1.2, ho⟩, rfl⟩
        have hv : 0 < G2.opE e 0 k := by omega
        clear ho
        generalize G2.opE e 0 k = v at hv ⊢
        go_wp2
        go_ret2
        exact ⟨HNO.out, HJ4.out.2⟩
end Go.Proofs.YtciofobedgmbjabDoor
