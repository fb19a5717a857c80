/- Untempered words: impl.UntemperWord, spec.l08Undo, spec.UntemperWord; the law's heart. -/
import Derived.Test.YtciofobedgmbjabDoorBf
import Derived.Test.YtciofobedgmbjabDoorQX
import Derived.Test.YtciofobedgmbjabDoorTmB
namespace Go.Proofs.YtciofobedgmbjabDoor
open Go.RowKit Go.PlainAid
open G2 (Same KerE Ech Bd Low putE pv)
set_option maxHeartbeats 800000

theorem eqM_congr {f g : Nat → Nat} {w z : Nat} : ∀ n, (∀ i, i < n → f i = g i) → G2.eqM f w z n = G2.eqM g w z n := by
  intro n
  induction n with
  | zero => intro _; rfl
  | succ n ih => intro h; rw [G2.eqM, G2.eqM, ih (fun i hi => h i (by omega)), h n (by omega)]
theorem tmp_zero {t : G2.Tm} (ht : t.ok) {x : Nat} (hx : x < 65536) (h : G2.tmp t x = 0) : x = 0 := by
  have h1 := G2.unt_tmp ht hx
  have h2 := G2.unt_tmp ht (show 0 < 65536 by omega)
  rw [G2.lin_zero (G2.tmp_lin t)] at h2
  rw [h, h2] at h1
  exact h1.symm
theorem slv_one {f : Nat → Nat} (hf : G2.Lin f) {w x z : Nat} (hw : w < 63) (hx : x < 2 ^ w) (h1 : f x = z) : G2.Slv (G2.eqM (G2.rwM f w) w z w) w := by
  have hr : ∀ i, G2.rwM f w i < 2 ^ w := fun i => G2.nb_lt _ w
  have hb1 : (x ||| 2 ^ w).testBit w = true := by rw [Nat.testBit_or, G2.pow_bit]; simp
  have hxw : x ||| 2 ^ w = x ^^^ 2 ^ w := by
    apply Nat.eq_of_testBit_eq; intro j
    rw [Nat.testBit_or, Nat.testBit_xor, G2.pow_bit]
    by_cases g : w = j
    · subst g; rw [Nat.testBit_lt_two_pow hx]; simp
    · simp [g]
  have hlt : x ||| 2 ^ w < 2 ^ (w + 1) := Nat.or_lt_two_pow (Nat.lt_of_lt_of_le hx (Nat.pow_le_pow_right (by omega) (by omega))) (Nat.pow_lt_pow_right (by omega) (by omega))
  refine ⟨x ||| 2 ^ w, hb1, fun j hj => Nat.testBit_lt_two_pow (Nat.lt_of_lt_of_le hlt (Nat.pow_le_pow_right (by omega) (by omega))), (G2.eq_ker (by omega) hr hb1 w).2 fun i _ => ?_⟩
  rw [hxw, G2.pv_xor', G2.pv_pow _ (by omega), Nat.testBit_lt_two_pow (hr i), G2.rw_pv hf i (by omega) hx, h1]
  cases z.testBit i <;> rfl
theorem befR_tmp {t : G2.Tm} (ht : t.ok) {z : Nat} (hz : z < 65536) {x : Ending} (h : BefR (mF (G2.tmp t) 16) 16 z x) : x = .returned (.tuple #[.int .i64 (G2.unt t z : Nat), .bool true]) := by
  have e : G2.eqM (mF (G2.tmp t) 16) 16 z 16 = G2.eqM (G2.rwM (G2.tmp t) 16) 16 z 16 := eqM_congr 16 fun i hi => by unfold mF; rw [if_pos hi]
  have key : ∀ e', Same e' 16 (G2.eqM (mF (G2.tmp t) 16) 16 z 16) → e' 16 = 0 ∧ G2.opE e' 0 16 = 0 ∧ G2.solE e' 16 = G2.unt t z + 2 ^ 16 := fun e' hs => by
    rw [e] at hs
    exact G2.one_before (b := G2.unt t) (G2.tmp_lin t) (by omega) (fun x hx => G2.tmp_lt ht hx) hz (G2.unt_lt ht hz) (G2.tmp_unt ht hz) (fun x hx h0 => tmp_zero ht hx h0) hs
  rcases h with ⟨e', hs, _, _, rfl⟩ | ⟨h1 | ⟨e', hs, ho⟩, rfl⟩
  · obtain ⟨_, _, k3⟩ := key e' hs
    have hu := G2.unt_lt ht hz
    rw [k3, show (2 : Nat) ^ 16 = 65536 from rfl, Nat.add_mod_right, Nat.mod_eq_of_lt hu]
  · refine absurd ?_ h1
    rw [e]
    exact slv_one (G2.tmp_lin t) (by omega) (G2.unt_lt ht hz) (G2.tmp_unt ht hz)
  · exact absurd (key e' hs).2.1 ho
theorem untW_yes (B : Nat) (t : G2.Tm) (z : Nat) (te : TypeId) (pe : Value) (w : World) (ht : t.ok) (hz : z < 65536) (hT : Tz B w) (hB : B ≤ w.heap.size) (hG : 0 < B) (hE : w.cell? ⟨0, 0, none⟩ = some (.iface te pe)) :
    Calls Tryd.prog 7 #[.agg #[.int .i64 t.d1, .int .i64 t.u1, .int .i64 t.m1, .int .i64 t.u2, .int .i64 t.m2, .int .i64 t.d2], .int .i64 z] w fun e w' => e = .returned (.tuple #[.int .i64 (G2.unt t z : Nat), .bool true]) ∧ Below w.heap.size w w' := by
  have HV : Hid (∀ W : World, Calls Tryd.prog 13 #[.agg #[.int .i64 t.d1, .int .i64 t.u1, .int .i64 t.m1, .int .i64 t.u2, .int .i64 t.m2, .int .i64 t.d2]] W fun e w' => e = .returned (.bool true) ∧ Below W.heap.size W w') := fun W => validT_b _ _ _ _ _ _ true W (decide_eq_true (tem_ok ht))
  have HI : Hid (∀ W : World, Calls Tryd.prog 17 #[.int .i64 z] W fun e w' => e = .returned (.bool true) ∧ W = w') := fun W => isWord_b _ _ W (decide_eq_true (by omega))
  have HM : Hid (∀ V : World, Calls Tryd.prog 19 #[.agg #[.int .i64 16, .func (.func 18) #[.agg #[.int .i64 t.d1, .int .i64 t.u1, .int .i64 t.m1, .int .i64 t.u2, .int .i64 t.m2, .int .i64 t.d2]] #[]]] V fun e w' => e = .returned (.agg (vs 16 (mF (G2.tmp t) 16)).toArray) ∧ Below V.heap.size V w') := fun V =>
    matF_any 18 _ (G2.tmp t) 16 V (by omega) (fun x hx => G2.tmp_lt ht hx) (fun args V => by simp [go_sem]) (fun x V hx => nextT_any t x V ht hx)
  have HBf : Hid (∀ V : World, Below w.heap.size w V → Calls Tryd.prog 20 #[.agg (vs 16 (mF (G2.tmp t) 16)).toArray, .int .i64 z, .int .i64 16] V fun x w' => x = .returned (.tuple #[.int .i64 (G2.unt t z : Nat), .bool true]) ∧ Below V.heap.size V w') := fun V hV =>
    (before_any B 16 z (mF (G2.tmp t) 16) te pe V (hT.on (hV.mono hB)) (by have := hV.size; omega) (by omega) hz (fun i hi => by unfold mF; rw [if_pos hi]; exact G2.nb_lt _ _) hG ((hV.cell (p := ⟨0, 0, none⟩) (by show 0 < w.heap.size; omega)).trans hE)).mono fun x w' ⟨h1, h2⟩ => ⟨befR_tmp ht hz h1, h2⟩
  have hmf : ∀ (fn : Fn) (first cap : Array Value) (w : World), (Instr.makeFunc fn first cap).run Tryd.prog w = .ok (.func fn first cap) w := fun _ _ _ _ => rfl
  generalize G2.unt t z = u at HBf ⊢
  generalize (vs 16 (mF (G2.tmp t) 16)).toArray = A at HM HBf
  obtain ⟨D1, U1, M1, U2, M2, D2⟩ := t
  simp only at *
  clear ht hz hT hE hG
  go_enter Tryd.func7, Tryd.ntmps7
  go_wp2_with fail
  have K0 := T6.new w D1 U1 M1 U2 M2 D2 26
  generalize w.alloc (.cells #[.int .i64 D1, .int .i64 U1, .int .i64 M1, .int .i64 U2, .int .i64 M2, .int .i64 D2] 26) = w0 at K0 ⊢
  refine (HV.out _).mono ?_
  rintro e w1 ⟨rfl, hb⟩
  have K1 := Lib.hid (K0.far hb)
  clear hb K0
  obtain ⟨⟨x0, x1, x2, x3, x4, x5⟩, _⟩ := K1.out
  go_wp2_with (go_at_call 17; with_reducible refine (HI.out _).mono ?_; rintro e w2 ⟨rfl, rfl⟩)
  refine (HM.out _).mono ?_
  rintro e w2 ⟨rfl, hb⟩
  have K2 := Lib.hid (K1.out.far hb)
  clear hb K1 x0 x1 x2 x3 x4 x5 HM
  go_wp2_with fail
  refine (HBf.out _ K2.out.all).mono ?_
  rintro e w3 ⟨rfl, hb⟩
  have K3 := Lib.hid (K2.out.far hb)
  clear hb K2 HBf
  go_wp2
  go_ret2
  exact ⟨rfl, K3.out.all⟩
theorem untW_no (d1 u1 m1 u2 m2 d2 y : Int) (w : World) (h : ¬ (TemP d1 u1 m1 u2 m2 d2 ∧ 0 ≤ y ∧ y ≤ 65535)) :
    Calls Tryd.prog 7 #[.agg #[.int .i64 d1, .int .i64 u1, .int .i64 m1, .int .i64 u2, .int .i64 m2, .int .i64 d2], .int .i64 y] w fun e w' => e = .returned (.tuple #[.int .i64 0, .bool false]) ∧ Below w.heap.size w w' := by
  by_cases ht : TemP d1 u1 m1 u2 m2 d2
  · have HV : Hid (∀ W : World, Calls Tryd.prog 13 #[.agg #[.int .i64 d1, .int .i64 u1, .int .i64 m1, .int .i64 u2, .int .i64 m2, .int .i64 d2]] W fun e w' => e = .returned (.bool true) ∧ Below W.heap.size W w') := fun W => validT_b _ _ _ _ _ _ true W (decide_eq_true ht)
    have HI : Hid (∀ W : World, Calls Tryd.prog 17 #[.int .i64 y] W fun e w' => e = .returned (.bool false) ∧ W = w') := fun W => isWord_b _ _ W (decide_eq_false fun k => h ⟨ht, k⟩)
    clear ht h
    go_enter Tryd.func7, Tryd.ntmps7
    go_wp2_with fail
    have K0 := T6.new w d1 u1 m1 u2 m2 d2 26
    generalize w.alloc (.cells #[.int .i64 d1, .int .i64 u1, .int .i64 m1, .int .i64 u2, .int .i64 m2, .int .i64 d2] 26) = w0 at K0 ⊢
    refine (HV.out _).mono ?_
    rintro e w1 ⟨rfl, hb⟩
    have K1 := Lib.hid (K0.far hb)
    clear hb K0
    go_wp2_with (go_at_call 17; with_reducible refine (HI.out _).mono ?_; rintro e w2 ⟨rfl, rfl⟩)
    go_ret2
    exact ⟨rfl, K1.out.all⟩
  · have HV : Hid (∀ W : World, Calls Tryd.prog 13 #[.agg #[.int .i64 d1, .int .i64 u1, .int .i64 m1, .int .i64 u2, .int .i64 m2, .int .i64 d2]] W fun e w' => e = .returned (.bool false) ∧ Below W.heap.size W w') := fun W => validT_b _ _ _ _ _ _ false W (decide_eq_false ht)
    clear ht h
    go_enter Tryd.func7, Tryd.ntmps7
    go_wp2_with fail
    have K0 := T6.new w d1 u1 m1 u2 m2 d2 26
    generalize w.alloc (.cells #[.int .i64 d1, .int .i64 u1, .int .i64 m1, .int .i64 u2, .int .i64 m2, .int .i64 d2] 26) = w0 at K0 ⊢
    refine (HV.out _).mono ?_
    rintro e w1 ⟨rfl, hb⟩
    have K1 := Lib.hid (K0.far hb)
    clear hb K0
    go_wp2
    go_ret2
    exact ⟨rfl, K1.out.all⟩
theorem shfU (y s : Nat) (w : World) (hs : s ≤ 16) (hy : y < 65536) :
    Calls Tryd.prog 25 #[.int .i64 y, .int .i64 s, .int .i64 16] w fun e w' => e = .returned (.int .i64 (G2.upG s 65535 y : Nat)) ∧ w = w' := by
  obtain ⟨e1, lp⟩ := up_wrap y s hy hs
  have e2 : bits .and .i64 ((y * 2 ^ s : Nat) : Int) 65535 = ((G2.upG s 65535 y : Nat) : Int) := up_and y s 65535 hy hs (by omega)
  generalize y * 2 ^ s = p at e1 e2 lp
  generalize G2.upG s 65535 y = q at e2 ⊢
  go_enter Tryd.func25, Tryd.ntmps25
  go_wp2
  go_ret
  exact ⟨rfl, rfl⟩
theorem shfD (y s : Nat) (w : World) (hs1 : 1 ≤ s) (hs : s ≤ 16) :
    Calls Tryd.prog 25 #[.int .i64 y, .int .i64 (-(s : Int)), .int .i64 16] w fun e w' => e = .returned (.int .i64 (G2.dnG s y : Nat)) ∧ w = w' := by
  have hn : -(s : Int) < 0 := by omega
  have e : (y : Int) / 2 ^ s = ((G2.dnG s y : Nat) : Int) := by unfold G2.dnG; simp
  have HV := Lib.hid e
  have w1 : IntKind.i64.wrap (- -(s : Int)) = (s : Int) := by rw [Int.neg_neg]; exact IntWalk.i64_in _ (by omega)
  clear e
  go_enter Tryd.func25, Tryd.ntmps25
  go_wp2
  go_ret
  exact ⟨by rw [← HV.out]; rfl, rfl⟩
theorem undo_any (b : Int) (h g : Nat → Nat) (z m : Nat) (w : World) (hz : z < 65536) (hm : m < 65536) (HS : Hid (∀ (y : Nat) (V : World), y < 65536 → Calls Tryd.prog 25 #[.int .i64 y, .int .i64 b, .int .i64 16] V fun e w' => e = .returned (.int .i64 (h y : Nat)) ∧ V = w')) (hh : ∀ y, y < 65536 → h y < 65536) (hg : ∀ y, y < 65536 → h y &&& m = g y) :
    Calls Tryd.prog 16 #[.int .i64 z, .int .i64 b, .int .i64 m] w fun e w' => e = .returned (.int .i64 (G2.itG g z 16 : Nat)) ∧ w = w' := by
  have hgl : ∀ y, y < 65536 → g y < 65536 := fun y hy => by rw [← hg y hy]; exact Nat.lt_of_le_of_lt Nat.and_le_right hm
  have HL := Lib.hid (G2.it_lt hz hgl)
  have HH := Lib.hid hh
  have HG := Lib.hid hg
  have HGL := Lib.hid hgl
  clear hh hg hgl
  go_enter Tryd.func16, Tryd.ntmps16
  go_wp2
  go_loopw [7, 8] (fun yv iv wr => ∃ k y : Nat, k ≤ 16 ∧ yv = .int .i64 y ∧ iv = .int .i64 k ∧ y < 65536 ∧ Hid (y = G2.itG g z k) ∧ w = wr) (fun _ iv _ => 16 - (intOf iv).toNat)
  case atStart => exact ⟨0, z, by omega, rfl, rfl, hz, rfl, rfl⟩
  case round =>
    obtain ⟨k, y, hk, rfl, rfl, hy, HY, rfl⟩ := hrel
    by_cases hlt : k < 16
    · have hltI : (k : Int) < 16 := by omega
      have HC := Lib.hid fun V => HS.out y V hy
      have h1 := HH.out y hy
      have E1 := i64_andN (h y) m (by omega) (by omega)
      rw [HG.out y hy] at E1
      have h2 := HGL.out y hy
      have E2 := i64_xorN z (g y) (by omega) (by omega)
      have HN : Hid (z ^^^ g y = G2.itG g z (k + 1)) := by unfold Hid; rw [HY.out]; rfl
      have hl2 : z ^^^ g y < 65536 := by have := HL.out (k + 1); rwa [← HN.out] at this
      generalize z ^^^ g y = y2 at E2 HN hl2
      generalize g y = gy at E1 E2 h2
      generalize h y = hy2 at E1 HC h1
      clear HY
      go_wp2_with (go_at_call 25; with_reducible refine (HC.out _).mono ?_; rintro e w1 ⟨rfl, rfl⟩)
      go_roundw
      case rel => exact ⟨k + 1, y2, by omega, rfl, by go_num, hl2, HN, by first | trivial | rfl⟩
      case measure => first | (simp [intOf]; done) | (simp [intOf]; omega)
    · obtain rfl : k = 16 := by omega
      go_wp2
      go_ret
      exact ⟨by rw [← HY.out]; rfl, by first | trivial | rfl⟩
theorem and_ones16 {x : Nat} (h : x < 65536) : x &&& 65535 = x := by
  rw [show 65535 = 2 ^ 16 - 1 from rfl, Nat.and_two_pow_sub_one_eq_mod]
  exact Nat.mod_eq_of_lt h
theorem up_and16 (s m y : Nat) (hm : m < 65536) : G2.upG s 65535 y &&& m = G2.upG s m y := by
  unfold G2.upG
  rw [Nat.and_assoc, Nat.and_comm 65535 m, and_ones16 hm]
theorem specUntW_yes (t : G2.Tm) (z : Nat) (w : World) (ht : t.ok) (hz : z < 65536) :
    Calls Tryd.prog 5 #[.agg #[.int .i64 t.d1, .int .i64 t.u1, .int .i64 t.m1, .int .i64 t.u2, .int .i64 t.m2, .int .i64 t.d2], .int .i64 z] w fun e w' => e = .returned (.tuple #[.int .i64 (G2.unt t z : Nat), .bool true]) ∧ Below w.heap.size w w' := by
  have htp := tem_ok ht
  obtain ⟨⟨d1, d1'⟩, ⟨u1, u1'⟩, m1, ⟨u2, u2'⟩, m2, d2, d2'⟩ := ht
  have HI : Hid (∀ W : World, Calls Tryd.prog 15 #[.int .i64 z] W fun e w' => e = .returned (.bool true) ∧ W = w') := fun W => l08Word_b _ _ W (decide_eq_true (by omega))
  obtain ⟨D1, U1, M1, U2, M2, D2⟩ := t
  simp only at *
  have dn : ∀ (s y : Nat) (W : World), 1 ≤ s → s ≤ 16 → y < 65536 → Calls Tryd.prog 16 #[.int .i64 y, .int .i64 (-(s : Int)), .int .i64 65535] W fun e w' => e = .returned (.int .i64 (G2.itG (G2.dnG s) y 16 : Nat)) ∧ W = w' := fun s y W h1 h2 hy =>
    undo_any (-(s : Int)) (G2.dnG s) (G2.dnG s) y 65535 W hy (by omega) (fun y V _ => shfD y s V h1 h2) (fun y hy => G2.dn_lt hy) (fun y hy => and_ones16 (G2.dn_lt hy))
  have up : ∀ (s m y : Nat) (W : World), s ≤ 16 → m < 65536 → y < 65536 → Calls Tryd.prog 16 #[.int .i64 y, .int .i64 s, .int .i64 m] W fun e w' => e = .returned (.int .i64 (G2.itG (G2.upG s m) y 16 : Nat)) ∧ W = w' := fun s m y W h2 hm hy =>
    undo_any (s : Int) (G2.upG s 65535) (G2.upG s m) y m W hy hm (fun y V hy => shfU y s V h2 hy) (fun y _ => G2.up_lt (by omega)) (fun y _ => up_and16 s m y hm)
  have l1 : G2.itG (G2.dnG D2) z 16 < 65536 := G2.it_lt hz (fun y hy => G2.dn_lt hy) 16
  have l2 : G2.itG (G2.upG U2 M2) (G2.itG (G2.dnG D2) z 16) 16 < 65536 := G2.it_lt l1 (fun y _ => G2.up_lt m2) 16
  have l3 : G2.itG (G2.upG U1 M1) (G2.itG (G2.upG U2 M2) (G2.itG (G2.dnG D2) z 16) 16) 16 < 65536 := G2.it_lt l2 (fun y _ => G2.up_lt m1) 16
  have H1 := Lib.hid fun W => dn D2 z W d2 d2' hz
  have H2 := Lib.hid fun W => up U2 M2 _ W u2' m2 l1
  have H3 := Lib.hid fun W => up U1 M1 _ W u1' m1 l2
  have H4 := Lib.hid fun W => dn D1 _ W d1 d1' l3
  have HU : Hid (G2.unt ⟨D1, U1, M1, U2, M2, D2⟩ z = G2.itG (G2.dnG D1) (G2.itG (G2.upG U1 M1) (G2.itG (G2.upG U2 M2) (G2.itG (G2.dnG D2) z 16) 16) 16) 16) := rfl
  rw [HU.out]
  generalize G2.itG (G2.dnG D1) (G2.itG (G2.upG U1 M1) (G2.itG (G2.upG U2 M2) (G2.itG (G2.dnG D2) z 16) 16) 16) 16 = v4 at H4 ⊢
  generalize G2.itG (G2.upG U1 M1) (G2.itG (G2.upG U2 M2) (G2.itG (G2.dnG D2) z 16) 16) 16 = v3 at H3 H4
  generalize G2.itG (G2.upG U2 M2) (G2.itG (G2.dnG D2) z 16) 16 = v2 at H2 H3
  generalize G2.itG (G2.dnG D2) z 16 = v1 at H1 H2
  have n1 : IntKind.i64.wrap (-(D2 : Int)) = -(D2 : Int) := IntWalk.i64_in _ (by omega)
  have n2 : IntKind.i64.wrap (-(D1 : Int)) = -(D1 : Int) := IntWalk.i64_in _ (by omega)
  have K0 := T6.new w D1 U1 M1 U2 M2 D2 26
  generalize hW : w.alloc (.cells #[.int .i64 D1, .int .i64 U1, .int .i64 M1, .int .i64 U2, .int .i64 M2, .int .i64 D2] 26) = w0 at K0
  have HK := Lib.hid K0.all
  have HL := Lib.hid (l08Temper_b w.heap.size _ _ _ _ _ _ true w0 K0.1 (decide_eq_true htp))
  obtain ⟨⟨x0, x1, x2, x3, x4, x5⟩, _⟩ := K0
  clear htp dn up l1 l2 l3 HU
  go_enter Tryd.func5, Tryd.ntmps5
  go_upto_region 1 with fail
  clear hW
  go_wp2_with (first | (go_at_call 14; with_reducible refine (HL.out).mono ?_; rintro e w2 ⟨rfl, rfl⟩) | (go_at_call 15; with_reducible refine (HI.out _).mono ?_; rintro e w2 ⟨rfl, rfl⟩) | (go_at_call 16; with_reducible first | (refine (H1.out _).mono ?_; rintro e w2 ⟨rfl, rfl⟩) | (refine (H2.out _).mono ?_; rintro e w2 ⟨rfl, rfl⟩) | (refine (H3.out _).mono ?_; rintro e w2 ⟨rfl, rfl⟩) | (refine (H4.out _).mono ?_; rintro e w2 ⟨rfl, rfl⟩)))
  go_ret2
  exact ⟨rfl, HK.out⟩
theorem specUntW_no (d1 u1 m1 u2 m2 d2 y : Int) (w : World) (h : ¬ (TemP d1 u1 m1 u2 m2 d2 ∧ 0 ≤ y ∧ y ≤ 65535)) :
    Calls Tryd.prog 5 #[.agg #[.int .i64 d1, .int .i64 u1, .int .i64 m1, .int .i64 u2, .int .i64 m2, .int .i64 d2], .int .i64 y] w fun e w' => e = .returned (.tuple #[.int .i64 0, .bool false]) ∧ Below w.heap.size w w' := by
  have K0 := T6.new w d1 u1 m1 u2 m2 d2 26
  generalize hW : w.alloc (.cells #[.int .i64 d1, .int .i64 u1, .int .i64 m1, .int .i64 u2, .int .i64 m2, .int .i64 d2] 26) = w0 at K0
  have HK := Lib.hid K0.all
  by_cases ht : TemP d1 u1 m1 u2 m2 d2
  · have HI : Hid (∀ W : World, Calls Tryd.prog 15 #[.int .i64 y] W fun e w' => e = .returned (.bool false) ∧ W = w') := fun W => l08Word_b _ _ W (decide_eq_false fun k => h ⟨ht, k⟩)
    have HL := Lib.hid (l08Temper_b w.heap.size _ _ _ _ _ _ true w0 K0.1 (decide_eq_true ht))
    clear ht h K0
    go_enter Tryd.func5, Tryd.ntmps5
    go_upto_region 1 with fail
    clear hW
    go_wp2_with (first | (go_at_call 14; with_reducible refine (HL.out).mono ?_; rintro e w2 ⟨rfl, rfl⟩) | (go_at_call 15; with_reducible refine (HI.out _).mono ?_; rintro e w2 ⟨rfl, rfl⟩))
    go_ret2
    exact ⟨rfl, HK.out⟩
  · have HL := Lib.hid (l08Temper_b w.heap.size _ _ _ _ _ _ false w0 K0.1 (decide_eq_false ht))
    clear ht h K0
    go_enter Tryd.func5, Tryd.ntmps5
    go_upto_region 1 with fail
    clear hW
    go_wp2_with (go_at_call 14; with_reducible refine (HL.out).mono ?_; rintro e w2 ⟨rfl, rfl⟩)
    go_ret2
    exact ⟨rfl, HK.out⟩
theorem err_of_laid {n0 nm : String} {d0 d : DataW Unit} {r : List (String × DataW Unit)} {w : World} (h : laidMet Tryd.prog ((n0, d0) :: ("loop.example/g01121/impl.errContradiction", .iface nm d) :: r) w) : ∃ te pe, w.cell? ⟨0, 0, none⟩ = some (.iface te pe) := by
  obtain ⟨ps, ⟨g0, t0, cs0, f0, p0, q0, hg0, ht0, hv0, hd0, ⟨g1, t1, cs1, f1, p1, q1, hg1, ht1, hv1, hd1, hq1, e1⟩, e0⟩, hnd, hrows⟩ := h
  obtain rfl := Option.some.inj ((show Tryd.prog.globalNamed "loop.example/g01121/impl.errContradiction" = some 0 by kernel_rfl).symm.trans hg1)
  obtain rfl := Option.some.inj ((show (Tryd.prog.globals[0]?).map (·.type) = some 56 by kernel_rfl).symm.trans ht1)
  obtain ⟨l1⟩ := cs1
  obtain ⟨f', u, v, rfl, _, _⟩ := iface_of_trod Tryd.underlying56 hd1
  exact ⟨u, v, by simpa using World.var?_cell hg1 hv1 0⟩
theorem lawUnt (B : Nat) (d1 u1 m1 u2 m2 d2 y : Int) (te : TypeId) (pe : Value) (w : World) (hT : Tz B w) (hB : B ≤ w.heap.size) (hG : 0 < B) (hE : w.cell? ⟨0, 0, none⟩ = some (.iface te pe)) :
    Calls Tryd.prog 3 #[.agg #[.int .i64 d1, .int .i64 u1, .int .i64 m1, .int .i64 u2, .int .i64 m2, .int .i64 d2], .int .i64 y] w fun e w' => e = .returned (.bool true) ∧ Below w.heap.size w w' := by
  by_cases h : TemP d1 u1 m1 u2 m2 d2 ∧ 0 ≤ y ∧ y ≤ 65535
  · obtain ⟨t, rfl, rfl, rfl, rfl, rfl, rfl, ht⟩ := h.1.nat
    obtain ⟨Y, rfl⟩ := Int.eq_ofNat_of_zero_le h.2.1
    have hY : Y < 65536 := by omega
    exact lawUntemperWord_of _ _ _ _ _ _ _ _ true w (fun W => specUntW_yes t Y W ht hY) (fun W hb => untW_yes B t Y te pe W ht hY (hT.on (hb.mono hB)) (by have := hb.size; omega) hG ((hb.cell (p := ⟨0, 0, none⟩) (by show 0 < w.heap.size; omega)).trans hE))
  · exact lawUntemperWord_of _ _ _ _ _ _ _ 0 false w (fun W => specUntW_no _ _ _ _ _ _ _ W h) (fun W _ => untW_no _ _ _ _ _ _ _ W h)
end Go.Proofs.YtciofobedgmbjabDoor
