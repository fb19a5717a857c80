/- Tempers: a word's changes in the code and in the specification; the law FnExactTemperWord. -/
import Derived.Test.YtciofobedgmbjabDoorTmA
import Derived.Test.YtciofobedgmbjabDoorPolyMul
import Derived.Test.YtciofobedgmbjabDoorGT
import Derived.Deep.CutBlock
import Derived.Deep.Cut
namespace Go.Proofs.YtciofobedgmbjabDoor
open Go.RowKit Go.PlainAid
set_option maxHeartbeats 800000

/-- the changes in the spelling of the walk -/
theorem dn_int (y s : Nat) (hy : y < 65536) : bits .xor .i64 (y : Int) ((y : Int) / 2 ^ s) = ((y ^^^ G2.dnG s y : Nat) : Int) := by
  have e : (y : Int) / 2 ^ s = ((y / 2 ^ s : Nat) : Int) := by simp
  have h : y / 2 ^ s ≤ y := Nat.div_le_self _ _
  rw [e, i64_xorN _ _ (by omega) (by omega)]
  rfl
theorem up_wrap (y s : Nat) (hy : y < 65536) (hs : s ≤ 16) : wrap64 ((y : Int) * 2 ^ s) = ((y * 2 ^ s : Nat) : Int) ∧ y * 2 ^ s < 9223372036854775808 := by
  have h := shl_in (a := y) (k := s) (A := 16) hy (by omega)
  exact ⟨by rw [cast_shl, wrap64_nat _ h], h⟩
theorem up_and (y s m : Nat) (hy : y < 65536) (hs : s ≤ 16) (hm : m < 65536) : bits .and .i64 ((y * 2 ^ s : Nat) : Int) (m : Int) = (G2.upG s m y : Nat) :=
  i64_andN _ _ (up_wrap y s hy hs).2 (by omega)
theorem up_int (y s m : Nat) (hy : y < 65536) (hm : m < 65536) : bits .xor .i64 (y : Int) (G2.upG s m y : Nat) = ((y ^^^ G2.upG s m y : Nat) : Int) :=
  i64_xorN _ _ (by omega) (by have := G2.up_lt (s := s) (y := y) hm; omega)
theorem tem_facts (t : G2.Tm) (y : Nat) (ht : t.ok) (hy : y < 65536) : ∃ y1 y2 y3 p q a b : Nat, G2.tmp t y < 65536 ∧ y1 < 65536 ∧ y2 < 65536 ∧ y3 < 65536 ∧ p < 9223372036854775808 ∧ q < 9223372036854775808 ∧
    bits .xor .i64 (y : Int) ((y : Int) / 2 ^ t.d1) = (y1 : Int) ∧ wrap64 ((y1 : Int) * 2 ^ t.u1) = (p : Int) ∧ bits .and .i64 (p : Int) (t.m1 : Int) = (a : Int) ∧ bits .xor .i64 (y1 : Int) (a : Int) = (y2 : Int) ∧
    wrap64 ((y2 : Int) * 2 ^ t.u2) = (q : Int) ∧ bits .and .i64 (q : Int) (t.m2 : Int) = (b : Int) ∧ bits .xor .i64 (y2 : Int) (b : Int) = (y3 : Int) ∧ bits .xor .i64 (y3 : Int) ((y3 : Int) / 2 ^ t.d2) = (G2.tmp t y : Nat) := by
  have h1 := G2.ch1_lt (t := t) hy
  have h2 := G2.ch2_lt ht h1
  have h3 := G2.ch3_lt ht h2
  have h4 := G2.tmp_lt ht hy
  obtain ⟨⟨_, _⟩, ⟨_, u1⟩, m1, ⟨_, u2⟩, m2, _, _⟩ := ht
  exact ⟨_, _, _, _, _, _, _, h4, h1, h2, h3, (up_wrap _ _ h1 u1).2, (up_wrap _ _ h2 u2).2, dn_int _ _ hy, (up_wrap _ _ h1 u1).1, up_and _ _ _ h1 u1 m1, up_int _ _ _ h1 m1, (up_wrap _ _ h2 u2).1, up_and _ _ _ h2 u2 m2, up_int _ _ _ h2 m2, dn_int _ _ h3⟩
theorem nextT_any (t : G2.Tm) (y : Nat) (w : World) (ht : t.ok) (hy : y < 65536) :
    Calls Tryd.prog 18 #[.agg #[.int .i64 t.d1, .int .i64 t.u1, .int .i64 t.m1, .int .i64 t.u2, .int .i64 t.m2, .int .i64 t.d2], .int .i64 y] w fun e w' => e = .returned (.int .i64 (G2.tmp t y)) ∧ Below w.heap.size w w' := by
  obtain ⟨y1, y2, y3, p, q, a, b, l4, l1, l2, l3, lp, lq, e1, e2, e3, e4, e5, e6, e7, e8⟩ := tem_facts t y ht hy
  obtain ⟨⟨d1, d1'⟩, ⟨u1, u1'⟩, m1, ⟨u2, u2'⟩, m2, d2, d2'⟩ := ht
  generalize G2.tmp t y = z at *
  obtain ⟨D1, U1, M1, U2, M2, D2⟩ := t
  simp only at *
  have K0 := T6.new w D1 U1 M1 U2 M2 D2 26
  generalize hW : w.alloc (.cells #[.int .i64 D1, .int .i64 U1, .int .i64 M1, .int .i64 U2, .int .i64 M2, .int .i64 D2] 26) = w0 at K0
  have HK := Lib.hid K0.all
  obtain ⟨⟨x0, x1, x2, x3, x4, x5⟩, _⟩ := K0
  go_enter Tryd.func18, Tryd.ntmps18
  go_upto_region 1 with fail
  clear hW
  go_wp2
  go_quiet (fail)
  go_wp2
  go_quiet (fail)
  go_wp2
  go_ret
  exact ⟨rfl, below_drewN HK.out _⟩
theorem tem_ok {t : G2.Tm} (h : t.ok) : TemP t.d1 t.u1 t.m1 t.u2 t.m2 t.d2 := by
  obtain ⟨h1, h2, h3, h4, h5, h6, h7⟩ := h
  unfold TemP
  omega
theorem temW_yes (t : G2.Tm) (y : Nat) (w : World) (ht : t.ok) (hy : y < 65536) :
    Calls Tryd.prog 12 #[.agg #[.int .i64 t.d1, .int .i64 t.u1, .int .i64 t.m1, .int .i64 t.u2, .int .i64 t.m2, .int .i64 t.d2], .int .i64 y] w fun e w' => e = .returned (.tuple #[.int .i64 (G2.tmp t y), .bool true]) ∧ Below w.heap.size w w' := by
  have HV : Hid (∀ W : World, Calls Tryd.prog 13 #[.agg #[.int .i64 t.d1, .int .i64 t.u1, .int .i64 t.m1, .int .i64 t.u2, .int .i64 t.m2, .int .i64 t.d2]] W fun e w' => e = .returned (.bool true) ∧ Below W.heap.size W w') := fun W => validT_b _ _ _ _ _ _ true W (decide_eq_true (tem_ok ht))
  have HN : Hid (∀ W : World, Calls Tryd.prog 18 #[.agg #[.int .i64 t.d1, .int .i64 t.u1, .int .i64 t.m1, .int .i64 t.u2, .int .i64 t.m2, .int .i64 t.d2], .int .i64 y] W fun e w' => e = .returned (.int .i64 (G2.tmp t y)) ∧ Below W.heap.size W w') := fun W => nextT_any t y W ht hy
  have HI : Hid (∀ W : World, Calls Tryd.prog 17 #[.int .i64 y] W fun e w' => e = .returned (.bool true) ∧ W = w') := fun W => isWord_b _ _ W (decide_eq_true (by omega))
  generalize G2.tmp t y = z at *
  obtain ⟨D1, U1, M1, U2, M2, D2⟩ := t
  simp only at *
  clear ht hy
  go_enter Tryd.func12, Tryd.ntmps12
  go_wp2_with fail
  have K0 := T6.new w D1 U1 M1 U2 M2 D2 26
  generalize w.alloc (.cells #[.int .i64 D1, .int .i64 U1, .int .i64 M1, .int .i64 U2, .int .i64 M2, .int .i64 D2] 26) = w0 at K0 ⊢
  refine (HV.out _).mono ?_
  rintro e w1 ⟨rfl, hb⟩
  have K1 := Lib.hid (K0.far hb)
  clear hb K0
  obtain ⟨⟨x0, x1, x2, x3, x4, x5⟩, _⟩ := K1.out
  go_wp2_with (go_at_call 17; with_reducible refine (HI.out _).mono ?_; rintro e w2 ⟨rfl, rfl⟩)
  refine (HN.out _).mono ?_
  rintro e w2 ⟨rfl, hb⟩
  have K2 := Lib.hid (K1.out.far hb)
  clear hb K1 x0 x1 x2 x3 x4 x5
  go_wp2
  go_ret2
  exact ⟨rfl, K2.out.all⟩
theorem temW_no (d1 u1 m1 u2 m2 d2 y : Int) (w : World) (h : ¬ (TemP d1 u1 m1 u2 m2 d2 ∧ 0 ≤ y ∧ y ≤ 65535)) :
    Calls Tryd.prog 12 #[.agg #[.int .i64 d1, .int .i64 u1, .int .i64 m1, .int .i64 u2, .int .i64 m2, .int .i64 d2], .int .i64 y] w fun e w' => e = .returned (.tuple #[.int .i64 0, .bool false]) ∧ Below w.heap.size w w' := by
  by_cases ht : TemP d1 u1 m1 u2 m2 d2
  · have HV : Hid (∀ W : World, Calls Tryd.prog 13 #[.agg #[.int .i64 d1, .int .i64 u1, .int .i64 m1, .int .i64 u2, .int .i64 m2, .int .i64 d2]] W fun e w' => e = .returned (.bool true) ∧ Below W.heap.size W w') := fun W => validT_b _ _ _ _ _ _ true W (decide_eq_true ht)
    have HI : Hid (∀ W : World, Calls Tryd.prog 17 #[.int .i64 y] W fun e w' => e = .returned (.bool false) ∧ W = w') := fun W => isWord_b _ _ W (decide_eq_false fun k => h ⟨ht, k⟩)
    clear ht h
    go_enter Tryd.func12, Tryd.ntmps12
    go_wp2_with fail
    have K0 := T6.new w d1 u1 m1 u2 m2 d2 26
    generalize w.alloc (.cells #[.int .i64 d1, .int .i64 u1, .int .i64 m1, .int .i64 u2, .int .i64 m2, .int .i64 d2] 26) = w0 at K0 ⊢
    refine (HV.out _).mono ?_
    rintro e w1 ⟨rfl, hb⟩
    have K1 := Lib.hid (K0.far hb)
    clear hb K0
    go_wp2_with (go_at_call 17; with_reducible refine (HI.out _).mono ?_; rintro e w2 ⟨rfl, rfl⟩)
    go_ret2
    exact ⟨rfl, K1.out.all⟩
  · have HV : Hid (∀ W : World, Calls Tryd.prog 13 #[.agg #[.int .i64 d1, .int .i64 u1, .int .i64 m1, .int .i64 u2, .int .i64 m2, .int .i64 d2]] W fun e w' => e = .returned (.bool false) ∧ Below W.heap.size W w') := fun W => validT_b _ _ _ _ _ _ false W (decide_eq_false ht)
    clear ht h
    go_enter Tryd.func12, Tryd.ntmps12
    go_wp2_with fail
    have K0 := T6.new w d1 u1 m1 u2 m2 d2 26
    generalize w.alloc (.cells #[.int .i64 d1, .int .i64 u1, .int .i64 m1, .int .i64 u2, .int .i64 m2, .int .i64 d2] 26) = w0 at K0 ⊢
    refine (HV.out _).mono ?_
    rintro e w1 ⟨rfl, hb⟩
    have K1 := Lib.hid (K0.far hb)
    clear hb K0
    go_wp2
    go_ret2
    exact ⟨rfl, K1.out.all⟩
theorem lawUntemperWord_of (d1 u1 m1 u2 m2 d2 y v : Int) (r : Bool) (w : World) (S : Hid (∀ W : World, Calls Tryd.prog 5 #[.agg #[.int .i64 d1, .int .i64 u1, .int .i64 m1, .int .i64 u2, .int .i64 m2, .int .i64 d2], .int .i64 y] W fun e w' => e = .returned (.tuple #[.int .i64 v, .bool r]) ∧ Below W.heap.size W w'))
    (I : Hid (∀ W : World, Below w.heap.size w W → Calls Tryd.prog 7 #[.agg #[.int .i64 d1, .int .i64 u1, .int .i64 m1, .int .i64 u2, .int .i64 m2, .int .i64 d2], .int .i64 y] W fun e w' => e = .returned (.tuple #[.int .i64 v, .bool r]) ∧ Below W.heap.size W w')) :
    Calls Tryd.prog 3 #[.agg #[.int .i64 d1, .int .i64 u1, .int .i64 m1, .int .i64 u2, .int .i64 m2, .int .i64 d2], .int .i64 y] w fun e w' => e = .returned (.bool true) ∧ Below w.heap.size w w' := by
  have e0 : (v != v) = false := by simp
  have e1 : (r != r) = false := by simp
  go_enter Tryd.func3, Tryd.ntmps3
  go_wp2_with fail
  have K := T6.new w d1 u1 m1 u2 m2 d2 23
  generalize w.alloc (.cells #[.int .i64 d1, .int .i64 u1, .int .i64 m1, .int .i64 u2, .int .i64 m2, .int .i64 d2] 23) = w0 at K ⊢
  refine (toTem_any _ _ _ _ _ _ _).mono ?_
  rintro e w1 ⟨rfl, hb⟩
  have K1 := K.far hb
  clear hb K
  go_wp2_with fail
  refine (S.out _).mono ?_
  rintro e w2 ⟨rfl, hb⟩
  have K2 := Lib.hid (K1.far hb)
  clear hb K1
  obtain ⟨⟨x0, x1, x2, x3, x4, x5⟩, _⟩ := K2.out
  go_wp2_with fail
  refine (toTem_any _ _ _ _ _ _ _).mono ?_
  rintro e w3 ⟨rfl, hb⟩
  have K3 := K2.out.far hb
  clear hb K2 x0 x1 x2 x3 x4 x5
  go_wp2_with fail
  refine (I.out _ K3.all).mono ?_
  rintro e w4 ⟨rfl, hb⟩
  have K4 := Lib.hid (K3.far hb)
  clear hb K3
  go_wp2
  go_ret
  exact ⟨rfl, K4.out.all⟩
end Go.Proofs.YtciofobedgmbjabDoor
