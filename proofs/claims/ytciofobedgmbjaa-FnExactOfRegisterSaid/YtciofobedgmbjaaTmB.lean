/- Tempers: a word's changes in the code and in the specification; the law FnExactTemperWord. -/
import Derived.Test.YtciofobedgmbjaaTmA
import Derived.Test.YtciofobedgmbjaaPolyMul
import Derived.Test.YtciofobedgmbjaaGT
import Derived.Deep.CutBlock
import Derived.Deep.Cut
namespace Go.Proofs.Ytciofobedgmbjaa
open Go.RowKit Go.PlainAid
set_option maxHeartbeats 800000

/-- the changes in the spelling of the walk -/
theorem dn_int (y s : Nat) (hy : y < 65536) : bits .xor .i64 (y : Int) ((y : Int) / 2 ^ s) = ((y ^^^ G2.dnG s y : Nat) : Int) := by
  have e : (y : Int) / 2 ^ s = ((y / 2 ^ s : Nat) : Int) := by simp
  have h : y / 2 ^ s ≤ y := Nat.div_le_self _ _
  rw [e, i64_xorN _ _ (by omega) (by omega)]
  rfl
theorem up_wrap (y s : Nat) (hy : y < 65536) (hs : s ≤ 16) : wrap64 ((y : Int) * 2 ^ s) = ((y * 2 ^ s : Nat) : Int) ∧ y * 2 ^ s < 9223372036854775808 := by
  have h := shl_in (a := y) (k := s) (A := 16) hy (by omega)
  exact ⟨by rw [cast_shl, wrap64_nat _ h], h⟩
theorem up_and (y s m : Nat) (hy : y < 65536) (hs : s ≤ 16) (hm : m < 65536) : bits .and .i64 ((y * 2 ^ s : Nat) : Int) (m : Int) = (G2.upG s m y : Nat) :=
  i64_andN _ _ (up_wrap y s hy hs).2 (by omega)
theorem up_int (y s m : Nat) (hy : y < 65536) (hm : m < 65536) : bits .xor .i64 (y : Int) (G2.upG s m y : Nat) = ((y ^^^ G2.upG s m y : Nat) : Int) :=
  i64_xorN _ _ (by omega) (by have := G2.up_lt (s := s) (y := y) hm; omega)
theorem tem_facts (t : G2.Tm) (y : Nat) (ht : t.ok) (hy : y < 65536) : ∃ y1 y2 y3 p q a b : Nat, G2.tmp t y < 65536 ∧ y1 < 65536 ∧ y2 < 65536 ∧ y3 < 65536 ∧ p < 9223372036854775808 ∧ q < 9223372036854775808 ∧
    bits .xor .i64 (y : Int) ((y : Int) / 2 ^ t.d1) = (y1 : Int) ∧ wrap64 ((y1 : Int) * 2 ^ t.u1) = (p : Int) ∧ bits .and .i64 (p : Int) (t.m1 : Int) = (a : Int) ∧ bits .xor .i64 (y1 : Int) (a : Int) = (y2 : Int) ∧
    wrap64 ((y2 : Int) * 2 ^ t.u2) = (q : Int) ∧ bits .and .i64 (q : Int) (t.m2 : Int) = (b : Int) ∧ bits .xor .i64 (y2 : Int) (b : Int) = (y3 : Int) ∧ bits .xor .i64 (y3 : Int) ((y3 : Int) / 2 ^ t.d2) = (G2.tmp t y : Nat) := by
  have h1 := G2.ch1_lt (t := t) hy
  have h2 := G2.ch2_lt ht h1
  have h3 := G2.ch3_lt ht h2
  have h4 := G2.tmp_lt ht hy
  obtain ⟨⟨_, _⟩, ⟨_, u1⟩, m1, ⟨_, u2⟩, m2, _, _⟩ := ht
  exact ⟨_, _, _, _, _, _, _, h4, h1, h2, h3, (up_wrap _ _ h1 u1).2, (up_wrap _ _ h2 u2).2, dn_int _ _ hy, (up_wrap _ _ h1 u1).1, up_and _ _ _ h1 u1 m1, up_int _ _ _ h1 m1, (up_wrap _ _ h2 u2).1, up_and _ _ _ h2 u2 m2, up_int _ _ _ h2 m2, dn_int _ _ h3⟩
theorem tem_ok {t : G2.Tm} (h : t.ok) : TemP t.d1 t.u1 t.m1 t.u2 t.m2 t.d2 := by
  obtain ⟨h1, h2, h3, h4, h5, h6, h7⟩ := h
  unfold TemP
  omega
end Go.Proofs.Ytciofobedgmbjaa
