/- Sums of fractions: impl.AddFractions. -/
import Derived.Test.YtmnnpkmjamhmcabOver
import Derived.Test.YtmnnpkmjamhmcabMix
import Derived.Test.YtmnnpkmjamhmcabWide2
import Derived.Test.YtmnnpkmjamhmcabCmp
import Derived.Test.YtmnnpkmjamhmcabAddMath
namespace Go.Proofs.Ytmnnpkmjamhmcab
open Go.RowKit Go.PlainAid
set_option maxHeartbeats 800000

/-- the sum as it is returned -/
def addOk (fn fd gn gd : Int) : Prop := Small (addN fn fd gn gd) ∧ Small (addD fn fd gn gd)
def addV (fn fd gn gd n d : Int) (ok : Bool) : Prop := (addOk fn fd gn gd ∧ n = addN fn fd gn gd ∧ d = addD fn fd gn gd ∧ ok = true) ∨ (¬ addOk fn fd gn gd ∧ n = 0 ∧ d = 0 ∧ ok = false)

/-- what the walks want of the numbers -/
theorem add_all (fn fd gn gd : Int) (hf : VF fn fd) (hg : VF gn gd) :
    ∃ G a b c e S N D : Int, gcdI fd gd = G ∧ 1 ≤ G ∧ G ≤ 1000000000000000000 ∧ fd.tdiv G = a ∧ gd.tdiv G = b ∧ 1 ≤ a ∧ a ≤ 1000000000000000000 ∧ 1 ≤ b ∧ b ≤ 1000000000000000000 ∧ fn * b + gn * a = S ∧ 1 ≤ c ∧ c ≤ 1000000000000000000 ∧
      gcdI S G = c ∧ gd.tdiv c = e ∧ 1 ≤ e ∧ e ≤ 1000000000000000000 ∧ S.tdiv c = N ∧ a * e = D ∧ addN fn fd gn gd = N ∧ addD fn fd gn gd = D ∧ 1 ≤ D ∧ gcdI N D = 1 ∧ fd / G = a ∧ gd / G = b ∧ gd / c = e := by
  obtain ⟨⟨f1, f2, f3, f4⟩, f5⟩ := hf.out
  obtain ⟨⟨g1, g2, g3, g4⟩, g5⟩ := hg.out
  obtain ⟨F, rfl⟩ := Int.eq_ofNat_of_zero_le (show 0 ≤ fd by omega)
  obtain ⟨H, rfl⟩ := Int.eq_ofNat_of_zero_le (show 0 ≤ gd by omega)
  have cf : Nat.Coprime fn.natAbs F := by unfold gcdI Int.gcd at f5; rw [Int.natAbs_natCast] at f5; show Nat.gcd _ _ = 1; omega
  have cg : Nat.Coprime gn.natAbs H := by unfold gcdI Int.gcd at g5; rw [Int.natAbs_natCast] at g5; show Nat.gcd _ _ = 1; omega
  obtain ⟨a, b, c, e, z, h1, h2, h3, h4, h5, a0, b0, c0, e0, h6, h7, h8, h9, h10⟩ := add_nat fn gn F H (by omega) (by omega) cf cg
  have G1 : 1 ≤ gcdI (F : Int) H := gcdI_pos _ _ (by omega)
  have G2 : gcdI (F : Int) H ≤ H := gcdI_le_right _ _ (by omega)
  have hS : fn * (b : Int) + gn * (a : Int) = addS fn F gn H := by unfold addS; rw [h1, h2]
  have hN : (addS fn F gn H).tdiv (c : Int) = z := by rw [h5, Int.mul_tdiv_cancel _ (by omega)]
  have be : 0 < b * e := Nat.mul_pos b0 e0
  refine ⟨gcdI F H, a, b, c, (b * e : Nat), addS fn F gn H, z, (a : Int) * (b * e : Nat), rfl, G1, by omega, ?_, ?_, by omega, by omega, by omega, by omega, hS, by omega, by omega, h3, ?_, by omega, by omega, hN, rfl, ?_, ?_, ?_, ?_, h1, h2, h4⟩
  · rw [Int.tdiv_eq_ediv_of_nonneg (by omega)]; exact h1
  · rw [Int.tdiv_eq_ediv_of_nonneg (by omega)]; exact h2
  · rw [Int.tdiv_eq_ediv_of_nonneg (by omega)]; exact h4
  · unfold addN; rw [h3]; exact hN
  · unfold addD; rw [h3, h4, h1]
  · have := Nat.mul_pos a0 be
    have q : ((a : Int) * (b * e : Nat)) = ((a * (b * e) : Nat) : Int) := by simp
    rw [q]
    omega
  · unfold gcdI Int.gcd
    have q : ((a : Int) * (b * e : Nat)).natAbs = a * (b * e) := by rw [Int.natAbs_mul, Int.natAbs_natCast, Int.natAbs_natCast]
    rw [q, h10]
    rfl

theorem gcdI_mod (s g : Int) (hg : 1 ≤ g) : gcdI ((s.natAbs % g.toNat : Nat) : Int) g = gcdI s g := by
  obtain ⟨G, rfl⟩ := Int.eq_ofNat_of_zero_le (show 0 ≤ g by omega)
  unfold gcdI Int.gcd
  rw [Int.natAbs_natCast, Int.natAbs_natCast, Int.toNat_natCast, ← Nat.gcd_rec, Nat.gcd_comm]

theorem bound_sum {fn gn a b : Int} (f3 : -1000000000000000000 ≤ fn) (f4 : fn ≤ 1000000000000000000) (g3 : -1000000000000000000 ≤ gn) (g4 : gn ≤ 1000000000000000000) (a1 : 1 ≤ a) (a2 : a ≤ 1000000000000000000) (b1 : 1 ≤ b) (b2 : b ≤ 1000000000000000000) :
    -85070591730234615865843651857942052864 < fn * b + gn * a ∧ fn * b + gn * a < 85070591730234615865843651857942052864 := by
  have h1 := prod60 fn b f3 f4 (by omega) b2
  have h2 := prod60 gn a g3 g4 (by omega) a2
  omega

theorem fracOf_fix (N D h1 l1 h2 l2 : Int) (e1 : Hid (h1 = hiU N)) (e2 : Hid (l1 = loU N)) (e3 : Hid (h2 = hiU D)) (e4 : Hid (l2 = loU D)) (hN : In128 N) (hD : In128 D) :
    ∃ n d ok, ((Small N ∧ Small D ∧ n = N ∧ d = D ∧ ok = true) ∨ (¬ (Small N ∧ Small D) ∧ n = 0 ∧ d = 0 ∧ ok = false)) ∧ ∀ W : World,
      Calls Try.prog 198 #[.agg #[.int .u64 h1, .int .u64 l1], .agg #[.int .u64 h2, .int .u64 l2]] W fun e w' => e = .returned (.tuple #[.agg #[.int .i64 n, .int .i64 d], .bool ok]) ∧ Below W.heap.size W w' := by
  by_cases hs : Small N ∧ Small D
  · refine ⟨N, D, true, .inl ⟨hs.1, hs.2, rfl, rfl, rfl⟩, fun W => (fracOf_any N D h1 l1 h2 l2 W e1 e2 e3 e4 hN hD).mono fun e w' ⟨n, d, ok, he, hv, hb⟩ => ?_⟩
    rcases hv.out with ⟨_, _, rfl, rfl, rfl⟩ | ⟨h, _⟩
    · exact ⟨he, hb⟩
    · exact absurd hs h
  · refine ⟨0, 0, false, .inr ⟨hs, rfl, rfl, rfl⟩, fun W => (fracOf_any N D h1 l1 h2 l2 W e1 e2 e3 e4 hN hD).mono fun e w' ⟨n, d, ok, he, hv, hb⟩ => ?_⟩
    rcases hv.out with ⟨h3, h4, _⟩ | ⟨_, rfl, rfl, rfl⟩
    · exact absurd ⟨h3, h4⟩ hs
    · exact ⟨he, hb⟩

end Go.Proofs.Ytmnnpkmjamhmcab
