/- Fractions in lowest terms: impl.MakeFraction, spec.l01FMake, spec.MakeFraction. -/
import Derived.Test.YtmnnpkmjamhmcabFrac
import Derived.RegionTactic
import Derived.ChangeAlike
namespace Go.Proofs.Ytmnnpkmjamhmcab
open Go.RowKit Go.PlainAid
set_option maxHeartbeats 400000

/-- the parts of n / d in lowest terms -/
def mkN (n d : Int) : Int := if d < 0 then -(n.tdiv (gcdI n d)) else n.tdiv (gcdI n d)
def mkD (n d : Int) : Int := if d < 0 then -(d.tdiv (gcdI n d)) else d.tdiv (gcdI n d)

theorem tdiv_in (n g m : Int) (_hg : 1 ≤ g) (h1 : -m ≤ n) (h2 : n ≤ m) : -m ≤ n.tdiv g ∧ n.tdiv g ≤ m := by
  have h : (n.tdiv g).natAbs ≤ n.natAbs := by
    rw [Int.natAbs_tdiv]
    exact Nat.div_le_self _ _
  omega

theorem make_yes (n d : Int) (w : World) (hd : d ≠ 0) (n1 : -1000000000000000000 ≤ n) (n2 : n ≤ 1000000000000000000) (d1 : -1000000000000000000 ≤ d) (d2 : d ≤ 1000000000000000000) :
    Calls Try.prog 54 #[.int .i64 n, .int .i64 d] w fun e w' => e = .returned (.tuple #[.agg #[.int .i64 (mkN n d), .int .i64 (mkD n d)], .bool true]) ∧ Below w.heap.size w w' := by
  have hd0 : (d == 0) = false := by simp [hd]
  have g1 := gcdI_pos n d hd
  have g2 : gcdI n d ≤ 1000000000000000000 := by
    unfold gcdI Int.gcd
    have := Nat.gcd_le_right n.natAbs (n := d.natAbs) (by omega)
    omega
  obtain ⟨a1, a2⟩ := tdiv_in n _ 1000000000000000000 g1 (by omega) n2
  obtain ⟨b1, b2⟩ := tdiv_in d _ 1000000000000000000 g1 (by omega) d2
  by_cases hneg : d < 0
  · have HN : Hid (mkN n d = -(n.tdiv (gcdI n d))) := by unfold Hid mkN; rw [if_pos hneg]
    have HD : Hid (mkD n d = -(d.tdiv (gcdI n d))) := by unfold Hid mkD; rw [if_pos hneg]
    have e1 : IntKind.i64.wrap (n.tdiv (-gcdI n d)) = n.tdiv (-gcdI n d) := IntWalk.i64_in _ (by rw [Int.tdiv_neg]; omega)
    have e2 : IntKind.i64.wrap (d.tdiv (-gcdI n d)) = d.tdiv (-gcdI n d) := IntWalk.i64_in _ (by rw [Int.tdiv_neg]; omega)
    have hz : ¬ (-gcdI n d) = 0 := by omega
    clear hd
    go_enter Try.func54, Try.ntmps54
    go_wp2_with (first | (go_at_call 107; refine (isPart_yes _ _ (by omega) (by omega)).mono ?_; rintro e w' ⟨rfl, rfl⟩) | (go_at_call 108; refine (common_any _ _ _ (by omega) (by omega) (by omega) (by omega)).mono ?_; rintro e w' ⟨rfl, m, rfl⟩))
    go_region
    all_goals
      go_wp2
      go_returns
      rw [HN.out, HD.out]
      exact ⟨rfl, ((below_drewN ((Below.refl _ _).alloc (Nat.le_refl _) _) _).setCell (by simp) _).setCell (by simp) _⟩
  · have HN : Hid (mkN n d = n.tdiv (gcdI n d)) := by unfold Hid mkN; rw [if_neg hneg]
    have HD : Hid (mkD n d = d.tdiv (gcdI n d)) := by unfold Hid mkD; rw [if_neg hneg]
    have e1 : IntKind.i64.wrap (n.tdiv (gcdI n d)) = n.tdiv (gcdI n d) := IntWalk.i64_in _ (by omega)
    have e2 : IntKind.i64.wrap (d.tdiv (gcdI n d)) = d.tdiv (gcdI n d) := IntWalk.i64_in _ (by omega)
    have hz : ¬ (gcdI n d) = 0 := by omega
    clear hd
    go_enter Try.func54, Try.ntmps54
    go_wp2_with (first | (go_at_call 107; refine (isPart_yes _ _ (by omega) (by omega)).mono ?_; rintro e w' ⟨rfl, rfl⟩) | (go_at_call 108; refine (common_any _ _ _ (by omega) (by omega) (by omega) (by omega)).mono ?_; rintro e w' ⟨rfl, m, rfl⟩))
    go_region
    all_goals
      go_wp2
      go_returns
      rw [HN.out, HD.out]
      exact ⟨rfl, ((below_drewN ((Below.refl _ _).alloc (Nat.le_refl _) _) _).setCell (by simp) _).setCell (by simp) _⟩

theorem make_no (n d : Int) (w : World) (h : ¬ (d ≠ 0 ∧ (-1000000000000000000 ≤ n ∧ n ≤ 1000000000000000000) ∧ (-1000000000000000000 ≤ d ∧ d ≤ 1000000000000000000))) :
    Calls Try.prog 54 #[.int .i64 n, .int .i64 d] w fun e w' => e = .returned (.tuple #[.agg #[.int .i64 0, .int .i64 0], .bool false]) ∧ Below w.heap.size w w' := by
  by_cases hd : d = 0
  · have hd0 : (d == 0) = true := by simp [hd]
    clear h hd
    go_enter Try.func54, Try.ntmps54
    go_wp2
    go_returns
    exact ⟨rfl, by go_grown⟩
  · have hd0 : (d == 0) = false := by simp [hd]
    by_cases hn : -1000000000000000000 ≤ n ∧ n ≤ 1000000000000000000
    · have HD : Hid (¬ (-1000000000000000000 ≤ d ∧ d ≤ 1000000000000000000)) := fun x => h ⟨hd, hn, x⟩
      obtain ⟨n1, n2⟩ := hn
      clear h hd
      go_enter Try.func54, Try.ntmps54
      go_wp2_with (go_at_call 107; first | (refine (isPart_yes _ _ (by omega) (by omega)).mono ?_; rintro e w' ⟨rfl, rfl⟩) | (refine (isPart_no _ _ HD.out).mono ?_; rintro e w' ⟨rfl, rfl⟩))
      go_returns
      exact ⟨rfl, by go_grown⟩
    · have HN := Lib.hid hn
      clear h hd hn
      go_enter Try.func54, Try.ntmps54
      go_wp2_with (go_at_call 107; refine (isPart_no _ _ HN.out).mono ?_; rintro e w' ⟨rfl, rfl⟩)
      go_returns
      exact ⟨rfl, by go_grown⟩

theorem fmake_any (n d : Int) (w : World) (hd : d ≠ 0) (n1 : -1000000000000000000 ≤ n) (n2 : n ≤ 1000000000000000000) (d1 : -1000000000000000000 ≤ d) (d2 : d ≤ 1000000000000000000) :
    Calls Try.prog 66 #[.int .i64 n, .int .i64 d] w fun e w' => e = .returned (.agg #[.int .i64 (mkN n d), .int .i64 (mkD n d)]) ∧ Below w.heap.size w w' := by
  have g1 := gcdI_pos n d hd
  obtain ⟨a1, a2⟩ := tdiv_in n _ 1000000000000000000 g1 (by omega) n2
  obtain ⟨b1, b2⟩ := tdiv_in d _ 1000000000000000000 g1 (by omega) d2
  by_cases hneg : d < 0
  · have HG : Hid (gcdI (n.natAbs : Nat) (-d) = gcdI n d) := by unfold Hid; simp [gcdI, Int.gcd]
    have HN : Hid (mkN n d = -(n.tdiv (gcdI n d))) := by unfold Hid mkN; rw [if_pos hneg]
    have HD : Hid (mkD n d = -(d.tdiv (gcdI n d))) := by unfold Hid mkD; rw [if_pos hneg]
    have e1 : IntKind.i64.wrap ((-n).tdiv (gcdI n d)) = (-n).tdiv (gcdI n d) := IntWalk.i64_in _ (by rw [Int.neg_tdiv]; omega)
    have e2 : IntKind.i64.wrap ((-d).tdiv (gcdI n d)) = (-d).tdiv (gcdI n d) := IntWalk.i64_in _ (by rw [Int.neg_tdiv]; omega)
    have hz : ¬ (gcdI n d) = 0 := by omega
    have X : ∀ W : World, Calls Try.prog 65 #[.int .i64 (-n), .int .i64 n] W fun e w' => e = .returned (.int .i64 ((-n).natAbs : Nat)) ∧ W = w' := fun W => by have := l00Max_abs (-n) W (by omega) (by omega); rwa [Int.neg_neg] at this
    have HX := Lib.hid X
    clear hd X
    go_enter Try.func66, Try.ntmps66
    go_wp2_with (first | (go_at_call 65; refine (HX.out _).mono ?_; rintro e w' ⟨rfl, rfl⟩) | (go_at_call 117; refine (l01Gcd_any _ _ _ (by omega) (by omega) (by omega) (by omega)).mono ?_; rintro e w' ⟨rfl, rfl⟩; rw [HG.out]))
    go_region
    all_goals
      go_wp2
      go_returns
      rw [HN.out, HD.out]
      exact ⟨rfl, ((Below.refl _ _).alloc (Nat.le_refl _) _).drew⟩
  · have HG : Hid (gcdI (n.natAbs : Nat) d = gcdI n d) := by unfold Hid; simp [gcdI, Int.gcd]
    have HN : Hid (mkN n d = n.tdiv (gcdI n d)) := by unfold Hid mkN; rw [if_neg hneg]
    have HD : Hid (mkD n d = d.tdiv (gcdI n d)) := by unfold Hid mkD; rw [if_neg hneg]
    have e1 : IntKind.i64.wrap (n.tdiv (gcdI n d)) = n.tdiv (gcdI n d) := IntWalk.i64_in _ (by omega)
    have e2 : IntKind.i64.wrap (d.tdiv (gcdI n d)) = d.tdiv (gcdI n d) := IntWalk.i64_in _ (by omega)
    have hz : ¬ (gcdI n d) = 0 := by omega
    clear hd
    go_enter Try.func66, Try.ntmps66
    go_wp2_with (first | (go_at_call 65; refine (l00Max_abs _ _ (by omega) (by omega)).mono ?_; rintro e w' ⟨rfl, rfl⟩) | (go_at_call 117; refine (l01Gcd_any _ _ _ (by omega) (by omega) (by omega) (by omega)).mono ?_; rintro e w' ⟨rfl, rfl⟩; rw [HG.out]))
    go_region
    all_goals
      go_wp2
      go_returns
      rw [HN.out, HD.out]
      exact ⟨rfl, ((Below.refl _ _).alloc (Nat.le_refl _) _).drew⟩

/-- the two cells of a block of one's own stand, writable, and so does all below B, over a call that only makes blocks -/
theorem keepW {B b : Nat} {w W w1 : World} {x y : Value} (ha : Below B w W) (hb : Below W.heap.size W w1) (hB : B ≤ b) (hlt : b < W.heap.size)
    (h0 : W.cell? ⟨b, 0, none⟩ = some x) (h1 : W.cell? ⟨b, 1, none⟩ = some y) (f0 : W.frozen? ⟨b, 0, none⟩ = false) (f1 : W.frozen? ⟨b, 1, none⟩ = false) :
    Below B w w1 ∧ b < w1.heap.size ∧ w1.cell? ⟨b, 0, none⟩ = some x ∧ w1.cell? ⟨b, 1, none⟩ = some y ∧ w1.frozen? ⟨b, 0, none⟩ = false ∧ w1.frozen? ⟨b, 1, none⟩ = false :=
  ⟨ha.trans (hb.mono (by omega)), Nat.lt_of_lt_of_le hlt hb.size, (hb.cell (p := ⟨b, 0, none⟩) hlt).trans h0, (hb.cell (p := ⟨b, 1, none⟩) hlt).trans h1,
   (hb.frozen (p := ⟨b, 0, none⟩) hlt).trans f0, (hb.frozen (p := ⟨b, 1, none⟩) hlt).trans f1⟩

end Go.Proofs.Ytmnnpkmjamhmcab
