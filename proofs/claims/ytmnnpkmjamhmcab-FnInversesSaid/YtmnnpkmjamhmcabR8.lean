/- Drawn numbers of the laws that take two codes: laws.r8Long, laws.r8At, spec.R8Number. -/
import Derived.Test.YtmnnpkmjamhmcabSrc
namespace Go.Proofs.Ytmnnpkmjamhmcab
open Go.RowKit Go.PlainAid
set_option maxHeartbeats 400000

theorem r8Long_no (a b : Option Addr) (la ca lb cb : Nat) (w : World) (h1 : la ≤ 48) (h2 : lb ≤ 48) :
    Calls Try.prog 13 #[.slice a la ca, .slice b lb cb] w fun e w' => e = .returned (.bool false) ∧ w = w' := by
  have d1 : decide (48 < (la : Int)) = false := by simp; omega
  have d2 : decide (48 < (lb : Int)) = false := by simp; omega
  go_enter Try.func13, Try.ntmps13
  go_wp2
  go_ret
  exact ⟨rfl, rfl⟩
theorem r8Long_yes (a b : Option Addr) (la ca lb cb : Nat) (w : World) (ha : la ≤ 9223372036854775807) (hb : lb ≤ 9223372036854775807) (h : ¬ (la ≤ 48 ∧ lb ≤ 48)) :
    Calls Try.prog 13 #[.slice a la ca, .slice b lb cb] w fun e w' => e = .returned (.bool true) ∧ w = w' := by
  by_cases h1 : la ≤ 48
  · have h2 : ¬ lb ≤ 48 := fun x => h ⟨h1, x⟩
    have d1 : decide (48 < (la : Int)) = false := by simp; omega
    have d2 : decide (48 < (lb : Int)) = true := by simp; omega
    clear h
    go_enter Try.func13, Try.ntmps13
    go_wp2
    go_ret
    exact ⟨rfl, rfl⟩
  · have d1 : decide (48 < (la : Int)) = true := by simp; omega
    clear h
    go_enter Try.func13, Try.ntmps13
    go_wp2
    go_ret
    exact ⟨rfl, rfl⟩
def NatPost (n : Int) (w : World) (e : Ending) (w' : World) : Prop := ∃ v : Nat, e = .returned (.int .i64 v) ∧ (v : Int) < n ∧ ∃ m, w' = w.drewN m
theorem r8At_any (a : Option Addr) (len cap : Nat) (i : Nat) (n : Int) (base : Nat) (w : World) (hC : Code w base a len) (hl : len ≤ 1048576) (i1 : i ≤ 1000000000) (n0 : 1 ≤ n) (n1 : n ≤ 9223372036854775807) :
    Calls Try.prog 15 #[.slice a len cap, .int .i64 i, .int .i64 n] w (NatPost n w) := by
  by_cases hn : n ≤ 1
  · clear hC
    go_enter Try.func15, Try.ntmps15
    go_wp2
    go_ret
    exact ⟨0, rfl, by omega, 0, rfl⟩
  · by_cases hi : i < len
    · rcases hC with ⟨_, h0⟩ | ⟨c, off, rfl, hcb, hx⟩
      · omega
      · obtain ⟨x, x0, x1, hcell⟩ := hx i hi
        have r0 := Int.emod_nonneg x (show n ≠ 0 by omega)
        have r1 := Int.emod_lt_of_pos x (show 0 < n by omega)
        obtain ⟨v, hv⟩ := Int.eq_ofNat_of_zero_le r0
        clear hx
        go_enter Try.func15, Try.ntmps15
        go_wp2
        go_ret
        exact ⟨v, rfl, by omega, 0, rfl⟩
    · clear hC
      go_enter Try.func15, Try.ntmps15
      go_wp2
      go_ret
      exact ⟨0, rfl, by omega, 0, rfl⟩

theorem Code.mono {w : World} {base base' : Nat} {a : Option Addr} {len : Nat} (h : Code w base a len) (hb : base ≤ base') : Code w base' a len := by
  rcases h with h | ⟨c, off, ha, hc, hx⟩
  · exact .inl h
  · exact .inr ⟨c, off, ha, by omega, hx⟩

def NumPost (n : Int) (w : World) (e : Ending) (w' : World) : Prop := ∃ v : Nat, e = .returned (.int .i64 v) ∧ (v : Int) < n ∧ Below w.heap.size w w'
theorem r8Number_any (a : Option Addr) (len cap : Nat) (n : Int) (w : World) (hC : Code w w.heap.size a len) (hl : len ≤ 1048576) (n0 : 1 ≤ n) (n1 : n ≤ 9223372036854775807) :
    Calls Try.prog 14 #[.slice a len cap, .int .i64 n] w (NumPost n w) := by
  have HC := Lib.hid hC
  clear hC
  go_enter Try.func14, Try.ntmps14
  go_wp2_with fail
  refine (from_any a len cap _ HC.out).mono ?_
  rintro e w1 ⟨rfl, hs1, hb1⟩
  have S1 := Lib.hid hs1
  clear hs1
  go_wp2_with fail
  refine (pick_any w.heap.size w.heap.size a len cap 0 n _ S1.out (by omega) hl n0 n1).mono ?_
  rintro e w2 ⟨x, rfl, ⟨x0, x1⟩, hs2, hg2⟩
  have B2 := Lib.hid (hb1.grown hg2 hb1.size (by simp))
  clear hs2 hg2 hb1
  obtain ⟨v, rfl⟩ := Int.eq_ofNat_of_zero_le x0
  go_wp2
  go_ret
  exact ⟨v, rfl, x1, B2.out⟩

end Go.Proofs.Ytmnnpkmjamhmcab
