/- Functions of two fractions in the specification: spec.AddFractions, SubFractions, MulFractions. -/
import Derived.Test.YtamedggnkbhgeabFAdd
namespace Go.Proofs.Ytamedggnkbhgeab
open Go.RowKit Go.PlainAid
set_option maxHeartbeats 800000

/-- a function of two fractions: one fraction, and whether there is one -/
def GivesFrac (f : FuncId) (args : Array Value) (n d : Int) (ok : Bool) : Prop := ∀ W : World, Calls Try.prog f args W fun e w' => e = .returned (.tuple #[.agg #[.int .i64 n, .int .i64 d], .bool ok]) ∧ Below W.heap.size W w'

theorem add_gives (fn fd gn gd : Int) (hf : VF fn fd) (hg : VF gn gd) : ∃ n d ok, addV fn fd gn gd n d ok ∧
    GivesFrac 79 #[.agg #[.int .i64 fn, .int .i64 fd], .agg #[.int .i64 gn, .int .i64 gd]] n d ok ∧ GivesFrac 40 #[.agg #[.int .i64 fn, .int .i64 fd], .agg #[.int .i64 gn, .int .i64 gd]] n d ok := by
  have key : ∃ n d ok, addV fn fd gn gd n d ok ∧ ∀ n' d' ok', addV fn fd gn gd n' d' ok' → n' = n ∧ d' = d ∧ ok' = ok := by
    by_cases h : addOk fn fd gn gd
    · refine ⟨_, _, true, .inl ⟨h, rfl, rfl, rfl⟩, fun n' d' ok' hv => ?_⟩
      rcases hv with ⟨_, h1, h2, h3⟩ | ⟨h0, _⟩
      · exact ⟨h1, h2, h3⟩
      · exact absurd h h0
    · refine ⟨0, 0, false, .inr ⟨h, rfl, rfl, rfl⟩, fun n' d' ok' hv => ?_⟩
      rcases hv with ⟨h0, _⟩ | ⟨_, h1, h2, h3⟩
      · exact absurd h0 h
      · exact ⟨h1, h2, h3⟩
  obtain ⟨n, d, ok, hv, hu⟩ := key
  refine ⟨n, d, ok, hv, fun W => (add_any fn fd gn gd hf hg W).mono ?_, fun W => (fadd_any fn fd gn gd hf hg W).mono ?_⟩
  · rintro e w' ⟨n', d', ok', he, hv', hb⟩
    obtain ⟨rfl, rfl, rfl⟩ := hu _ _ _ hv'.out
    exact ⟨he, hb⟩
  · rintro e w' ⟨n', d', ok', he, hv', hb⟩
    obtain ⟨rfl, rfl, rfl⟩ := hu _ _ _ hv'.out
    exact ⟨he, hb⟩

theorem VF.neg {n d : Int} (h : VF n d) : VF (-n) d := ⟨h.1, h.2.1, by have := h.2.2.2.1; omega, by have := h.2.2.1; omega, by rw [gcdI_neg]; exact h.2.2.2.2⟩

end Go.Proofs.Ytamedggnkbhgeab
