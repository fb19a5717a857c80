/- What is known of a slice of integers that came in. -/
import Derived.Test.YtmnnpkmjamhmcabSrc
namespace Go.Proofs.Ytmnnpkmjamhmcab
open Go.RowKit Go.PlainAid

theorem cell_in {w : World} {a : Addr} {v : Value} (h : w.cell? a = some v) : a.block < w.heap.size := by
  unfold World.cell? at h
  split at h
  · rename_i hb
    exact (Array.getElem?_eq_some_iff.1 hb).1
  · cases h

/-- a slice of integers that came in: nil, or the first of the numbers zs that lie in its row -/
def RowIn (k : IntKind) (w : World) (a : Option Addr) (len : Nat) (zs : List Int) : Prop :=
  (a = none ∧ len = 0) ∨
  ∃ x, a = some x ∧ len ≤ zs.length ∧ zs.length ≤ maxLen ∧ (∀ i, i < zs.length → w.cell? (x.add i) = some (.int k (zs.getD i 0))) ∧ ∀ n ∈ zs, (Lit.int k n).wf = true

theorem RowIn.len_le {k : IntKind} {w : World} {a : Option Addr} {len : Nat} {zs : List Int} (h : RowIn k w a len zs) : len ≤ 9223372036854775807 := by
  rcases h with ⟨_, rfl⟩ | ⟨x, _, h1, h2, _⟩
  · omega
  · have : maxLen ≤ 9223372036854775807 := by decide
    omega

theorem RowIn.at {k : IntKind} {w : World} {a : Option Addr} {len : Nat} {zs : List Int} (h : RowIn k w a len zs) :
    (len = 0) ∨ ∃ b off, a = some ⟨b, off, none⟩ ∧ b < w.heap.size ∧ len ≤ zs.length ∧ (∀ i, i < zs.length → w.cell? ⟨b, off + i, none⟩ = some (.int k (zs.getD i 0))) ∧ ∀ n ∈ zs, (Lit.int k n).wf = true := by
  rcases h with ⟨_, h⟩ | ⟨x, ha, h1, _, h2, h3⟩
  · exact .inl h
  · by_cases h0 : len = 0
    · exact .inl h0
    · obtain ⟨b, off, rfl, h4⟩ := ints_at h2 (by omega)
      exact .inr ⟨b, off, ha, by have := cell_in (h4 0 (by omega)); simpa using this, h1, h4, h3⟩

theorem RowIn.code {w : World} {a : Option Addr} {len : Nat} {zs : List Int} (h : RowIn .u8 w a len zs) : Code w w.heap.size a len := by
  rcases h.at with h0 | ⟨b, off, ha, hb, hl, hc, hw⟩
  · exact .inl h0
  · refine .inr ⟨b, off, ha, hb, fun i hi => ?_⟩
    have hm : zs.getD i 0 ∈ zs := by
      rw [List.getD_eq_getElem?_getD, List.getElem?_eq_getElem (show i < zs.length by omega)]
      exact List.getElem_mem _
    obtain ⟨h1, h2⟩ := bounds_u8 (hw _ hm)
    exact ⟨_, h1, h2, hc i (by omega)⟩
end Go.Proofs.Ytmnnpkmjamhmcab
