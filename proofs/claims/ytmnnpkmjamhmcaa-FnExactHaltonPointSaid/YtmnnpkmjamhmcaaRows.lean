/-
  No cell of these rows narrows 'for every input' (looked for: loops, veiled, ifaces, maps, wideKeys, modest, calm, conditions, laid).
  DERIVED. THE GIVEN ROWS OF THIS SEAT. 12 by the template 'for every input the law returns true; each argument reads behind the call as it read before'; 0 by the template 'total and deterministic' (their statements: YtmnnpkmjamhmcaaTotals.lean).
  GIVEN WITH THE SEED: the statements are not yours to turn. If you find one false, say at which input.
  Laid BY PROGRAM, IN A SANDBOX (cutbox-rows.mjs): the forced cells as the released guide's own fill.sh prints them over the translation b940dfbaf8f2b786… (all of the seat's roots in one cut). By AI agents, Wed Nov 11 2026. No macro, syntax, notation, axiom, sorry.
-/
import Derived.Test.YtmnnpkmjamhmcaaChecked
import GoSem.Claim
import GoSem.ClaimJoined
import GoSem.ClaimMapViews
import Derived.JoinedTies
import Derived.KernelRfl
namespace Go.Proofs.Ytmnnpkmjamhmcaa
/- THE CELL 'sum', in the pinned program and in every row, IS THE sha256 OF THE DUMP (.gsa) THAT YtmnnpkmjamhmcaaProg.lean LOADS. Nothing in Lean hashes anything: it is a label: what it is worth is what the hold of that sum in a sandbox is worth. -/
noncomputable def Try.pinned : Pinned := { name := "ytmnnpkmjamhmcaa", sum := "b940dfbaf8f2b7868fda22667704f8d908b081e359058ca704b52bab4d5027b8", checked := Try.checked }
namespace Rows
def none {H : Type} : Left H := { results := [], args := [] }

/-- 'laws.FnExactValidNet': WHATEVER THE INPUT: true; the input reads as it did. -/
def fnExactValidNetSpec : ChangeSpec := { name := "fnExactValidNet", fn := fun _ => fun
  | [d] => { results := [.lit (.bool true)], args := [d] }
  | _ => none }
def fnExactValidNetRow : OpenClaim := { program := "ytmnnpkmjamhmcaa", sum := "b940dfbaf8f2b7868fda22667704f8d908b081e359058ca704b52bab4d5027b8", func := "loop.example/g01121/laws.FnExactValidNet", spec := "fnExactValidNet", apart := false }
def FnExactValidNetSaid : Prop := fnExactValidNetRow.holds Try.pinned (OpenSpec.ofChange fnExactValidNetSpec)

/-- ITS FALSE NEIGHBOUR: 'it returns false'. Refute it at one input. -/
def fnExactValidNetWrong : ChangeSpec := { name := "fnExactValidNet", fn := fun _ => fun
  | [d] => { results := [.lit (.bool false)], args := [d] }
  | _ => none }
def FnExactValidNetWrongFalsely : Prop := fnExactValidNetRow.holds Try.pinned (OpenSpec.ofChange fnExactValidNetWrong)

/-- 'laws.FnExactIsPoints': WHATEVER THE INPUT: true; the input reads as it did. -/
def fnExactIsPointsSpec : ChangeSpec := { name := "fnExactIsPoints", fn := fun _ => fun
  | [d1, d2] => { results := [.lit (.bool true)], args := [d1, d2] }
  | _ => none }
def fnExactIsPointsRow : OpenClaim := { program := "ytmnnpkmjamhmcaa", sum := "b940dfbaf8f2b7868fda22667704f8d908b081e359058ca704b52bab4d5027b8", func := "loop.example/g01121/laws.FnExactIsPoints", spec := "fnExactIsPoints", apart := false }
def FnExactIsPointsSaid : Prop := fnExactIsPointsRow.holds Try.pinned (OpenSpec.ofChange fnExactIsPointsSpec)

/-- ITS FALSE NEIGHBOUR: 'it returns false'. Refute it at one input. -/
def fnExactIsPointsWrong : ChangeSpec := { name := "fnExactIsPoints", fn := fun _ => fun
  | [d1, d2] => { results := [.lit (.bool false)], args := [d1, d2] }
  | _ => none }
def FnExactIsPointsWrongFalsely : Prop := fnExactIsPointsRow.holds Try.pinned (OpenSpec.ofChange fnExactIsPointsWrong)

/-- 'laws.FnExactBoxCounts': WHATEVER THE INPUT: true; the input reads as it did. -/
def fnExactBoxCountsSpec : ChangeSpec := { name := "fnExactBoxCounts", fn := fun _ => fun
  | [d1, d2, d3] => { results := [.lit (.bool true)], args := [d1, d2, d3] }
  | _ => none }
def fnExactBoxCountsRow : OpenClaim := { program := "ytmnnpkmjamhmcaa", sum := "b940dfbaf8f2b7868fda22667704f8d908b081e359058ca704b52bab4d5027b8", func := "loop.example/g01121/laws.FnExactBoxCounts", spec := "fnExactBoxCounts", apart := false }
def FnExactBoxCountsSaid : Prop := fnExactBoxCountsRow.holds Try.pinned (OpenSpec.ofChange fnExactBoxCountsSpec)

/-- ITS FALSE NEIGHBOUR: 'it returns false'. Refute it at one input. -/
def fnExactBoxCountsWrong : ChangeSpec := { name := "fnExactBoxCounts", fn := fun _ => fun
  | [d1, d2, d3] => { results := [.lit (.bool false)], args := [d1, d2, d3] }
  | _ => none }
def FnExactBoxCountsWrongFalsely : Prop := fnExactBoxCountsRow.holds Try.pinned (OpenSpec.ofChange fnExactBoxCountsWrong)

/-- 'laws.FnExactIsEven': WHATEVER THE INPUT: true; the input reads as it did. -/
def fnExactIsEvenSpec : ChangeSpec := { name := "fnExactIsEven", fn := fun _ => fun
  | [d1, d2, d3] => { results := [.lit (.bool true)], args := [d1, d2, d3] }
  | _ => none }
def fnExactIsEvenRow : OpenClaim := { program := "ytmnnpkmjamhmcaa", sum := "b940dfbaf8f2b7868fda22667704f8d908b081e359058ca704b52bab4d5027b8", func := "loop.example/g01121/laws.FnExactIsEven", spec := "fnExactIsEven", apart := false }
def FnExactIsEvenSaid : Prop := fnExactIsEvenRow.holds Try.pinned (OpenSpec.ofChange fnExactIsEvenSpec)

/-- ITS FALSE NEIGHBOUR: 'it returns false'. Refute it at one input. -/
def fnExactIsEvenWrong : ChangeSpec := { name := "fnExactIsEven", fn := fun _ => fun
  | [d1, d2, d3] => { results := [.lit (.bool false)], args := [d1, d2, d3] }
  | _ => none }
def FnExactIsEvenWrongFalsely : Prop := fnExactIsEvenRow.holds Try.pinned (OpenSpec.ofChange fnExactIsEvenWrong)

/-- 'laws.FnExactShiftPoints': WHATEVER THE INPUT: true; the input reads as it did. -/
def fnExactShiftPointsSpec : ChangeSpec := { name := "fnExactShiftPoints", fn := fun _ => fun
  | [d1, d2, d3] => { results := [.lit (.bool true)], args := [d1, d2, d3] }
  | _ => none }
def fnExactShiftPointsRow : OpenClaim := { program := "ytmnnpkmjamhmcaa", sum := "b940dfbaf8f2b7868fda22667704f8d908b081e359058ca704b52bab4d5027b8", func := "loop.example/g01121/laws.FnExactShiftPoints", spec := "fnExactShiftPoints", apart := false }
def FnExactShiftPointsSaid : Prop := fnExactShiftPointsRow.holds Try.pinned (OpenSpec.ofChange fnExactShiftPointsSpec)

/-- ITS FALSE NEIGHBOUR: 'it returns false'. Refute it at one input. -/
def fnExactShiftPointsWrong : ChangeSpec := { name := "fnExactShiftPoints", fn := fun _ => fun
  | [d1, d2, d3] => { results := [.lit (.bool false)], args := [d1, d2, d3] }
  | _ => none }
def FnExactShiftPointsWrongFalsely : Prop := fnExactShiftPointsRow.holds Try.pinned (OpenSpec.ofChange fnExactShiftPointsWrong)

/-- 'laws.FnExactGridPoints': WHATEVER THE INPUT: true; the input reads as it did. -/
def fnExactGridPointsSpec : ChangeSpec := { name := "fnExactGridPoints", fn := fun _ => fun
  | [d1, d2] => { results := [.lit (.bool true)], args := [d1, d2] }
  | _ => none }
def fnExactGridPointsRow : OpenClaim := { program := "ytmnnpkmjamhmcaa", sum := "b940dfbaf8f2b7868fda22667704f8d908b081e359058ca704b52bab4d5027b8", func := "loop.example/g01121/laws.FnExactGridPoints", spec := "fnExactGridPoints", apart := false }
def FnExactGridPointsSaid : Prop := fnExactGridPointsRow.holds Try.pinned (OpenSpec.ofChange fnExactGridPointsSpec)

/-- ITS FALSE NEIGHBOUR: 'it returns false'. Refute it at one input. -/
def fnExactGridPointsWrong : ChangeSpec := { name := "fnExactGridPoints", fn := fun _ => fun
  | [d1, d2] => { results := [.lit (.bool false)], args := [d1, d2] }
  | _ => none }
def FnExactGridPointsWrongFalsely : Prop := fnExactGridPointsRow.holds Try.pinned (OpenSpec.ofChange fnExactGridPointsWrong)

/-- 'laws.FnExactRadicalInverse': WHATEVER THE INPUT: true; the input reads as it did. -/
def fnExactRadicalInverseSpec : ChangeSpec := { name := "fnExactRadicalInverse", fn := fun _ => fun
  | [d1, d2] => { results := [.lit (.bool true)], args := [d1, d2] }
  | _ => none }
def fnExactRadicalInverseRow : OpenClaim := { program := "ytmnnpkmjamhmcaa", sum := "b940dfbaf8f2b7868fda22667704f8d908b081e359058ca704b52bab4d5027b8", func := "loop.example/g01121/laws.FnExactRadicalInverse", spec := "fnExactRadicalInverse", apart := false }
def FnExactRadicalInverseSaid : Prop := fnExactRadicalInverseRow.holds Try.pinned (OpenSpec.ofChange fnExactRadicalInverseSpec)

/-- ITS FALSE NEIGHBOUR: 'it returns false'. Refute it at one input. -/
def fnExactRadicalInverseWrong : ChangeSpec := { name := "fnExactRadicalInverse", fn := fun _ => fun
  | [d1, d2] => { results := [.lit (.bool false)], args := [d1, d2] }
  | _ => none }
def FnExactRadicalInverseWrongFalsely : Prop := fnExactRadicalInverseRow.holds Try.pinned (OpenSpec.ofChange fnExactRadicalInverseWrong)

/-- 'laws.FnExactHaltonPoint': WHATEVER THE INPUT: true; the input reads as it did. -/
def fnExactHaltonPointSpec : ChangeSpec := { name := "fnExactHaltonPoint", fn := fun _ => fun
  | [d1, d2] => { results := [.lit (.bool true)], args := [d1, d2] }
  | _ => none }
def fnExactHaltonPointRow : OpenClaim := { program := "ytmnnpkmjamhmcaa", sum := "b940dfbaf8f2b7868fda22667704f8d908b081e359058ca704b52bab4d5027b8", func := "loop.example/g01121/laws.FnExactHaltonPoint", spec := "fnExactHaltonPoint", apart := false }
def FnExactHaltonPointSaid : Prop := fnExactHaltonPointRow.holds Try.pinned (OpenSpec.ofChange fnExactHaltonPointSpec)

/-- ITS FALSE NEIGHBOUR: 'it returns false'. Refute it at one input. -/
def fnExactHaltonPointWrong : ChangeSpec := { name := "fnExactHaltonPoint", fn := fun _ => fun
  | [d1, d2] => { results := [.lit (.bool false)], args := [d1, d2] }
  | _ => none }
def FnExactHaltonPointWrongFalsely : Prop := fnExactHaltonPointRow.holds Try.pinned (OpenSpec.ofChange fnExactHaltonPointWrong)

/-- 'laws.FnExactReversedNet': WHATEVER THE INPUT: true; the input reads as it did. -/
def fnExactReversedNetSpec : ChangeSpec := { name := "fnExactReversedNet", fn := fun _ => fun
  | [d] => { results := [.lit (.bool true)], args := [d] }
  | _ => none }
def fnExactReversedNetRow : OpenClaim := { program := "ytmnnpkmjamhmcaa", sum := "b940dfbaf8f2b7868fda22667704f8d908b081e359058ca704b52bab4d5027b8", func := "loop.example/g01121/laws.FnExactReversedNet", spec := "fnExactReversedNet", apart := false }
def FnExactReversedNetSaid : Prop := fnExactReversedNetRow.holds Try.pinned (OpenSpec.ofChange fnExactReversedNetSpec)

/-- ITS FALSE NEIGHBOUR: 'it returns false'. Refute it at one input. -/
def fnExactReversedNetWrong : ChangeSpec := { name := "fnExactReversedNet", fn := fun _ => fun
  | [d] => { results := [.lit (.bool false)], args := [d] }
  | _ => none }
def FnExactReversedNetWrongFalsely : Prop := fnExactReversedNetRow.holds Try.pinned (OpenSpec.ofChange fnExactReversedNetWrong)

/-- 'laws.FnExactPascalNet': WHATEVER THE INPUT: true; the input reads as it did. -/
def fnExactPascalNetSpec : ChangeSpec := { name := "fnExactPascalNet", fn := fun _ => fun
  | [d] => { results := [.lit (.bool true)], args := [d] }
  | _ => none }
def fnExactPascalNetRow : OpenClaim := { program := "ytmnnpkmjamhmcaa", sum := "b940dfbaf8f2b7868fda22667704f8d908b081e359058ca704b52bab4d5027b8", func := "loop.example/g01121/laws.FnExactPascalNet", spec := "fnExactPascalNet", apart := false }
def FnExactPascalNetSaid : Prop := fnExactPascalNetRow.holds Try.pinned (OpenSpec.ofChange fnExactPascalNetSpec)

/-- ITS FALSE NEIGHBOUR: 'it returns false'. Refute it at one input. -/
def fnExactPascalNetWrong : ChangeSpec := { name := "fnExactPascalNet", fn := fun _ => fun
  | [d] => { results := [.lit (.bool false)], args := [d] }
  | _ => none }
def FnExactPascalNetWrongFalsely : Prop := fnExactPascalNetRow.holds Try.pinned (OpenSpec.ofChange fnExactPascalNetWrong)

/-- 'laws.FnExactScrambleNet': WHATEVER THE INPUT: true; the input reads as it did. -/
def fnExactScrambleNetSpec : ChangeSpec := { name := "fnExactScrambleNet", fn := fun _ => fun
  | [d1, d2, d3] => { results := [.lit (.bool true)], args := [d1, d2, d3] }
  | _ => none }
def fnExactScrambleNetRow : OpenClaim := { program := "ytmnnpkmjamhmcaa", sum := "b940dfbaf8f2b7868fda22667704f8d908b081e359058ca704b52bab4d5027b8", func := "loop.example/g01121/laws.FnExactScrambleNet", spec := "fnExactScrambleNet", apart := false }
def FnExactScrambleNetSaid : Prop := fnExactScrambleNetRow.holds Try.pinned (OpenSpec.ofChange fnExactScrambleNetSpec)

/-- ITS FALSE NEIGHBOUR: 'it returns false'. Refute it at one input. -/
def fnExactScrambleNetWrong : ChangeSpec := { name := "fnExactScrambleNet", fn := fun _ => fun
  | [d1, d2, d3] => { results := [.lit (.bool false)], args := [d1, d2, d3] }
  | _ => none }
def FnExactScrambleNetWrongFalsely : Prop := fnExactScrambleNetRow.holds Try.pinned (OpenSpec.ofChange fnExactScrambleNetWrong)

/-- 'laws.FnShiftedPoints': WHATEVER THE INPUT: true; the input reads as it did. -/
def fnShiftedPointsSpec : ChangeSpec := { name := "fnShiftedPoints", fn := fun _ => fun
  | [d1, d2] => { results := [.lit (.bool true)], args := [d1, d2] }
  | _ => none }
def fnShiftedPointsRow : OpenClaim := { program := "ytmnnpkmjamhmcaa", sum := "b940dfbaf8f2b7868fda22667704f8d908b081e359058ca704b52bab4d5027b8", func := "loop.example/g01121/laws.FnShiftedPoints", spec := "fnShiftedPoints", leaving := true, apart := false }
def FnShiftedPointsSaid : Prop := fnShiftedPointsRow.holds Try.pinned (OpenSpec.ofChange fnShiftedPointsSpec)

/-- ITS FALSE NEIGHBOUR: 'it returns false'. Refute it at one input. -/
def fnShiftedPointsWrong : ChangeSpec := { name := "fnShiftedPoints", fn := fun _ => fun
  | [d1, d2] => { results := [.lit (.bool false)], args := [d1, d2] }
  | _ => none }
def FnShiftedPointsWrongFalsely : Prop := fnShiftedPointsRow.holds Try.pinned (OpenSpec.ofChange fnShiftedPointsWrong)

/- THE SECOND FORM. 'bulk': how many values and letters a reading holds, each counted each time it is reached (what is shared counts as often as it is met; a slice's spare places count too). A statement '..UptoSaid' is the law's where the arguments, and the package variables that the reading takes, are together of bulk at most 1048576: NARROWER than '..Said'. Prove '..Said' where nothing that the law and all that it calls make is longer than what came in: it says more and counts as full. Else prove '..UptoSaid'. A law counts once. -/
mutual
def uptoBulk {H : Type} : DataW H → Nat
  | .lit (.string bytes) => bytes.length + 1
  | .lit _ => 1
  | .nil => 1
  | .ptr d => uptoBulk d + 1
  | .slice elems spare => uptoBulkAll elems + uptoBulkAll spare + 1
  | .agg parts => uptoBulkAll parts + 1
  | .iface _ d => uptoBulk d + 1
  | .map entries => uptoBulkEntries entries + 1
  | .held _ => 1
def uptoBulkAll {H : Type} : List (DataW H) → Nat
  | [] => 0
  | d :: r => uptoBulk d + uptoBulkAll r
def uptoBulkEntries {H : Type} : List (Lit × DataW H) → Nat
  | [] => 0
  | x :: r => uptoBulkEntry x + uptoBulkEntries r
def uptoBulkEntry {H : Type} : Lit × DataW H → Nat
  | (.string bytes, d) => bytes.length + uptoBulk d + 1
  | (_, d) => uptoBulk d + 1
 end
def uptoSmall : (H : Type) → List (DataW H) → Bool := fun _ ds => decide (uptoBulkAll ds ≤ 1048576)
def OpenSpec.upto (s : _root_.Go.ChangeSpec) : _root_.Go.OpenSpec := { _root_.Go.OpenSpec.ofChange s with cond := some uptoSmall }

/-- 'laws.FnExactValidNet', WHERE WHAT IT READS IS OF BULK AT MOST 1048576: true; the input reads as it did. -/
def fnExactValidNetUptoRow : OpenClaim := { program := "ytmnnpkmjamhmcaa", sum := "b940dfbaf8f2b7868fda22667704f8d908b081e359058ca704b52bab4d5027b8", func := "loop.example/g01121/laws.FnExactValidNet", spec := "fnExactValidNet", apart := false, narrowed := true }
def FnExactValidNetUptoSaid : Prop := fnExactValidNetUptoRow.holds Try.pinned (OpenSpec.upto fnExactValidNetSpec)

/-- 'laws.FnExactIsPoints', WHERE WHAT IT READS IS OF BULK AT MOST 1048576: true; the input reads as it did. -/
def fnExactIsPointsUptoRow : OpenClaim := { program := "ytmnnpkmjamhmcaa", sum := "b940dfbaf8f2b7868fda22667704f8d908b081e359058ca704b52bab4d5027b8", func := "loop.example/g01121/laws.FnExactIsPoints", spec := "fnExactIsPoints", apart := false, narrowed := true }
def FnExactIsPointsUptoSaid : Prop := fnExactIsPointsUptoRow.holds Try.pinned (OpenSpec.upto fnExactIsPointsSpec)

/-- 'laws.FnExactBoxCounts', WHERE WHAT IT READS IS OF BULK AT MOST 1048576: true; the input reads as it did. -/
def fnExactBoxCountsUptoRow : OpenClaim := { program := "ytmnnpkmjamhmcaa", sum := "b940dfbaf8f2b7868fda22667704f8d908b081e359058ca704b52bab4d5027b8", func := "loop.example/g01121/laws.FnExactBoxCounts", spec := "fnExactBoxCounts", apart := false, narrowed := true }
def FnExactBoxCountsUptoSaid : Prop := fnExactBoxCountsUptoRow.holds Try.pinned (OpenSpec.upto fnExactBoxCountsSpec)

/-- 'laws.FnExactIsEven', WHERE WHAT IT READS IS OF BULK AT MOST 1048576: true; the input reads as it did. -/
def fnExactIsEvenUptoRow : OpenClaim := { program := "ytmnnpkmjamhmcaa", sum := "b940dfbaf8f2b7868fda22667704f8d908b081e359058ca704b52bab4d5027b8", func := "loop.example/g01121/laws.FnExactIsEven", spec := "fnExactIsEven", apart := false, narrowed := true }
def FnExactIsEvenUptoSaid : Prop := fnExactIsEvenUptoRow.holds Try.pinned (OpenSpec.upto fnExactIsEvenSpec)

/-- 'laws.FnExactShiftPoints', WHERE WHAT IT READS IS OF BULK AT MOST 1048576: true; the input reads as it did. -/
def fnExactShiftPointsUptoRow : OpenClaim := { program := "ytmnnpkmjamhmcaa", sum := "b940dfbaf8f2b7868fda22667704f8d908b081e359058ca704b52bab4d5027b8", func := "loop.example/g01121/laws.FnExactShiftPoints", spec := "fnExactShiftPoints", apart := false, narrowed := true }
def FnExactShiftPointsUptoSaid : Prop := fnExactShiftPointsUptoRow.holds Try.pinned (OpenSpec.upto fnExactShiftPointsSpec)

/-- 'laws.FnExactGridPoints', WHERE WHAT IT READS IS OF BULK AT MOST 1048576: true; the input reads as it did. -/
def fnExactGridPointsUptoRow : OpenClaim := { program := "ytmnnpkmjamhmcaa", sum := "b940dfbaf8f2b7868fda22667704f8d908b081e359058ca704b52bab4d5027b8", func := "loop.example/g01121/laws.FnExactGridPoints", spec := "fnExactGridPoints", apart := false, narrowed := true }
def FnExactGridPointsUptoSaid : Prop := fnExactGridPointsUptoRow.holds Try.pinned (OpenSpec.upto fnExactGridPointsSpec)

/-- 'laws.FnExactRadicalInverse', WHERE WHAT IT READS IS OF BULK AT MOST 1048576: true; the input reads as it did. -/
def fnExactRadicalInverseUptoRow : OpenClaim := { program := "ytmnnpkmjamhmcaa", sum := "b940dfbaf8f2b7868fda22667704f8d908b081e359058ca704b52bab4d5027b8", func := "loop.example/g01121/laws.FnExactRadicalInverse", spec := "fnExactRadicalInverse", apart := false, narrowed := true }
def FnExactRadicalInverseUptoSaid : Prop := fnExactRadicalInverseUptoRow.holds Try.pinned (OpenSpec.upto fnExactRadicalInverseSpec)

/-- 'laws.FnExactHaltonPoint', WHERE WHAT IT READS IS OF BULK AT MOST 1048576: true; the input reads as it did. -/
def fnExactHaltonPointUptoRow : OpenClaim := { program := "ytmnnpkmjamhmcaa", sum := "b940dfbaf8f2b7868fda22667704f8d908b081e359058ca704b52bab4d5027b8", func := "loop.example/g01121/laws.FnExactHaltonPoint", spec := "fnExactHaltonPoint", apart := false, narrowed := true }
def FnExactHaltonPointUptoSaid : Prop := fnExactHaltonPointUptoRow.holds Try.pinned (OpenSpec.upto fnExactHaltonPointSpec)

/-- 'laws.FnExactReversedNet', WHERE WHAT IT READS IS OF BULK AT MOST 1048576: true; the input reads as it did. -/
def fnExactReversedNetUptoRow : OpenClaim := { program := "ytmnnpkmjamhmcaa", sum := "b940dfbaf8f2b7868fda22667704f8d908b081e359058ca704b52bab4d5027b8", func := "loop.example/g01121/laws.FnExactReversedNet", spec := "fnExactReversedNet", apart := false, narrowed := true }
def FnExactReversedNetUptoSaid : Prop := fnExactReversedNetUptoRow.holds Try.pinned (OpenSpec.upto fnExactReversedNetSpec)

/-- 'laws.FnExactPascalNet', WHERE WHAT IT READS IS OF BULK AT MOST 1048576: true; the input reads as it did. -/
def fnExactPascalNetUptoRow : OpenClaim := { program := "ytmnnpkmjamhmcaa", sum := "b940dfbaf8f2b7868fda22667704f8d908b081e359058ca704b52bab4d5027b8", func := "loop.example/g01121/laws.FnExactPascalNet", spec := "fnExactPascalNet", apart := false, narrowed := true }
def FnExactPascalNetUptoSaid : Prop := fnExactPascalNetUptoRow.holds Try.pinned (OpenSpec.upto fnExactPascalNetSpec)

/-- 'laws.FnExactScrambleNet', WHERE WHAT IT READS IS OF BULK AT MOST 1048576: true; the input reads as it did. -/
def fnExactScrambleNetUptoRow : OpenClaim := { program := "ytmnnpkmjamhmcaa", sum := "b940dfbaf8f2b7868fda22667704f8d908b081e359058ca704b52bab4d5027b8", func := "loop.example/g01121/laws.FnExactScrambleNet", spec := "fnExactScrambleNet", apart := false, narrowed := true }
def FnExactScrambleNetUptoSaid : Prop := fnExactScrambleNetUptoRow.holds Try.pinned (OpenSpec.upto fnExactScrambleNetSpec)

/-- 'laws.FnShiftedPoints', WHERE WHAT IT READS IS OF BULK AT MOST 1048576: true; the input reads as it did. -/
def fnShiftedPointsUptoRow : OpenClaim := { program := "ytmnnpkmjamhmcaa", sum := "b940dfbaf8f2b7868fda22667704f8d908b081e359058ca704b52bab4d5027b8", func := "loop.example/g01121/laws.FnShiftedPoints", spec := "fnShiftedPoints", leaving := true, apart := false, narrowed := true }
def FnShiftedPointsUptoSaid : Prop := fnShiftedPointsUptoRow.holds Try.pinned (OpenSpec.upto fnShiftedPointsSpec)

end Rows
end Go.Proofs.Ytmnnpkmjamhmcaa
