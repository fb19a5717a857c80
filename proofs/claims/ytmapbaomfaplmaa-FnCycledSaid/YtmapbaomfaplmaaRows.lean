/-
  No cell of these rows narrows 'for every input' (looked for: loops, veiled, ifaces, maps, wideKeys, modest, calm, conditions, laid).
  DERIVED. THE GIVEN ROWS OF THIS SEAT. 12 by the template 'for every input the law returns true; each argument reads behind the call as it read before'; 0 by the template 'total and deterministic' (their statements: YtmapbaomfaplmaaTotals.lean).
  GIVEN WITH THE SEED: the statements are not yours to turn. If you find one false, say at which input.
  Laid BY PROGRAM, IN A SANDBOX (cutbox-rows.mjs): the forced cells as the released guide's own fill.sh prints them over the translation 81f7dc6727243d8b… (all of the seat's roots in one cut). By AI agents, Wed Nov 11 2026. No macro, syntax, notation, axiom, sorry.
-/
import Derived.Test.YtmapbaomfaplmaaChecked
import GoSem.Claim
import GoSem.ClaimJoined
import GoSem.ClaimMapViews
import Derived.JoinedTies
import Derived.KernelRfl
namespace Go.Proofs.Ytmapbaomfaplmaa
/- THE CELL 'sum', in the pinned program and in every row, IS THE sha256 OF THE DUMP (.gsa) THAT YtmapbaomfaplmaaProg.lean LOADS. Nothing in Lean hashes anything: it is a label: what it is worth is what the hold of that sum in a sandbox is worth. -/
noncomputable def Try.pinned : Pinned := { name := "ytmapbaomfaplmaa", sum := "81f7dc6727243d8bbe7dd54a0c13794a50488942cf9f2747849443dc6532e00e", checked := Try.checked }
namespace Rows
def none {H : Type} : Left H := { results := [], args := [] }

/-- 'laws.FnExactValidCongruence': WHATEVER THE INPUT: true; the input reads as it did. -/
def fnExactValidCongruenceSpec : ChangeSpec := { name := "fnExactValidCongruence", fn := fun _ => fun
  | [d] => { results := [.lit (.bool true)], args := [d] }
  | _ => none }
def fnExactValidCongruenceRow : OpenClaim := { program := "ytmapbaomfaplmaa", sum := "81f7dc6727243d8bbe7dd54a0c13794a50488942cf9f2747849443dc6532e00e", func := "loop.example/g01121/laws.FnExactValidCongruence", spec := "fnExactValidCongruence", apart := false }
def FnExactValidCongruenceSaid : Prop := fnExactValidCongruenceRow.holds Try.pinned (OpenSpec.ofChange fnExactValidCongruenceSpec)

/-- ITS FALSE NEIGHBOUR: 'it returns false'. Refute it at one input. -/
def fnExactValidCongruenceWrong : ChangeSpec := { name := "fnExactValidCongruence", fn := fun _ => fun
  | [d] => { results := [.lit (.bool false)], args := [d] }
  | _ => none }
def FnExactValidCongruenceWrongFalsely : Prop := fnExactValidCongruenceRow.holds Try.pinned (OpenSpec.ofChange fnExactValidCongruenceWrong)

/-- 'laws.FnExactNextState': WHATEVER THE INPUT: true; the input reads as it did. -/
def fnExactNextStateSpec : ChangeSpec := { name := "fnExactNextState", fn := fun _ => fun
  | [d1, d2] => { results := [.lit (.bool true)], args := [d1, d2] }
  | _ => none }
def fnExactNextStateRow : OpenClaim := { program := "ytmapbaomfaplmaa", sum := "81f7dc6727243d8bbe7dd54a0c13794a50488942cf9f2747849443dc6532e00e", func := "loop.example/g01121/laws.FnExactNextState", spec := "fnExactNextState", apart := false }
def FnExactNextStateSaid : Prop := fnExactNextStateRow.holds Try.pinned (OpenSpec.ofChange fnExactNextStateSpec)

/-- ITS FALSE NEIGHBOUR: 'it returns false'. Refute it at one input. -/
def fnExactNextStateWrong : ChangeSpec := { name := "fnExactNextState", fn := fun _ => fun
  | [d1, d2] => { results := [.lit (.bool false)], args := [d1, d2] }
  | _ => none }
def FnExactNextStateWrongFalsely : Prop := fnExactNextStateRow.holds Try.pinned (OpenSpec.ofChange fnExactNextStateWrong)

/-- 'laws.FnExactStatesOf': WHATEVER THE INPUT: true; the input reads as it did. -/
def fnExactStatesOfSpec : ChangeSpec := { name := "fnExactStatesOf", fn := fun _ => fun
  | [d1, d2, d3] => { results := [.lit (.bool true)], args := [d1, d2, d3] }
  | _ => none }
def fnExactStatesOfRow : OpenClaim := { program := "ytmapbaomfaplmaa", sum := "81f7dc6727243d8bbe7dd54a0c13794a50488942cf9f2747849443dc6532e00e", func := "loop.example/g01121/laws.FnExactStatesOf", spec := "fnExactStatesOf", apart := false }
def FnExactStatesOfSaid : Prop := fnExactStatesOfRow.holds Try.pinned (OpenSpec.ofChange fnExactStatesOfSpec)

/-- ITS FALSE NEIGHBOUR: 'it returns false'. Refute it at one input. -/
def fnExactStatesOfWrong : ChangeSpec := { name := "fnExactStatesOf", fn := fun _ => fun
  | [d1, d2, d3] => { results := [.lit (.bool false)], args := [d1, d2, d3] }
  | _ => none }
def FnExactStatesOfWrongFalsely : Prop := fnExactStatesOfRow.holds Try.pinned (OpenSpec.ofChange fnExactStatesOfWrong)

/-- 'laws.FnExactJumpState': WHATEVER THE INPUT: true; the input reads as it did. -/
def fnExactJumpStateSpec : ChangeSpec := { name := "fnExactJumpState", fn := fun _ => fun
  | [d1, d2, d3] => { results := [.lit (.bool true)], args := [d1, d2, d3] }
  | _ => none }
def fnExactJumpStateRow : OpenClaim := { program := "ytmapbaomfaplmaa", sum := "81f7dc6727243d8bbe7dd54a0c13794a50488942cf9f2747849443dc6532e00e", func := "loop.example/g01121/laws.FnExactJumpState", spec := "fnExactJumpState", apart := false }
def FnExactJumpStateSaid : Prop := fnExactJumpStateRow.holds Try.pinned (OpenSpec.ofChange fnExactJumpStateSpec)

/-- ITS FALSE NEIGHBOUR: 'it returns false'. Refute it at one input. -/
def fnExactJumpStateWrong : ChangeSpec := { name := "fnExactJumpState", fn := fun _ => fun
  | [d1, d2, d3] => { results := [.lit (.bool false)], args := [d1, d2, d3] }
  | _ => none }
def FnExactJumpStateWrongFalsely : Prop := fnExactJumpStateRow.holds Try.pinned (OpenSpec.ofChange fnExactJumpStateWrong)

/-- 'laws.FnExactPowerCongruence': WHATEVER THE INPUT: true; the input reads as it did. -/
def fnExactPowerCongruenceSpec : ChangeSpec := { name := "fnExactPowerCongruence", fn := fun _ => fun
  | [d1, d2] => { results := [.lit (.bool true)], args := [d1, d2] }
  | _ => none }
def fnExactPowerCongruenceRow : OpenClaim := { program := "ytmapbaomfaplmaa", sum := "81f7dc6727243d8bbe7dd54a0c13794a50488942cf9f2747849443dc6532e00e", func := "loop.example/g01121/laws.FnExactPowerCongruence", spec := "fnExactPowerCongruence", apart := false }
def FnExactPowerCongruenceSaid : Prop := fnExactPowerCongruenceRow.holds Try.pinned (OpenSpec.ofChange fnExactPowerCongruenceSpec)

/-- ITS FALSE NEIGHBOUR: 'it returns false'. Refute it at one input. -/
def fnExactPowerCongruenceWrong : ChangeSpec := { name := "fnExactPowerCongruence", fn := fun _ => fun
  | [d1, d2] => { results := [.lit (.bool false)], args := [d1, d2] }
  | _ => none }
def FnExactPowerCongruenceWrongFalsely : Prop := fnExactPowerCongruenceRow.holds Try.pinned (OpenSpec.ofChange fnExactPowerCongruenceWrong)

/-- 'laws.FnExactBackCongruence': WHATEVER THE INPUT: true; the input reads as it did. -/
def fnExactBackCongruenceSpec : ChangeSpec := { name := "fnExactBackCongruence", fn := fun _ => fun
  | [d] => { results := [.lit (.bool true)], args := [d] }
  | _ => none }
def fnExactBackCongruenceRow : OpenClaim := { program := "ytmapbaomfaplmaa", sum := "81f7dc6727243d8bbe7dd54a0c13794a50488942cf9f2747849443dc6532e00e", func := "loop.example/g01121/laws.FnExactBackCongruence", spec := "fnExactBackCongruence", apart := false }
def FnExactBackCongruenceSaid : Prop := fnExactBackCongruenceRow.holds Try.pinned (OpenSpec.ofChange fnExactBackCongruenceSpec)

/-- ITS FALSE NEIGHBOUR: 'it returns false'. Refute it at one input. -/
def fnExactBackCongruenceWrong : ChangeSpec := { name := "fnExactBackCongruence", fn := fun _ => fun
  | [d] => { results := [.lit (.bool false)], args := [d] }
  | _ => none }
def FnExactBackCongruenceWrongFalsely : Prop := fnExactBackCongruenceRow.holds Try.pinned (OpenSpec.ofChange fnExactBackCongruenceWrong)

/-- 'laws.FnExactStateCycle': WHATEVER THE INPUT: true; the input reads as it did. -/
def fnExactStateCycleSpec : ChangeSpec := { name := "fnExactStateCycle", fn := fun _ => fun
  | [d1, d2] => { results := [.lit (.bool true)], args := [d1, d2] }
  | _ => none }
def fnExactStateCycleRow : OpenClaim := { program := "ytmapbaomfaplmaa", sum := "81f7dc6727243d8bbe7dd54a0c13794a50488942cf9f2747849443dc6532e00e", func := "loop.example/g01121/laws.FnExactStateCycle", spec := "fnExactStateCycle", unfollowed := true, recurses := true, apart := false }
def FnExactStateCycleSaid : Prop := fnExactStateCycleRow.holds Try.pinned (OpenSpec.ofChange fnExactStateCycleSpec)

/-- ITS FALSE NEIGHBOUR: 'it returns false'. Refute it at one input. -/
def fnExactStateCycleWrong : ChangeSpec := { name := "fnExactStateCycle", fn := fun _ => fun
  | [d1, d2] => { results := [.lit (.bool false)], args := [d1, d2] }
  | _ => none }
def FnExactStateCycleWrongFalsely : Prop := fnExactStateCycleRow.holds Try.pinned (OpenSpec.ofChange fnExactStateCycleWrong)

/-- 'laws.FnExactIsFull': WHATEVER THE INPUT: true; the input reads as it did. -/
def fnExactIsFullSpec : ChangeSpec := { name := "fnExactIsFull", fn := fun _ => fun
  | [d] => { results := [.lit (.bool true)], args := [d] }
  | _ => none }
def fnExactIsFullRow : OpenClaim := { program := "ytmapbaomfaplmaa", sum := "81f7dc6727243d8bbe7dd54a0c13794a50488942cf9f2747849443dc6532e00e", func := "loop.example/g01121/laws.FnExactIsFull", spec := "fnExactIsFull", unfollowed := true, recurses := true, apart := false }
def FnExactIsFullSaid : Prop := fnExactIsFullRow.holds Try.pinned (OpenSpec.ofChange fnExactIsFullSpec)

/-- ITS FALSE NEIGHBOUR: 'it returns false'. Refute it at one input. -/
def fnExactIsFullWrong : ChangeSpec := { name := "fnExactIsFull", fn := fun _ => fun
  | [d] => { results := [.lit (.bool false)], args := [d] }
  | _ => none }
def FnExactIsFullWrongFalsely : Prop := fnExactIsFullRow.holds Try.pinned (OpenSpec.ofChange fnExactIsFullWrong)

/-- 'laws.FnExactFactorOrder': WHATEVER THE INPUT: true; the input reads as it did. -/
def fnExactFactorOrderSpec : ChangeSpec := { name := "fnExactFactorOrder", fn := fun _ => fun
  | [d1, d2] => { results := [.lit (.bool true)], args := [d1, d2] }
  | _ => none }
def fnExactFactorOrderRow : OpenClaim := { program := "ytmapbaomfaplmaa", sum := "81f7dc6727243d8bbe7dd54a0c13794a50488942cf9f2747849443dc6532e00e", func := "loop.example/g01121/laws.FnExactFactorOrder", spec := "fnExactFactorOrder", unfollowed := true, recurses := true, apart := false }
def FnExactFactorOrderSaid : Prop := fnExactFactorOrderRow.holds Try.pinned (OpenSpec.ofChange fnExactFactorOrderSpec)

/-- ITS FALSE NEIGHBOUR: 'it returns false'. Refute it at one input. -/
def fnExactFactorOrderWrong : ChangeSpec := { name := "fnExactFactorOrder", fn := fun _ => fun
  | [d1, d2] => { results := [.lit (.bool false)], args := [d1, d2] }
  | _ => none }
def FnExactFactorOrderWrongFalsely : Prop := fnExactFactorOrderRow.holds Try.pinned (OpenSpec.ofChange fnExactFactorOrderWrong)

/-- 'laws.FnJumped': WHATEVER THE INPUT: true; the input reads as it did. -/
def fnJumpedSpec : ChangeSpec := { name := "fnJumped", fn := fun _ => fun
  | [d1, d2] => { results := [.lit (.bool true)], args := [d1, d2] }
  | _ => none }
def fnJumpedRow : OpenClaim := { program := "ytmapbaomfaplmaa", sum := "81f7dc6727243d8bbe7dd54a0c13794a50488942cf9f2747849443dc6532e00e", func := "loop.example/g01121/laws.FnJumped", spec := "fnJumped", apart := false }
def FnJumpedSaid : Prop := fnJumpedRow.holds Try.pinned (OpenSpec.ofChange fnJumpedSpec)

/-- ITS FALSE NEIGHBOUR: 'it returns false'. Refute it at one input. -/
def fnJumpedWrong : ChangeSpec := { name := "fnJumped", fn := fun _ => fun
  | [d1, d2] => { results := [.lit (.bool false)], args := [d1, d2] }
  | _ => none }
def FnJumpedWrongFalsely : Prop := fnJumpedRow.holds Try.pinned (OpenSpec.ofChange fnJumpedWrong)

/-- 'laws.FnOrdered': WHATEVER THE INPUT: true; the input reads as it did. -/
def fnOrderedSpec : ChangeSpec := { name := "fnOrdered", fn := fun _ => fun
  | [d1, d2] => { results := [.lit (.bool true)], args := [d1, d2] }
  | _ => none }
def fnOrderedRow : OpenClaim := { program := "ytmapbaomfaplmaa", sum := "81f7dc6727243d8bbe7dd54a0c13794a50488942cf9f2747849443dc6532e00e", func := "loop.example/g01121/laws.FnOrdered", spec := "fnOrdered", unfollowed := true, recurses := true, apart := false }
def FnOrderedSaid : Prop := fnOrderedRow.holds Try.pinned (OpenSpec.ofChange fnOrderedSpec)

/-- ITS FALSE NEIGHBOUR: 'it returns false'. Refute it at one input. -/
def fnOrderedWrong : ChangeSpec := { name := "fnOrdered", fn := fun _ => fun
  | [d1, d2] => { results := [.lit (.bool false)], args := [d1, d2] }
  | _ => none }
def FnOrderedWrongFalsely : Prop := fnOrderedRow.holds Try.pinned (OpenSpec.ofChange fnOrderedWrong)

/-- 'laws.FnCycled': WHATEVER THE INPUT: true; the input reads as it did. -/
def fnCycledSpec : ChangeSpec := { name := "fnCycled", fn := fun _ => fun
  | [d1, d2] => { results := [.lit (.bool true)], args := [d1, d2] }
  | _ => none }
def fnCycledRow : OpenClaim := { program := "ytmapbaomfaplmaa", sum := "81f7dc6727243d8bbe7dd54a0c13794a50488942cf9f2747849443dc6532e00e", func := "loop.example/g01121/laws.FnCycled", spec := "fnCycled", unfollowed := true, recurses := true, apart := false }
def FnCycledSaid : Prop := fnCycledRow.holds Try.pinned (OpenSpec.ofChange fnCycledSpec)

/-- ITS FALSE NEIGHBOUR: 'it returns false'. Refute it at one input. -/
def fnCycledWrong : ChangeSpec := { name := "fnCycled", fn := fun _ => fun
  | [d1, d2] => { results := [.lit (.bool false)], args := [d1, d2] }
  | _ => none }
def FnCycledWrongFalsely : Prop := fnCycledRow.holds Try.pinned (OpenSpec.ofChange fnCycledWrong)

/- THE SECOND FORM. 'bulk': how many values and letters a reading holds, each counted each time it is reached (what is shared counts as often as it is met; a slice's spare places count too). A statement '..UptoSaid' is the law's where the arguments, and the package variables that the reading takes, are together of bulk at most 1048576: NARROWER than '..Said'. Prove '..Said' where nothing that the law and all that it calls make is longer than what came in: it says more and counts as full. Else prove '..UptoSaid'. A law counts once. -/
mutual
def uptoBulk {H : Type} : DataW H → Nat
  | .lit (.string bytes) => bytes.length + 1
  | .lit _ => 1
  | .nil => 1
  | .ptr d => uptoBulk d + 1
  | .slice elems spare => uptoBulkAll elems + uptoBulkAll spare + 1
  | .agg parts => uptoBulkAll parts + 1
  | .iface _ d => uptoBulk d + 1
  | .map entries => uptoBulkEntries entries + 1
  | .held _ => 1
def uptoBulkAll {H : Type} : List (DataW H) → Nat
  | [] => 0
  | d :: r => uptoBulk d + uptoBulkAll r
def uptoBulkEntries {H : Type} : List (Lit × DataW H) → Nat
  | [] => 0
  | x :: r => uptoBulkEntry x + uptoBulkEntries r
def uptoBulkEntry {H : Type} : Lit × DataW H → Nat
  | (.string bytes, d) => bytes.length + uptoBulk d + 1
  | (_, d) => uptoBulk d + 1
 end
def uptoSmall : (H : Type) → List (DataW H) → Bool := fun _ ds => decide (uptoBulkAll ds ≤ 1048576)
def OpenSpec.upto (s : _root_.Go.ChangeSpec) : _root_.Go.OpenSpec := { _root_.Go.OpenSpec.ofChange s with cond := some uptoSmall }

/-- 'laws.FnExactValidCongruence', WHERE WHAT IT READS IS OF BULK AT MOST 1048576: true; the input reads as it did. -/
def fnExactValidCongruenceUptoRow : OpenClaim := { program := "ytmapbaomfaplmaa", sum := "81f7dc6727243d8bbe7dd54a0c13794a50488942cf9f2747849443dc6532e00e", func := "loop.example/g01121/laws.FnExactValidCongruence", spec := "fnExactValidCongruence", apart := false, narrowed := true }
def FnExactValidCongruenceUptoSaid : Prop := fnExactValidCongruenceUptoRow.holds Try.pinned (OpenSpec.upto fnExactValidCongruenceSpec)

/-- 'laws.FnExactNextState', WHERE WHAT IT READS IS OF BULK AT MOST 1048576: true; the input reads as it did. -/
def fnExactNextStateUptoRow : OpenClaim := { program := "ytmapbaomfaplmaa", sum := "81f7dc6727243d8bbe7dd54a0c13794a50488942cf9f2747849443dc6532e00e", func := "loop.example/g01121/laws.FnExactNextState", spec := "fnExactNextState", apart := false, narrowed := true }
def FnExactNextStateUptoSaid : Prop := fnExactNextStateUptoRow.holds Try.pinned (OpenSpec.upto fnExactNextStateSpec)

/-- 'laws.FnExactStatesOf', WHERE WHAT IT READS IS OF BULK AT MOST 1048576: true; the input reads as it did. -/
def fnExactStatesOfUptoRow : OpenClaim := { program := "ytmapbaomfaplmaa", sum := "81f7dc6727243d8bbe7dd54a0c13794a50488942cf9f2747849443dc6532e00e", func := "loop.example/g01121/laws.FnExactStatesOf", spec := "fnExactStatesOf", apart := false, narrowed := true }
def FnExactStatesOfUptoSaid : Prop := fnExactStatesOfUptoRow.holds Try.pinned (OpenSpec.upto fnExactStatesOfSpec)

/-- 'laws.FnExactJumpState', WHERE WHAT IT READS IS OF BULK AT MOST 1048576: true; the input reads as it did. -/
def fnExactJumpStateUptoRow : OpenClaim := { program := "ytmapbaomfaplmaa", sum := "81f7dc6727243d8bbe7dd54a0c13794a50488942cf9f2747849443dc6532e00e", func := "loop.example/g01121/laws.FnExactJumpState", spec := "fnExactJumpState", apart := false, narrowed := true }
def FnExactJumpStateUptoSaid : Prop := fnExactJumpStateUptoRow.holds Try.pinned (OpenSpec.upto fnExactJumpStateSpec)

/-- 'laws.FnExactPowerCongruence', WHERE WHAT IT READS IS OF BULK AT MOST 1048576: true; the input reads as it did. -/
def fnExactPowerCongruenceUptoRow : OpenClaim := { program := "ytmapbaomfaplmaa", sum := "81f7dc6727243d8bbe7dd54a0c13794a50488942cf9f2747849443dc6532e00e", func := "loop.example/g01121/laws.FnExactPowerCongruence", spec := "fnExactPowerCongruence", apart := false, narrowed := true }
def FnExactPowerCongruenceUptoSaid : Prop := fnExactPowerCongruenceUptoRow.holds Try.pinned (OpenSpec.upto fnExactPowerCongruenceSpec)

/-- 'laws.FnExactBackCongruence', WHERE WHAT IT READS IS OF BULK AT MOST 1048576: true; the input reads as it did. -/
def fnExactBackCongruenceUptoRow : OpenClaim := { program := "ytmapbaomfaplmaa", sum := "81f7dc6727243d8bbe7dd54a0c13794a50488942cf9f2747849443dc6532e00e", func := "loop.example/g01121/laws.FnExactBackCongruence", spec := "fnExactBackCongruence", apart := false, narrowed := true }
def FnExactBackCongruenceUptoSaid : Prop := fnExactBackCongruenceUptoRow.holds Try.pinned (OpenSpec.upto fnExactBackCongruenceSpec)

/-- 'laws.FnExactStateCycle', WHERE WHAT IT READS IS OF BULK AT MOST 1048576: true; the input reads as it did. -/
def fnExactStateCycleUptoRow : OpenClaim := { program := "ytmapbaomfaplmaa", sum := "81f7dc6727243d8bbe7dd54a0c13794a50488942cf9f2747849443dc6532e00e", func := "loop.example/g01121/laws.FnExactStateCycle", spec := "fnExactStateCycle", unfollowed := true, recurses := true, apart := false, narrowed := true }
def FnExactStateCycleUptoSaid : Prop := fnExactStateCycleUptoRow.holds Try.pinned (OpenSpec.upto fnExactStateCycleSpec)

/-- 'laws.FnExactIsFull', WHERE WHAT IT READS IS OF BULK AT MOST 1048576: true; the input reads as it did. -/
def fnExactIsFullUptoRow : OpenClaim := { program := "ytmapbaomfaplmaa", sum := "81f7dc6727243d8bbe7dd54a0c13794a50488942cf9f2747849443dc6532e00e", func := "loop.example/g01121/laws.FnExactIsFull", spec := "fnExactIsFull", unfollowed := true, recurses := true, apart := false, narrowed := true }
def FnExactIsFullUptoSaid : Prop := fnExactIsFullUptoRow.holds Try.pinned (OpenSpec.upto fnExactIsFullSpec)

/-- 'laws.FnExactFactorOrder', WHERE WHAT IT READS IS OF BULK AT MOST 1048576: true; the input reads as it did. -/
def fnExactFactorOrderUptoRow : OpenClaim := { program := "ytmapbaomfaplmaa", sum := "81f7dc6727243d8bbe7dd54a0c13794a50488942cf9f2747849443dc6532e00e", func := "loop.example/g01121/laws.FnExactFactorOrder", spec := "fnExactFactorOrder", unfollowed := true, recurses := true, apart := false, narrowed := true }
def FnExactFactorOrderUptoSaid : Prop := fnExactFactorOrderUptoRow.holds Try.pinned (OpenSpec.upto fnExactFactorOrderSpec)

/-- 'laws.FnJumped', WHERE WHAT IT READS IS OF BULK AT MOST 1048576: true; the input reads as it did. -/
def fnJumpedUptoRow : OpenClaim := { program := "ytmapbaomfaplmaa", sum := "81f7dc6727243d8bbe7dd54a0c13794a50488942cf9f2747849443dc6532e00e", func := "loop.example/g01121/laws.FnJumped", spec := "fnJumped", apart := false, narrowed := true }
def FnJumpedUptoSaid : Prop := fnJumpedUptoRow.holds Try.pinned (OpenSpec.upto fnJumpedSpec)

/-- 'laws.FnOrdered', WHERE WHAT IT READS IS OF BULK AT MOST 1048576: true; the input reads as it did. -/
def fnOrderedUptoRow : OpenClaim := { program := "ytmapbaomfaplmaa", sum := "81f7dc6727243d8bbe7dd54a0c13794a50488942cf9f2747849443dc6532e00e", func := "loop.example/g01121/laws.FnOrdered", spec := "fnOrdered", unfollowed := true, recurses := true, apart := false, narrowed := true }
def FnOrderedUptoSaid : Prop := fnOrderedUptoRow.holds Try.pinned (OpenSpec.upto fnOrderedSpec)

/-- 'laws.FnCycled', WHERE WHAT IT READS IS OF BULK AT MOST 1048576: true; the input reads as it did. -/
def fnCycledUptoRow : OpenClaim := { program := "ytmapbaomfaplmaa", sum := "81f7dc6727243d8bbe7dd54a0c13794a50488942cf9f2747849443dc6532e00e", func := "loop.example/g01121/laws.FnCycled", spec := "fnCycled", unfollowed := true, recurses := true, apart := false, narrowed := true }
def FnCycledUptoSaid : Prop := fnCycledUptoRow.holds Try.pinned (OpenSpec.upto fnCycledSpec)

end Rows
end Go.Proofs.Ytmapbaomfaplmaa
