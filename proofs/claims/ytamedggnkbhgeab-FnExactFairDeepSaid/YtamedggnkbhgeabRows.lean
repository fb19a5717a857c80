/-
  No cell of these rows narrows 'for every input' (looked for: loops, veiled, ifaces, maps, wideKeys, modest, calm, conditions, laid).
  DERIVED. THE GIVEN ROWS OF THIS SEAT. 8 by the template 'for every input the law returns true; each argument reads behind the call as it read before'; 0 by the template 'total and deterministic' (their statements: YtamedggnkbhgeabTotals.lean).
  GIVEN WITH THE SEED: the statements are not yours to turn. If you find one false, say at which input.
  Laid BY PROGRAM, IN A SANDBOX (cutbox-rows.mjs): the forced cells as the released guide's own fill.sh prints them over the translation 16f1d3f48be0c86b… (all of the seat's roots in one cut). By AI agents, Wed Nov 11 2026. No macro, syntax, notation, axiom, sorry.
-/
import Derived.Test.YtamedggnkbhgeabChecked
import GoSem.Claim
import GoSem.ClaimJoined
import GoSem.ClaimMapViews
import Derived.JoinedTies
import Derived.KernelRfl
namespace Go.Proofs.Ytamedggnkbhgeab
/- THE CELL 'sum', in the pinned program and in every row, IS THE sha256 OF THE DUMP (.gsa) THAT YtamedggnkbhgeabProg.lean LOADS. Nothing in Lean hashes anything: it is a label: what it is worth is what the hold of that sum in a sandbox is worth. -/
noncomputable def Try.pinned : Pinned := { name := "ytamedggnkbhgeab", sum := "16f1d3f48be0c86be7f24f00364099a83857e5cece7d6c8e3a0a95447ccb12eb", checked := Try.checked }
namespace Rows
def none {H : Type} : Left H := { results := [], args := [] }

/-- 'laws.FnExactRejectCost': WHATEVER THE INPUT: true; the input reads as it did. -/
def fnExactRejectCostSpec : ChangeSpec := { name := "fnExactRejectCost", fn := fun _ => fun
  | [d] => { results := [.lit (.bool true)], args := [d] }
  | _ => none }
def fnExactRejectCostRow : OpenClaim := { program := "ytamedggnkbhgeab", sum := "16f1d3f48be0c86be7f24f00364099a83857e5cece7d6c8e3a0a95447ccb12eb", func := "loop.example/g01121/laws.FnExactRejectCost", spec := "fnExactRejectCost", apart := false }
def FnExactRejectCostSaid : Prop := fnExactRejectCostRow.holds Try.pinned (OpenSpec.ofChange fnExactRejectCostSpec)

/-- ITS FALSE NEIGHBOUR: 'it returns false'. Refute it at one input. -/
def fnExactRejectCostWrong : ChangeSpec := { name := "fnExactRejectCost", fn := fun _ => fun
  | [d] => { results := [.lit (.bool false)], args := [d] }
  | _ => none }
def FnExactRejectCostWrongFalsely : Prop := fnExactRejectCostRow.holds Try.pinned (OpenSpec.ofChange fnExactRejectCostWrong)

/-- 'laws.FnExactRollDice': WHATEVER THE INPUT: true; the input reads as it did. -/
def fnExactRollDiceSpec : ChangeSpec := { name := "fnExactRollDice", fn := fun _ => fun
  | [d1, d2] => { results := [.lit (.bool true)], args := [d1, d2] }
  | _ => none }
def fnExactRollDiceRow : OpenClaim := { program := "ytamedggnkbhgeab", sum := "16f1d3f48be0c86be7f24f00364099a83857e5cece7d6c8e3a0a95447ccb12eb", func := "loop.example/g01121/laws.FnExactRollDice", spec := "fnExactRollDice", apart := false }
def FnExactRollDiceSaid : Prop := fnExactRollDiceRow.holds Try.pinned (OpenSpec.ofChange fnExactRollDiceSpec)

/-- ITS FALSE NEIGHBOUR: 'it returns false'. Refute it at one input. -/
def fnExactRollDiceWrong : ChangeSpec := { name := "fnExactRollDice", fn := fun _ => fun
  | [d1, d2] => { results := [.lit (.bool false)], args := [d1, d2] }
  | _ => none }
def FnExactRollDiceWrongFalsely : Prop := fnExactRollDiceRow.holds Try.pinned (OpenSpec.ofChange fnExactRollDiceWrong)

/-- 'laws.FnExactDiceCost': WHATEVER THE INPUT: true; the input reads as it did. -/
def fnExactDiceCostSpec : ChangeSpec := { name := "fnExactDiceCost", fn := fun _ => fun
  | [d] => { results := [.lit (.bool true)], args := [d] }
  | _ => none }
def fnExactDiceCostRow : OpenClaim := { program := "ytamedggnkbhgeab", sum := "16f1d3f48be0c86be7f24f00364099a83857e5cece7d6c8e3a0a95447ccb12eb", func := "loop.example/g01121/laws.FnExactDiceCost", spec := "fnExactDiceCost", unfollowed := true, recurses := true, apart := false }
def FnExactDiceCostSaid : Prop := fnExactDiceCostRow.holds Try.pinned (OpenSpec.ofChange fnExactDiceCostSpec)

/-- ITS FALSE NEIGHBOUR: 'it returns false'. Refute it at one input. -/
def fnExactDiceCostWrong : ChangeSpec := { name := "fnExactDiceCost", fn := fun _ => fun
  | [d] => { results := [.lit (.bool false)], args := [d] }
  | _ => none }
def FnExactDiceCostWrongFalsely : Prop := fnExactDiceCostRow.holds Try.pinned (OpenSpec.ofChange fnExactDiceCostWrong)

/-- 'laws.FnExactCoinFrom': WHATEVER THE INPUT: true; the input reads as it did. -/
def fnExactCoinFromSpec : ChangeSpec := { name := "fnExactCoinFrom", fn := fun _ => fun
  | [d1, d2] => { results := [.lit (.bool true)], args := [d1, d2] }
  | _ => none }
def fnExactCoinFromRow : OpenClaim := { program := "ytamedggnkbhgeab", sum := "16f1d3f48be0c86be7f24f00364099a83857e5cece7d6c8e3a0a95447ccb12eb", func := "loop.example/g01121/laws.FnExactCoinFrom", spec := "fnExactCoinFrom", apart := false }
def FnExactCoinFromSaid : Prop := fnExactCoinFromRow.holds Try.pinned (OpenSpec.ofChange fnExactCoinFromSpec)

/-- ITS FALSE NEIGHBOUR: 'it returns false'. Refute it at one input. -/
def fnExactCoinFromWrong : ChangeSpec := { name := "fnExactCoinFrom", fn := fun _ => fun
  | [d1, d2] => { results := [.lit (.bool false)], args := [d1, d2] }
  | _ => none }
def FnExactCoinFromWrongFalsely : Prop := fnExactCoinFromRow.holds Try.pinned (OpenSpec.ofChange fnExactCoinFromWrong)

/-- 'laws.FnExactFairPairs': WHATEVER THE INPUT: true; the input reads as it did. -/
def fnExactFairPairsSpec : ChangeSpec := { name := "fnExactFairPairs", fn := fun _ => fun
  | [d] => { results := [.lit (.bool true)], args := [d] }
  | _ => none }
def fnExactFairPairsRow : OpenClaim := { program := "ytamedggnkbhgeab", sum := "16f1d3f48be0c86be7f24f00364099a83857e5cece7d6c8e3a0a95447ccb12eb", func := "loop.example/g01121/laws.FnExactFairPairs", spec := "fnExactFairPairs", inPlace := ["internal/abi.NoEscape"], apart := false }
def FnExactFairPairsSaid : Prop := fnExactFairPairsRow.holds Try.pinned (OpenSpec.ofChange fnExactFairPairsSpec)

/-- ITS FALSE NEIGHBOUR: 'it returns false'. Refute it at one input. -/
def fnExactFairPairsWrong : ChangeSpec := { name := "fnExactFairPairs", fn := fun _ => fun
  | [d] => { results := [.lit (.bool false)], args := [d] }
  | _ => none }
def FnExactFairPairsWrongFalsely : Prop := fnExactFairPairsRow.holds Try.pinned (OpenSpec.ofChange fnExactFairPairsWrong)

/-- 'laws.FnExactFairDeep': WHATEVER THE INPUT: true; the input reads as it did. -/
def fnExactFairDeepSpec : ChangeSpec := { name := "fnExactFairDeep", fn := fun _ => fun
  | [d1, d2] => { results := [.lit (.bool true)], args := [d1, d2] }
  | _ => none }
def fnExactFairDeepRow : OpenClaim := { program := "ytamedggnkbhgeab", sum := "16f1d3f48be0c86be7f24f00364099a83857e5cece7d6c8e3a0a95447ccb12eb", func := "loop.example/g01121/laws.FnExactFairDeep", spec := "fnExactFairDeep", inPlace := ["internal/abi.NoEscape"], unfollowed := true, recurses := true, apart := false }
def FnExactFairDeepSaid : Prop := fnExactFairDeepRow.holds Try.pinned (OpenSpec.ofChange fnExactFairDeepSpec)

/-- ITS FALSE NEIGHBOUR: 'it returns false'. Refute it at one input. -/
def fnExactFairDeepWrong : ChangeSpec := { name := "fnExactFairDeep", fn := fun _ => fun
  | [d1, d2] => { results := [.lit (.bool false)], args := [d1, d2] }
  | _ => none }
def FnExactFairDeepWrongFalsely : Prop := fnExactFairDeepRow.holds Try.pinned (OpenSpec.ofChange fnExactFairDeepWrong)

/-- 'laws.FnExactFairBlock': WHATEVER THE INPUT: true; the input reads as it did. -/
def fnExactFairBlockSpec : ChangeSpec := { name := "fnExactFairBlock", fn := fun _ => fun
  | [d] => { results := [.lit (.bool true)], args := [d] }
  | _ => none }
def fnExactFairBlockRow : OpenClaim := { program := "ytamedggnkbhgeab", sum := "16f1d3f48be0c86be7f24f00364099a83857e5cece7d6c8e3a0a95447ccb12eb", func := "loop.example/g01121/laws.FnExactFairBlock", spec := "fnExactFairBlock", inPlace := ["internal/bytealg.CountString", "internal/bytealg.IndexByteString", "internal/bytealg.IndexString"], named := ["internal/bytealg.MaxLen"], apart := false }
def FnExactFairBlockSaid : Prop := fnExactFairBlockRow.holds Try.pinned (OpenSpec.ofChange fnExactFairBlockSpec)

/-- ITS FALSE NEIGHBOUR: 'it returns false'. Refute it at one input. -/
def fnExactFairBlockWrong : ChangeSpec := { name := "fnExactFairBlock", fn := fun _ => fun
  | [d] => { results := [.lit (.bool false)], args := [d] }
  | _ => none }
def FnExactFairBlockWrongFalsely : Prop := fnExactFairBlockRow.holds Try.pinned (OpenSpec.ofChange fnExactFairBlockWrong)

/-- 'laws.FnExactPairCost': WHATEVER THE INPUT: true; the input reads as it did. -/
def fnExactPairCostSpec : ChangeSpec := { name := "fnExactPairCost", fn := fun _ => fun
  | [d] => { results := [.lit (.bool true)], args := [d] }
  | _ => none }
def fnExactPairCostRow : OpenClaim := { program := "ytamedggnkbhgeab", sum := "16f1d3f48be0c86be7f24f00364099a83857e5cece7d6c8e3a0a95447ccb12eb", func := "loop.example/g01121/laws.FnExactPairCost", spec := "fnExactPairCost", inPlace := ["math/bits.Add64"], named := ["math/bits.divideError", "math/bits.overflowError"], apart := false }
def FnExactPairCostSaid : Prop := fnExactPairCostRow.holds Try.pinned (OpenSpec.ofChange fnExactPairCostSpec)

/-- ITS FALSE NEIGHBOUR: 'it returns false'. Refute it at one input. -/
def fnExactPairCostWrong : ChangeSpec := { name := "fnExactPairCost", fn := fun _ => fun
  | [d] => { results := [.lit (.bool false)], args := [d] }
  | _ => none }
def FnExactPairCostWrongFalsely : Prop := fnExactPairCostRow.holds Try.pinned (OpenSpec.ofChange fnExactPairCostWrong)

/- THE SECOND FORM. 'bulk': how many values and letters a reading holds, each counted each time it is reached (what is shared counts as often as it is met; a slice's spare places count too). A statement '..UptoSaid' is the law's where the arguments, and the package variables that the reading takes, are together of bulk at most 1048576: NARROWER than '..Said'. Prove '..Said' where nothing that the law and all that it calls make is longer than what came in: it says more and counts as full. Else prove '..UptoSaid'. A law counts once. -/
mutual
def uptoBulk {H : Type} : DataW H → Nat
  | .lit (.string bytes) => bytes.length + 1
  | .lit _ => 1
  | .nil => 1
  | .ptr d => uptoBulk d + 1
  | .slice elems spare => uptoBulkAll elems + uptoBulkAll spare + 1
  | .agg parts => uptoBulkAll parts + 1
  | .iface _ d => uptoBulk d + 1
  | .map entries => uptoBulkEntries entries + 1
  | .held _ => 1
def uptoBulkAll {H : Type} : List (DataW H) → Nat
  | [] => 0
  | d :: r => uptoBulk d + uptoBulkAll r
def uptoBulkEntries {H : Type} : List (Lit × DataW H) → Nat
  | [] => 0
  | x :: r => uptoBulkEntry x + uptoBulkEntries r
def uptoBulkEntry {H : Type} : Lit × DataW H → Nat
  | (.string bytes, d) => bytes.length + uptoBulk d + 1
  | (_, d) => uptoBulk d + 1
 end
def uptoSmall : (H : Type) → List (DataW H) → Bool := fun _ ds => decide (uptoBulkAll ds ≤ 1048576)
def OpenSpec.upto (s : _root_.Go.ChangeSpec) : _root_.Go.OpenSpec := { _root_.Go.OpenSpec.ofChange s with cond := some uptoSmall }

/-- 'laws.FnExactRejectCost', WHERE WHAT IT READS IS OF BULK AT MOST 1048576: true; the input reads as it did. -/
def fnExactRejectCostUptoRow : OpenClaim := { program := "ytamedggnkbhgeab", sum := "16f1d3f48be0c86be7f24f00364099a83857e5cece7d6c8e3a0a95447ccb12eb", func := "loop.example/g01121/laws.FnExactRejectCost", spec := "fnExactRejectCost", apart := false, narrowed := true }
def FnExactRejectCostUptoSaid : Prop := fnExactRejectCostUptoRow.holds Try.pinned (OpenSpec.upto fnExactRejectCostSpec)

/-- 'laws.FnExactRollDice', WHERE WHAT IT READS IS OF BULK AT MOST 1048576: true; the input reads as it did. -/
def fnExactRollDiceUptoRow : OpenClaim := { program := "ytamedggnkbhgeab", sum := "16f1d3f48be0c86be7f24f00364099a83857e5cece7d6c8e3a0a95447ccb12eb", func := "loop.example/g01121/laws.FnExactRollDice", spec := "fnExactRollDice", apart := false, narrowed := true }
def FnExactRollDiceUptoSaid : Prop := fnExactRollDiceUptoRow.holds Try.pinned (OpenSpec.upto fnExactRollDiceSpec)

/-- 'laws.FnExactDiceCost', WHERE WHAT IT READS IS OF BULK AT MOST 1048576: true; the input reads as it did. -/
def fnExactDiceCostUptoRow : OpenClaim := { program := "ytamedggnkbhgeab", sum := "16f1d3f48be0c86be7f24f00364099a83857e5cece7d6c8e3a0a95447ccb12eb", func := "loop.example/g01121/laws.FnExactDiceCost", spec := "fnExactDiceCost", unfollowed := true, recurses := true, apart := false, narrowed := true }
def FnExactDiceCostUptoSaid : Prop := fnExactDiceCostUptoRow.holds Try.pinned (OpenSpec.upto fnExactDiceCostSpec)

/-- 'laws.FnExactCoinFrom', WHERE WHAT IT READS IS OF BULK AT MOST 1048576: true; the input reads as it did. -/
def fnExactCoinFromUptoRow : OpenClaim := { program := "ytamedggnkbhgeab", sum := "16f1d3f48be0c86be7f24f00364099a83857e5cece7d6c8e3a0a95447ccb12eb", func := "loop.example/g01121/laws.FnExactCoinFrom", spec := "fnExactCoinFrom", apart := false, narrowed := true }
def FnExactCoinFromUptoSaid : Prop := fnExactCoinFromUptoRow.holds Try.pinned (OpenSpec.upto fnExactCoinFromSpec)

/-- 'laws.FnExactFairPairs', WHERE WHAT IT READS IS OF BULK AT MOST 1048576: true; the input reads as it did. -/
def fnExactFairPairsUptoRow : OpenClaim := { program := "ytamedggnkbhgeab", sum := "16f1d3f48be0c86be7f24f00364099a83857e5cece7d6c8e3a0a95447ccb12eb", func := "loop.example/g01121/laws.FnExactFairPairs", spec := "fnExactFairPairs", inPlace := ["internal/abi.NoEscape"], apart := false, narrowed := true }
def FnExactFairPairsUptoSaid : Prop := fnExactFairPairsUptoRow.holds Try.pinned (OpenSpec.upto fnExactFairPairsSpec)

/-- 'laws.FnExactFairDeep', WHERE WHAT IT READS IS OF BULK AT MOST 1048576: true; the input reads as it did. -/
def fnExactFairDeepUptoRow : OpenClaim := { program := "ytamedggnkbhgeab", sum := "16f1d3f48be0c86be7f24f00364099a83857e5cece7d6c8e3a0a95447ccb12eb", func := "loop.example/g01121/laws.FnExactFairDeep", spec := "fnExactFairDeep", inPlace := ["internal/abi.NoEscape"], unfollowed := true, recurses := true, apart := false, narrowed := true }
def FnExactFairDeepUptoSaid : Prop := fnExactFairDeepUptoRow.holds Try.pinned (OpenSpec.upto fnExactFairDeepSpec)

/-- 'laws.FnExactFairBlock', WHERE WHAT IT READS IS OF BULK AT MOST 1048576: true; the input reads as it did. -/
def fnExactFairBlockUptoRow : OpenClaim := { program := "ytamedggnkbhgeab", sum := "16f1d3f48be0c86be7f24f00364099a83857e5cece7d6c8e3a0a95447ccb12eb", func := "loop.example/g01121/laws.FnExactFairBlock", spec := "fnExactFairBlock", inPlace := ["internal/bytealg.CountString", "internal/bytealg.IndexByteString", "internal/bytealg.IndexString"], named := ["internal/bytealg.MaxLen"], apart := false, narrowed := true }
def FnExactFairBlockUptoSaid : Prop := fnExactFairBlockUptoRow.holds Try.pinned (OpenSpec.upto fnExactFairBlockSpec)

/-- 'laws.FnExactPairCost', WHERE WHAT IT READS IS OF BULK AT MOST 1048576: true; the input reads as it did. -/
def fnExactPairCostUptoRow : OpenClaim := { program := "ytamedggnkbhgeab", sum := "16f1d3f48be0c86be7f24f00364099a83857e5cece7d6c8e3a0a95447ccb12eb", func := "loop.example/g01121/laws.FnExactPairCost", spec := "fnExactPairCost", inPlace := ["math/bits.Add64"], named := ["math/bits.divideError", "math/bits.overflowError"], apart := false, narrowed := true }
def FnExactPairCostUptoSaid : Prop := fnExactPairCostUptoRow.holds Try.pinned (OpenSpec.upto fnExactPairCostSpec)

end Rows
end Go.Proofs.Ytamedggnkbhgeab
