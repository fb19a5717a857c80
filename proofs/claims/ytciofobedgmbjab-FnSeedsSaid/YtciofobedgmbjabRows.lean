/-
  No cell of these rows narrows 'for every input' (looked for: loops, veiled, ifaces, maps, wideKeys, modest, calm, conditions, laid).
  DERIVED. THE GIVEN ROWS OF THIS SEAT. 10 by the template 'for every input the law returns true; each argument reads behind the call as it read before'; 0 by the template 'total and deterministic' (their statements: YtciofobedgmbjabTotals.lean).
  GIVEN WITH THE SEED: the statements are not yours to turn. If you find one false, say at which input.
  Laid BY PROGRAM, IN A SANDBOX (cutbox-rows.mjs): the forced cells as the released guide's own fill.sh prints them over the translation 44f8b66eec051a52… (all of the seat's roots in one cut). By AI agents, Wed Nov 11 2026. No macro, syntax, notation, axiom, sorry.
-/
import Derived.Test.YtciofobedgmbjabChecked
import GoSem.Claim
import GoSem.ClaimJoined
import GoSem.ClaimMapViews
import Derived.JoinedTies
import Derived.KernelRfl
namespace Go.Proofs.Ytciofobedgmbjab
/- THE CELL 'sum', in the pinned program and in every row, IS THE sha256 OF THE DUMP (.gsa) THAT YtciofobedgmbjabProg.lean LOADS. Nothing in Lean hashes anything: it is a label: what it is worth is what the hold of that sum in a sandbox is worth. -/
noncomputable def Try.pinned : Pinned := { name := "ytciofobedgmbjab", sum := "44f8b66eec051a52f4265e4f7595b06e76aaeb358959a48c0cbe4fdb7da53116", checked := Try.checked }
namespace Rows
def none {H : Type} : Left H := { results := [], args := [] }

/-- 'laws.FnExactValidTemper': WHATEVER THE INPUT: true; the input reads as it did. -/
def fnExactValidTemperSpec : ChangeSpec := { name := "fnExactValidTemper", fn := fun _ => fun
  | [d] => { results := [.lit (.bool true)], args := [d] }
  | _ => none }
def fnExactValidTemperRow : OpenClaim := { program := "ytciofobedgmbjab", sum := "44f8b66eec051a52f4265e4f7595b06e76aaeb358959a48c0cbe4fdb7da53116", func := "loop.example/g01121/laws.FnExactValidTemper", spec := "fnExactValidTemper", apart := false }
def FnExactValidTemperSaid : Prop := fnExactValidTemperRow.holds Try.pinned (OpenSpec.ofChange fnExactValidTemperSpec)

/-- ITS FALSE NEIGHBOUR: 'it returns false'. Refute it at one input. -/
def fnExactValidTemperWrong : ChangeSpec := { name := "fnExactValidTemper", fn := fun _ => fun
  | [d] => { results := [.lit (.bool false)], args := [d] }
  | _ => none }
def FnExactValidTemperWrongFalsely : Prop := fnExactValidTemperRow.holds Try.pinned (OpenSpec.ofChange fnExactValidTemperWrong)

/-- 'laws.FnExactTemperWord': WHATEVER THE INPUT: true; the input reads as it did. -/
def fnExactTemperWordSpec : ChangeSpec := { name := "fnExactTemperWord", fn := fun _ => fun
  | [d1, d2] => { results := [.lit (.bool true)], args := [d1, d2] }
  | _ => none }
def fnExactTemperWordRow : OpenClaim := { program := "ytciofobedgmbjab", sum := "44f8b66eec051a52f4265e4f7595b06e76aaeb358959a48c0cbe4fdb7da53116", func := "loop.example/g01121/laws.FnExactTemperWord", spec := "fnExactTemperWord", apart := false }
def FnExactTemperWordSaid : Prop := fnExactTemperWordRow.holds Try.pinned (OpenSpec.ofChange fnExactTemperWordSpec)

/-- ITS FALSE NEIGHBOUR: 'it returns false'. Refute it at one input. -/
def fnExactTemperWordWrong : ChangeSpec := { name := "fnExactTemperWord", fn := fun _ => fun
  | [d1, d2] => { results := [.lit (.bool false)], args := [d1, d2] }
  | _ => none }
def FnExactTemperWordWrongFalsely : Prop := fnExactTemperWordRow.holds Try.pinned (OpenSpec.ofChange fnExactTemperWordWrong)

/-- 'laws.FnExactSeedsBehind': WHATEVER THE INPUT: true; the input reads as it did. -/
def fnExactSeedsBehindSpec : ChangeSpec := { name := "fnExactSeedsBehind", fn := fun _ => fun
  | [d1, d2, d3] => { results := [.lit (.bool true)], args := [d1, d2, d3] }
  | _ => none }
def fnExactSeedsBehindRow : OpenClaim := { program := "ytciofobedgmbjab", sum := "44f8b66eec051a52f4265e4f7595b06e76aaeb358959a48c0cbe4fdb7da53116", func := "loop.example/g01121/laws.FnExactSeedsBehind", spec := "fnExactSeedsBehind", apart := false }
def FnExactSeedsBehindSaid : Prop := fnExactSeedsBehindRow.holds Try.pinned (OpenSpec.ofChange fnExactSeedsBehindSpec)

/-- ITS FALSE NEIGHBOUR: 'it returns false'. Refute it at one input. -/
def fnExactSeedsBehindWrong : ChangeSpec := { name := "fnExactSeedsBehind", fn := fun _ => fun
  | [d1, d2, d3] => { results := [.lit (.bool false)], args := [d1, d2, d3] }
  | _ => none }
def FnExactSeedsBehindWrongFalsely : Prop := fnExactSeedsBehindRow.holds Try.pinned (OpenSpec.ofChange fnExactSeedsBehindWrong)

/-- 'laws.FnSeeds': WHATEVER THE INPUT: true; the input reads as it did. -/
def fnSeedsSpec : ChangeSpec := { name := "fnSeeds", fn := fun _ => fun
  | [d1, d2] => { results := [.lit (.bool true)], args := [d1, d2] }
  | _ => none }
def fnSeedsRow : OpenClaim := { program := "ytciofobedgmbjab", sum := "44f8b66eec051a52f4265e4f7595b06e76aaeb358959a48c0cbe4fdb7da53116", func := "loop.example/g01121/laws.FnSeeds", spec := "fnSeeds", apart := false }
def FnSeedsSaid : Prop := fnSeedsRow.holds Try.pinned (OpenSpec.ofChange fnSeedsSpec)

/-- ITS FALSE NEIGHBOUR: 'it returns false'. Refute it at one input. -/
def fnSeedsWrong : ChangeSpec := { name := "fnSeeds", fn := fun _ => fun
  | [d1, d2] => { results := [.lit (.bool false)], args := [d1, d2] }
  | _ => none }
def FnSeedsWrongFalsely : Prop := fnSeedsRow.holds Try.pinned (OpenSpec.ofChange fnSeedsWrong)

/-- 'laws.FnExactNaiveCounts': WHATEVER THE INPUT: true; the input reads as it did. -/
def fnExactNaiveCountsSpec : ChangeSpec := { name := "fnExactNaiveCounts", fn := fun _ => fun
  | [d] => { results := [.lit (.bool true)], args := [d] }
  | _ => none }
def fnExactNaiveCountsRow : OpenClaim := { program := "ytciofobedgmbjab", sum := "44f8b66eec051a52f4265e4f7595b06e76aaeb358959a48c0cbe4fdb7da53116", func := "loop.example/g01121/laws.FnExactNaiveCounts", spec := "fnExactNaiveCounts", unfollowed := true, recurses := true, apart := false }
def FnExactNaiveCountsSaid : Prop := fnExactNaiveCountsRow.holds Try.pinned (OpenSpec.ofChange fnExactNaiveCountsSpec)

/-- ITS FALSE NEIGHBOUR: 'it returns false'. Refute it at one input. -/
def fnExactNaiveCountsWrong : ChangeSpec := { name := "fnExactNaiveCounts", fn := fun _ => fun
  | [d] => { results := [.lit (.bool false)], args := [d] }
  | _ => none }
def FnExactNaiveCountsWrongFalsely : Prop := fnExactNaiveCountsRow.holds Try.pinned (OpenSpec.ofChange fnExactNaiveCountsWrong)

/-- 'laws.FnExactRiffleChance': WHATEVER THE INPUT: true; the input reads as it did. -/
def fnExactRiffleChanceSpec : ChangeSpec := { name := "fnExactRiffleChance", fn := fun _ => fun
  | [d1, d2] => { results := [.lit (.bool true)], args := [d1, d2] }
  | _ => none }
def fnExactRiffleChanceRow : OpenClaim := { program := "ytciofobedgmbjab", sum := "44f8b66eec051a52f4265e4f7595b06e76aaeb358959a48c0cbe4fdb7da53116", func := "loop.example/g01121/laws.FnExactRiffleChance", spec := "fnExactRiffleChance", inPlace := ["math/bits.Add64", "math/bits.Sub64"], apart := false }
def FnExactRiffleChanceSaid : Prop := fnExactRiffleChanceRow.holds Try.pinned (OpenSpec.ofChange fnExactRiffleChanceSpec)

/-- ITS FALSE NEIGHBOUR: 'it returns false'. Refute it at one input. -/
def fnExactRiffleChanceWrong : ChangeSpec := { name := "fnExactRiffleChance", fn := fun _ => fun
  | [d1, d2] => { results := [.lit (.bool false)], args := [d1, d2] }
  | _ => none }
def FnExactRiffleChanceWrongFalsely : Prop := fnExactRiffleChanceRow.holds Try.pinned (OpenSpec.ofChange fnExactRiffleChanceWrong)

/-- 'laws.FnShuffled': WHATEVER THE INPUT: true; the input reads as it did. -/
def fnShuffledSpec : ChangeSpec := { name := "fnShuffled", fn := fun _ => fun
  | [d1, d2] => { results := [.lit (.bool true)], args := [d1, d2] }
  | _ => none }
def fnShuffledRow : OpenClaim := { program := "ytciofobedgmbjab", sum := "44f8b66eec051a52f4265e4f7595b06e76aaeb358959a48c0cbe4fdb7da53116", func := "loop.example/g01121/laws.FnShuffled", spec := "fnShuffled", apart := false }
def FnShuffledSaid : Prop := fnShuffledRow.holds Try.pinned (OpenSpec.ofChange fnShuffledSpec)

/-- ITS FALSE NEIGHBOUR: 'it returns false'. Refute it at one input. -/
def fnShuffledWrong : ChangeSpec := { name := "fnShuffled", fn := fun _ => fun
  | [d1, d2] => { results := [.lit (.bool false)], args := [d1, d2] }
  | _ => none }
def FnShuffledWrongFalsely : Prop := fnShuffledRow.holds Try.pinned (OpenSpec.ofChange fnShuffledWrong)

/-- 'laws.FnOrderCounts': WHATEVER THE INPUT: true; the input reads as it did. -/
def fnOrderCountsSpec : ChangeSpec := { name := "fnOrderCounts", fn := fun _ => fun
  | [d1, d2] => { results := [.lit (.bool true)], args := [d1, d2] }
  | _ => none }
def fnOrderCountsRow : OpenClaim := { program := "ytciofobedgmbjab", sum := "44f8b66eec051a52f4265e4f7595b06e76aaeb358959a48c0cbe4fdb7da53116", func := "loop.example/g01121/laws.FnOrderCounts", spec := "fnOrderCounts", unfollowed := true, recurses := true, apart := false }
def FnOrderCountsSaid : Prop := fnOrderCountsRow.holds Try.pinned (OpenSpec.ofChange fnOrderCountsSpec)

/-- ITS FALSE NEIGHBOUR: 'it returns false'. Refute it at one input. -/
def fnOrderCountsWrong : ChangeSpec := { name := "fnOrderCounts", fn := fun _ => fun
  | [d1, d2] => { results := [.lit (.bool false)], args := [d1, d2] }
  | _ => none }
def FnOrderCountsWrongFalsely : Prop := fnOrderCountsRow.holds Try.pinned (OpenSpec.ofChange fnOrderCountsWrong)

/-- 'laws.FnRiffled': WHATEVER THE INPUT: true; the input reads as it did. -/
def fnRiffledSpec : ChangeSpec := { name := "fnRiffled", fn := fun _ => fun
  | [d1, d2] => { results := [.lit (.bool true)], args := [d1, d2] }
  | _ => none }
def fnRiffledRow : OpenClaim := { program := "ytciofobedgmbjab", sum := "44f8b66eec051a52f4265e4f7595b06e76aaeb358959a48c0cbe4fdb7da53116", func := "loop.example/g01121/laws.FnRiffled", spec := "fnRiffled", inPlace := ["math/bits.Add64", "math/bits.Sub64"], unfollowed := true, recurses := true, apart := false }
def FnRiffledSaid : Prop := fnRiffledRow.holds Try.pinned (OpenSpec.ofChange fnRiffledSpec)

/-- ITS FALSE NEIGHBOUR: 'it returns false'. Refute it at one input. -/
def fnRiffledWrong : ChangeSpec := { name := "fnRiffled", fn := fun _ => fun
  | [d1, d2] => { results := [.lit (.bool false)], args := [d1, d2] }
  | _ => none }
def FnRiffledWrongFalsely : Prop := fnRiffledRow.holds Try.pinned (OpenSpec.ofChange fnRiffledWrong)

/-- 'laws.FnSampled': WHATEVER THE INPUT: true; the input reads as it did. -/
def fnSampledSpec : ChangeSpec := { name := "fnSampled", fn := fun _ => fun
  | [d1, d2] => { results := [.lit (.bool true)], args := [d1, d2] }
  | _ => none }
def fnSampledRow : OpenClaim := { program := "ytciofobedgmbjab", sum := "44f8b66eec051a52f4265e4f7595b06e76aaeb358959a48c0cbe4fdb7da53116", func := "loop.example/g01121/laws.FnSampled", spec := "fnSampled", recurses := true, apart := false }
def FnSampledSaid : Prop := fnSampledRow.holds Try.pinned (OpenSpec.ofChange fnSampledSpec)

/-- ITS FALSE NEIGHBOUR: 'it returns false'. Refute it at one input. -/
def fnSampledWrong : ChangeSpec := { name := "fnSampled", fn := fun _ => fun
  | [d1, d2] => { results := [.lit (.bool false)], args := [d1, d2] }
  | _ => none }
def FnSampledWrongFalsely : Prop := fnSampledRow.holds Try.pinned (OpenSpec.ofChange fnSampledWrong)

/- THE SECOND FORM. 'bulk': how many values and letters a reading holds, each counted each time it is reached (what is shared counts as often as it is met; a slice's spare places count too). A statement '..UptoSaid' is the law's where the arguments, and the package variables that the reading takes, are together of bulk at most 1048576: NARROWER than '..Said'. Prove '..Said' where nothing that the law and all that it calls make is longer than what came in: it says more and counts as full. Else prove '..UptoSaid'. A law counts once. -/
mutual
def uptoBulk {H : Type} : DataW H → Nat
  | .lit (.string bytes) => bytes.length + 1
  | .lit _ => 1
  | .nil => 1
  | .ptr d => uptoBulk d + 1
  | .slice elems spare => uptoBulkAll elems + uptoBulkAll spare + 1
  | .agg parts => uptoBulkAll parts + 1
  | .iface _ d => uptoBulk d + 1
  | .map entries => uptoBulkEntries entries + 1
  | .held _ => 1
def uptoBulkAll {H : Type} : List (DataW H) → Nat
  | [] => 0
  | d :: r => uptoBulk d + uptoBulkAll r
def uptoBulkEntries {H : Type} : List (Lit × DataW H) → Nat
  | [] => 0
  | x :: r => uptoBulkEntry x + uptoBulkEntries r
def uptoBulkEntry {H : Type} : Lit × DataW H → Nat
  | (.string bytes, d) => bytes.length + uptoBulk d + 1
  | (_, d) => uptoBulk d + 1
 end
def uptoSmall : (H : Type) → List (DataW H) → Bool := fun _ ds => decide (uptoBulkAll ds ≤ 1048576)
def OpenSpec.upto (s : _root_.Go.ChangeSpec) : _root_.Go.OpenSpec := { _root_.Go.OpenSpec.ofChange s with cond := some uptoSmall }

/-- 'laws.FnExactValidTemper', WHERE WHAT IT READS IS OF BULK AT MOST 1048576: true; the input reads as it did. -/
def fnExactValidTemperUptoRow : OpenClaim := { program := "ytciofobedgmbjab", sum := "44f8b66eec051a52f4265e4f7595b06e76aaeb358959a48c0cbe4fdb7da53116", func := "loop.example/g01121/laws.FnExactValidTemper", spec := "fnExactValidTemper", apart := false, narrowed := true }
def FnExactValidTemperUptoSaid : Prop := fnExactValidTemperUptoRow.holds Try.pinned (OpenSpec.upto fnExactValidTemperSpec)

/-- 'laws.FnExactTemperWord', WHERE WHAT IT READS IS OF BULK AT MOST 1048576: true; the input reads as it did. -/
def fnExactTemperWordUptoRow : OpenClaim := { program := "ytciofobedgmbjab", sum := "44f8b66eec051a52f4265e4f7595b06e76aaeb358959a48c0cbe4fdb7da53116", func := "loop.example/g01121/laws.FnExactTemperWord", spec := "fnExactTemperWord", apart := false, narrowed := true }
def FnExactTemperWordUptoSaid : Prop := fnExactTemperWordUptoRow.holds Try.pinned (OpenSpec.upto fnExactTemperWordSpec)

/-- 'laws.FnExactSeedsBehind', WHERE WHAT IT READS IS OF BULK AT MOST 1048576: true; the input reads as it did. -/
def fnExactSeedsBehindUptoRow : OpenClaim := { program := "ytciofobedgmbjab", sum := "44f8b66eec051a52f4265e4f7595b06e76aaeb358959a48c0cbe4fdb7da53116", func := "loop.example/g01121/laws.FnExactSeedsBehind", spec := "fnExactSeedsBehind", apart := false, narrowed := true }
def FnExactSeedsBehindUptoSaid : Prop := fnExactSeedsBehindUptoRow.holds Try.pinned (OpenSpec.upto fnExactSeedsBehindSpec)

/-- 'laws.FnSeeds', WHERE WHAT IT READS IS OF BULK AT MOST 1048576: true; the input reads as it did. -/
def fnSeedsUptoRow : OpenClaim := { program := "ytciofobedgmbjab", sum := "44f8b66eec051a52f4265e4f7595b06e76aaeb358959a48c0cbe4fdb7da53116", func := "loop.example/g01121/laws.FnSeeds", spec := "fnSeeds", apart := false, narrowed := true }
def FnSeedsUptoSaid : Prop := fnSeedsUptoRow.holds Try.pinned (OpenSpec.upto fnSeedsSpec)

/-- 'laws.FnExactNaiveCounts', WHERE WHAT IT READS IS OF BULK AT MOST 1048576: true; the input reads as it did. -/
def fnExactNaiveCountsUptoRow : OpenClaim := { program := "ytciofobedgmbjab", sum := "44f8b66eec051a52f4265e4f7595b06e76aaeb358959a48c0cbe4fdb7da53116", func := "loop.example/g01121/laws.FnExactNaiveCounts", spec := "fnExactNaiveCounts", unfollowed := true, recurses := true, apart := false, narrowed := true }
def FnExactNaiveCountsUptoSaid : Prop := fnExactNaiveCountsUptoRow.holds Try.pinned (OpenSpec.upto fnExactNaiveCountsSpec)

/-- 'laws.FnExactRiffleChance', WHERE WHAT IT READS IS OF BULK AT MOST 1048576: true; the input reads as it did. -/
def fnExactRiffleChanceUptoRow : OpenClaim := { program := "ytciofobedgmbjab", sum := "44f8b66eec051a52f4265e4f7595b06e76aaeb358959a48c0cbe4fdb7da53116", func := "loop.example/g01121/laws.FnExactRiffleChance", spec := "fnExactRiffleChance", inPlace := ["math/bits.Add64", "math/bits.Sub64"], apart := false, narrowed := true }
def FnExactRiffleChanceUptoSaid : Prop := fnExactRiffleChanceUptoRow.holds Try.pinned (OpenSpec.upto fnExactRiffleChanceSpec)

/-- 'laws.FnShuffled', WHERE WHAT IT READS IS OF BULK AT MOST 1048576: true; the input reads as it did. -/
def fnShuffledUptoRow : OpenClaim := { program := "ytciofobedgmbjab", sum := "44f8b66eec051a52f4265e4f7595b06e76aaeb358959a48c0cbe4fdb7da53116", func := "loop.example/g01121/laws.FnShuffled", spec := "fnShuffled", apart := false, narrowed := true }
def FnShuffledUptoSaid : Prop := fnShuffledUptoRow.holds Try.pinned (OpenSpec.upto fnShuffledSpec)

/-- 'laws.FnOrderCounts', WHERE WHAT IT READS IS OF BULK AT MOST 1048576: true; the input reads as it did. -/
def fnOrderCountsUptoRow : OpenClaim := { program := "ytciofobedgmbjab", sum := "44f8b66eec051a52f4265e4f7595b06e76aaeb358959a48c0cbe4fdb7da53116", func := "loop.example/g01121/laws.FnOrderCounts", spec := "fnOrderCounts", unfollowed := true, recurses := true, apart := false, narrowed := true }
def FnOrderCountsUptoSaid : Prop := fnOrderCountsUptoRow.holds Try.pinned (OpenSpec.upto fnOrderCountsSpec)

/-- 'laws.FnRiffled', WHERE WHAT IT READS IS OF BULK AT MOST 1048576: true; the input reads as it did. -/
def fnRiffledUptoRow : OpenClaim := { program := "ytciofobedgmbjab", sum := "44f8b66eec051a52f4265e4f7595b06e76aaeb358959a48c0cbe4fdb7da53116", func := "loop.example/g01121/laws.FnRiffled", spec := "fnRiffled", inPlace := ["math/bits.Add64", "math/bits.Sub64"], unfollowed := true, recurses := true, apart := false, narrowed := true }
def FnRiffledUptoSaid : Prop := fnRiffledUptoRow.holds Try.pinned (OpenSpec.upto fnRiffledSpec)

/-- 'laws.FnSampled', WHERE WHAT IT READS IS OF BULK AT MOST 1048576: true; the input reads as it did. -/
def fnSampledUptoRow : OpenClaim := { program := "ytciofobedgmbjab", sum := "44f8b66eec051a52f4265e4f7595b06e76aaeb358959a48c0cbe4fdb7da53116", func := "loop.example/g01121/laws.FnSampled", spec := "fnSampled", recurses := true, apart := false, narrowed := true }
def FnSampledUptoSaid : Prop := fnSampledUptoRow.holds Try.pinned (OpenSpec.upto fnSampledSpec)

end Rows
end Go.Proofs.Ytciofobedgmbjab
