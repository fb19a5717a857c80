/-
  No cell of these rows narrows 'for every input' (looked for: loops, veiled, ifaces, maps, wideKeys, modest, calm, conditions, laid).
  DERIVED. THE GIVEN ROWS OF THIS SEAT. 12 by the template 'for every input the law returns true; each argument reads behind the call as it read before'; 0 by the template 'total and deterministic' (their statements: YtjbojamhnapkpabTotals.lean).
  GIVEN WITH THE SEED: the statements are not yours to turn. If you find one false, say at which input.
  Laid BY PROGRAM, IN A SANDBOX (cutbox-rows.mjs): the forced cells as the released guide's own fill.sh prints them over the translation 3ccc4fd24c588047… (all of the seat's roots in one cut). By AI agents, Wed Nov 11 2026. No macro, syntax, notation, axiom, sorry.
-/
import Derived.Test.YtjbojamhnapkpabChecked
import GoSem.Claim
import GoSem.ClaimJoined
import GoSem.ClaimMapViews
import Derived.JoinedTies
import Derived.KernelRfl
namespace Go.Proofs.Ytjbojamhnapkpab
/- THE CELL 'sum', in the pinned program and in every row, IS THE sha256 OF THE DUMP (.gsa) THAT YtjbojamhnapkpabProg.lean LOADS. Nothing in Lean hashes anything: it is a label: what it is worth is what the hold of that sum in a sandbox is worth. -/
noncomputable def Try.pinned : Pinned := { name := "ytjbojamhnapkpab", sum := "3ccc4fd24c5880477b5519c6ce69b0a32c5a73bb7f8777d7aa096c0487899623", checked := Try.checked }
namespace Rows
def none {H : Type} : Left H := { results := [], args := [] }

/-- 'laws.FnExactChoicesOf': WHATEVER THE INPUT: true; the input reads as it did. -/
def fnExactChoicesOfSpec : ChangeSpec := { name := "fnExactChoicesOf", fn := fun _ => fun
  | [d] => { results := [.lit (.bool true)], args := [d] }
  | _ => none }
def fnExactChoicesOfRow : OpenClaim := { program := "ytjbojamhnapkpab", sum := "3ccc4fd24c5880477b5519c6ce69b0a32c5a73bb7f8777d7aa096c0487899623", func := "loop.example/g01121/laws.FnExactChoicesOf", spec := "fnExactChoicesOf", apart := false }
def FnExactChoicesOfSaid : Prop := fnExactChoicesOfRow.holds Try.pinned (OpenSpec.ofChange fnExactChoicesOfSpec)

/-- ITS FALSE NEIGHBOUR: 'it returns false'. Refute it at one input. -/
def fnExactChoicesOfWrong : ChangeSpec := { name := "fnExactChoicesOf", fn := fun _ => fun
  | [d] => { results := [.lit (.bool false)], args := [d] }
  | _ => none }
def FnExactChoicesOfWrongFalsely : Prop := fnExactChoicesOfRow.holds Try.pinned (OpenSpec.ofChange fnExactChoicesOfWrong)

/-- 'laws.FnExactCyclicBy': WHATEVER THE INPUT: true; the input reads as it did. -/
def fnExactCyclicBySpec : ChangeSpec := { name := "fnExactCyclicBy", fn := fun _ => fun
  | [d] => { results := [.lit (.bool true)], args := [d] }
  | _ => none }
def fnExactCyclicByRow : OpenClaim := { program := "ytjbojamhnapkpab", sum := "3ccc4fd24c5880477b5519c6ce69b0a32c5a73bb7f8777d7aa096c0487899623", func := "loop.example/g01121/laws.FnExactCyclicBy", spec := "fnExactCyclicBy", apart := false }
def FnExactCyclicBySaid : Prop := fnExactCyclicByRow.holds Try.pinned (OpenSpec.ofChange fnExactCyclicBySpec)

/-- ITS FALSE NEIGHBOUR: 'it returns false'. Refute it at one input. -/
def fnExactCyclicByWrong : ChangeSpec := { name := "fnExactCyclicBy", fn := fun _ => fun
  | [d] => { results := [.lit (.bool false)], args := [d] }
  | _ => none }
def FnExactCyclicByWrongFalsely : Prop := fnExactCyclicByRow.holds Try.pinned (OpenSpec.ofChange fnExactCyclicByWrong)

/-- 'laws.FnExactNaiveBy': WHATEVER THE INPUT: true; the input reads as it did. -/
def fnExactNaiveBySpec : ChangeSpec := { name := "fnExactNaiveBy", fn := fun _ => fun
  | [d] => { results := [.lit (.bool true)], args := [d] }
  | _ => none }
def fnExactNaiveByRow : OpenClaim := { program := "ytjbojamhnapkpab", sum := "3ccc4fd24c5880477b5519c6ce69b0a32c5a73bb7f8777d7aa096c0487899623", func := "loop.example/g01121/laws.FnExactNaiveBy", spec := "fnExactNaiveBy", apart := false }
def FnExactNaiveBySaid : Prop := fnExactNaiveByRow.holds Try.pinned (OpenSpec.ofChange fnExactNaiveBySpec)

/-- ITS FALSE NEIGHBOUR: 'it returns false'. Refute it at one input. -/
def fnExactNaiveByWrong : ChangeSpec := { name := "fnExactNaiveBy", fn := fun _ => fun
  | [d] => { results := [.lit (.bool false)], args := [d] }
  | _ => none }
def FnExactNaiveByWrongFalsely : Prop := fnExactNaiveByRow.holds Try.pinned (OpenSpec.ofChange fnExactNaiveByWrong)

/-- 'laws.FnExactNaiveCounts': WHATEVER THE INPUT: true; the input reads as it did. -/
def fnExactNaiveCountsSpec : ChangeSpec := { name := "fnExactNaiveCounts", fn := fun _ => fun
  | [d] => { results := [.lit (.bool true)], args := [d] }
  | _ => none }
def fnExactNaiveCountsRow : OpenClaim := { program := "ytjbojamhnapkpab", sum := "3ccc4fd24c5880477b5519c6ce69b0a32c5a73bb7f8777d7aa096c0487899623", func := "loop.example/g01121/laws.FnExactNaiveCounts", spec := "fnExactNaiveCounts", unfollowed := true, recurses := true, apart := false }
def FnExactNaiveCountsSaid : Prop := fnExactNaiveCountsRow.holds Try.pinned (OpenSpec.ofChange fnExactNaiveCountsSpec)

/-- ITS FALSE NEIGHBOUR: 'it returns false'. Refute it at one input. -/
def fnExactNaiveCountsWrong : ChangeSpec := { name := "fnExactNaiveCounts", fn := fun _ => fun
  | [d] => { results := [.lit (.bool false)], args := [d] }
  | _ => none }
def FnExactNaiveCountsWrongFalsely : Prop := fnExactNaiveCountsRow.holds Try.pinned (OpenSpec.ofChange fnExactNaiveCountsWrong)

/-- 'laws.FnExactRankOrder': WHATEVER THE INPUT: true; the input reads as it did. -/
def fnExactRankOrderSpec : ChangeSpec := { name := "fnExactRankOrder", fn := fun _ => fun
  | [d] => { results := [.lit (.bool true)], args := [d] }
  | _ => none }
def fnExactRankOrderRow : OpenClaim := { program := "ytjbojamhnapkpab", sum := "3ccc4fd24c5880477b5519c6ce69b0a32c5a73bb7f8777d7aa096c0487899623", func := "loop.example/g01121/laws.FnExactRankOrder", spec := "fnExactRankOrder", apart := false }
def FnExactRankOrderSaid : Prop := fnExactRankOrderRow.holds Try.pinned (OpenSpec.ofChange fnExactRankOrderSpec)

/-- ITS FALSE NEIGHBOUR: 'it returns false'. Refute it at one input. -/
def fnExactRankOrderWrong : ChangeSpec := { name := "fnExactRankOrder", fn := fun _ => fun
  | [d] => { results := [.lit (.bool false)], args := [d] }
  | _ => none }
def FnExactRankOrderWrongFalsely : Prop := fnExactRankOrderRow.holds Try.pinned (OpenSpec.ofChange fnExactRankOrderWrong)

/-- 'laws.FnExactOrderAt': WHATEVER THE INPUT: true; the input reads as it did. -/
def fnExactOrderAtSpec : ChangeSpec := { name := "fnExactOrderAt", fn := fun _ => fun
  | [d1, d2] => { results := [.lit (.bool true)], args := [d1, d2] }
  | _ => none }
def fnExactOrderAtRow : OpenClaim := { program := "ytjbojamhnapkpab", sum := "3ccc4fd24c5880477b5519c6ce69b0a32c5a73bb7f8777d7aa096c0487899623", func := "loop.example/g01121/laws.FnExactOrderAt", spec := "fnExactOrderAt", apart := false }
def FnExactOrderAtSaid : Prop := fnExactOrderAtRow.holds Try.pinned (OpenSpec.ofChange fnExactOrderAtSpec)

/-- ITS FALSE NEIGHBOUR: 'it returns false'. Refute it at one input. -/
def fnExactOrderAtWrong : ChangeSpec := { name := "fnExactOrderAt", fn := fun _ => fun
  | [d1, d2] => { results := [.lit (.bool false)], args := [d1, d2] }
  | _ => none }
def FnExactOrderAtWrongFalsely : Prop := fnExactOrderAtRow.holds Try.pinned (OpenSpec.ofChange fnExactOrderAtWrong)

/-- 'laws.FnExactCyclesOf': WHATEVER THE INPUT: true; the input reads as it did. -/
def fnExactCyclesOfSpec : ChangeSpec := { name := "fnExactCyclesOf", fn := fun _ => fun
  | [d] => { results := [.lit (.bool true)], args := [d] }
  | _ => none }
def fnExactCyclesOfRow : OpenClaim := { program := "ytjbojamhnapkpab", sum := "3ccc4fd24c5880477b5519c6ce69b0a32c5a73bb7f8777d7aa096c0487899623", func := "loop.example/g01121/laws.FnExactCyclesOf", spec := "fnExactCyclesOf", apart := false }
def FnExactCyclesOfSaid : Prop := fnExactCyclesOfRow.holds Try.pinned (OpenSpec.ofChange fnExactCyclesOfSpec)

/-- ITS FALSE NEIGHBOUR: 'it returns false'. Refute it at one input. -/
def fnExactCyclesOfWrong : ChangeSpec := { name := "fnExactCyclesOf", fn := fun _ => fun
  | [d] => { results := [.lit (.bool false)], args := [d] }
  | _ => none }
def FnExactCyclesOfWrongFalsely : Prop := fnExactCyclesOfRow.holds Try.pinned (OpenSpec.ofChange fnExactCyclesOfWrong)

/-- 'laws.FnExactCountCycles': WHATEVER THE INPUT: true; the input reads as it did. -/
def fnExactCountCyclesSpec : ChangeSpec := { name := "fnExactCountCycles", fn := fun _ => fun
  | [d1, d2] => { results := [.lit (.bool true)], args := [d1, d2] }
  | _ => none }
def fnExactCountCyclesRow : OpenClaim := { program := "ytjbojamhnapkpab", sum := "3ccc4fd24c5880477b5519c6ce69b0a32c5a73bb7f8777d7aa096c0487899623", func := "loop.example/g01121/laws.FnExactCountCycles", spec := "fnExactCountCycles", unfollowed := true, recurses := true, apart := false }
def FnExactCountCyclesSaid : Prop := fnExactCountCyclesRow.holds Try.pinned (OpenSpec.ofChange fnExactCountCyclesSpec)

/-- ITS FALSE NEIGHBOUR: 'it returns false'. Refute it at one input. -/
def fnExactCountCyclesWrong : ChangeSpec := { name := "fnExactCountCycles", fn := fun _ => fun
  | [d1, d2] => { results := [.lit (.bool false)], args := [d1, d2] }
  | _ => none }
def FnExactCountCyclesWrongFalsely : Prop := fnExactCountCyclesRow.holds Try.pinned (OpenSpec.ofChange fnExactCountCyclesWrong)

/-- 'laws.FnExactRisingOf': WHATEVER THE INPUT: true; the input reads as it did. -/
def fnExactRisingOfSpec : ChangeSpec := { name := "fnExactRisingOf", fn := fun _ => fun
  | [d] => { results := [.lit (.bool true)], args := [d] }
  | _ => none }
def fnExactRisingOfRow : OpenClaim := { program := "ytjbojamhnapkpab", sum := "3ccc4fd24c5880477b5519c6ce69b0a32c5a73bb7f8777d7aa096c0487899623", func := "loop.example/g01121/laws.FnExactRisingOf", spec := "fnExactRisingOf", apart := false }
def FnExactRisingOfSaid : Prop := fnExactRisingOfRow.holds Try.pinned (OpenSpec.ofChange fnExactRisingOfSpec)

/-- ITS FALSE NEIGHBOUR: 'it returns false'. Refute it at one input. -/
def fnExactRisingOfWrong : ChangeSpec := { name := "fnExactRisingOf", fn := fun _ => fun
  | [d] => { results := [.lit (.bool false)], args := [d] }
  | _ => none }
def FnExactRisingOfWrongFalsely : Prop := fnExactRisingOfRow.holds Try.pinned (OpenSpec.ofChange fnExactRisingOfWrong)

/-- 'laws.FnExactCountRising': WHATEVER THE INPUT: true; the input reads as it did. -/
def fnExactCountRisingSpec : ChangeSpec := { name := "fnExactCountRising", fn := fun _ => fun
  | [d1, d2] => { results := [.lit (.bool true)], args := [d1, d2] }
  | _ => none }
def fnExactCountRisingRow : OpenClaim := { program := "ytjbojamhnapkpab", sum := "3ccc4fd24c5880477b5519c6ce69b0a32c5a73bb7f8777d7aa096c0487899623", func := "loop.example/g01121/laws.FnExactCountRising", spec := "fnExactCountRising", unfollowed := true, recurses := true, apart := false }
def FnExactCountRisingSaid : Prop := fnExactCountRisingRow.holds Try.pinned (OpenSpec.ofChange fnExactCountRisingSpec)

/-- ITS FALSE NEIGHBOUR: 'it returns false'. Refute it at one input. -/
def fnExactCountRisingWrong : ChangeSpec := { name := "fnExactCountRising", fn := fun _ => fun
  | [d1, d2] => { results := [.lit (.bool false)], args := [d1, d2] }
  | _ => none }
def FnExactCountRisingWrongFalsely : Prop := fnExactCountRisingRow.holds Try.pinned (OpenSpec.ofChange fnExactCountRisingWrong)

/-- 'laws.FnExactRiffleChance': WHATEVER THE INPUT: true; the input reads as it did. -/
def fnExactRiffleChanceSpec : ChangeSpec := { name := "fnExactRiffleChance", fn := fun _ => fun
  | [d1, d2] => { results := [.lit (.bool true)], args := [d1, d2] }
  | _ => none }
def fnExactRiffleChanceRow : OpenClaim := { program := "ytjbojamhnapkpab", sum := "3ccc4fd24c5880477b5519c6ce69b0a32c5a73bb7f8777d7aa096c0487899623", func := "loop.example/g01121/laws.FnExactRiffleChance", spec := "fnExactRiffleChance", inPlace := ["math/bits.Add64", "math/bits.Sub64"], apart := false }
def FnExactRiffleChanceSaid : Prop := fnExactRiffleChanceRow.holds Try.pinned (OpenSpec.ofChange fnExactRiffleChanceSpec)

/-- ITS FALSE NEIGHBOUR: 'it returns false'. Refute it at one input. -/
def fnExactRiffleChanceWrong : ChangeSpec := { name := "fnExactRiffleChance", fn := fun _ => fun
  | [d1, d2] => { results := [.lit (.bool false)], args := [d1, d2] }
  | _ => none }
def FnExactRiffleChanceWrongFalsely : Prop := fnExactRiffleChanceRow.holds Try.pinned (OpenSpec.ofChange fnExactRiffleChanceWrong)

/-- 'laws.FnExactRiffleDistance': WHATEVER THE INPUT: true; the input reads as it did. -/
def fnExactRiffleDistanceSpec : ChangeSpec := { name := "fnExactRiffleDistance", fn := fun _ => fun
  | [d1, d2] => { results := [.lit (.bool true)], args := [d1, d2] }
  | _ => none }
def fnExactRiffleDistanceRow : OpenClaim := { program := "ytjbojamhnapkpab", sum := "3ccc4fd24c5880477b5519c6ce69b0a32c5a73bb7f8777d7aa096c0487899623", func := "loop.example/g01121/laws.FnExactRiffleDistance", spec := "fnExactRiffleDistance", unfollowed := true, recurses := true, apart := false }
def FnExactRiffleDistanceSaid : Prop := fnExactRiffleDistanceRow.holds Try.pinned (OpenSpec.ofChange fnExactRiffleDistanceSpec)

/-- ITS FALSE NEIGHBOUR: 'it returns false'. Refute it at one input. -/
def fnExactRiffleDistanceWrong : ChangeSpec := { name := "fnExactRiffleDistance", fn := fun _ => fun
  | [d1, d2] => { results := [.lit (.bool false)], args := [d1, d2] }
  | _ => none }
def FnExactRiffleDistanceWrongFalsely : Prop := fnExactRiffleDistanceRow.holds Try.pinned (OpenSpec.ofChange fnExactRiffleDistanceWrong)

/- THE SECOND FORM. 'bulk': how many values and letters a reading holds, each counted each time it is reached (what is shared counts as often as it is met; a slice's spare places count too). A statement '..UptoSaid' is the law's where the arguments, and the package variables that the reading takes, are together of bulk at most 1048576: NARROWER than '..Said'. Prove '..Said' where nothing that the law and all that it calls make is longer than what came in: it says more and counts as full. Else prove '..UptoSaid'. A law counts once. -/
mutual
def uptoBulk {H : Type} : DataW H → Nat
  | .lit (.string bytes) => bytes.length + 1
  | .lit _ => 1
  | .nil => 1
  | .ptr d => uptoBulk d + 1
  | .slice elems spare => uptoBulkAll elems + uptoBulkAll spare + 1
  | .agg parts => uptoBulkAll parts + 1
  | .iface _ d => uptoBulk d + 1
  | .map entries => uptoBulkEntries entries + 1
  | .held _ => 1
def uptoBulkAll {H : Type} : List (DataW H) → Nat
  | [] => 0
  | d :: r => uptoBulk d + uptoBulkAll r
def uptoBulkEntries {H : Type} : List (Lit × DataW H) → Nat
  | [] => 0
  | x :: r => uptoBulkEntry x + uptoBulkEntries r
def uptoBulkEntry {H : Type} : Lit × DataW H → Nat
  | (.string bytes, d) => bytes.length + uptoBulk d + 1
  | (_, d) => uptoBulk d + 1
 end
def uptoSmall : (H : Type) → List (DataW H) → Bool := fun _ ds => decide (uptoBulkAll ds ≤ 1048576)
def OpenSpec.upto (s : _root_.Go.ChangeSpec) : _root_.Go.OpenSpec := { _root_.Go.OpenSpec.ofChange s with cond := some uptoSmall }

/-- 'laws.FnExactChoicesOf', WHERE WHAT IT READS IS OF BULK AT MOST 1048576: true; the input reads as it did. -/
def fnExactChoicesOfUptoRow : OpenClaim := { program := "ytjbojamhnapkpab", sum := "3ccc4fd24c5880477b5519c6ce69b0a32c5a73bb7f8777d7aa096c0487899623", func := "loop.example/g01121/laws.FnExactChoicesOf", spec := "fnExactChoicesOf", apart := false, narrowed := true }
def FnExactChoicesOfUptoSaid : Prop := fnExactChoicesOfUptoRow.holds Try.pinned (OpenSpec.upto fnExactChoicesOfSpec)

/-- 'laws.FnExactCyclicBy', WHERE WHAT IT READS IS OF BULK AT MOST 1048576: true; the input reads as it did. -/
def fnExactCyclicByUptoRow : OpenClaim := { program := "ytjbojamhnapkpab", sum := "3ccc4fd24c5880477b5519c6ce69b0a32c5a73bb7f8777d7aa096c0487899623", func := "loop.example/g01121/laws.FnExactCyclicBy", spec := "fnExactCyclicBy", apart := false, narrowed := true }
def FnExactCyclicByUptoSaid : Prop := fnExactCyclicByUptoRow.holds Try.pinned (OpenSpec.upto fnExactCyclicBySpec)

/-- 'laws.FnExactNaiveBy', WHERE WHAT IT READS IS OF BULK AT MOST 1048576: true; the input reads as it did. -/
def fnExactNaiveByUptoRow : OpenClaim := { program := "ytjbojamhnapkpab", sum := "3ccc4fd24c5880477b5519c6ce69b0a32c5a73bb7f8777d7aa096c0487899623", func := "loop.example/g01121/laws.FnExactNaiveBy", spec := "fnExactNaiveBy", apart := false, narrowed := true }
def FnExactNaiveByUptoSaid : Prop := fnExactNaiveByUptoRow.holds Try.pinned (OpenSpec.upto fnExactNaiveBySpec)

/-- 'laws.FnExactNaiveCounts', WHERE WHAT IT READS IS OF BULK AT MOST 1048576: true; the input reads as it did. -/
def fnExactNaiveCountsUptoRow : OpenClaim := { program := "ytjbojamhnapkpab", sum := "3ccc4fd24c5880477b5519c6ce69b0a32c5a73bb7f8777d7aa096c0487899623", func := "loop.example/g01121/laws.FnExactNaiveCounts", spec := "fnExactNaiveCounts", unfollowed := true, recurses := true, apart := false, narrowed := true }
def FnExactNaiveCountsUptoSaid : Prop := fnExactNaiveCountsUptoRow.holds Try.pinned (OpenSpec.upto fnExactNaiveCountsSpec)

/-- 'laws.FnExactRankOrder', WHERE WHAT IT READS IS OF BULK AT MOST 1048576: true; the input reads as it did. -/
def fnExactRankOrderUptoRow : OpenClaim := { program := "ytjbojamhnapkpab", sum := "3ccc4fd24c5880477b5519c6ce69b0a32c5a73bb7f8777d7aa096c0487899623", func := "loop.example/g01121/laws.FnExactRankOrder", spec := "fnExactRankOrder", apart := false, narrowed := true }
def FnExactRankOrderUptoSaid : Prop := fnExactRankOrderUptoRow.holds Try.pinned (OpenSpec.upto fnExactRankOrderSpec)

/-- 'laws.FnExactOrderAt', WHERE WHAT IT READS IS OF BULK AT MOST 1048576: true; the input reads as it did. -/
def fnExactOrderAtUptoRow : OpenClaim := { program := "ytjbojamhnapkpab", sum := "3ccc4fd24c5880477b5519c6ce69b0a32c5a73bb7f8777d7aa096c0487899623", func := "loop.example/g01121/laws.FnExactOrderAt", spec := "fnExactOrderAt", apart := false, narrowed := true }
def FnExactOrderAtUptoSaid : Prop := fnExactOrderAtUptoRow.holds Try.pinned (OpenSpec.upto fnExactOrderAtSpec)

/-- 'laws.FnExactCyclesOf', WHERE WHAT IT READS IS OF BULK AT MOST 1048576: true; the input reads as it did. -/
def fnExactCyclesOfUptoRow : OpenClaim := { program := "ytjbojamhnapkpab", sum := "3ccc4fd24c5880477b5519c6ce69b0a32c5a73bb7f8777d7aa096c0487899623", func := "loop.example/g01121/laws.FnExactCyclesOf", spec := "fnExactCyclesOf", apart := false, narrowed := true }
def FnExactCyclesOfUptoSaid : Prop := fnExactCyclesOfUptoRow.holds Try.pinned (OpenSpec.upto fnExactCyclesOfSpec)

/-- 'laws.FnExactCountCycles', WHERE WHAT IT READS IS OF BULK AT MOST 1048576: true; the input reads as it did. -/
def fnExactCountCyclesUptoRow : OpenClaim := { program := "ytjbojamhnapkpab", sum := "3ccc4fd24c5880477b5519c6ce69b0a32c5a73bb7f8777d7aa096c0487899623", func := "loop.example/g01121/laws.FnExactCountCycles", spec := "fnExactCountCycles", unfollowed := true, recurses := true, apart := false, narrowed := true }
def FnExactCountCyclesUptoSaid : Prop := fnExactCountCyclesUptoRow.holds Try.pinned (OpenSpec.upto fnExactCountCyclesSpec)

/-- 'laws.FnExactRisingOf', WHERE WHAT IT READS IS OF BULK AT MOST 1048576: true; the input reads as it did. -/
def fnExactRisingOfUptoRow : OpenClaim := { program := "ytjbojamhnapkpab", sum := "3ccc4fd24c5880477b5519c6ce69b0a32c5a73bb7f8777d7aa096c0487899623", func := "loop.example/g01121/laws.FnExactRisingOf", spec := "fnExactRisingOf", apart := false, narrowed := true }
def FnExactRisingOfUptoSaid : Prop := fnExactRisingOfUptoRow.holds Try.pinned (OpenSpec.upto fnExactRisingOfSpec)

/-- 'laws.FnExactCountRising', WHERE WHAT IT READS IS OF BULK AT MOST 1048576: true; the input reads as it did. -/
def fnExactCountRisingUptoRow : OpenClaim := { program := "ytjbojamhnapkpab", sum := "3ccc4fd24c5880477b5519c6ce69b0a32c5a73bb7f8777d7aa096c0487899623", func := "loop.example/g01121/laws.FnExactCountRising", spec := "fnExactCountRising", unfollowed := true, recurses := true, apart := false, narrowed := true }
def FnExactCountRisingUptoSaid : Prop := fnExactCountRisingUptoRow.holds Try.pinned (OpenSpec.upto fnExactCountRisingSpec)

/-- 'laws.FnExactRiffleChance', WHERE WHAT IT READS IS OF BULK AT MOST 1048576: true; the input reads as it did. -/
def fnExactRiffleChanceUptoRow : OpenClaim := { program := "ytjbojamhnapkpab", sum := "3ccc4fd24c5880477b5519c6ce69b0a32c5a73bb7f8777d7aa096c0487899623", func := "loop.example/g01121/laws.FnExactRiffleChance", spec := "fnExactRiffleChance", inPlace := ["math/bits.Add64", "math/bits.Sub64"], apart := false, narrowed := true }
def FnExactRiffleChanceUptoSaid : Prop := fnExactRiffleChanceUptoRow.holds Try.pinned (OpenSpec.upto fnExactRiffleChanceSpec)

/-- 'laws.FnExactRiffleDistance', WHERE WHAT IT READS IS OF BULK AT MOST 1048576: true; the input reads as it did. -/
def fnExactRiffleDistanceUptoRow : OpenClaim := { program := "ytjbojamhnapkpab", sum := "3ccc4fd24c5880477b5519c6ce69b0a32c5a73bb7f8777d7aa096c0487899623", func := "loop.example/g01121/laws.FnExactRiffleDistance", spec := "fnExactRiffleDistance", unfollowed := true, recurses := true, apart := false, narrowed := true }
def FnExactRiffleDistanceUptoSaid : Prop := fnExactRiffleDistanceUptoRow.holds Try.pinned (OpenSpec.upto fnExactRiffleDistanceSpec)

end Rows
end Go.Proofs.Ytjbojamhnapkpab
