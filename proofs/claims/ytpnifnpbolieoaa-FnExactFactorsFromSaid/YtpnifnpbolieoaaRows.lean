/-
  No cell of these rows narrows 'for every input' (looked for: loops, veiled, ifaces, maps, wideKeys, modest, calm, conditions, laid).
  DERIVED. THE GIVEN ROWS OF THIS SEAT. 12 by the template 'for every input the law returns true; each argument reads behind the call as it read before'; 0 by the template 'total and deterministic' (their statements: YtpnifnpbolieoaaTotals.lean).
  GIVEN WITH THE SEED: the statements are not yours to turn. If you find one false, say at which input.
  Laid BY PROGRAM, IN A SANDBOX (cutbox-rows.mjs): the forced cells as the released guide's own fill.sh prints them over the translation 99824652c89dd373… (all of the seat's roots in one cut). By AI agents, Wed Nov 11 2026. No macro, syntax, notation, axiom, sorry.
-/
import Derived.Test.YtpnifnpbolieoaaChecked
import GoSem.Claim
import GoSem.ClaimJoined
import GoSem.ClaimMapViews
import Derived.JoinedTies
import Derived.KernelRfl
namespace Go.Proofs.Ytpnifnpbolieoaa
/- THE CELL 'sum', in the pinned program and in every row, IS THE sha256 OF THE DUMP (.gsa) THAT YtpnifnpbolieoaaProg.lean LOADS. Nothing in Lean hashes anything: it is a label: what it is worth is what the hold of that sum in a sandbox is worth. -/
noncomputable def Try.pinned : Pinned := { name := "ytpnifnpbolieoaa", sum := "99824652c89dd3730fdb610669811d3759e8f632853f457b9e878a387fd0a16a", checked := Try.checked }
namespace Rows
def none {H : Type} : Left H := { results := [], args := [] }

/-- 'laws.FnExactModulusFrom': WHATEVER THE INPUT: true; the input reads as it did. -/
def fnExactModulusFromSpec : ChangeSpec := { name := "fnExactModulusFrom", fn := fun _ => fun
  | [d] => { results := [.lit (.bool true)], args := [d] }
  | _ => none }
def fnExactModulusFromRow : OpenClaim := { program := "ytpnifnpbolieoaa", sum := "99824652c89dd3730fdb610669811d3759e8f632853f457b9e878a387fd0a16a", func := "loop.example/g01121/laws.FnExactModulusFrom", spec := "fnExactModulusFrom", apart := false }
def FnExactModulusFromSaid : Prop := fnExactModulusFromRow.holds Try.pinned (OpenSpec.ofChange fnExactModulusFromSpec)

/-- ITS FALSE NEIGHBOUR: 'it returns false'. Refute it at one input. -/
def fnExactModulusFromWrong : ChangeSpec := { name := "fnExactModulusFrom", fn := fun _ => fun
  | [d] => { results := [.lit (.bool false)], args := [d] }
  | _ => none }
def FnExactModulusFromWrongFalsely : Prop := fnExactModulusFromRow.holds Try.pinned (OpenSpec.ofChange fnExactModulusFromWrong)

/-- 'laws.FnExactFactorsFrom': WHATEVER THE INPUT: true; the input reads as it did. -/
def fnExactFactorsFromSpec : ChangeSpec := { name := "fnExactFactorsFrom", fn := fun _ => fun
  | [d1, d2] => { results := [.lit (.bool true)], args := [d1, d2] }
  | _ => none }
def fnExactFactorsFromRow : OpenClaim := { program := "ytpnifnpbolieoaa", sum := "99824652c89dd3730fdb610669811d3759e8f632853f457b9e878a387fd0a16a", func := "loop.example/g01121/laws.FnExactFactorsFrom", spec := "fnExactFactorsFrom", apart := false }
def FnExactFactorsFromSaid : Prop := fnExactFactorsFromRow.holds Try.pinned (OpenSpec.ofChange fnExactFactorsFromSpec)

/-- ITS FALSE NEIGHBOUR: 'it returns false'. Refute it at one input. -/
def fnExactFactorsFromWrong : ChangeSpec := { name := "fnExactFactorsFrom", fn := fun _ => fun
  | [d1, d2] => { results := [.lit (.bool false)], args := [d1, d2] }
  | _ => none }
def FnExactFactorsFromWrongFalsely : Prop := fnExactFactorsFromRow.holds Try.pinned (OpenSpec.ofChange fnExactFactorsFromWrong)

/-- 'laws.FnExactAddFractions': WHATEVER THE INPUT: true; the input reads as it did. -/
def fnExactAddFractionsSpec : ChangeSpec := { name := "fnExactAddFractions", fn := fun _ => fun
  | [d1, d2] => { results := [.lit (.bool true)], args := [d1, d2] }
  | _ => none }
def fnExactAddFractionsRow : OpenClaim := { program := "ytpnifnpbolieoaa", sum := "99824652c89dd3730fdb610669811d3759e8f632853f457b9e878a387fd0a16a", func := "loop.example/g01121/laws.FnExactAddFractions", spec := "fnExactAddFractions", inPlace := ["math/bits.Add64"], named := ["math/bits.divideError", "math/bits.overflowError"], apart := false }
def FnExactAddFractionsSaid : Prop := fnExactAddFractionsRow.holds Try.pinned (OpenSpec.ofChange fnExactAddFractionsSpec)

/-- ITS FALSE NEIGHBOUR: 'it returns false'. Refute it at one input. -/
def fnExactAddFractionsWrong : ChangeSpec := { name := "fnExactAddFractions", fn := fun _ => fun
  | [d1, d2] => { results := [.lit (.bool false)], args := [d1, d2] }
  | _ => none }
def FnExactAddFractionsWrongFalsely : Prop := fnExactAddFractionsRow.holds Try.pinned (OpenSpec.ofChange fnExactAddFractionsWrong)

/-- 'laws.FnExactSubFractions': WHATEVER THE INPUT: true; the input reads as it did. -/
def fnExactSubFractionsSpec : ChangeSpec := { name := "fnExactSubFractions", fn := fun _ => fun
  | [d1, d2] => { results := [.lit (.bool true)], args := [d1, d2] }
  | _ => none }
def fnExactSubFractionsRow : OpenClaim := { program := "ytpnifnpbolieoaa", sum := "99824652c89dd3730fdb610669811d3759e8f632853f457b9e878a387fd0a16a", func := "loop.example/g01121/laws.FnExactSubFractions", spec := "fnExactSubFractions", inPlace := ["math/bits.Add64"], named := ["math/bits.divideError", "math/bits.overflowError"], apart := false }
def FnExactSubFractionsSaid : Prop := fnExactSubFractionsRow.holds Try.pinned (OpenSpec.ofChange fnExactSubFractionsSpec)

/-- ITS FALSE NEIGHBOUR: 'it returns false'. Refute it at one input. -/
def fnExactSubFractionsWrong : ChangeSpec := { name := "fnExactSubFractions", fn := fun _ => fun
  | [d1, d2] => { results := [.lit (.bool false)], args := [d1, d2] }
  | _ => none }
def FnExactSubFractionsWrongFalsely : Prop := fnExactSubFractionsRow.holds Try.pinned (OpenSpec.ofChange fnExactSubFractionsWrong)

/-- 'laws.FnExactMulFractions': WHATEVER THE INPUT: true; the input reads as it did. -/
def fnExactMulFractionsSpec : ChangeSpec := { name := "fnExactMulFractions", fn := fun _ => fun
  | [d1, d2] => { results := [.lit (.bool true)], args := [d1, d2] }
  | _ => none }
def fnExactMulFractionsRow : OpenClaim := { program := "ytpnifnpbolieoaa", sum := "99824652c89dd3730fdb610669811d3759e8f632853f457b9e878a387fd0a16a", func := "loop.example/g01121/laws.FnExactMulFractions", spec := "fnExactMulFractions", inPlace := ["math/bits.Add64"], apart := false }
def FnExactMulFractionsSaid : Prop := fnExactMulFractionsRow.holds Try.pinned (OpenSpec.ofChange fnExactMulFractionsSpec)

/-- ITS FALSE NEIGHBOUR: 'it returns false'. Refute it at one input. -/
def fnExactMulFractionsWrong : ChangeSpec := { name := "fnExactMulFractions", fn := fun _ => fun
  | [d1, d2] => { results := [.lit (.bool false)], args := [d1, d2] }
  | _ => none }
def FnExactMulFractionsWrongFalsely : Prop := fnExactMulFractionsRow.holds Try.pinned (OpenSpec.ofChange fnExactMulFractionsWrong)

/-- 'laws.FnExactDivFractions': WHATEVER THE INPUT: true; the input reads as it did. -/
def fnExactDivFractionsSpec : ChangeSpec := { name := "fnExactDivFractions", fn := fun _ => fun
  | [d1, d2] => { results := [.lit (.bool true)], args := [d1, d2] }
  | _ => none }
def fnExactDivFractionsRow : OpenClaim := { program := "ytpnifnpbolieoaa", sum := "99824652c89dd3730fdb610669811d3759e8f632853f457b9e878a387fd0a16a", func := "loop.example/g01121/laws.FnExactDivFractions", spec := "fnExactDivFractions", inPlace := ["math/bits.Add64"], apart := false }
def FnExactDivFractionsSaid : Prop := fnExactDivFractionsRow.holds Try.pinned (OpenSpec.ofChange fnExactDivFractionsSpec)

/-- ITS FALSE NEIGHBOUR: 'it returns false'. Refute it at one input. -/
def fnExactDivFractionsWrong : ChangeSpec := { name := "fnExactDivFractions", fn := fun _ => fun
  | [d1, d2] => { results := [.lit (.bool false)], args := [d1, d2] }
  | _ => none }
def FnExactDivFractionsWrongFalsely : Prop := fnExactDivFractionsRow.holds Try.pinned (OpenSpec.ofChange fnExactDivFractionsWrong)

/-- 'laws.FnExactCompareFractions': WHATEVER THE INPUT: true; the input reads as it did. -/
def fnExactCompareFractionsSpec : ChangeSpec := { name := "fnExactCompareFractions", fn := fun _ => fun
  | [d1, d2] => { results := [.lit (.bool true)], args := [d1, d2] }
  | _ => none }
def fnExactCompareFractionsRow : OpenClaim := { program := "ytpnifnpbolieoaa", sum := "99824652c89dd3730fdb610669811d3759e8f632853f457b9e878a387fd0a16a", func := "loop.example/g01121/laws.FnExactCompareFractions", spec := "fnExactCompareFractions", inPlace := ["math/bits.Add64"], apart := false }
def FnExactCompareFractionsSaid : Prop := fnExactCompareFractionsRow.holds Try.pinned (OpenSpec.ofChange fnExactCompareFractionsSpec)

/-- ITS FALSE NEIGHBOUR: 'it returns false'. Refute it at one input. -/
def fnExactCompareFractionsWrong : ChangeSpec := { name := "fnExactCompareFractions", fn := fun _ => fun
  | [d1, d2] => { results := [.lit (.bool false)], args := [d1, d2] }
  | _ => none }
def FnExactCompareFractionsWrongFalsely : Prop := fnExactCompareFractionsRow.holds Try.pinned (OpenSpec.ofChange fnExactCompareFractionsWrong)

/-- 'laws.FnExactSumFractions': WHATEVER THE INPUT: true; the input reads as it did. -/
def fnExactSumFractionsSpec : ChangeSpec := { name := "fnExactSumFractions", fn := fun _ => fun
  | [d] => { results := [.lit (.bool true)], args := [d] }
  | _ => none }
def fnExactSumFractionsRow : OpenClaim := { program := "ytpnifnpbolieoaa", sum := "99824652c89dd3730fdb610669811d3759e8f632853f457b9e878a387fd0a16a", func := "loop.example/g01121/laws.FnExactSumFractions", spec := "fnExactSumFractions", inPlace := ["math/bits.Add64"], named := ["math/bits.divideError", "math/bits.overflowError"], apart := false }
def FnExactSumFractionsSaid : Prop := fnExactSumFractionsRow.holds Try.pinned (OpenSpec.ofChange fnExactSumFractionsSpec)

/-- ITS FALSE NEIGHBOUR: 'it returns false'. Refute it at one input. -/
def fnExactSumFractionsWrong : ChangeSpec := { name := "fnExactSumFractions", fn := fun _ => fun
  | [d] => { results := [.lit (.bool false)], args := [d] }
  | _ => none }
def FnExactSumFractionsWrongFalsely : Prop := fnExactSumFractionsRow.holds Try.pinned (OpenSpec.ofChange fnExactSumFractionsWrong)

/-- 'laws.FnAgreements': WHATEVER THE INPUT: true; the input reads as it did. -/
def fnAgreementsSpec : ChangeSpec := { name := "fnAgreements", fn := fun _ => fun
  | [d1, d2] => { results := [.lit (.bool true)], args := [d1, d2] }
  | _ => none }
def fnAgreementsRow : OpenClaim := { program := "ytpnifnpbolieoaa", sum := "99824652c89dd3730fdb610669811d3759e8f632853f457b9e878a387fd0a16a", func := "loop.example/g01121/laws.FnAgreements", spec := "fnAgreements", unfollowed := true, recurses := true, apart := false }
def FnAgreementsSaid : Prop := fnAgreementsRow.holds Try.pinned (OpenSpec.ofChange fnAgreementsSpec)

/-- ITS FALSE NEIGHBOUR: 'it returns false'. Refute it at one input. -/
def fnAgreementsWrong : ChangeSpec := { name := "fnAgreements", fn := fun _ => fun
  | [d1, d2] => { results := [.lit (.bool false)], args := [d1, d2] }
  | _ => none }
def FnAgreementsWrongFalsely : Prop := fnAgreementsRow.holds Try.pinned (OpenSpec.ofChange fnAgreementsWrong)

/-- 'laws.FnAllWords': WHATEVER THE INPUT: true; the input reads as it did. -/
def fnAllWordsSpec : ChangeSpec := { name := "fnAllWords", fn := fun _ => fun
  | [d1, d2] => { results := [.lit (.bool true)], args := [d1, d2] }
  | _ => none }
def fnAllWordsRow : OpenClaim := { program := "ytpnifnpbolieoaa", sum := "99824652c89dd3730fdb610669811d3759e8f632853f457b9e878a387fd0a16a", func := "loop.example/g01121/laws.FnAllWords", spec := "fnAllWords", unfollowed := true, recurses := true, apart := false }
def FnAllWordsSaid : Prop := fnAllWordsRow.holds Try.pinned (OpenSpec.ofChange fnAllWordsSpec)

/-- ITS FALSE NEIGHBOUR: 'it returns false'. Refute it at one input. -/
def fnAllWordsWrong : ChangeSpec := { name := "fnAllWords", fn := fun _ => fun
  | [d1, d2] => { results := [.lit (.bool false)], args := [d1, d2] }
  | _ => none }
def FnAllWordsWrongFalsely : Prop := fnAllWordsRow.holds Try.pinned (OpenSpec.ofChange fnAllWordsWrong)

/-- 'laws.FnExactLeastAllWords': WHATEVER THE INPUT: true; the input reads as it did. -/
def fnExactLeastAllWordsSpec : ChangeSpec := { name := "fnExactLeastAllWords", fn := fun _ => fun
  | [d] => { results := [.lit (.bool true)], args := [d] }
  | _ => none }
def fnExactLeastAllWordsRow : OpenClaim := { program := "ytpnifnpbolieoaa", sum := "99824652c89dd3730fdb610669811d3759e8f632853f457b9e878a387fd0a16a", func := "loop.example/g01121/laws.FnExactLeastAllWords", spec := "fnExactLeastAllWords", apart := false }
def FnExactLeastAllWordsSaid : Prop := fnExactLeastAllWordsRow.holds Try.pinned (OpenSpec.ofChange fnExactLeastAllWordsSpec)

/-- ITS FALSE NEIGHBOUR: 'it returns false'. Refute it at one input. -/
def fnExactLeastAllWordsWrong : ChangeSpec := { name := "fnExactLeastAllWords", fn := fun _ => fun
  | [d] => { results := [.lit (.bool false)], args := [d] }
  | _ => none }
def FnExactLeastAllWordsWrongFalsely : Prop := fnExactLeastAllWordsRow.holds Try.pinned (OpenSpec.ofChange fnExactLeastAllWordsWrong)

/-- 'laws.FnPolyFactors': WHATEVER THE INPUT: true; the input reads as it did. -/
def fnPolyFactorsSpec : ChangeSpec := { name := "fnPolyFactors", fn := fun _ => fun
  | [d1, d2] => { results := [.lit (.bool true)], args := [d1, d2] }
  | _ => none }
def fnPolyFactorsRow : OpenClaim := { program := "ytpnifnpbolieoaa", sum := "99824652c89dd3730fdb610669811d3759e8f632853f457b9e878a387fd0a16a", func := "loop.example/g01121/laws.FnPolyFactors", spec := "fnPolyFactors", apart := false }
def FnPolyFactorsSaid : Prop := fnPolyFactorsRow.holds Try.pinned (OpenSpec.ofChange fnPolyFactorsSpec)

/-- ITS FALSE NEIGHBOUR: 'it returns false'. Refute it at one input. -/
def fnPolyFactorsWrong : ChangeSpec := { name := "fnPolyFactors", fn := fun _ => fun
  | [d1, d2] => { results := [.lit (.bool false)], args := [d1, d2] }
  | _ => none }
def FnPolyFactorsWrongFalsely : Prop := fnPolyFactorsRow.holds Try.pinned (OpenSpec.ofChange fnPolyFactorsWrong)

/- THE SECOND FORM. 'bulk': how many values and letters a reading holds, each counted each time it is reached (what is shared counts as often as it is met; a slice's spare places count too). A statement '..UptoSaid' is the law's where the arguments, and the package variables that the reading takes, are together of bulk at most 1048576: NARROWER than '..Said'. Prove '..Said' where nothing that the law and all that it calls make is longer than what came in: it says more and counts as full. Else prove '..UptoSaid'. A law counts once. -/
mutual
def uptoBulk {H : Type} : DataW H → Nat
  | .lit (.string bytes) => bytes.length + 1
  | .lit _ => 1
  | .nil => 1
  | .ptr d => uptoBulk d + 1
  | .slice elems spare => uptoBulkAll elems + uptoBulkAll spare + 1
  | .agg parts => uptoBulkAll parts + 1
  | .iface _ d => uptoBulk d + 1
  | .map entries => uptoBulkEntries entries + 1
  | .held _ => 1
def uptoBulkAll {H : Type} : List (DataW H) → Nat
  | [] => 0
  | d :: r => uptoBulk d + uptoBulkAll r
def uptoBulkEntries {H : Type} : List (Lit × DataW H) → Nat
  | [] => 0
  | x :: r => uptoBulkEntry x + uptoBulkEntries r
def uptoBulkEntry {H : Type} : Lit × DataW H → Nat
  | (.string bytes, d) => bytes.length + uptoBulk d + 1
  | (_, d) => uptoBulk d + 1
 end
def uptoSmall : (H : Type) → List (DataW H) → Bool := fun _ ds => decide (uptoBulkAll ds ≤ 1048576)
def OpenSpec.upto (s : _root_.Go.ChangeSpec) : _root_.Go.OpenSpec := { _root_.Go.OpenSpec.ofChange s with cond := some uptoSmall }

/-- 'laws.FnExactModulusFrom', WHERE WHAT IT READS IS OF BULK AT MOST 1048576: true; the input reads as it did. -/
def fnExactModulusFromUptoRow : OpenClaim := { program := "ytpnifnpbolieoaa", sum := "99824652c89dd3730fdb610669811d3759e8f632853f457b9e878a387fd0a16a", func := "loop.example/g01121/laws.FnExactModulusFrom", spec := "fnExactModulusFrom", apart := false, narrowed := true }
def FnExactModulusFromUptoSaid : Prop := fnExactModulusFromUptoRow.holds Try.pinned (OpenSpec.upto fnExactModulusFromSpec)

/-- 'laws.FnExactFactorsFrom', WHERE WHAT IT READS IS OF BULK AT MOST 1048576: true; the input reads as it did. -/
def fnExactFactorsFromUptoRow : OpenClaim := { program := "ytpnifnpbolieoaa", sum := "99824652c89dd3730fdb610669811d3759e8f632853f457b9e878a387fd0a16a", func := "loop.example/g01121/laws.FnExactFactorsFrom", spec := "fnExactFactorsFrom", apart := false, narrowed := true }
def FnExactFactorsFromUptoSaid : Prop := fnExactFactorsFromUptoRow.holds Try.pinned (OpenSpec.upto fnExactFactorsFromSpec)

/-- 'laws.FnExactAddFractions', WHERE WHAT IT READS IS OF BULK AT MOST 1048576: true; the input reads as it did. -/
def fnExactAddFractionsUptoRow : OpenClaim := { program := "ytpnifnpbolieoaa", sum := "99824652c89dd3730fdb610669811d3759e8f632853f457b9e878a387fd0a16a", func := "loop.example/g01121/laws.FnExactAddFractions", spec := "fnExactAddFractions", inPlace := ["math/bits.Add64"], named := ["math/bits.divideError", "math/bits.overflowError"], apart := false, narrowed := true }
def FnExactAddFractionsUptoSaid : Prop := fnExactAddFractionsUptoRow.holds Try.pinned (OpenSpec.upto fnExactAddFractionsSpec)

/-- 'laws.FnExactSubFractions', WHERE WHAT IT READS IS OF BULK AT MOST 1048576: true; the input reads as it did. -/
def fnExactSubFractionsUptoRow : OpenClaim := { program := "ytpnifnpbolieoaa", sum := "99824652c89dd3730fdb610669811d3759e8f632853f457b9e878a387fd0a16a", func := "loop.example/g01121/laws.FnExactSubFractions", spec := "fnExactSubFractions", inPlace := ["math/bits.Add64"], named := ["math/bits.divideError", "math/bits.overflowError"], apart := false, narrowed := true }
def FnExactSubFractionsUptoSaid : Prop := fnExactSubFractionsUptoRow.holds Try.pinned (OpenSpec.upto fnExactSubFractionsSpec)

/-- 'laws.FnExactMulFractions', WHERE WHAT IT READS IS OF BULK AT MOST 1048576: true; the input reads as it did. -/
def fnExactMulFractionsUptoRow : OpenClaim := { program := "ytpnifnpbolieoaa", sum := "99824652c89dd3730fdb610669811d3759e8f632853f457b9e878a387fd0a16a", func := "loop.example/g01121/laws.FnExactMulFractions", spec := "fnExactMulFractions", inPlace := ["math/bits.Add64"], apart := false, narrowed := true }
def FnExactMulFractionsUptoSaid : Prop := fnExactMulFractionsUptoRow.holds Try.pinned (OpenSpec.upto fnExactMulFractionsSpec)

/-- 'laws.FnExactDivFractions', WHERE WHAT IT READS IS OF BULK AT MOST 1048576: true; the input reads as it did. -/
def fnExactDivFractionsUptoRow : OpenClaim := { program := "ytpnifnpbolieoaa", sum := "99824652c89dd3730fdb610669811d3759e8f632853f457b9e878a387fd0a16a", func := "loop.example/g01121/laws.FnExactDivFractions", spec := "fnExactDivFractions", inPlace := ["math/bits.Add64"], apart := false, narrowed := true }
def FnExactDivFractionsUptoSaid : Prop := fnExactDivFractionsUptoRow.holds Try.pinned (OpenSpec.upto fnExactDivFractionsSpec)

/-- 'laws.FnExactCompareFractions', WHERE WHAT IT READS IS OF BULK AT MOST 1048576: true; the input reads as it did. -/
def fnExactCompareFractionsUptoRow : OpenClaim := { program := "ytpnifnpbolieoaa", sum := "99824652c89dd3730fdb610669811d3759e8f632853f457b9e878a387fd0a16a", func := "loop.example/g01121/laws.FnExactCompareFractions", spec := "fnExactCompareFractions", inPlace := ["math/bits.Add64"], apart := false, narrowed := true }
def FnExactCompareFractionsUptoSaid : Prop := fnExactCompareFractionsUptoRow.holds Try.pinned (OpenSpec.upto fnExactCompareFractionsSpec)

/-- 'laws.FnExactSumFractions', WHERE WHAT IT READS IS OF BULK AT MOST 1048576: true; the input reads as it did. -/
def fnExactSumFractionsUptoRow : OpenClaim := { program := "ytpnifnpbolieoaa", sum := "99824652c89dd3730fdb610669811d3759e8f632853f457b9e878a387fd0a16a", func := "loop.example/g01121/laws.FnExactSumFractions", spec := "fnExactSumFractions", inPlace := ["math/bits.Add64"], named := ["math/bits.divideError", "math/bits.overflowError"], apart := false, narrowed := true }
def FnExactSumFractionsUptoSaid : Prop := fnExactSumFractionsUptoRow.holds Try.pinned (OpenSpec.upto fnExactSumFractionsSpec)

/-- 'laws.FnAgreements', WHERE WHAT IT READS IS OF BULK AT MOST 1048576: true; the input reads as it did. -/
def fnAgreementsUptoRow : OpenClaim := { program := "ytpnifnpbolieoaa", sum := "99824652c89dd3730fdb610669811d3759e8f632853f457b9e878a387fd0a16a", func := "loop.example/g01121/laws.FnAgreements", spec := "fnAgreements", unfollowed := true, recurses := true, apart := false, narrowed := true }
def FnAgreementsUptoSaid : Prop := fnAgreementsUptoRow.holds Try.pinned (OpenSpec.upto fnAgreementsSpec)

/-- 'laws.FnAllWords', WHERE WHAT IT READS IS OF BULK AT MOST 1048576: true; the input reads as it did. -/
def fnAllWordsUptoRow : OpenClaim := { program := "ytpnifnpbolieoaa", sum := "99824652c89dd3730fdb610669811d3759e8f632853f457b9e878a387fd0a16a", func := "loop.example/g01121/laws.FnAllWords", spec := "fnAllWords", unfollowed := true, recurses := true, apart := false, narrowed := true }
def FnAllWordsUptoSaid : Prop := fnAllWordsUptoRow.holds Try.pinned (OpenSpec.upto fnAllWordsSpec)

/-- 'laws.FnExactLeastAllWords', WHERE WHAT IT READS IS OF BULK AT MOST 1048576: true; the input reads as it did. -/
def fnExactLeastAllWordsUptoRow : OpenClaim := { program := "ytpnifnpbolieoaa", sum := "99824652c89dd3730fdb610669811d3759e8f632853f457b9e878a387fd0a16a", func := "loop.example/g01121/laws.FnExactLeastAllWords", spec := "fnExactLeastAllWords", apart := false, narrowed := true }
def FnExactLeastAllWordsUptoSaid : Prop := fnExactLeastAllWordsUptoRow.holds Try.pinned (OpenSpec.upto fnExactLeastAllWordsSpec)

/-- 'laws.FnPolyFactors', WHERE WHAT IT READS IS OF BULK AT MOST 1048576: true; the input reads as it did. -/
def fnPolyFactorsUptoRow : OpenClaim := { program := "ytpnifnpbolieoaa", sum := "99824652c89dd3730fdb610669811d3759e8f632853f457b9e878a387fd0a16a", func := "loop.example/g01121/laws.FnPolyFactors", spec := "fnPolyFactors", apart := false, narrowed := true }
def FnPolyFactorsUptoSaid : Prop := fnPolyFactorsUptoRow.holds Try.pinned (OpenSpec.upto fnPolyFactorsSpec)

end Rows
end Go.Proofs.Ytpnifnpbolieoaa
