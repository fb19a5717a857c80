/-
  No cell of these rows narrows 'for every input' (looked for: loops, veiled, ifaces, maps, wideKeys, modest, calm, conditions, laid).
  DERIVED. THE GIVEN ROWS OF THIS SEAT. 12 by the template 'for every input the law returns true; each argument reads behind the call as it read before'; 0 by the template 'total and deterministic' (their statements: YtapccbplmbbnnabTotals.lean).
  GIVEN WITH THE SEED: the statements are not yours to turn. If you find one false, say at which input.
  Laid BY PROGRAM, IN A SANDBOX (cutbox-rows.mjs): the forced cells as the released guide's own fill.sh prints them over the translation eec4359c5c214d2e… (all of the seat's roots in one cut). By AI agents, Wed Nov 11 2026. No macro, syntax, notation, axiom, sorry.
-/
import Derived.Test.YtapccbplmbbnnabChecked
import GoSem.Claim
import GoSem.ClaimJoined
import GoSem.ClaimMapViews
import Derived.JoinedTies
import Derived.KernelRfl
namespace Go.Proofs.Ytapccbplmbbnnab
/- THE CELL 'sum', in the pinned program and in every row, IS THE sha256 OF THE DUMP (.gsa) THAT YtapccbplmbbnnabProg.lean LOADS. Nothing in Lean hashes anything: it is a label: what it is worth is what the hold of that sum in a sandbox is worth. -/
noncomputable def Try.pinned : Pinned := { name := "ytapccbplmbbnnab", sum := "eec4359c5c214d2eacdc892f63be533131f55c8e5ce72ed37c48e4532a427e72", checked := Try.checked }
namespace Rows
def none {H : Type} : Left H := { results := [], args := [] }

/-- 'laws.FnBits': WHATEVER THE INPUT: true; the input reads as it did. -/
def fnBitsSpec : ChangeSpec := { name := "fnBits", fn := fun _ => fun
  | [d1, d2] => { results := [.lit (.bool true)], args := [d1, d2] }
  | _ => none }
def fnBitsRow : OpenClaim := { program := "ytapccbplmbbnnab", sum := "eec4359c5c214d2eacdc892f63be533131f55c8e5ce72ed37c48e4532a427e72", func := "loop.example/g01121/laws.FnBits", spec := "fnBits", inPlace := ["internal/bytealg.CountString", "internal/bytealg.IndexByteString", "internal/bytealg.IndexString"], named := ["internal/bytealg.MaxLen"], apart := false }
def FnBitsSaid : Prop := fnBitsRow.holds Try.pinned (OpenSpec.ofChange fnBitsSpec)

/-- ITS FALSE NEIGHBOUR: 'it returns false'. Refute it at one input. -/
def fnBitsWrong : ChangeSpec := { name := "fnBits", fn := fun _ => fun
  | [d1, d2] => { results := [.lit (.bool false)], args := [d1, d2] }
  | _ => none }
def FnBitsWrongFalsely : Prop := fnBitsRow.holds Try.pinned (OpenSpec.ofChange fnBitsWrong)

/-- 'laws.FnRegisterSteps': WHATEVER THE INPUT: true; the input reads as it did. -/
def fnRegisterStepsSpec : ChangeSpec := { name := "fnRegisterSteps", fn := fun _ => fun
  | [d1, d2] => { results := [.lit (.bool true)], args := [d1, d2] }
  | _ => none }
def fnRegisterStepsRow : OpenClaim := { program := "ytapccbplmbbnnab", sum := "eec4359c5c214d2eacdc892f63be533131f55c8e5ce72ed37c48e4532a427e72", func := "loop.example/g01121/laws.FnRegisterSteps", spec := "fnRegisterSteps", apart := false }
def FnRegisterStepsSaid : Prop := fnRegisterStepsRow.holds Try.pinned (OpenSpec.ofChange fnRegisterStepsSpec)

/-- ITS FALSE NEIGHBOUR: 'it returns false'. Refute it at one input. -/
def fnRegisterStepsWrong : ChangeSpec := { name := "fnRegisterSteps", fn := fun _ => fun
  | [d1, d2] => { results := [.lit (.bool false)], args := [d1, d2] }
  | _ => none }
def FnRegisterStepsWrongFalsely : Prop := fnRegisterStepsRow.holds Try.pinned (OpenSpec.ofChange fnRegisterStepsWrong)

/-- 'laws.FnExactJumpRegister': WHATEVER THE INPUT: true; the input reads as it did. -/
def fnExactJumpRegisterSpec : ChangeSpec := { name := "fnExactJumpRegister", fn := fun _ => fun
  | [d1, d2, d3] => { results := [.lit (.bool true)], args := [d1, d2, d3] }
  | _ => none }
def fnExactJumpRegisterRow : OpenClaim := { program := "ytapccbplmbbnnab", sum := "eec4359c5c214d2eacdc892f63be533131f55c8e5ce72ed37c48e4532a427e72", func := "loop.example/g01121/laws.FnExactJumpRegister", spec := "fnExactJumpRegister", apart := false }
def FnExactJumpRegisterSaid : Prop := fnExactJumpRegisterRow.holds Try.pinned (OpenSpec.ofChange fnExactJumpRegisterSpec)

/-- ITS FALSE NEIGHBOUR: 'it returns false'. Refute it at one input. -/
def fnExactJumpRegisterWrong : ChangeSpec := { name := "fnExactJumpRegister", fn := fun _ => fun
  | [d1, d2, d3] => { results := [.lit (.bool false)], args := [d1, d2, d3] }
  | _ => none }
def FnExactJumpRegisterWrongFalsely : Prop := fnExactJumpRegisterRow.holds Try.pinned (OpenSpec.ofChange fnExactJumpRegisterWrong)

/-- 'laws.FnExactRegisterCycle': WHATEVER THE INPUT: true; the input reads as it did. -/
def fnExactRegisterCycleSpec : ChangeSpec := { name := "fnExactRegisterCycle", fn := fun _ => fun
  | [d1, d2] => { results := [.lit (.bool true)], args := [d1, d2] }
  | _ => none }
def fnExactRegisterCycleRow : OpenClaim := { program := "ytapccbplmbbnnab", sum := "eec4359c5c214d2eacdc892f63be533131f55c8e5ce72ed37c48e4532a427e72", func := "loop.example/g01121/laws.FnExactRegisterCycle", spec := "fnExactRegisterCycle", unfollowed := true, recurses := true, apart := false }
def FnExactRegisterCycleSaid : Prop := fnExactRegisterCycleRow.holds Try.pinned (OpenSpec.ofChange fnExactRegisterCycleSpec)

/-- ITS FALSE NEIGHBOUR: 'it returns false'. Refute it at one input. -/
def fnExactRegisterCycleWrong : ChangeSpec := { name := "fnExactRegisterCycle", fn := fun _ => fun
  | [d1, d2] => { results := [.lit (.bool false)], args := [d1, d2] }
  | _ => none }
def FnExactRegisterCycleWrongFalsely : Prop := fnExactRegisterCycleRow.holds Try.pinned (OpenSpec.ofChange fnExactRegisterCycleWrong)

/-- 'laws.FnPolyFactors': WHATEVER THE INPUT: true; the input reads as it did. -/
def fnPolyFactorsSpec : ChangeSpec := { name := "fnPolyFactors", fn := fun _ => fun
  | [d1, d2] => { results := [.lit (.bool true)], args := [d1, d2] }
  | _ => none }
def fnPolyFactorsRow : OpenClaim := { program := "ytapccbplmbbnnab", sum := "eec4359c5c214d2eacdc892f63be533131f55c8e5ce72ed37c48e4532a427e72", func := "loop.example/g01121/laws.FnPolyFactors", spec := "fnPolyFactors", apart := false }
def FnPolyFactorsSaid : Prop := fnPolyFactorsRow.holds Try.pinned (OpenSpec.ofChange fnPolyFactorsSpec)

/-- ITS FALSE NEIGHBOUR: 'it returns false'. Refute it at one input. -/
def fnPolyFactorsWrong : ChangeSpec := { name := "fnPolyFactors", fn := fun _ => fun
  | [d1, d2] => { results := [.lit (.bool false)], args := [d1, d2] }
  | _ => none }
def FnPolyFactorsWrongFalsely : Prop := fnPolyFactorsRow.holds Try.pinned (OpenSpec.ofChange fnPolyFactorsWrong)

/-- 'laws.FnPowers': WHATEVER THE INPUT: true; the input reads as it did. -/
def fnPowersSpec : ChangeSpec := { name := "fnPowers", fn := fun _ => fun
  | [d1, d2] => { results := [.lit (.bool true)], args := [d1, d2] }
  | _ => none }
def fnPowersRow : OpenClaim := { program := "ytapccbplmbbnnab", sum := "eec4359c5c214d2eacdc892f63be533131f55c8e5ce72ed37c48e4532a427e72", func := "loop.example/g01121/laws.FnPowers", spec := "fnPowers", unfollowed := true, recurses := true, apart := false }
def FnPowersSaid : Prop := fnPowersRow.holds Try.pinned (OpenSpec.ofChange fnPowersSpec)

/-- ITS FALSE NEIGHBOUR: 'it returns false'. Refute it at one input. -/
def fnPowersWrong : ChangeSpec := { name := "fnPowers", fn := fun _ => fun
  | [d1, d2] => { results := [.lit (.bool false)], args := [d1, d2] }
  | _ => none }
def FnPowersWrongFalsely : Prop := fnPowersRow.holds Try.pinned (OpenSpec.ofChange fnPowersWrong)

/-- 'laws.FnExactFactorsOf': WHATEVER THE INPUT: true; the input reads as it did. -/
def fnExactFactorsOfSpec : ChangeSpec := { name := "fnExactFactorsOf", fn := fun _ => fun
  | [d] => { results := [.lit (.bool true)], args := [d] }
  | _ => none }
def fnExactFactorsOfRow : OpenClaim := { program := "ytapccbplmbbnnab", sum := "eec4359c5c214d2eacdc892f63be533131f55c8e5ce72ed37c48e4532a427e72", func := "loop.example/g01121/laws.FnExactFactorsOf", spec := "fnExactFactorsOf", apart := false }
def FnExactFactorsOfSaid : Prop := fnExactFactorsOfRow.holds Try.pinned (OpenSpec.ofChange fnExactFactorsOfSpec)

/-- ITS FALSE NEIGHBOUR: 'it returns false'. Refute it at one input. -/
def fnExactFactorsOfWrong : ChangeSpec := { name := "fnExactFactorsOf", fn := fun _ => fun
  | [d] => { results := [.lit (.bool false)], args := [d] }
  | _ => none }
def FnExactFactorsOfWrongFalsely : Prop := fnExactFactorsOfRow.holds Try.pinned (OpenSpec.ofChange fnExactFactorsOfWrong)

/-- 'laws.FnExactOrderOfX': WHATEVER THE INPUT: true; the input reads as it did. -/
def fnExactOrderOfXSpec : ChangeSpec := { name := "fnExactOrderOfX", fn := fun _ => fun
  | [d] => { results := [.lit (.bool true)], args := [d] }
  | _ => none }
def fnExactOrderOfXRow : OpenClaim := { program := "ytapccbplmbbnnab", sum := "eec4359c5c214d2eacdc892f63be533131f55c8e5ce72ed37c48e4532a427e72", func := "loop.example/g01121/laws.FnExactOrderOfX", spec := "fnExactOrderOfX", unfollowed := true, recurses := true, apart := false }
def FnExactOrderOfXSaid : Prop := fnExactOrderOfXRow.holds Try.pinned (OpenSpec.ofChange fnExactOrderOfXSpec)

/-- ITS FALSE NEIGHBOUR: 'it returns false'. Refute it at one input. -/
def fnExactOrderOfXWrong : ChangeSpec := { name := "fnExactOrderOfX", fn := fun _ => fun
  | [d] => { results := [.lit (.bool false)], args := [d] }
  | _ => none }
def FnExactOrderOfXWrongFalsely : Prop := fnExactOrderOfXRow.holds Try.pinned (OpenSpec.ofChange fnExactOrderOfXWrong)

/-- 'laws.FnExactIsPrimitive': WHATEVER THE INPUT: true; the input reads as it did. -/
def fnExactIsPrimitiveSpec : ChangeSpec := { name := "fnExactIsPrimitive", fn := fun _ => fun
  | [d] => { results := [.lit (.bool true)], args := [d] }
  | _ => none }
def fnExactIsPrimitiveRow : OpenClaim := { program := "ytapccbplmbbnnab", sum := "eec4359c5c214d2eacdc892f63be533131f55c8e5ce72ed37c48e4532a427e72", func := "loop.example/g01121/laws.FnExactIsPrimitive", spec := "fnExactIsPrimitive", unfollowed := true, recurses := true, apart := false }
def FnExactIsPrimitiveSaid : Prop := fnExactIsPrimitiveRow.holds Try.pinned (OpenSpec.ofChange fnExactIsPrimitiveSpec)

/-- ITS FALSE NEIGHBOUR: 'it returns false'. Refute it at one input. -/
def fnExactIsPrimitiveWrong : ChangeSpec := { name := "fnExactIsPrimitive", fn := fun _ => fun
  | [d] => { results := [.lit (.bool false)], args := [d] }
  | _ => none }
def FnExactIsPrimitiveWrongFalsely : Prop := fnExactIsPrimitiveRow.holds Try.pinned (OpenSpec.ofChange fnExactIsPrimitiveWrong)

/-- 'laws.FnExactLeastAllWords': WHATEVER THE INPUT: true; the input reads as it did. -/
def fnExactLeastAllWordsSpec : ChangeSpec := { name := "fnExactLeastAllWords", fn := fun _ => fun
  | [d] => { results := [.lit (.bool true)], args := [d] }
  | _ => none }
def fnExactLeastAllWordsRow : OpenClaim := { program := "ytapccbplmbbnnab", sum := "eec4359c5c214d2eacdc892f63be533131f55c8e5ce72ed37c48e4532a427e72", func := "loop.example/g01121/laws.FnExactLeastAllWords", spec := "fnExactLeastAllWords", apart := false }
def FnExactLeastAllWordsSaid : Prop := fnExactLeastAllWordsRow.holds Try.pinned (OpenSpec.ofChange fnExactLeastAllWordsSpec)

/-- ITS FALSE NEIGHBOUR: 'it returns false'. Refute it at one input. -/
def fnExactLeastAllWordsWrong : ChangeSpec := { name := "fnExactLeastAllWords", fn := fun _ => fun
  | [d] => { results := [.lit (.bool false)], args := [d] }
  | _ => none }
def FnExactLeastAllWordsWrongFalsely : Prop := fnExactLeastAllWordsRow.holds Try.pinned (OpenSpec.ofChange fnExactLeastAllWordsWrong)

/-- 'laws.FnExactAgreementsOf': WHATEVER THE INPUT: true; the input reads as it did. -/
def fnExactAgreementsOfSpec : ChangeSpec := { name := "fnExactAgreementsOf", fn := fun _ => fun
  | [d] => { results := [.lit (.bool true)], args := [d] }
  | _ => none }
def fnExactAgreementsOfRow : OpenClaim := { program := "ytapccbplmbbnnab", sum := "eec4359c5c214d2eacdc892f63be533131f55c8e5ce72ed37c48e4532a427e72", func := "loop.example/g01121/laws.FnExactAgreementsOf", spec := "fnExactAgreementsOf", apart := false }
def FnExactAgreementsOfSaid : Prop := fnExactAgreementsOfRow.holds Try.pinned (OpenSpec.ofChange fnExactAgreementsOfSpec)

/-- ITS FALSE NEIGHBOUR: 'it returns false'. Refute it at one input. -/
def fnExactAgreementsOfWrong : ChangeSpec := { name := "fnExactAgreementsOf", fn := fun _ => fun
  | [d] => { results := [.lit (.bool false)], args := [d] }
  | _ => none }
def FnExactAgreementsOfWrongFalsely : Prop := fnExactAgreementsOfRow.holds Try.pinned (OpenSpec.ofChange fnExactAgreementsOfWrong)

/-- 'laws.FnAgreements': WHATEVER THE INPUT: true; the input reads as it did. -/
def fnAgreementsSpec : ChangeSpec := { name := "fnAgreements", fn := fun _ => fun
  | [d1, d2] => { results := [.lit (.bool true)], args := [d1, d2] }
  | _ => none }
def fnAgreementsRow : OpenClaim := { program := "ytapccbplmbbnnab", sum := "eec4359c5c214d2eacdc892f63be533131f55c8e5ce72ed37c48e4532a427e72", func := "loop.example/g01121/laws.FnAgreements", spec := "fnAgreements", unfollowed := true, recurses := true, apart := false }
def FnAgreementsSaid : Prop := fnAgreementsRow.holds Try.pinned (OpenSpec.ofChange fnAgreementsSpec)

/-- ITS FALSE NEIGHBOUR: 'it returns false'. Refute it at one input. -/
def fnAgreementsWrong : ChangeSpec := { name := "fnAgreements", fn := fun _ => fun
  | [d1, d2] => { results := [.lit (.bool false)], args := [d1, d2] }
  | _ => none }
def FnAgreementsWrongFalsely : Prop := fnAgreementsRow.holds Try.pinned (OpenSpec.ofChange fnAgreementsWrong)

/- THE SECOND FORM. 'bulk': how many values and letters a reading holds, each counted each time it is reached (what is shared counts as often as it is met; a slice's spare places count too). A statement '..UptoSaid' is the law's where the arguments, and the package variables that the reading takes, are together of bulk at most 1048576: NARROWER than '..Said'. Prove '..Said' where nothing that the law and all that it calls make is longer than what came in: it says more and counts as full. Else prove '..UptoSaid'. A law counts once. -/
mutual
def uptoBulk {H : Type} : DataW H → Nat
  | .lit (.string bytes) => bytes.length + 1
  | .lit _ => 1
  | .nil => 1
  | .ptr d => uptoBulk d + 1
  | .slice elems spare => uptoBulkAll elems + uptoBulkAll spare + 1
  | .agg parts => uptoBulkAll parts + 1
  | .iface _ d => uptoBulk d + 1
  | .map entries => uptoBulkEntries entries + 1
  | .held _ => 1
def uptoBulkAll {H : Type} : List (DataW H) → Nat
  | [] => 0
  | d :: r => uptoBulk d + uptoBulkAll r
def uptoBulkEntries {H : Type} : List (Lit × DataW H) → Nat
  | [] => 0
  | x :: r => uptoBulkEntry x + uptoBulkEntries r
def uptoBulkEntry {H : Type} : Lit × DataW H → Nat
  | (.string bytes, d) => bytes.length + uptoBulk d + 1
  | (_, d) => uptoBulk d + 1
 end
def uptoSmall : (H : Type) → List (DataW H) → Bool := fun _ ds => decide (uptoBulkAll ds ≤ 1048576)
def OpenSpec.upto (s : _root_.Go.ChangeSpec) : _root_.Go.OpenSpec := { _root_.Go.OpenSpec.ofChange s with cond := some uptoSmall }

/-- 'laws.FnBits', WHERE WHAT IT READS IS OF BULK AT MOST 1048576: true; the input reads as it did. -/
def fnBitsUptoRow : OpenClaim := { program := "ytapccbplmbbnnab", sum := "eec4359c5c214d2eacdc892f63be533131f55c8e5ce72ed37c48e4532a427e72", func := "loop.example/g01121/laws.FnBits", spec := "fnBits", inPlace := ["internal/bytealg.CountString", "internal/bytealg.IndexByteString", "internal/bytealg.IndexString"], named := ["internal/bytealg.MaxLen"], apart := false, narrowed := true }
def FnBitsUptoSaid : Prop := fnBitsUptoRow.holds Try.pinned (OpenSpec.upto fnBitsSpec)

/-- 'laws.FnRegisterSteps', WHERE WHAT IT READS IS OF BULK AT MOST 1048576: true; the input reads as it did. -/
def fnRegisterStepsUptoRow : OpenClaim := { program := "ytapccbplmbbnnab", sum := "eec4359c5c214d2eacdc892f63be533131f55c8e5ce72ed37c48e4532a427e72", func := "loop.example/g01121/laws.FnRegisterSteps", spec := "fnRegisterSteps", apart := false, narrowed := true }
def FnRegisterStepsUptoSaid : Prop := fnRegisterStepsUptoRow.holds Try.pinned (OpenSpec.upto fnRegisterStepsSpec)

/-- 'laws.FnExactJumpRegister', WHERE WHAT IT READS IS OF BULK AT MOST 1048576: true; the input reads as it did. -/
def fnExactJumpRegisterUptoRow : OpenClaim := { program := "ytapccbplmbbnnab", sum := "eec4359c5c214d2eacdc892f63be533131f55c8e5ce72ed37c48e4532a427e72", func := "loop.example/g01121/laws.FnExactJumpRegister", spec := "fnExactJumpRegister", apart := false, narrowed := true }
def FnExactJumpRegisterUptoSaid : Prop := fnExactJumpRegisterUptoRow.holds Try.pinned (OpenSpec.upto fnExactJumpRegisterSpec)

/-- 'laws.FnExactRegisterCycle', WHERE WHAT IT READS IS OF BULK AT MOST 1048576: true; the input reads as it did. -/
def fnExactRegisterCycleUptoRow : OpenClaim := { program := "ytapccbplmbbnnab", sum := "eec4359c5c214d2eacdc892f63be533131f55c8e5ce72ed37c48e4532a427e72", func := "loop.example/g01121/laws.FnExactRegisterCycle", spec := "fnExactRegisterCycle", unfollowed := true, recurses := true, apart := false, narrowed := true }
def FnExactRegisterCycleUptoSaid : Prop := fnExactRegisterCycleUptoRow.holds Try.pinned (OpenSpec.upto fnExactRegisterCycleSpec)

/-- 'laws.FnPolyFactors', WHERE WHAT IT READS IS OF BULK AT MOST 1048576: true; the input reads as it did. -/
def fnPolyFactorsUptoRow : OpenClaim := { program := "ytapccbplmbbnnab", sum := "eec4359c5c214d2eacdc892f63be533131f55c8e5ce72ed37c48e4532a427e72", func := "loop.example/g01121/laws.FnPolyFactors", spec := "fnPolyFactors", apart := false, narrowed := true }
def FnPolyFactorsUptoSaid : Prop := fnPolyFactorsUptoRow.holds Try.pinned (OpenSpec.upto fnPolyFactorsSpec)

/-- 'laws.FnPowers', WHERE WHAT IT READS IS OF BULK AT MOST 1048576: true; the input reads as it did. -/
def fnPowersUptoRow : OpenClaim := { program := "ytapccbplmbbnnab", sum := "eec4359c5c214d2eacdc892f63be533131f55c8e5ce72ed37c48e4532a427e72", func := "loop.example/g01121/laws.FnPowers", spec := "fnPowers", unfollowed := true, recurses := true, apart := false, narrowed := true }
def FnPowersUptoSaid : Prop := fnPowersUptoRow.holds Try.pinned (OpenSpec.upto fnPowersSpec)

/-- 'laws.FnExactFactorsOf', WHERE WHAT IT READS IS OF BULK AT MOST 1048576: true; the input reads as it did. -/
def fnExactFactorsOfUptoRow : OpenClaim := { program := "ytapccbplmbbnnab", sum := "eec4359c5c214d2eacdc892f63be533131f55c8e5ce72ed37c48e4532a427e72", func := "loop.example/g01121/laws.FnExactFactorsOf", spec := "fnExactFactorsOf", apart := false, narrowed := true }
def FnExactFactorsOfUptoSaid : Prop := fnExactFactorsOfUptoRow.holds Try.pinned (OpenSpec.upto fnExactFactorsOfSpec)

/-- 'laws.FnExactOrderOfX', WHERE WHAT IT READS IS OF BULK AT MOST 1048576: true; the input reads as it did. -/
def fnExactOrderOfXUptoRow : OpenClaim := { program := "ytapccbplmbbnnab", sum := "eec4359c5c214d2eacdc892f63be533131f55c8e5ce72ed37c48e4532a427e72", func := "loop.example/g01121/laws.FnExactOrderOfX", spec := "fnExactOrderOfX", unfollowed := true, recurses := true, apart := false, narrowed := true }
def FnExactOrderOfXUptoSaid : Prop := fnExactOrderOfXUptoRow.holds Try.pinned (OpenSpec.upto fnExactOrderOfXSpec)

/-- 'laws.FnExactIsPrimitive', WHERE WHAT IT READS IS OF BULK AT MOST 1048576: true; the input reads as it did. -/
def fnExactIsPrimitiveUptoRow : OpenClaim := { program := "ytapccbplmbbnnab", sum := "eec4359c5c214d2eacdc892f63be533131f55c8e5ce72ed37c48e4532a427e72", func := "loop.example/g01121/laws.FnExactIsPrimitive", spec := "fnExactIsPrimitive", unfollowed := true, recurses := true, apart := false, narrowed := true }
def FnExactIsPrimitiveUptoSaid : Prop := fnExactIsPrimitiveUptoRow.holds Try.pinned (OpenSpec.upto fnExactIsPrimitiveSpec)

/-- 'laws.FnExactLeastAllWords', WHERE WHAT IT READS IS OF BULK AT MOST 1048576: true; the input reads as it did. -/
def fnExactLeastAllWordsUptoRow : OpenClaim := { program := "ytapccbplmbbnnab", sum := "eec4359c5c214d2eacdc892f63be533131f55c8e5ce72ed37c48e4532a427e72", func := "loop.example/g01121/laws.FnExactLeastAllWords", spec := "fnExactLeastAllWords", apart := false, narrowed := true }
def FnExactLeastAllWordsUptoSaid : Prop := fnExactLeastAllWordsUptoRow.holds Try.pinned (OpenSpec.upto fnExactLeastAllWordsSpec)

/-- 'laws.FnExactAgreementsOf', WHERE WHAT IT READS IS OF BULK AT MOST 1048576: true; the input reads as it did. -/
def fnExactAgreementsOfUptoRow : OpenClaim := { program := "ytapccbplmbbnnab", sum := "eec4359c5c214d2eacdc892f63be533131f55c8e5ce72ed37c48e4532a427e72", func := "loop.example/g01121/laws.FnExactAgreementsOf", spec := "fnExactAgreementsOf", apart := false, narrowed := true }
def FnExactAgreementsOfUptoSaid : Prop := fnExactAgreementsOfUptoRow.holds Try.pinned (OpenSpec.upto fnExactAgreementsOfSpec)

/-- 'laws.FnAgreements', WHERE WHAT IT READS IS OF BULK AT MOST 1048576: true; the input reads as it did. -/
def fnAgreementsUptoRow : OpenClaim := { program := "ytapccbplmbbnnab", sum := "eec4359c5c214d2eacdc892f63be533131f55c8e5ce72ed37c48e4532a427e72", func := "loop.example/g01121/laws.FnAgreements", spec := "fnAgreements", unfollowed := true, recurses := true, apart := false, narrowed := true }
def FnAgreementsUptoSaid : Prop := fnAgreementsUptoRow.holds Try.pinned (OpenSpec.upto fnAgreementsSpec)

end Rows
end Go.Proofs.Ytapccbplmbbnnab
