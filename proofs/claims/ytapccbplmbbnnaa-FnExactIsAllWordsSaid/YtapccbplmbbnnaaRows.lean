/-
  No cell of these rows narrows 'for every input' (looked for: loops, veiled, ifaces, maps, wideKeys, modest, calm, conditions, laid).
  DERIVED. THE GIVEN ROWS OF THIS SEAT. 12 by the template 'for every input the law returns true; each argument reads behind the call as it read before'; 0 by the template 'total and deterministic' (their statements: YtapccbplmbbnnaaTotals.lean).
  GIVEN WITH THE SEED: the statements are not yours to turn. If you find one false, say at which input.
  Laid BY PROGRAM, IN A SANDBOX (cutbox-rows.mjs): the forced cells as the released guide's own fill.sh prints them over the translation 361d5100cd57464e… (all of the seat's roots in one cut). By AI agents, Wed Nov 11 2026. No macro, syntax, notation, axiom, sorry.
-/
import Derived.Test.YtapccbplmbbnnaaChecked
import GoSem.Claim
import GoSem.ClaimJoined
import GoSem.ClaimMapViews
import Derived.JoinedTies
import Derived.KernelRfl
namespace Go.Proofs.Ytapccbplmbbnnaa
/- THE CELL 'sum', in the pinned program and in every row, IS THE sha256 OF THE DUMP (.gsa) THAT YtapccbplmbbnnaaProg.lean LOADS. Nothing in Lean hashes anything: it is a label: what it is worth is what the hold of that sum in a sandbox is worth. -/
noncomputable def Try.pinned : Pinned := { name := "ytapccbplmbbnnaa", sum := "361d5100cd57464e5df1c8b3cd9dacf3207cdd8b03a064d2b7c3c785893a87eb", checked := Try.checked }
namespace Rows
def none {H : Type} : Left H := { results := [], args := [] }

/-- 'laws.FnExactValidRegister': WHATEVER THE INPUT: true; the input reads as it did. -/
def fnExactValidRegisterSpec : ChangeSpec := { name := "fnExactValidRegister", fn := fun _ => fun
  | [d] => { results := [.lit (.bool true)], args := [d] }
  | _ => none }
def fnExactValidRegisterRow : OpenClaim := { program := "ytapccbplmbbnnaa", sum := "361d5100cd57464e5df1c8b3cd9dacf3207cdd8b03a064d2b7c3c785893a87eb", func := "loop.example/g01121/laws.FnExactValidRegister", spec := "fnExactValidRegister", apart := false }
def FnExactValidRegisterSaid : Prop := fnExactValidRegisterRow.holds Try.pinned (OpenSpec.ofChange fnExactValidRegisterSpec)

/-- ITS FALSE NEIGHBOUR: 'it returns false'. Refute it at one input. -/
def fnExactValidRegisterWrong : ChangeSpec := { name := "fnExactValidRegister", fn := fun _ => fun
  | [d] => { results := [.lit (.bool false)], args := [d] }
  | _ => none }
def FnExactValidRegisterWrongFalsely : Prop := fnExactValidRegisterRow.holds Try.pinned (OpenSpec.ofChange fnExactValidRegisterWrong)

/-- 'laws.FnExactStepRegister': WHATEVER THE INPUT: true; the input reads as it did. -/
def fnExactStepRegisterSpec : ChangeSpec := { name := "fnExactStepRegister", fn := fun _ => fun
  | [d1, d2] => { results := [.lit (.bool true)], args := [d1, d2] }
  | _ => none }
def fnExactStepRegisterRow : OpenClaim := { program := "ytapccbplmbbnnaa", sum := "361d5100cd57464e5df1c8b3cd9dacf3207cdd8b03a064d2b7c3c785893a87eb", func := "loop.example/g01121/laws.FnExactStepRegister", spec := "fnExactStepRegister", apart := false }
def FnExactStepRegisterSaid : Prop := fnExactStepRegisterRow.holds Try.pinned (OpenSpec.ofChange fnExactStepRegisterSpec)

/-- ITS FALSE NEIGHBOUR: 'it returns false'. Refute it at one input. -/
def fnExactStepRegisterWrong : ChangeSpec := { name := "fnExactStepRegister", fn := fun _ => fun
  | [d1, d2] => { results := [.lit (.bool false)], args := [d1, d2] }
  | _ => none }
def FnExactStepRegisterWrongFalsely : Prop := fnExactStepRegisterRow.holds Try.pinned (OpenSpec.ofChange fnExactStepRegisterWrong)

/-- 'laws.FnExactRegisterBits': WHATEVER THE INPUT: true; the input reads as it did. -/
def fnExactRegisterBitsSpec : ChangeSpec := { name := "fnExactRegisterBits", fn := fun _ => fun
  | [d1, d2, d3] => { results := [.lit (.bool true)], args := [d1, d2, d3] }
  | _ => none }
def fnExactRegisterBitsRow : OpenClaim := { program := "ytapccbplmbbnnaa", sum := "361d5100cd57464e5df1c8b3cd9dacf3207cdd8b03a064d2b7c3c785893a87eb", func := "loop.example/g01121/laws.FnExactRegisterBits", spec := "fnExactRegisterBits", apart := false }
def FnExactRegisterBitsSaid : Prop := fnExactRegisterBitsRow.holds Try.pinned (OpenSpec.ofChange fnExactRegisterBitsSpec)

/-- ITS FALSE NEIGHBOUR: 'it returns false'. Refute it at one input. -/
def fnExactRegisterBitsWrong : ChangeSpec := { name := "fnExactRegisterBits", fn := fun _ => fun
  | [d1, d2, d3] => { results := [.lit (.bool false)], args := [d1, d2, d3] }
  | _ => none }
def FnExactRegisterBitsWrongFalsely : Prop := fnExactRegisterBitsRow.holds Try.pinned (OpenSpec.ofChange fnExactRegisterBitsWrong)

/-- 'laws.FnExactPolyOf': WHATEVER THE INPUT: true; the input reads as it did. -/
def fnExactPolyOfSpec : ChangeSpec := { name := "fnExactPolyOf", fn := fun _ => fun
  | [d] => { results := [.lit (.bool true)], args := [d] }
  | _ => none }
def fnExactPolyOfRow : OpenClaim := { program := "ytapccbplmbbnnaa", sum := "361d5100cd57464e5df1c8b3cd9dacf3207cdd8b03a064d2b7c3c785893a87eb", func := "loop.example/g01121/laws.FnExactPolyOf", spec := "fnExactPolyOf", apart := false }
def FnExactPolyOfSaid : Prop := fnExactPolyOfRow.holds Try.pinned (OpenSpec.ofChange fnExactPolyOfSpec)

/-- ITS FALSE NEIGHBOUR: 'it returns false'. Refute it at one input. -/
def fnExactPolyOfWrong : ChangeSpec := { name := "fnExactPolyOf", fn := fun _ => fun
  | [d] => { results := [.lit (.bool false)], args := [d] }
  | _ => none }
def FnExactPolyOfWrongFalsely : Prop := fnExactPolyOfRow.holds Try.pinned (OpenSpec.ofChange fnExactPolyOfWrong)

/-- 'laws.FnExactMulPolys': WHATEVER THE INPUT: true; the input reads as it did. -/
def fnExactMulPolysSpec : ChangeSpec := { name := "fnExactMulPolys", fn := fun _ => fun
  | [d1, d2] => { results := [.lit (.bool true)], args := [d1, d2] }
  | _ => none }
def fnExactMulPolysRow : OpenClaim := { program := "ytapccbplmbbnnaa", sum := "361d5100cd57464e5df1c8b3cd9dacf3207cdd8b03a064d2b7c3c785893a87eb", func := "loop.example/g01121/laws.FnExactMulPolys", spec := "fnExactMulPolys", apart := false }
def FnExactMulPolysSaid : Prop := fnExactMulPolysRow.holds Try.pinned (OpenSpec.ofChange fnExactMulPolysSpec)

/-- ITS FALSE NEIGHBOUR: 'it returns false'. Refute it at one input. -/
def fnExactMulPolysWrong : ChangeSpec := { name := "fnExactMulPolys", fn := fun _ => fun
  | [d1, d2] => { results := [.lit (.bool false)], args := [d1, d2] }
  | _ => none }
def FnExactMulPolysWrongFalsely : Prop := fnExactMulPolysRow.holds Try.pinned (OpenSpec.ofChange fnExactMulPolysWrong)

/-- 'laws.FnExactDividePolys': WHATEVER THE INPUT: true; the input reads as it did. -/
def fnExactDividePolysSpec : ChangeSpec := { name := "fnExactDividePolys", fn := fun _ => fun
  | [d1, d2] => { results := [.lit (.bool true)], args := [d1, d2] }
  | _ => none }
def fnExactDividePolysRow : OpenClaim := { program := "ytapccbplmbbnnaa", sum := "361d5100cd57464e5df1c8b3cd9dacf3207cdd8b03a064d2b7c3c785893a87eb", func := "loop.example/g01121/laws.FnExactDividePolys", spec := "fnExactDividePolys", apart := false }
def FnExactDividePolysSaid : Prop := fnExactDividePolysRow.holds Try.pinned (OpenSpec.ofChange fnExactDividePolysSpec)

/-- ITS FALSE NEIGHBOUR: 'it returns false'. Refute it at one input. -/
def fnExactDividePolysWrong : ChangeSpec := { name := "fnExactDividePolys", fn := fun _ => fun
  | [d1, d2] => { results := [.lit (.bool false)], args := [d1, d2] }
  | _ => none }
def FnExactDividePolysWrongFalsely : Prop := fnExactDividePolysRow.holds Try.pinned (OpenSpec.ofChange fnExactDividePolysWrong)

/-- 'laws.FnExactGcdPolys': WHATEVER THE INPUT: true; the input reads as it did. -/
def fnExactGcdPolysSpec : ChangeSpec := { name := "fnExactGcdPolys", fn := fun _ => fun
  | [d1, d2] => { results := [.lit (.bool true)], args := [d1, d2] }
  | _ => none }
def fnExactGcdPolysRow : OpenClaim := { program := "ytapccbplmbbnnaa", sum := "361d5100cd57464e5df1c8b3cd9dacf3207cdd8b03a064d2b7c3c785893a87eb", func := "loop.example/g01121/laws.FnExactGcdPolys", spec := "fnExactGcdPolys", apart := false }
def FnExactGcdPolysSaid : Prop := fnExactGcdPolysRow.holds Try.pinned (OpenSpec.ofChange fnExactGcdPolysSpec)

/-- ITS FALSE NEIGHBOUR: 'it returns false'. Refute it at one input. -/
def fnExactGcdPolysWrong : ChangeSpec := { name := "fnExactGcdPolys", fn := fun _ => fun
  | [d1, d2] => { results := [.lit (.bool false)], args := [d1, d2] }
  | _ => none }
def FnExactGcdPolysWrongFalsely : Prop := fnExactGcdPolysRow.holds Try.pinned (OpenSpec.ofChange fnExactGcdPolysWrong)

/-- 'laws.FnExactPowerOfX': WHATEVER THE INPUT: true; the input reads as it did. -/
def fnExactPowerOfXSpec : ChangeSpec := { name := "fnExactPowerOfX", fn := fun _ => fun
  | [d1, d2] => { results := [.lit (.bool true)], args := [d1, d2] }
  | _ => none }
def fnExactPowerOfXRow : OpenClaim := { program := "ytapccbplmbbnnaa", sum := "361d5100cd57464e5df1c8b3cd9dacf3207cdd8b03a064d2b7c3c785893a87eb", func := "loop.example/g01121/laws.FnExactPowerOfX", spec := "fnExactPowerOfX", apart := false }
def FnExactPowerOfXSaid : Prop := fnExactPowerOfXRow.holds Try.pinned (OpenSpec.ofChange fnExactPowerOfXSpec)

/-- ITS FALSE NEIGHBOUR: 'it returns false'. Refute it at one input. -/
def fnExactPowerOfXWrong : ChangeSpec := { name := "fnExactPowerOfX", fn := fun _ => fun
  | [d1, d2] => { results := [.lit (.bool false)], args := [d1, d2] }
  | _ => none }
def FnExactPowerOfXWrongFalsely : Prop := fnExactPowerOfXRow.holds Try.pinned (OpenSpec.ofChange fnExactPowerOfXWrong)

/-- 'laws.FnExactTakeEvery': WHATEVER THE INPUT: true; the input reads as it did. -/
def fnExactTakeEverySpec : ChangeSpec := { name := "fnExactTakeEvery", fn := fun _ => fun
  | [d1, d2] => { results := [.lit (.bool true)], args := [d1, d2] }
  | _ => none }
def fnExactTakeEveryRow : OpenClaim := { program := "ytapccbplmbbnnaa", sum := "361d5100cd57464e5df1c8b3cd9dacf3207cdd8b03a064d2b7c3c785893a87eb", func := "loop.example/g01121/laws.FnExactTakeEvery", spec := "fnExactTakeEvery", apart := false }
def FnExactTakeEverySaid : Prop := fnExactTakeEveryRow.holds Try.pinned (OpenSpec.ofChange fnExactTakeEverySpec)

/-- ITS FALSE NEIGHBOUR: 'it returns false'. Refute it at one input. -/
def fnExactTakeEveryWrong : ChangeSpec := { name := "fnExactTakeEvery", fn := fun _ => fun
  | [d1, d2] => { results := [.lit (.bool false)], args := [d1, d2] }
  | _ => none }
def FnExactTakeEveryWrongFalsely : Prop := fnExactTakeEveryRow.holds Try.pinned (OpenSpec.ofChange fnExactTakeEveryWrong)

/-- 'laws.FnExactIsAllWords': WHATEVER THE INPUT: true; the input reads as it did. -/
def fnExactIsAllWordsSpec : ChangeSpec := { name := "fnExactIsAllWords", fn := fun _ => fun
  | [d1, d2] => { results := [.lit (.bool true)], args := [d1, d2] }
  | _ => none }
def fnExactIsAllWordsRow : OpenClaim := { program := "ytapccbplmbbnnaa", sum := "361d5100cd57464e5df1c8b3cd9dacf3207cdd8b03a064d2b7c3c785893a87eb", func := "loop.example/g01121/laws.FnExactIsAllWords", spec := "fnExactIsAllWords", apart := false }
def FnExactIsAllWordsSaid : Prop := fnExactIsAllWordsRow.holds Try.pinned (OpenSpec.ofChange fnExactIsAllWordsSpec)

/-- ITS FALSE NEIGHBOUR: 'it returns false'. Refute it at one input. -/
def fnExactIsAllWordsWrong : ChangeSpec := { name := "fnExactIsAllWords", fn := fun _ => fun
  | [d1, d2] => { results := [.lit (.bool false)], args := [d1, d2] }
  | _ => none }
def FnExactIsAllWordsWrongFalsely : Prop := fnExactIsAllWordsRow.holds Try.pinned (OpenSpec.ofChange fnExactIsAllWordsWrong)

/-- 'laws.FnExactBitsOf': WHATEVER THE INPUT: true; the input reads as it did. -/
def fnExactBitsOfSpec : ChangeSpec := { name := "fnExactBitsOf", fn := fun _ => fun
  | [d1, d2] => { results := [.lit (.bool true)], args := [d1, d2] }
  | _ => none }
def fnExactBitsOfRow : OpenClaim := { program := "ytapccbplmbbnnaa", sum := "361d5100cd57464e5df1c8b3cd9dacf3207cdd8b03a064d2b7c3c785893a87eb", func := "loop.example/g01121/laws.FnExactBitsOf", spec := "fnExactBitsOf", apart := false }
def FnExactBitsOfSaid : Prop := fnExactBitsOfRow.holds Try.pinned (OpenSpec.ofChange fnExactBitsOfSpec)

/-- ITS FALSE NEIGHBOUR: 'it returns false'. Refute it at one input. -/
def fnExactBitsOfWrong : ChangeSpec := { name := "fnExactBitsOf", fn := fun _ => fun
  | [d1, d2] => { results := [.lit (.bool false)], args := [d1, d2] }
  | _ => none }
def FnExactBitsOfWrongFalsely : Prop := fnExactBitsOfRow.holds Try.pinned (OpenSpec.ofChange fnExactBitsOfWrong)

/-- 'laws.FnExactParityOf': WHATEVER THE INPUT: true; the input reads as it did. -/
def fnExactParityOfSpec : ChangeSpec := { name := "fnExactParityOf", fn := fun _ => fun
  | [d1, d2] => { results := [.lit (.bool true)], args := [d1, d2] }
  | _ => none }
def fnExactParityOfRow : OpenClaim := { program := "ytapccbplmbbnnaa", sum := "361d5100cd57464e5df1c8b3cd9dacf3207cdd8b03a064d2b7c3c785893a87eb", func := "loop.example/g01121/laws.FnExactParityOf", spec := "fnExactParityOf", apart := false }
def FnExactParityOfSaid : Prop := fnExactParityOfRow.holds Try.pinned (OpenSpec.ofChange fnExactParityOfSpec)

/-- ITS FALSE NEIGHBOUR: 'it returns false'. Refute it at one input. -/
def fnExactParityOfWrong : ChangeSpec := { name := "fnExactParityOf", fn := fun _ => fun
  | [d1, d2] => { results := [.lit (.bool false)], args := [d1, d2] }
  | _ => none }
def FnExactParityOfWrongFalsely : Prop := fnExactParityOfRow.holds Try.pinned (OpenSpec.ofChange fnExactParityOfWrong)

/- THE SECOND FORM. 'bulk': how many values and letters a reading holds, each counted each time it is reached (what is shared counts as often as it is met; a slice's spare places count too). A statement '..UptoSaid' is the law's where the arguments, and the package variables that the reading takes, are together of bulk at most 1048576: NARROWER than '..Said'. Prove '..Said' where nothing that the law and all that it calls make is longer than what came in: it says more and counts as full. Else prove '..UptoSaid'. A law counts once. -/
mutual
def uptoBulk {H : Type} : DataW H → Nat
  | .lit (.string bytes) => bytes.length + 1
  | .lit _ => 1
  | .nil => 1
  | .ptr d => uptoBulk d + 1
  | .slice elems spare => uptoBulkAll elems + uptoBulkAll spare + 1
  | .agg parts => uptoBulkAll parts + 1
  | .iface _ d => uptoBulk d + 1
  | .map entries => uptoBulkEntries entries + 1
  | .held _ => 1
def uptoBulkAll {H : Type} : List (DataW H) → Nat
  | [] => 0
  | d :: r => uptoBulk d + uptoBulkAll r
def uptoBulkEntries {H : Type} : List (Lit × DataW H) → Nat
  | [] => 0
  | x :: r => uptoBulkEntry x + uptoBulkEntries r
def uptoBulkEntry {H : Type} : Lit × DataW H → Nat
  | (.string bytes, d) => bytes.length + uptoBulk d + 1
  | (_, d) => uptoBulk d + 1
 end
def uptoSmall : (H : Type) → List (DataW H) → Bool := fun _ ds => decide (uptoBulkAll ds ≤ 1048576)
def OpenSpec.upto (s : _root_.Go.ChangeSpec) : _root_.Go.OpenSpec := { _root_.Go.OpenSpec.ofChange s with cond := some uptoSmall }

/-- 'laws.FnExactValidRegister', WHERE WHAT IT READS IS OF BULK AT MOST 1048576: true; the input reads as it did. -/
def fnExactValidRegisterUptoRow : OpenClaim := { program := "ytapccbplmbbnnaa", sum := "361d5100cd57464e5df1c8b3cd9dacf3207cdd8b03a064d2b7c3c785893a87eb", func := "loop.example/g01121/laws.FnExactValidRegister", spec := "fnExactValidRegister", apart := false, narrowed := true }
def FnExactValidRegisterUptoSaid : Prop := fnExactValidRegisterUptoRow.holds Try.pinned (OpenSpec.upto fnExactValidRegisterSpec)

/-- 'laws.FnExactStepRegister', WHERE WHAT IT READS IS OF BULK AT MOST 1048576: true; the input reads as it did. -/
def fnExactStepRegisterUptoRow : OpenClaim := { program := "ytapccbplmbbnnaa", sum := "361d5100cd57464e5df1c8b3cd9dacf3207cdd8b03a064d2b7c3c785893a87eb", func := "loop.example/g01121/laws.FnExactStepRegister", spec := "fnExactStepRegister", apart := false, narrowed := true }
def FnExactStepRegisterUptoSaid : Prop := fnExactStepRegisterUptoRow.holds Try.pinned (OpenSpec.upto fnExactStepRegisterSpec)

/-- 'laws.FnExactRegisterBits', WHERE WHAT IT READS IS OF BULK AT MOST 1048576: true; the input reads as it did. -/
def fnExactRegisterBitsUptoRow : OpenClaim := { program := "ytapccbplmbbnnaa", sum := "361d5100cd57464e5df1c8b3cd9dacf3207cdd8b03a064d2b7c3c785893a87eb", func := "loop.example/g01121/laws.FnExactRegisterBits", spec := "fnExactRegisterBits", apart := false, narrowed := true }
def FnExactRegisterBitsUptoSaid : Prop := fnExactRegisterBitsUptoRow.holds Try.pinned (OpenSpec.upto fnExactRegisterBitsSpec)

/-- 'laws.FnExactPolyOf', WHERE WHAT IT READS IS OF BULK AT MOST 1048576: true; the input reads as it did. -/
def fnExactPolyOfUptoRow : OpenClaim := { program := "ytapccbplmbbnnaa", sum := "361d5100cd57464e5df1c8b3cd9dacf3207cdd8b03a064d2b7c3c785893a87eb", func := "loop.example/g01121/laws.FnExactPolyOf", spec := "fnExactPolyOf", apart := false, narrowed := true }
def FnExactPolyOfUptoSaid : Prop := fnExactPolyOfUptoRow.holds Try.pinned (OpenSpec.upto fnExactPolyOfSpec)

/-- 'laws.FnExactMulPolys', WHERE WHAT IT READS IS OF BULK AT MOST 1048576: true; the input reads as it did. -/
def fnExactMulPolysUptoRow : OpenClaim := { program := "ytapccbplmbbnnaa", sum := "361d5100cd57464e5df1c8b3cd9dacf3207cdd8b03a064d2b7c3c785893a87eb", func := "loop.example/g01121/laws.FnExactMulPolys", spec := "fnExactMulPolys", apart := false, narrowed := true }
def FnExactMulPolysUptoSaid : Prop := fnExactMulPolysUptoRow.holds Try.pinned (OpenSpec.upto fnExactMulPolysSpec)

/-- 'laws.FnExactDividePolys', WHERE WHAT IT READS IS OF BULK AT MOST 1048576: true; the input reads as it did. -/
def fnExactDividePolysUptoRow : OpenClaim := { program := "ytapccbplmbbnnaa", sum := "361d5100cd57464e5df1c8b3cd9dacf3207cdd8b03a064d2b7c3c785893a87eb", func := "loop.example/g01121/laws.FnExactDividePolys", spec := "fnExactDividePolys", apart := false, narrowed := true }
def FnExactDividePolysUptoSaid : Prop := fnExactDividePolysUptoRow.holds Try.pinned (OpenSpec.upto fnExactDividePolysSpec)

/-- 'laws.FnExactGcdPolys', WHERE WHAT IT READS IS OF BULK AT MOST 1048576: true; the input reads as it did. -/
def fnExactGcdPolysUptoRow : OpenClaim := { program := "ytapccbplmbbnnaa", sum := "361d5100cd57464e5df1c8b3cd9dacf3207cdd8b03a064d2b7c3c785893a87eb", func := "loop.example/g01121/laws.FnExactGcdPolys", spec := "fnExactGcdPolys", apart := false, narrowed := true }
def FnExactGcdPolysUptoSaid : Prop := fnExactGcdPolysUptoRow.holds Try.pinned (OpenSpec.upto fnExactGcdPolysSpec)

/-- 'laws.FnExactPowerOfX', WHERE WHAT IT READS IS OF BULK AT MOST 1048576: true; the input reads as it did. -/
def fnExactPowerOfXUptoRow : OpenClaim := { program := "ytapccbplmbbnnaa", sum := "361d5100cd57464e5df1c8b3cd9dacf3207cdd8b03a064d2b7c3c785893a87eb", func := "loop.example/g01121/laws.FnExactPowerOfX", spec := "fnExactPowerOfX", apart := false, narrowed := true }
def FnExactPowerOfXUptoSaid : Prop := fnExactPowerOfXUptoRow.holds Try.pinned (OpenSpec.upto fnExactPowerOfXSpec)

/-- 'laws.FnExactTakeEvery', WHERE WHAT IT READS IS OF BULK AT MOST 1048576: true; the input reads as it did. -/
def fnExactTakeEveryUptoRow : OpenClaim := { program := "ytapccbplmbbnnaa", sum := "361d5100cd57464e5df1c8b3cd9dacf3207cdd8b03a064d2b7c3c785893a87eb", func := "loop.example/g01121/laws.FnExactTakeEvery", spec := "fnExactTakeEvery", apart := false, narrowed := true }
def FnExactTakeEveryUptoSaid : Prop := fnExactTakeEveryUptoRow.holds Try.pinned (OpenSpec.upto fnExactTakeEverySpec)

/-- 'laws.FnExactIsAllWords', WHERE WHAT IT READS IS OF BULK AT MOST 1048576: true; the input reads as it did. -/
def fnExactIsAllWordsUptoRow : OpenClaim := { program := "ytapccbplmbbnnaa", sum := "361d5100cd57464e5df1c8b3cd9dacf3207cdd8b03a064d2b7c3c785893a87eb", func := "loop.example/g01121/laws.FnExactIsAllWords", spec := "fnExactIsAllWords", apart := false, narrowed := true }
def FnExactIsAllWordsUptoSaid : Prop := fnExactIsAllWordsUptoRow.holds Try.pinned (OpenSpec.upto fnExactIsAllWordsSpec)

/-- 'laws.FnExactBitsOf', WHERE WHAT IT READS IS OF BULK AT MOST 1048576: true; the input reads as it did. -/
def fnExactBitsOfUptoRow : OpenClaim := { program := "ytapccbplmbbnnaa", sum := "361d5100cd57464e5df1c8b3cd9dacf3207cdd8b03a064d2b7c3c785893a87eb", func := "loop.example/g01121/laws.FnExactBitsOf", spec := "fnExactBitsOf", apart := false, narrowed := true }
def FnExactBitsOfUptoSaid : Prop := fnExactBitsOfUptoRow.holds Try.pinned (OpenSpec.upto fnExactBitsOfSpec)

/-- 'laws.FnExactParityOf', WHERE WHAT IT READS IS OF BULK AT MOST 1048576: true; the input reads as it did. -/
def fnExactParityOfUptoRow : OpenClaim := { program := "ytapccbplmbbnnaa", sum := "361d5100cd57464e5df1c8b3cd9dacf3207cdd8b03a064d2b7c3c785893a87eb", func := "loop.example/g01121/laws.FnExactParityOf", spec := "fnExactParityOf", apart := false, narrowed := true }
def FnExactParityOfUptoSaid : Prop := fnExactParityOfUptoRow.holds Try.pinned (OpenSpec.upto fnExactParityOfSpec)

end Rows
end Go.Proofs.Ytapccbplmbbnnaa
