/-
  No cell of these rows narrows 'for every input' (looked for: loops, veiled, ifaces, maps, wideKeys, modest, calm, conditions, laid).
  DERIVED. THE GIVEN ROWS OF THIS SEAT. 10 by the template 'for every input the law returns true; each argument reads behind the call as it read before'; 0 by the template 'total and deterministic' (their statements: YtgpcacbjmjpdnabTotals.lean).
  GIVEN WITH THE SEED: the statements are not yours to turn. If you find one false, say at which input.
  Laid BY PROGRAM, IN A SANDBOX (cutbox-rows.mjs): the forced cells as the released guide's own fill.sh prints them over the translation dfcb119d484e0c37… (all of the seat's roots in one cut). By AI agents, Wed Nov 11 2026. No macro, syntax, notation, axiom, sorry.
-/
import Derived.Test.YtgpcacbjmjpdnabChecked
import GoSem.Claim
import GoSem.ClaimJoined
import GoSem.ClaimMapViews
import Derived.JoinedTies
import Derived.KernelRfl
namespace Go.Proofs.Ytgpcacbjmjpdnab
/- THE CELL 'sum', in the pinned program and in every row, IS THE sha256 OF THE DUMP (.gsa) THAT YtgpcacbjmjpdnabProg.lean LOADS. Nothing in Lean hashes anything: it is a label: what it is worth is what the hold of that sum in a sandbox is worth. -/
noncomputable def Try.pinned : Pinned := { name := "ytgpcacbjmjpdnab", sum := "dfcb119d484e0c37679140bff5ee928f77543333b3cc73a29eff3b0b9ed6c216", checked := Try.checked }
namespace Rows
def none {H : Type} : Left H := { results := [], args := [] }

/-- 'laws.FnExactBalanceOf': WHATEVER THE INPUT: true; the input reads as it did. -/
def fnExactBalanceOfSpec : ChangeSpec := { name := "fnExactBalanceOf", fn := fun _ => fun
  | [d] => { results := [.lit (.bool true)], args := [d] }
  | _ => none }
def fnExactBalanceOfRow : OpenClaim := { program := "ytgpcacbjmjpdnab", sum := "dfcb119d484e0c37679140bff5ee928f77543333b3cc73a29eff3b0b9ed6c216", func := "loop.example/g01121/laws.FnExactBalanceOf", spec := "fnExactBalanceOf", apart := false }
def FnExactBalanceOfSaid : Prop := fnExactBalanceOfRow.holds Try.pinned (OpenSpec.ofChange fnExactBalanceOfSpec)

/-- ITS FALSE NEIGHBOUR: 'it returns false'. Refute it at one input. -/
def fnExactBalanceOfWrong : ChangeSpec := { name := "fnExactBalanceOf", fn := fun _ => fun
  | [d] => { results := [.lit (.bool false)], args := [d] }
  | _ => none }
def FnExactBalanceOfWrongFalsely : Prop := fnExactBalanceOfRow.holds Try.pinned (OpenSpec.ofChange fnExactBalanceOfWrong)

/-- 'laws.FnExactImmunityOf': WHATEVER THE INPUT: true; the input reads as it did. -/
def fnExactImmunityOfSpec : ChangeSpec := { name := "fnExactImmunityOf", fn := fun _ => fun
  | [d] => { results := [.lit (.bool true)], args := [d] }
  | _ => none }
def fnExactImmunityOfRow : OpenClaim := { program := "ytgpcacbjmjpdnab", sum := "dfcb119d484e0c37679140bff5ee928f77543333b3cc73a29eff3b0b9ed6c216", func := "loop.example/g01121/laws.FnExactImmunityOf", spec := "fnExactImmunityOf", apart := false }
def FnExactImmunityOfSaid : Prop := fnExactImmunityOfRow.holds Try.pinned (OpenSpec.ofChange fnExactImmunityOfSpec)

/-- ITS FALSE NEIGHBOUR: 'it returns false'. Refute it at one input. -/
def fnExactImmunityOfWrong : ChangeSpec := { name := "fnExactImmunityOf", fn := fun _ => fun
  | [d] => { results := [.lit (.bool false)], args := [d] }
  | _ => none }
def FnExactImmunityOfWrongFalsely : Prop := fnExactImmunityOfRow.holds Try.pinned (OpenSpec.ofChange fnExactImmunityOfWrong)

/-- 'laws.FnExactNonlinearityOf': WHATEVER THE INPUT: true; the input reads as it did. -/
def fnExactNonlinearityOfSpec : ChangeSpec := { name := "fnExactNonlinearityOf", fn := fun _ => fun
  | [d] => { results := [.lit (.bool true)], args := [d] }
  | _ => none }
def fnExactNonlinearityOfRow : OpenClaim := { program := "ytgpcacbjmjpdnab", sum := "dfcb119d484e0c37679140bff5ee928f77543333b3cc73a29eff3b0b9ed6c216", func := "loop.example/g01121/laws.FnExactNonlinearityOf", spec := "fnExactNonlinearityOf", apart := false }
def FnExactNonlinearityOfSaid : Prop := fnExactNonlinearityOfRow.holds Try.pinned (OpenSpec.ofChange fnExactNonlinearityOfSpec)

/-- ITS FALSE NEIGHBOUR: 'it returns false'. Refute it at one input. -/
def fnExactNonlinearityOfWrong : ChangeSpec := { name := "fnExactNonlinearityOf", fn := fun _ => fun
  | [d] => { results := [.lit (.bool false)], args := [d] }
  | _ => none }
def FnExactNonlinearityOfWrongFalsely : Prop := fnExactNonlinearityOfRow.holds Try.pinned (OpenSpec.ofChange fnExactNonlinearityOfWrong)

/-- 'laws.FnExactNearestSum': WHATEVER THE INPUT: true; the input reads as it did. -/
def fnExactNearestSumSpec : ChangeSpec := { name := "fnExactNearestSum", fn := fun _ => fun
  | [d] => { results := [.lit (.bool true)], args := [d] }
  | _ => none }
def fnExactNearestSumRow : OpenClaim := { program := "ytgpcacbjmjpdnab", sum := "dfcb119d484e0c37679140bff5ee928f77543333b3cc73a29eff3b0b9ed6c216", func := "loop.example/g01121/laws.FnExactNearestSum", spec := "fnExactNearestSum", apart := false }
def FnExactNearestSumSaid : Prop := fnExactNearestSumRow.holds Try.pinned (OpenSpec.ofChange fnExactNearestSumSpec)

/-- ITS FALSE NEIGHBOUR: 'it returns false'. Refute it at one input. -/
def fnExactNearestSumWrong : ChangeSpec := { name := "fnExactNearestSum", fn := fun _ => fun
  | [d] => { results := [.lit (.bool false)], args := [d] }
  | _ => none }
def FnExactNearestSumWrongFalsely : Prop := fnExactNearestSumRow.holds Try.pinned (OpenSpec.ofChange fnExactNearestSumWrong)

/-- 'laws.FnExactShiftsOf': WHATEVER THE INPUT: true; the input reads as it did. -/
def fnExactShiftsOfSpec : ChangeSpec := { name := "fnExactShiftsOf", fn := fun _ => fun
  | [d] => { results := [.lit (.bool true)], args := [d] }
  | _ => none }
def fnExactShiftsOfRow : OpenClaim := { program := "ytgpcacbjmjpdnab", sum := "dfcb119d484e0c37679140bff5ee928f77543333b3cc73a29eff3b0b9ed6c216", func := "loop.example/g01121/laws.FnExactShiftsOf", spec := "fnExactShiftsOf", apart := false }
def FnExactShiftsOfSaid : Prop := fnExactShiftsOfRow.holds Try.pinned (OpenSpec.ofChange fnExactShiftsOfSpec)

/-- ITS FALSE NEIGHBOUR: 'it returns false'. Refute it at one input. -/
def fnExactShiftsOfWrong : ChangeSpec := { name := "fnExactShiftsOf", fn := fun _ => fun
  | [d] => { results := [.lit (.bool false)], args := [d] }
  | _ => none }
def FnExactShiftsOfWrongFalsely : Prop := fnExactShiftsOfRow.holds Try.pinned (OpenSpec.ofChange fnExactShiftsOfWrong)

/-- 'laws.FnExactFixedShifts': WHATEVER THE INPUT: true; the input reads as it did. -/
def fnExactFixedShiftsSpec : ChangeSpec := { name := "fnExactFixedShifts", fn := fun _ => fun
  | [d] => { results := [.lit (.bool true)], args := [d] }
  | _ => none }
def fnExactFixedShiftsRow : OpenClaim := { program := "ytgpcacbjmjpdnab", sum := "dfcb119d484e0c37679140bff5ee928f77543333b3cc73a29eff3b0b9ed6c216", func := "loop.example/g01121/laws.FnExactFixedShifts", spec := "fnExactFixedShifts", apart := false }
def FnExactFixedShiftsSaid : Prop := fnExactFixedShiftsRow.holds Try.pinned (OpenSpec.ofChange fnExactFixedShiftsSpec)

/-- ITS FALSE NEIGHBOUR: 'it returns false'. Refute it at one input. -/
def fnExactFixedShiftsWrong : ChangeSpec := { name := "fnExactFixedShifts", fn := fun _ => fun
  | [d] => { results := [.lit (.bool false)], args := [d] }
  | _ => none }
def FnExactFixedShiftsWrongFalsely : Prop := fnExactFixedShiftsRow.holds Try.pinned (OpenSpec.ofChange fnExactFixedShiftsWrong)

/-- 'laws.FnExactCombineBits': WHATEVER THE INPUT: true; the input reads as it did. -/
def fnExactCombineBitsSpec : ChangeSpec := { name := "fnExactCombineBits", fn := fun _ => fun
  | [d1, d2] => { results := [.lit (.bool true)], args := [d1, d2] }
  | _ => none }
def fnExactCombineBitsRow : OpenClaim := { program := "ytgpcacbjmjpdnab", sum := "dfcb119d484e0c37679140bff5ee928f77543333b3cc73a29eff3b0b9ed6c216", func := "loop.example/g01121/laws.FnExactCombineBits", spec := "fnExactCombineBits", inPlace := ["internal/abi.NoEscape"], apart := false }
def FnExactCombineBitsSaid : Prop := fnExactCombineBitsRow.holds Try.pinned (OpenSpec.ofChange fnExactCombineBitsSpec)

/-- ITS FALSE NEIGHBOUR: 'it returns false'. Refute it at one input. -/
def fnExactCombineBitsWrong : ChangeSpec := { name := "fnExactCombineBits", fn := fun _ => fun
  | [d1, d2] => { results := [.lit (.bool false)], args := [d1, d2] }
  | _ => none }
def FnExactCombineBitsWrongFalsely : Prop := fnExactCombineBitsRow.holds Try.pinned (OpenSpec.ofChange fnExactCombineBitsWrong)

/-- 'laws.FnExactCombinedWidth': WHATEVER THE INPUT: true; the input reads as it did. -/
def fnExactCombinedWidthSpec : ChangeSpec := { name := "fnExactCombinedWidth", fn := fun _ => fun
  | [d1, d2] => { results := [.lit (.bool true)], args := [d1, d2] }
  | _ => none }
def fnExactCombinedWidthRow : OpenClaim := { program := "ytgpcacbjmjpdnab", sum := "dfcb119d484e0c37679140bff5ee928f77543333b3cc73a29eff3b0b9ed6c216", func := "loop.example/g01121/laws.FnExactCombinedWidth", spec := "fnExactCombinedWidth", apart := false }
def FnExactCombinedWidthSaid : Prop := fnExactCombinedWidthRow.holds Try.pinned (OpenSpec.ofChange fnExactCombinedWidthSpec)

/-- ITS FALSE NEIGHBOUR: 'it returns false'. Refute it at one input. -/
def fnExactCombinedWidthWrong : ChangeSpec := { name := "fnExactCombinedWidth", fn := fun _ => fun
  | [d1, d2] => { results := [.lit (.bool false)], args := [d1, d2] }
  | _ => none }
def FnExactCombinedWidthWrongFalsely : Prop := fnExactCombinedWidthRow.holds Try.pinned (OpenSpec.ofChange fnExactCombinedWidthWrong)

/-- 'laws.FnExactShrinkBits': WHATEVER THE INPUT: true; the input reads as it did. -/
def fnExactShrinkBitsSpec : ChangeSpec := { name := "fnExactShrinkBits", fn := fun _ => fun
  | [d1, d2] => { results := [.lit (.bool true)], args := [d1, d2] }
  | _ => none }
def fnExactShrinkBitsRow : OpenClaim := { program := "ytgpcacbjmjpdnab", sum := "dfcb119d484e0c37679140bff5ee928f77543333b3cc73a29eff3b0b9ed6c216", func := "loop.example/g01121/laws.FnExactShrinkBits", spec := "fnExactShrinkBits", inPlace := ["internal/abi.NoEscape"], apart := false }
def FnExactShrinkBitsSaid : Prop := fnExactShrinkBitsRow.holds Try.pinned (OpenSpec.ofChange fnExactShrinkBitsSpec)

/-- ITS FALSE NEIGHBOUR: 'it returns false'. Refute it at one input. -/
def fnExactShrinkBitsWrong : ChangeSpec := { name := "fnExactShrinkBits", fn := fun _ => fun
  | [d1, d2] => { results := [.lit (.bool false)], args := [d1, d2] }
  | _ => none }
def FnExactShrinkBitsWrongFalsely : Prop := fnExactShrinkBitsRow.holds Try.pinned (OpenSpec.ofChange fnExactShrinkBitsWrong)

/-- 'laws.FnExactBestStates': WHATEVER THE INPUT: true; the input reads as it did. -/
def fnExactBestStatesSpec : ChangeSpec := { name := "fnExactBestStates", fn := fun _ => fun
  | [d1, d2] => { results := [.lit (.bool true)], args := [d1, d2] }
  | _ => none }
def fnExactBestStatesRow : OpenClaim := { program := "ytgpcacbjmjpdnab", sum := "dfcb119d484e0c37679140bff5ee928f77543333b3cc73a29eff3b0b9ed6c216", func := "loop.example/g01121/laws.FnExactBestStates", spec := "fnExactBestStates", apart := false }
def FnExactBestStatesSaid : Prop := fnExactBestStatesRow.holds Try.pinned (OpenSpec.ofChange fnExactBestStatesSpec)

/-- ITS FALSE NEIGHBOUR: 'it returns false'. Refute it at one input. -/
def fnExactBestStatesWrong : ChangeSpec := { name := "fnExactBestStates", fn := fun _ => fun
  | [d1, d2] => { results := [.lit (.bool false)], args := [d1, d2] }
  | _ => none }
def FnExactBestStatesWrongFalsely : Prop := fnExactBestStatesRow.holds Try.pinned (OpenSpec.ofChange fnExactBestStatesWrong)

/- THE SECOND FORM. 'bulk': how many values and letters a reading holds, each counted each time it is reached (what is shared counts as often as it is met; a slice's spare places count too). A statement '..UptoSaid' is the law's where the arguments, and the package variables that the reading takes, are together of bulk at most 1048576: NARROWER than '..Said'. Prove '..Said' where nothing that the law and all that it calls make is longer than what came in: it says more and counts as full. Else prove '..UptoSaid'. A law counts once. -/
mutual
def uptoBulk {H : Type} : DataW H → Nat
  | .lit (.string bytes) => bytes.length + 1
  | .lit _ => 1
  | .nil => 1
  | .ptr d => uptoBulk d + 1
  | .slice elems spare => uptoBulkAll elems + uptoBulkAll spare + 1
  | .agg parts => uptoBulkAll parts + 1
  | .iface _ d => uptoBulk d + 1
  | .map entries => uptoBulkEntries entries + 1
  | .held _ => 1
def uptoBulkAll {H : Type} : List (DataW H) → Nat
  | [] => 0
  | d :: r => uptoBulk d + uptoBulkAll r
def uptoBulkEntries {H : Type} : List (Lit × DataW H) → Nat
  | [] => 0
  | x :: r => uptoBulkEntry x + uptoBulkEntries r
def uptoBulkEntry {H : Type} : Lit × DataW H → Nat
  | (.string bytes, d) => bytes.length + uptoBulk d + 1
  | (_, d) => uptoBulk d + 1
 end
def uptoSmall : (H : Type) → List (DataW H) → Bool := fun _ ds => decide (uptoBulkAll ds ≤ 1048576)
def OpenSpec.upto (s : _root_.Go.ChangeSpec) : _root_.Go.OpenSpec := { _root_.Go.OpenSpec.ofChange s with cond := some uptoSmall }

/-- 'laws.FnExactBalanceOf', WHERE WHAT IT READS IS OF BULK AT MOST 1048576: true; the input reads as it did. -/
def fnExactBalanceOfUptoRow : OpenClaim := { program := "ytgpcacbjmjpdnab", sum := "dfcb119d484e0c37679140bff5ee928f77543333b3cc73a29eff3b0b9ed6c216", func := "loop.example/g01121/laws.FnExactBalanceOf", spec := "fnExactBalanceOf", apart := false, narrowed := true }
def FnExactBalanceOfUptoSaid : Prop := fnExactBalanceOfUptoRow.holds Try.pinned (OpenSpec.upto fnExactBalanceOfSpec)

/-- 'laws.FnExactImmunityOf', WHERE WHAT IT READS IS OF BULK AT MOST 1048576: true; the input reads as it did. -/
def fnExactImmunityOfUptoRow : OpenClaim := { program := "ytgpcacbjmjpdnab", sum := "dfcb119d484e0c37679140bff5ee928f77543333b3cc73a29eff3b0b9ed6c216", func := "loop.example/g01121/laws.FnExactImmunityOf", spec := "fnExactImmunityOf", apart := false, narrowed := true }
def FnExactImmunityOfUptoSaid : Prop := fnExactImmunityOfUptoRow.holds Try.pinned (OpenSpec.upto fnExactImmunityOfSpec)

/-- 'laws.FnExactNonlinearityOf', WHERE WHAT IT READS IS OF BULK AT MOST 1048576: true; the input reads as it did. -/
def fnExactNonlinearityOfUptoRow : OpenClaim := { program := "ytgpcacbjmjpdnab", sum := "dfcb119d484e0c37679140bff5ee928f77543333b3cc73a29eff3b0b9ed6c216", func := "loop.example/g01121/laws.FnExactNonlinearityOf", spec := "fnExactNonlinearityOf", apart := false, narrowed := true }
def FnExactNonlinearityOfUptoSaid : Prop := fnExactNonlinearityOfUptoRow.holds Try.pinned (OpenSpec.upto fnExactNonlinearityOfSpec)

/-- 'laws.FnExactNearestSum', WHERE WHAT IT READS IS OF BULK AT MOST 1048576: true; the input reads as it did. -/
def fnExactNearestSumUptoRow : OpenClaim := { program := "ytgpcacbjmjpdnab", sum := "dfcb119d484e0c37679140bff5ee928f77543333b3cc73a29eff3b0b9ed6c216", func := "loop.example/g01121/laws.FnExactNearestSum", spec := "fnExactNearestSum", apart := false, narrowed := true }
def FnExactNearestSumUptoSaid : Prop := fnExactNearestSumUptoRow.holds Try.pinned (OpenSpec.upto fnExactNearestSumSpec)

/-- 'laws.FnExactShiftsOf', WHERE WHAT IT READS IS OF BULK AT MOST 1048576: true; the input reads as it did. -/
def fnExactShiftsOfUptoRow : OpenClaim := { program := "ytgpcacbjmjpdnab", sum := "dfcb119d484e0c37679140bff5ee928f77543333b3cc73a29eff3b0b9ed6c216", func := "loop.example/g01121/laws.FnExactShiftsOf", spec := "fnExactShiftsOf", apart := false, narrowed := true }
def FnExactShiftsOfUptoSaid : Prop := fnExactShiftsOfUptoRow.holds Try.pinned (OpenSpec.upto fnExactShiftsOfSpec)

/-- 'laws.FnExactFixedShifts', WHERE WHAT IT READS IS OF BULK AT MOST 1048576: true; the input reads as it did. -/
def fnExactFixedShiftsUptoRow : OpenClaim := { program := "ytgpcacbjmjpdnab", sum := "dfcb119d484e0c37679140bff5ee928f77543333b3cc73a29eff3b0b9ed6c216", func := "loop.example/g01121/laws.FnExactFixedShifts", spec := "fnExactFixedShifts", apart := false, narrowed := true }
def FnExactFixedShiftsUptoSaid : Prop := fnExactFixedShiftsUptoRow.holds Try.pinned (OpenSpec.upto fnExactFixedShiftsSpec)

/-- 'laws.FnExactCombineBits', WHERE WHAT IT READS IS OF BULK AT MOST 1048576: true; the input reads as it did. -/
def fnExactCombineBitsUptoRow : OpenClaim := { program := "ytgpcacbjmjpdnab", sum := "dfcb119d484e0c37679140bff5ee928f77543333b3cc73a29eff3b0b9ed6c216", func := "loop.example/g01121/laws.FnExactCombineBits", spec := "fnExactCombineBits", inPlace := ["internal/abi.NoEscape"], apart := false, narrowed := true }
def FnExactCombineBitsUptoSaid : Prop := fnExactCombineBitsUptoRow.holds Try.pinned (OpenSpec.upto fnExactCombineBitsSpec)

/-- 'laws.FnExactCombinedWidth', WHERE WHAT IT READS IS OF BULK AT MOST 1048576: true; the input reads as it did. -/
def fnExactCombinedWidthUptoRow : OpenClaim := { program := "ytgpcacbjmjpdnab", sum := "dfcb119d484e0c37679140bff5ee928f77543333b3cc73a29eff3b0b9ed6c216", func := "loop.example/g01121/laws.FnExactCombinedWidth", spec := "fnExactCombinedWidth", apart := false, narrowed := true }
def FnExactCombinedWidthUptoSaid : Prop := fnExactCombinedWidthUptoRow.holds Try.pinned (OpenSpec.upto fnExactCombinedWidthSpec)

/-- 'laws.FnExactShrinkBits', WHERE WHAT IT READS IS OF BULK AT MOST 1048576: true; the input reads as it did. -/
def fnExactShrinkBitsUptoRow : OpenClaim := { program := "ytgpcacbjmjpdnab", sum := "dfcb119d484e0c37679140bff5ee928f77543333b3cc73a29eff3b0b9ed6c216", func := "loop.example/g01121/laws.FnExactShrinkBits", spec := "fnExactShrinkBits", inPlace := ["internal/abi.NoEscape"], apart := false, narrowed := true }
def FnExactShrinkBitsUptoSaid : Prop := fnExactShrinkBitsUptoRow.holds Try.pinned (OpenSpec.upto fnExactShrinkBitsSpec)

/-- 'laws.FnExactBestStates', WHERE WHAT IT READS IS OF BULK AT MOST 1048576: true; the input reads as it did. -/
def fnExactBestStatesUptoRow : OpenClaim := { program := "ytgpcacbjmjpdnab", sum := "dfcb119d484e0c37679140bff5ee928f77543333b3cc73a29eff3b0b9ed6c216", func := "loop.example/g01121/laws.FnExactBestStates", spec := "fnExactBestStates", apart := false, narrowed := true }
def FnExactBestStatesUptoSaid : Prop := fnExactBestStatesUptoRow.holds Try.pinned (OpenSpec.upto fnExactBestStatesSpec)

end Rows
end Go.Proofs.Ytgpcacbjmjpdnab
