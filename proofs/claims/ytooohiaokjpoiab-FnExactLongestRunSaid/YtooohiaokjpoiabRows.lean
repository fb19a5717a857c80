/-
  No cell of these rows narrows 'for every input' (looked for: loops, veiled, ifaces, maps, wideKeys, modest, calm, conditions, laid).
  DERIVED. THE GIVEN ROWS OF THIS SEAT. 5 by the template 'for every input the law returns true; each argument reads behind the call as it read before'; 0 by the template 'total and deterministic' (their statements: YtooohiaokjpoiabTotals.lean).
  GIVEN WITH THE SEED: the statements are not yours to turn. If you find one false, say at which input.
  Laid BY PROGRAM, IN A SANDBOX (cutbox-rows.mjs): the forced cells as the released guide's own fill.sh prints them over the translation 16b108582b7441d4… (all of the seat's roots in one cut). By AI agents, Wed Nov 11 2026. No macro, syntax, notation, axiom, sorry.
-/
import Derived.Test.YtooohiaokjpoiabChecked
import GoSem.Claim
import GoSem.ClaimJoined
import GoSem.ClaimMapViews
import Derived.JoinedTies
import Derived.KernelRfl
namespace Go.Proofs.Ytooohiaokjpoiab
/- THE CELL 'sum', in the pinned program and in every row, IS THE sha256 OF THE DUMP (.gsa) THAT YtooohiaokjpoiabProg.lean LOADS. Nothing in Lean hashes anything: it is a label: what it is worth is what the hold of that sum in a sandbox is worth. -/
noncomputable def Try.pinned : Pinned := { name := "ytooohiaokjpoiab", sum := "16b108582b7441d4bf1ede2bdf63d82f8f4d2e0bd7d41e3fcd446af83aef9ad2", checked := Try.checked }
namespace Rows
def none {H : Type} : Left H := { results := [], args := [] }

/-- 'laws.FnExactLongestLaw': WHATEVER THE INPUT: true; the input reads as it did. -/
def fnExactLongestLawSpec : ChangeSpec := { name := "fnExactLongestLaw", fn := fun _ => fun
  | [d] => { results := [.lit (.bool true)], args := [d] }
  | _ => none }
def fnExactLongestLawRow : OpenClaim := { program := "ytooohiaokjpoiab", sum := "16b108582b7441d4bf1ede2bdf63d82f8f4d2e0bd7d41e3fcd446af83aef9ad2", func := "loop.example/g01121/laws.FnExactLongestLaw", spec := "fnExactLongestLaw", unfollowed := true, recurses := true, apart := false }
def FnExactLongestLawSaid : Prop := fnExactLongestLawRow.holds Try.pinned (OpenSpec.ofChange fnExactLongestLawSpec)

/-- ITS FALSE NEIGHBOUR: 'it returns false'. Refute it at one input. -/
def fnExactLongestLawWrong : ChangeSpec := { name := "fnExactLongestLaw", fn := fun _ => fun
  | [d] => { results := [.lit (.bool false)], args := [d] }
  | _ => none }
def FnExactLongestLawWrongFalsely : Prop := fnExactLongestLawRow.holds Try.pinned (OpenSpec.ofChange fnExactLongestLawWrong)

/-- 'laws.FnExactPatternLaw': WHATEVER THE INPUT: true; the input reads as it did. -/
def fnExactPatternLawSpec : ChangeSpec := { name := "fnExactPatternLaw", fn := fun _ => fun
  | [d1, d2] => { results := [.lit (.bool true)], args := [d1, d2] }
  | _ => none }
def fnExactPatternLawRow : OpenClaim := { program := "ytooohiaokjpoiab", sum := "16b108582b7441d4bf1ede2bdf63d82f8f4d2e0bd7d41e3fcd446af83aef9ad2", func := "loop.example/g01121/laws.FnExactPatternLaw", spec := "fnExactPatternLaw", unfollowed := true, recurses := true, apart := false }
def FnExactPatternLawSaid : Prop := fnExactPatternLawRow.holds Try.pinned (OpenSpec.ofChange fnExactPatternLawSpec)

/-- ITS FALSE NEIGHBOUR: 'it returns false'. Refute it at one input. -/
def fnExactPatternLawWrong : ChangeSpec := { name := "fnExactPatternLaw", fn := fun _ => fun
  | [d1, d2] => { results := [.lit (.bool false)], args := [d1, d2] }
  | _ => none }
def FnExactPatternLawWrongFalsely : Prop := fnExactPatternLawRow.holds Try.pinned (OpenSpec.ofChange fnExactPatternLawWrong)

/-- 'laws.FnExactDifferentLaw': WHATEVER THE INPUT: true; the input reads as it did. -/
def fnExactDifferentLawSpec : ChangeSpec := { name := "fnExactDifferentLaw", fn := fun _ => fun
  | [d1, d2] => { results := [.lit (.bool true)], args := [d1, d2] }
  | _ => none }
def fnExactDifferentLawRow : OpenClaim := { program := "ytooohiaokjpoiab", sum := "16b108582b7441d4bf1ede2bdf63d82f8f4d2e0bd7d41e3fcd446af83aef9ad2", func := "loop.example/g01121/laws.FnExactDifferentLaw", spec := "fnExactDifferentLaw", apart := false }
def FnExactDifferentLawSaid : Prop := fnExactDifferentLawRow.holds Try.pinned (OpenSpec.ofChange fnExactDifferentLawSpec)

/-- ITS FALSE NEIGHBOUR: 'it returns false'. Refute it at one input. -/
def fnExactDifferentLawWrong : ChangeSpec := { name := "fnExactDifferentLaw", fn := fun _ => fun
  | [d1, d2] => { results := [.lit (.bool false)], args := [d1, d2] }
  | _ => none }
def FnExactDifferentLawWrongFalsely : Prop := fnExactDifferentLawRow.holds Try.pinned (OpenSpec.ofChange fnExactDifferentLawWrong)

/-- 'laws.FnExactLongestRun': WHATEVER THE INPUT: true; the input reads as it did. -/
def fnExactLongestRunSpec : ChangeSpec := { name := "fnExactLongestRun", fn := fun _ => fun
  | [d] => { results := [.lit (.bool true)], args := [d] }
  | _ => none }
def fnExactLongestRunRow : OpenClaim := { program := "ytooohiaokjpoiab", sum := "16b108582b7441d4bf1ede2bdf63d82f8f4d2e0bd7d41e3fcd446af83aef9ad2", func := "loop.example/g01121/laws.FnExactLongestRun", spec := "fnExactLongestRun", apart := false }
def FnExactLongestRunSaid : Prop := fnExactLongestRunRow.holds Try.pinned (OpenSpec.ofChange fnExactLongestRunSpec)

/-- ITS FALSE NEIGHBOUR: 'it returns false'. Refute it at one input. -/
def fnExactLongestRunWrong : ChangeSpec := { name := "fnExactLongestRun", fn := fun _ => fun
  | [d] => { results := [.lit (.bool false)], args := [d] }
  | _ => none }
def FnExactLongestRunWrongFalsely : Prop := fnExactLongestRunRow.holds Try.pinned (OpenSpec.ofChange fnExactLongestRunWrong)

/-- 'laws.FnExactCountPattern': WHATEVER THE INPUT: true; the input reads as it did. -/
def fnExactCountPatternSpec : ChangeSpec := { name := "fnExactCountPattern", fn := fun _ => fun
  | [d1, d2] => { results := [.lit (.bool true)], args := [d1, d2] }
  | _ => none }
def fnExactCountPatternRow : OpenClaim := { program := "ytooohiaokjpoiab", sum := "16b108582b7441d4bf1ede2bdf63d82f8f4d2e0bd7d41e3fcd446af83aef9ad2", func := "loop.example/g01121/laws.FnExactCountPattern", spec := "fnExactCountPattern", apart := false }
def FnExactCountPatternSaid : Prop := fnExactCountPatternRow.holds Try.pinned (OpenSpec.ofChange fnExactCountPatternSpec)

/-- ITS FALSE NEIGHBOUR: 'it returns false'. Refute it at one input. -/
def fnExactCountPatternWrong : ChangeSpec := { name := "fnExactCountPattern", fn := fun _ => fun
  | [d1, d2] => { results := [.lit (.bool false)], args := [d1, d2] }
  | _ => none }
def FnExactCountPatternWrongFalsely : Prop := fnExactCountPatternRow.holds Try.pinned (OpenSpec.ofChange fnExactCountPatternWrong)

/- THE SECOND FORM. 'bulk': how many values and letters a reading holds, each counted each time it is reached (what is shared counts as often as it is met; a slice's spare places count too). A statement '..UptoSaid' is the law's where the arguments, and the package variables that the reading takes, are together of bulk at most 1048576: NARROWER than '..Said'. Prove '..Said' where nothing that the law and all that it calls make is longer than what came in: it says more and counts as full. Else prove '..UptoSaid'. A law counts once. -/
mutual
def uptoBulk {H : Type} : DataW H → Nat
  | .lit (.string bytes) => bytes.length + 1
  | .lit _ => 1
  | .nil => 1
  | .ptr d => uptoBulk d + 1
  | .slice elems spare => uptoBulkAll elems + uptoBulkAll spare + 1
  | .agg parts => uptoBulkAll parts + 1
  | .iface _ d => uptoBulk d + 1
  | .map entries => uptoBulkEntries entries + 1
  | .held _ => 1
def uptoBulkAll {H : Type} : List (DataW H) → Nat
  | [] => 0
  | d :: r => uptoBulk d + uptoBulkAll r
def uptoBulkEntries {H : Type} : List (Lit × DataW H) → Nat
  | [] => 0
  | x :: r => uptoBulkEntry x + uptoBulkEntries r
def uptoBulkEntry {H : Type} : Lit × DataW H → Nat
  | (.string bytes, d) => bytes.length + uptoBulk d + 1
  | (_, d) => uptoBulk d + 1
 end
def uptoSmall : (H : Type) → List (DataW H) → Bool := fun _ ds => decide (uptoBulkAll ds ≤ 1048576)
def OpenSpec.upto (s : _root_.Go.ChangeSpec) : _root_.Go.OpenSpec := { _root_.Go.OpenSpec.ofChange s with cond := some uptoSmall }

/-- 'laws.FnExactLongestLaw', WHERE WHAT IT READS IS OF BULK AT MOST 1048576: true; the input reads as it did. -/
def fnExactLongestLawUptoRow : OpenClaim := { program := "ytooohiaokjpoiab", sum := "16b108582b7441d4bf1ede2bdf63d82f8f4d2e0bd7d41e3fcd446af83aef9ad2", func := "loop.example/g01121/laws.FnExactLongestLaw", spec := "fnExactLongestLaw", unfollowed := true, recurses := true, apart := false, narrowed := true }
def FnExactLongestLawUptoSaid : Prop := fnExactLongestLawUptoRow.holds Try.pinned (OpenSpec.upto fnExactLongestLawSpec)

/-- 'laws.FnExactPatternLaw', WHERE WHAT IT READS IS OF BULK AT MOST 1048576: true; the input reads as it did. -/
def fnExactPatternLawUptoRow : OpenClaim := { program := "ytooohiaokjpoiab", sum := "16b108582b7441d4bf1ede2bdf63d82f8f4d2e0bd7d41e3fcd446af83aef9ad2", func := "loop.example/g01121/laws.FnExactPatternLaw", spec := "fnExactPatternLaw", unfollowed := true, recurses := true, apart := false, narrowed := true }
def FnExactPatternLawUptoSaid : Prop := fnExactPatternLawUptoRow.holds Try.pinned (OpenSpec.upto fnExactPatternLawSpec)

/-- 'laws.FnExactDifferentLaw', WHERE WHAT IT READS IS OF BULK AT MOST 1048576: true; the input reads as it did. -/
def fnExactDifferentLawUptoRow : OpenClaim := { program := "ytooohiaokjpoiab", sum := "16b108582b7441d4bf1ede2bdf63d82f8f4d2e0bd7d41e3fcd446af83aef9ad2", func := "loop.example/g01121/laws.FnExactDifferentLaw", spec := "fnExactDifferentLaw", apart := false, narrowed := true }
def FnExactDifferentLawUptoSaid : Prop := fnExactDifferentLawUptoRow.holds Try.pinned (OpenSpec.upto fnExactDifferentLawSpec)

/-- 'laws.FnExactLongestRun', WHERE WHAT IT READS IS OF BULK AT MOST 1048576: true; the input reads as it did. -/
def fnExactLongestRunUptoRow : OpenClaim := { program := "ytooohiaokjpoiab", sum := "16b108582b7441d4bf1ede2bdf63d82f8f4d2e0bd7d41e3fcd446af83aef9ad2", func := "loop.example/g01121/laws.FnExactLongestRun", spec := "fnExactLongestRun", apart := false, narrowed := true }
def FnExactLongestRunUptoSaid : Prop := fnExactLongestRunUptoRow.holds Try.pinned (OpenSpec.upto fnExactLongestRunSpec)

/-- 'laws.FnExactCountPattern', WHERE WHAT IT READS IS OF BULK AT MOST 1048576: true; the input reads as it did. -/
def fnExactCountPatternUptoRow : OpenClaim := { program := "ytooohiaokjpoiab", sum := "16b108582b7441d4bf1ede2bdf63d82f8f4d2e0bd7d41e3fcd446af83aef9ad2", func := "loop.example/g01121/laws.FnExactCountPattern", spec := "fnExactCountPattern", apart := false, narrowed := true }
def FnExactCountPatternUptoSaid : Prop := fnExactCountPatternUptoRow.holds Try.pinned (OpenSpec.upto fnExactCountPatternSpec)

end Rows
end Go.Proofs.Ytooohiaokjpoiab
