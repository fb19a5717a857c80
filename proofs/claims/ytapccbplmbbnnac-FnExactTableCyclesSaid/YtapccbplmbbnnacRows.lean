/-
  No cell of these rows narrows 'for every input' (looked for: loops, veiled, ifaces, maps, wideKeys, modest, calm, conditions, laid).
  DERIVED. THE GIVEN ROWS OF THIS SEAT. 3 by the template 'for every input the law returns true; each argument reads behind the call as it read before'; 0 by the template 'total and deterministic' (their statements: YtapccbplmbbnnacTotals.lean).
  GIVEN WITH THE SEED: the statements are not yours to turn. If you find one false, say at which input.
  Laid BY PROGRAM, IN A SANDBOX (cutbox-rows.mjs): the forced cells as the released guide's own fill.sh prints them over the translation 831a4a8379745bbc… (all of the seat's roots in one cut). By AI agents, Wed Nov 11 2026. No macro, syntax, notation, axiom, sorry.
-/
import Derived.Test.YtapccbplmbbnnacChecked
import GoSem.Claim
import GoSem.ClaimJoined
import GoSem.ClaimMapViews
import Derived.JoinedTies
import Derived.KernelRfl
namespace Go.Proofs.Ytapccbplmbbnnac
/- THE CELL 'sum', in the pinned program and in every row, IS THE sha256 OF THE DUMP (.gsa) THAT YtapccbplmbbnnacProg.lean LOADS. Nothing in Lean hashes anything: it is a label: what it is worth is what the hold of that sum in a sandbox is worth. -/
noncomputable def Try.pinned : Pinned := { name := "ytapccbplmbbnnac", sum := "831a4a8379745bbc58c9421dc1972a565a56e06273e07b45d77888bb64b480aa", checked := Try.checked }
namespace Rows
def none {H : Type} : Left H := { results := [], args := [] }

/-- 'laws.FnExactTableCycles': WHATEVER THE INPUT: true; the input reads as it did. -/
def fnExactTableCyclesSpec : ChangeSpec := { name := "fnExactTableCycles", fn := fun _ => fun
  | [d1, d2] => { results := [.lit (.bool true)], args := [d1, d2] }
  | _ => none }
def fnExactTableCyclesRow : OpenClaim := { program := "ytapccbplmbbnnac", sum := "831a4a8379745bbc58c9421dc1972a565a56e06273e07b45d77888bb64b480aa", func := "loop.example/g01121/laws.FnExactTableCycles", spec := "fnExactTableCycles", unfollowed := true, recurses := true, apart := false }
def FnExactTableCyclesSaid : Prop := fnExactTableCyclesRow.holds Try.pinned (OpenSpec.ofChange fnExactTableCyclesSpec)

/-- ITS FALSE NEIGHBOUR: 'it returns false'. Refute it at one input. -/
def fnExactTableCyclesWrong : ChangeSpec := { name := "fnExactTableCycles", fn := fun _ => fun
  | [d1, d2] => { results := [.lit (.bool false)], args := [d1, d2] }
  | _ => none }
def FnExactTableCyclesWrongFalsely : Prop := fnExactTableCyclesRow.holds Try.pinned (OpenSpec.ofChange fnExactTableCyclesWrong)

/-- 'laws.FnAllWords': WHATEVER THE INPUT: true; the input reads as it did. -/
def fnAllWordsSpec : ChangeSpec := { name := "fnAllWords", fn := fun _ => fun
  | [d1, d2] => { results := [.lit (.bool true)], args := [d1, d2] }
  | _ => none }
def fnAllWordsRow : OpenClaim := { program := "ytapccbplmbbnnac", sum := "831a4a8379745bbc58c9421dc1972a565a56e06273e07b45d77888bb64b480aa", func := "loop.example/g01121/laws.FnAllWords", spec := "fnAllWords", unfollowed := true, recurses := true, apart := false }
def FnAllWordsSaid : Prop := fnAllWordsRow.holds Try.pinned (OpenSpec.ofChange fnAllWordsSpec)

/-- ITS FALSE NEIGHBOUR: 'it returns false'. Refute it at one input. -/
def fnAllWordsWrong : ChangeSpec := { name := "fnAllWords", fn := fun _ => fun
  | [d1, d2] => { results := [.lit (.bool false)], args := [d1, d2] }
  | _ => none }
def FnAllWordsWrongFalsely : Prop := fnAllWordsRow.holds Try.pinned (OpenSpec.ofChange fnAllWordsWrong)

/-- 'laws.FnRegisterPeriods': WHATEVER THE INPUT: true; the input reads as it did. -/
def fnRegisterPeriodsSpec : ChangeSpec := { name := "fnRegisterPeriods", fn := fun _ => fun
  | [d1, d2] => { results := [.lit (.bool true)], args := [d1, d2] }
  | _ => none }
def fnRegisterPeriodsRow : OpenClaim := { program := "ytapccbplmbbnnac", sum := "831a4a8379745bbc58c9421dc1972a565a56e06273e07b45d77888bb64b480aa", func := "loop.example/g01121/laws.FnRegisterPeriods", spec := "fnRegisterPeriods", unfollowed := true, recurses := true, apart := false }
def FnRegisterPeriodsSaid : Prop := fnRegisterPeriodsRow.holds Try.pinned (OpenSpec.ofChange fnRegisterPeriodsSpec)

/-- ITS FALSE NEIGHBOUR: 'it returns false'. Refute it at one input. -/
def fnRegisterPeriodsWrong : ChangeSpec := { name := "fnRegisterPeriods", fn := fun _ => fun
  | [d1, d2] => { results := [.lit (.bool false)], args := [d1, d2] }
  | _ => none }
def FnRegisterPeriodsWrongFalsely : Prop := fnRegisterPeriodsRow.holds Try.pinned (OpenSpec.ofChange fnRegisterPeriodsWrong)

/- THE SECOND FORM. 'bulk': how many values and letters a reading holds, each counted each time it is reached (what is shared counts as often as it is met; a slice's spare places count too). A statement '..UptoSaid' is the law's where the arguments, and the package variables that the reading takes, are together of bulk at most 1048576: NARROWER than '..Said'. Prove '..Said' where nothing that the law and all that it calls make is longer than what came in: it says more and counts as full. Else prove '..UptoSaid'. A law counts once. -/
mutual
def uptoBulk {H : Type} : DataW H → Nat
  | .lit (.string bytes) => bytes.length + 1
  | .lit _ => 1
  | .nil => 1
  | .ptr d => uptoBulk d + 1
  | .slice elems spare => uptoBulkAll elems + uptoBulkAll spare + 1
  | .agg parts => uptoBulkAll parts + 1
  | .iface _ d => uptoBulk d + 1
  | .map entries => uptoBulkEntries entries + 1
  | .held _ => 1
def uptoBulkAll {H : Type} : List (DataW H) → Nat
  | [] => 0
  | d :: r => uptoBulk d + uptoBulkAll r
def uptoBulkEntries {H : Type} : List (Lit × DataW H) → Nat
  | [] => 0
  | x :: r => uptoBulkEntry x + uptoBulkEntries r
def uptoBulkEntry {H : Type} : Lit × DataW H → Nat
  | (.string bytes, d) => bytes.length + uptoBulk d + 1
  | (_, d) => uptoBulk d + 1
 end
def uptoSmall : (H : Type) → List (DataW H) → Bool := fun _ ds => decide (uptoBulkAll ds ≤ 1048576)
def OpenSpec.upto (s : _root_.Go.ChangeSpec) : _root_.Go.OpenSpec := { _root_.Go.OpenSpec.ofChange s with cond := some uptoSmall }

/-- 'laws.FnExactTableCycles', WHERE WHAT IT READS IS OF BULK AT MOST 1048576: true; the input reads as it did. -/
def fnExactTableCyclesUptoRow : OpenClaim := { program := "ytapccbplmbbnnac", sum := "831a4a8379745bbc58c9421dc1972a565a56e06273e07b45d77888bb64b480aa", func := "loop.example/g01121/laws.FnExactTableCycles", spec := "fnExactTableCycles", unfollowed := true, recurses := true, apart := false, narrowed := true }
def FnExactTableCyclesUptoSaid : Prop := fnExactTableCyclesUptoRow.holds Try.pinned (OpenSpec.upto fnExactTableCyclesSpec)

/-- 'laws.FnAllWords', WHERE WHAT IT READS IS OF BULK AT MOST 1048576: true; the input reads as it did. -/
def fnAllWordsUptoRow : OpenClaim := { program := "ytapccbplmbbnnac", sum := "831a4a8379745bbc58c9421dc1972a565a56e06273e07b45d77888bb64b480aa", func := "loop.example/g01121/laws.FnAllWords", spec := "fnAllWords", unfollowed := true, recurses := true, apart := false, narrowed := true }
def FnAllWordsUptoSaid : Prop := fnAllWordsUptoRow.holds Try.pinned (OpenSpec.upto fnAllWordsSpec)

/-- 'laws.FnRegisterPeriods', WHERE WHAT IT READS IS OF BULK AT MOST 1048576: true; the input reads as it did. -/
def fnRegisterPeriodsUptoRow : OpenClaim := { program := "ytapccbplmbbnnac", sum := "831a4a8379745bbc58c9421dc1972a565a56e06273e07b45d77888bb64b480aa", func := "loop.example/g01121/laws.FnRegisterPeriods", spec := "fnRegisterPeriods", unfollowed := true, recurses := true, apart := false, narrowed := true }
def FnRegisterPeriodsUptoSaid : Prop := fnRegisterPeriodsUptoRow.holds Try.pinned (OpenSpec.upto fnRegisterPeriodsSpec)

end Rows
end Go.Proofs.Ytapccbplmbbnnac
