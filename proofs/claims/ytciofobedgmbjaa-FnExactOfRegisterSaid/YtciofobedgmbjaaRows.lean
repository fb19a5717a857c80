/-
  No cell of these rows narrows 'for every input' (looked for: loops, veiled, ifaces, maps, wideKeys, modest, calm, conditions, laid).
  DERIVED. THE GIVEN ROWS OF THIS SEAT. 6 by the template 'for every input the law returns true; each argument reads behind the call as it read before'; 0 by the template 'total and deterministic' (their statements: YtciofobedgmbjaaTotals.lean).
  GIVEN WITH THE SEED: the statements are not yours to turn. If you find one false, say at which input.
  Laid BY PROGRAM, IN A SANDBOX (cutbox-rows.mjs): the forced cells as the released guide's own fill.sh prints them over the translation 108a5a1a53cc2c81… (all of the seat's roots in one cut). By AI agents, Wed Nov 11 2026. No macro, syntax, notation, axiom, sorry.
-/
import Derived.Test.YtciofobedgmbjaaChecked
import GoSem.Claim
import GoSem.ClaimJoined
import GoSem.ClaimMapViews
import Derived.JoinedTies
import Derived.KernelRfl
namespace Go.Proofs.Ytciofobedgmbjaa
/- THE CELL 'sum', in the pinned program and in every row, IS THE sha256 OF THE DUMP (.gsa) THAT YtciofobedgmbjaaProg.lean LOADS. Nothing in Lean hashes anything: it is a label: what it is worth is what the hold of that sum in a sandbox is worth. -/
noncomputable def Try.pinned : Pinned := { name := "ytciofobedgmbjaa", sum := "108a5a1a53cc2c8161f60f503a208f78eee46f29c5ed4da9da560aa594d1ce62", checked := Try.checked }
namespace Rows
def none {H : Type} : Left H := { results := [], args := [] }

/-- 'laws.FnExactValidLinear': WHATEVER THE INPUT: true; the input reads as it did. -/
def fnExactValidLinearSpec : ChangeSpec := { name := "fnExactValidLinear", fn := fun _ => fun
  | [d] => { results := [.lit (.bool true)], args := [d] }
  | _ => none }
def fnExactValidLinearRow : OpenClaim := { program := "ytciofobedgmbjaa", sum := "108a5a1a53cc2c8161f60f503a208f78eee46f29c5ed4da9da560aa594d1ce62", func := "loop.example/g01121/laws.FnExactValidLinear", spec := "fnExactValidLinear", apart := false }
def FnExactValidLinearSaid : Prop := fnExactValidLinearRow.holds Try.pinned (OpenSpec.ofChange fnExactValidLinearSpec)

/-- ITS FALSE NEIGHBOUR: 'it returns false'. Refute it at one input. -/
def fnExactValidLinearWrong : ChangeSpec := { name := "fnExactValidLinear", fn := fun _ => fun
  | [d] => { results := [.lit (.bool false)], args := [d] }
  | _ => none }
def FnExactValidLinearWrongFalsely : Prop := fnExactValidLinearRow.holds Try.pinned (OpenSpec.ofChange fnExactValidLinearWrong)

/-- 'laws.FnExactStepLinear': WHATEVER THE INPUT: true; the input reads as it did. -/
def fnExactStepLinearSpec : ChangeSpec := { name := "fnExactStepLinear", fn := fun _ => fun
  | [d1, d2] => { results := [.lit (.bool true)], args := [d1, d2] }
  | _ => none }
def fnExactStepLinearRow : OpenClaim := { program := "ytciofobedgmbjaa", sum := "108a5a1a53cc2c8161f60f503a208f78eee46f29c5ed4da9da560aa594d1ce62", func := "loop.example/g01121/laws.FnExactStepLinear", spec := "fnExactStepLinear", apart := false }
def FnExactStepLinearSaid : Prop := fnExactStepLinearRow.holds Try.pinned (OpenSpec.ofChange fnExactStepLinearSpec)

/-- ITS FALSE NEIGHBOUR: 'it returns false'. Refute it at one input. -/
def fnExactStepLinearWrong : ChangeSpec := { name := "fnExactStepLinear", fn := fun _ => fun
  | [d1, d2] => { results := [.lit (.bool false)], args := [d1, d2] }
  | _ => none }
def FnExactStepLinearWrongFalsely : Prop := fnExactStepLinearRow.holds Try.pinned (OpenSpec.ofChange fnExactStepLinearWrong)

/-- 'laws.FnExactLinearBits': WHATEVER THE INPUT: true; the input reads as it did. -/
def fnExactLinearBitsSpec : ChangeSpec := { name := "fnExactLinearBits", fn := fun _ => fun
  | [d1, d2, d3] => { results := [.lit (.bool true)], args := [d1, d2, d3] }
  | _ => none }
def fnExactLinearBitsRow : OpenClaim := { program := "ytciofobedgmbjaa", sum := "108a5a1a53cc2c8161f60f503a208f78eee46f29c5ed4da9da560aa594d1ce62", func := "loop.example/g01121/laws.FnExactLinearBits", spec := "fnExactLinearBits", unfollowed := true, recurses := true, apart := false }
def FnExactLinearBitsSaid : Prop := fnExactLinearBitsRow.holds Try.pinned (OpenSpec.ofChange fnExactLinearBitsSpec)

/-- ITS FALSE NEIGHBOUR: 'it returns false'. Refute it at one input. -/
def fnExactLinearBitsWrong : ChangeSpec := { name := "fnExactLinearBits", fn := fun _ => fun
  | [d1, d2, d3] => { results := [.lit (.bool false)], args := [d1, d2, d3] }
  | _ => none }
def FnExactLinearBitsWrongFalsely : Prop := fnExactLinearBitsRow.holds Try.pinned (OpenSpec.ofChange fnExactLinearBitsWrong)

/-- 'laws.FnExactJumpLinear': WHATEVER THE INPUT: true; the input reads as it did. -/
def fnExactJumpLinearSpec : ChangeSpec := { name := "fnExactJumpLinear", fn := fun _ => fun
  | [d1, d2, d3] => { results := [.lit (.bool true)], args := [d1, d2, d3] }
  | _ => none }
def fnExactJumpLinearRow : OpenClaim := { program := "ytciofobedgmbjaa", sum := "108a5a1a53cc2c8161f60f503a208f78eee46f29c5ed4da9da560aa594d1ce62", func := "loop.example/g01121/laws.FnExactJumpLinear", spec := "fnExactJumpLinear", apart := false }
def FnExactJumpLinearSaid : Prop := fnExactJumpLinearRow.holds Try.pinned (OpenSpec.ofChange fnExactJumpLinearSpec)

/-- ITS FALSE NEIGHBOUR: 'it returns false'. Refute it at one input. -/
def fnExactJumpLinearWrong : ChangeSpec := { name := "fnExactJumpLinear", fn := fun _ => fun
  | [d1, d2, d3] => { results := [.lit (.bool false)], args := [d1, d2, d3] }
  | _ => none }
def FnExactJumpLinearWrongFalsely : Prop := fnExactJumpLinearRow.holds Try.pinned (OpenSpec.ofChange fnExactJumpLinearWrong)

/-- 'laws.FnExactOfRegister': WHATEVER THE INPUT: true; the input reads as it did. -/
def fnExactOfRegisterSpec : ChangeSpec := { name := "fnExactOfRegister", fn := fun _ => fun
  | [d] => { results := [.lit (.bool true)], args := [d] }
  | _ => none }
def fnExactOfRegisterRow : OpenClaim := { program := "ytciofobedgmbjaa", sum := "108a5a1a53cc2c8161f60f503a208f78eee46f29c5ed4da9da560aa594d1ce62", func := "loop.example/g01121/laws.FnExactOfRegister", spec := "fnExactOfRegister", unfollowed := true, recurses := true, apart := false }
def FnExactOfRegisterSaid : Prop := fnExactOfRegisterRow.holds Try.pinned (OpenSpec.ofChange fnExactOfRegisterSpec)

/-- ITS FALSE NEIGHBOUR: 'it returns false'. Refute it at one input. -/
def fnExactOfRegisterWrong : ChangeSpec := { name := "fnExactOfRegister", fn := fun _ => fun
  | [d] => { results := [.lit (.bool false)], args := [d] }
  | _ => none }
def FnExactOfRegisterWrongFalsely : Prop := fnExactOfRegisterRow.holds Try.pinned (OpenSpec.ofChange fnExactOfRegisterWrong)

/-- 'laws.FnExactOfXorshift': WHATEVER THE INPUT: true; the input reads as it did. -/
def fnExactOfXorshiftSpec : ChangeSpec := { name := "fnExactOfXorshift", fn := fun _ => fun
  | [d1, d2, d3, d4] => { results := [.lit (.bool true)], args := [d1, d2, d3, d4] }
  | _ => none }
def fnExactOfXorshiftRow : OpenClaim := { program := "ytciofobedgmbjaa", sum := "108a5a1a53cc2c8161f60f503a208f78eee46f29c5ed4da9da560aa594d1ce62", func := "loop.example/g01121/laws.FnExactOfXorshift", spec := "fnExactOfXorshift", unfollowed := true, recurses := true, apart := false }
def FnExactOfXorshiftSaid : Prop := fnExactOfXorshiftRow.holds Try.pinned (OpenSpec.ofChange fnExactOfXorshiftSpec)

/-- ITS FALSE NEIGHBOUR: 'it returns false'. Refute it at one input. -/
def fnExactOfXorshiftWrong : ChangeSpec := { name := "fnExactOfXorshift", fn := fun _ => fun
  | [d1, d2, d3, d4] => { results := [.lit (.bool false)], args := [d1, d2, d3, d4] }
  | _ => none }
def FnExactOfXorshiftWrongFalsely : Prop := fnExactOfXorshiftRow.holds Try.pinned (OpenSpec.ofChange fnExactOfXorshiftWrong)

/- THE SECOND FORM. 'bulk': how many values and letters a reading holds, each counted each time it is reached (what is shared counts as often as it is met; a slice's spare places count too). A statement '..UptoSaid' is the law's where the arguments, and the package variables that the reading takes, are together of bulk at most 1048576: NARROWER than '..Said'. Prove '..Said' where nothing that the law and all that it calls make is longer than what came in: it says more and counts as full. Else prove '..UptoSaid'. A law counts once. -/
mutual
def uptoBulk {H : Type} : DataW H → Nat
  | .lit (.string bytes) => bytes.length + 1
  | .lit _ => 1
  | .nil => 1
  | .ptr d => uptoBulk d + 1
  | .slice elems spare => uptoBulkAll elems + uptoBulkAll spare + 1
  | .agg parts => uptoBulkAll parts + 1
  | .iface _ d => uptoBulk d + 1
  | .map entries => uptoBulkEntries entries + 1
  | .held _ => 1
def uptoBulkAll {H : Type} : List (DataW H) → Nat
  | [] => 0
  | d :: r => uptoBulk d + uptoBulkAll r
def uptoBulkEntries {H : Type} : List (Lit × DataW H) → Nat
  | [] => 0
  | x :: r => uptoBulkEntry x + uptoBulkEntries r
def uptoBulkEntry {H : Type} : Lit × DataW H → Nat
  | (.string bytes, d) => bytes.length + uptoBulk d + 1
  | (_, d) => uptoBulk d + 1
 end
def uptoSmall : (H : Type) → List (DataW H) → Bool := fun _ ds => decide (uptoBulkAll ds ≤ 1048576)
def OpenSpec.upto (s : _root_.Go.ChangeSpec) : _root_.Go.OpenSpec := { _root_.Go.OpenSpec.ofChange s with cond := some uptoSmall }

/-- 'laws.FnExactValidLinear', WHERE WHAT IT READS IS OF BULK AT MOST 1048576: true; the input reads as it did. -/
def fnExactValidLinearUptoRow : OpenClaim := { program := "ytciofobedgmbjaa", sum := "108a5a1a53cc2c8161f60f503a208f78eee46f29c5ed4da9da560aa594d1ce62", func := "loop.example/g01121/laws.FnExactValidLinear", spec := "fnExactValidLinear", apart := false, narrowed := true }
def FnExactValidLinearUptoSaid : Prop := fnExactValidLinearUptoRow.holds Try.pinned (OpenSpec.upto fnExactValidLinearSpec)

/-- 'laws.FnExactStepLinear', WHERE WHAT IT READS IS OF BULK AT MOST 1048576: true; the input reads as it did. -/
def fnExactStepLinearUptoRow : OpenClaim := { program := "ytciofobedgmbjaa", sum := "108a5a1a53cc2c8161f60f503a208f78eee46f29c5ed4da9da560aa594d1ce62", func := "loop.example/g01121/laws.FnExactStepLinear", spec := "fnExactStepLinear", apart := false, narrowed := true }
def FnExactStepLinearUptoSaid : Prop := fnExactStepLinearUptoRow.holds Try.pinned (OpenSpec.upto fnExactStepLinearSpec)

/-- 'laws.FnExactLinearBits', WHERE WHAT IT READS IS OF BULK AT MOST 1048576: true; the input reads as it did. -/
def fnExactLinearBitsUptoRow : OpenClaim := { program := "ytciofobedgmbjaa", sum := "108a5a1a53cc2c8161f60f503a208f78eee46f29c5ed4da9da560aa594d1ce62", func := "loop.example/g01121/laws.FnExactLinearBits", spec := "fnExactLinearBits", unfollowed := true, recurses := true, apart := false, narrowed := true }
def FnExactLinearBitsUptoSaid : Prop := fnExactLinearBitsUptoRow.holds Try.pinned (OpenSpec.upto fnExactLinearBitsSpec)

/-- 'laws.FnExactJumpLinear', WHERE WHAT IT READS IS OF BULK AT MOST 1048576: true; the input reads as it did. -/
def fnExactJumpLinearUptoRow : OpenClaim := { program := "ytciofobedgmbjaa", sum := "108a5a1a53cc2c8161f60f503a208f78eee46f29c5ed4da9da560aa594d1ce62", func := "loop.example/g01121/laws.FnExactJumpLinear", spec := "fnExactJumpLinear", apart := false, narrowed := true }
def FnExactJumpLinearUptoSaid : Prop := fnExactJumpLinearUptoRow.holds Try.pinned (OpenSpec.upto fnExactJumpLinearSpec)

/-- 'laws.FnExactOfRegister', WHERE WHAT IT READS IS OF BULK AT MOST 1048576: true; the input reads as it did. -/
def fnExactOfRegisterUptoRow : OpenClaim := { program := "ytciofobedgmbjaa", sum := "108a5a1a53cc2c8161f60f503a208f78eee46f29c5ed4da9da560aa594d1ce62", func := "loop.example/g01121/laws.FnExactOfRegister", spec := "fnExactOfRegister", unfollowed := true, recurses := true, apart := false, narrowed := true }
def FnExactOfRegisterUptoSaid : Prop := fnExactOfRegisterUptoRow.holds Try.pinned (OpenSpec.upto fnExactOfRegisterSpec)

/-- 'laws.FnExactOfXorshift', WHERE WHAT IT READS IS OF BULK AT MOST 1048576: true; the input reads as it did. -/
def fnExactOfXorshiftUptoRow : OpenClaim := { program := "ytciofobedgmbjaa", sum := "108a5a1a53cc2c8161f60f503a208f78eee46f29c5ed4da9da560aa594d1ce62", func := "loop.example/g01121/laws.FnExactOfXorshift", spec := "fnExactOfXorshift", unfollowed := true, recurses := true, apart := false, narrowed := true }
def FnExactOfXorshiftUptoSaid : Prop := fnExactOfXorshiftUptoRow.holds Try.pinned (OpenSpec.upto fnExactOfXorshiftSpec)

end Rows
end Go.Proofs.Ytciofobedgmbjaa
