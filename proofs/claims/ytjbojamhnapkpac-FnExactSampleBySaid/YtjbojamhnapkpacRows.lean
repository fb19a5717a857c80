/-
  No cell of these rows narrows 'for every input' (looked for: loops, veiled, ifaces, maps, wideKeys, modest, calm, conditions, laid).
  DERIVED. THE GIVEN ROWS OF THIS SEAT. 4 by the template 'for every input the law returns true; each argument reads behind the call as it read before'; 0 by the template 'total and deterministic' (their statements: YtjbojamhnapkpacTotals.lean).
  GIVEN WITH THE SEED: the statements are not yours to turn. If you find one false, say at which input.
  Laid BY PROGRAM, IN A SANDBOX (cutbox-rows.mjs): the forced cells as the released guide's own fill.sh prints them over the translation 68395267aceb0fb3… (all of the seat's roots in one cut). By AI agents, Wed Nov 11 2026. No macro, syntax, notation, axiom, sorry.
-/
import Derived.Test.YtjbojamhnapkpacChecked
import GoSem.Claim
import GoSem.ClaimJoined
import GoSem.ClaimMapViews
import Derived.JoinedTies
import Derived.KernelRfl
namespace Go.Proofs.Ytjbojamhnapkpac
/- THE CELL 'sum', in the pinned program and in every row, IS THE sha256 OF THE DUMP (.gsa) THAT YtjbojamhnapkpacProg.lean LOADS. Nothing in Lean hashes anything: it is a label: what it is worth is what the hold of that sum in a sandbox is worth. -/
noncomputable def Try.pinned : Pinned := { name := "ytjbojamhnapkpac", sum := "68395267aceb0fb3df9b9e6fafe00c907901417b2289875d763eb2ac75198dde", checked := Try.checked }
namespace Rows
def none {H : Type} : Left H := { results := [], args := [] }

/-- 'laws.FnExactReservoirBy': WHATEVER THE INPUT: true; the input reads as it did. -/
def fnExactReservoirBySpec : ChangeSpec := { name := "fnExactReservoirBy", fn := fun _ => fun
  | [d1, d2] => { results := [.lit (.bool true)], args := [d1, d2] }
  | _ => none }
def fnExactReservoirByRow : OpenClaim := { program := "ytjbojamhnapkpac", sum := "68395267aceb0fb3df9b9e6fafe00c907901417b2289875d763eb2ac75198dde", func := "loop.example/g01121/laws.FnExactReservoirBy", spec := "fnExactReservoirBy", apart := false }
def FnExactReservoirBySaid : Prop := fnExactReservoirByRow.holds Try.pinned (OpenSpec.ofChange fnExactReservoirBySpec)

/-- ITS FALSE NEIGHBOUR: 'it returns false'. Refute it at one input. -/
def fnExactReservoirByWrong : ChangeSpec := { name := "fnExactReservoirBy", fn := fun _ => fun
  | [d1, d2] => { results := [.lit (.bool false)], args := [d1, d2] }
  | _ => none }
def FnExactReservoirByWrongFalsely : Prop := fnExactReservoirByRow.holds Try.pinned (OpenSpec.ofChange fnExactReservoirByWrong)

/-- 'laws.FnExactSampleBy': WHATEVER THE INPUT: true; the input reads as it did. -/
def fnExactSampleBySpec : ChangeSpec := { name := "fnExactSampleBy", fn := fun _ => fun
  | [d1, d2] => { results := [.lit (.bool true)], args := [d1, d2] }
  | _ => none }
def fnExactSampleByRow : OpenClaim := { program := "ytjbojamhnapkpac", sum := "68395267aceb0fb3df9b9e6fafe00c907901417b2289875d763eb2ac75198dde", func := "loop.example/g01121/laws.FnExactSampleBy", spec := "fnExactSampleBy", recurses := true, apart := false }
def FnExactSampleBySaid : Prop := fnExactSampleByRow.holds Try.pinned (OpenSpec.ofChange fnExactSampleBySpec)

/-- ITS FALSE NEIGHBOUR: 'it returns false'. Refute it at one input. -/
def fnExactSampleByWrong : ChangeSpec := { name := "fnExactSampleBy", fn := fun _ => fun
  | [d1, d2] => { results := [.lit (.bool false)], args := [d1, d2] }
  | _ => none }
def FnExactSampleByWrongFalsely : Prop := fnExactSampleByRow.holds Try.pinned (OpenSpec.ofChange fnExactSampleByWrong)

/-- 'laws.FnExactRankSet': WHATEVER THE INPUT: true; the input reads as it did. -/
def fnExactRankSetSpec : ChangeSpec := { name := "fnExactRankSet", fn := fun _ => fun
  | [d1, d2] => { results := [.lit (.bool true)], args := [d1, d2] }
  | _ => none }
def fnExactRankSetRow : OpenClaim := { program := "ytjbojamhnapkpac", sum := "68395267aceb0fb3df9b9e6fafe00c907901417b2289875d763eb2ac75198dde", func := "loop.example/g01121/laws.FnExactRankSet", spec := "fnExactRankSet", apart := false }
def FnExactRankSetSaid : Prop := fnExactRankSetRow.holds Try.pinned (OpenSpec.ofChange fnExactRankSetSpec)

/-- ITS FALSE NEIGHBOUR: 'it returns false'. Refute it at one input. -/
def fnExactRankSetWrong : ChangeSpec := { name := "fnExactRankSet", fn := fun _ => fun
  | [d1, d2] => { results := [.lit (.bool false)], args := [d1, d2] }
  | _ => none }
def FnExactRankSetWrongFalsely : Prop := fnExactRankSetRow.holds Try.pinned (OpenSpec.ofChange fnExactRankSetWrong)

/-- 'laws.FnExactSetAt': WHATEVER THE INPUT: true; the input reads as it did. -/
def fnExactSetAtSpec : ChangeSpec := { name := "fnExactSetAt", fn := fun _ => fun
  | [d1, d2, d3] => { results := [.lit (.bool true)], args := [d1, d2, d3] }
  | _ => none }
def fnExactSetAtRow : OpenClaim := { program := "ytjbojamhnapkpac", sum := "68395267aceb0fb3df9b9e6fafe00c907901417b2289875d763eb2ac75198dde", func := "loop.example/g01121/laws.FnExactSetAt", spec := "fnExactSetAt", apart := false }
def FnExactSetAtSaid : Prop := fnExactSetAtRow.holds Try.pinned (OpenSpec.ofChange fnExactSetAtSpec)

/-- ITS FALSE NEIGHBOUR: 'it returns false'. Refute it at one input. -/
def fnExactSetAtWrong : ChangeSpec := { name := "fnExactSetAt", fn := fun _ => fun
  | [d1, d2, d3] => { results := [.lit (.bool false)], args := [d1, d2, d3] }
  | _ => none }
def FnExactSetAtWrongFalsely : Prop := fnExactSetAtRow.holds Try.pinned (OpenSpec.ofChange fnExactSetAtWrong)

/- THE SECOND FORM. 'bulk': how many values and letters a reading holds, each counted each time it is reached (what is shared counts as often as it is met; a slice's spare places count too). A statement '..UptoSaid' is the law's where the arguments, and the package variables that the reading takes, are together of bulk at most 1048576: NARROWER than '..Said'. Prove '..Said' where nothing that the law and all that it calls make is longer than what came in: it says more and counts as full. Else prove '..UptoSaid'. A law counts once. -/
mutual
def uptoBulk {H : Type} : DataW H → Nat
  | .lit (.string bytes) => bytes.length + 1
  | .lit _ => 1
  | .nil => 1
  | .ptr d => uptoBulk d + 1
  | .slice elems spare => uptoBulkAll elems + uptoBulkAll spare + 1
  | .agg parts => uptoBulkAll parts + 1
  | .iface _ d => uptoBulk d + 1
  | .map entries => uptoBulkEntries entries + 1
  | .held _ => 1
def uptoBulkAll {H : Type} : List (DataW H) → Nat
  | [] => 0
  | d :: r => uptoBulk d + uptoBulkAll r
def uptoBulkEntries {H : Type} : List (Lit × DataW H) → Nat
  | [] => 0
  | x :: r => uptoBulkEntry x + uptoBulkEntries r
def uptoBulkEntry {H : Type} : Lit × DataW H → Nat
  | (.string bytes, d) => bytes.length + uptoBulk d + 1
  | (_, d) => uptoBulk d + 1
 end
def uptoSmall : (H : Type) → List (DataW H) → Bool := fun _ ds => decide (uptoBulkAll ds ≤ 1048576)
def OpenSpec.upto (s : _root_.Go.ChangeSpec) : _root_.Go.OpenSpec := { _root_.Go.OpenSpec.ofChange s with cond := some uptoSmall }

/-- 'laws.FnExactReservoirBy', WHERE WHAT IT READS IS OF BULK AT MOST 1048576: true; the input reads as it did. -/
def fnExactReservoirByUptoRow : OpenClaim := { program := "ytjbojamhnapkpac", sum := "68395267aceb0fb3df9b9e6fafe00c907901417b2289875d763eb2ac75198dde", func := "loop.example/g01121/laws.FnExactReservoirBy", spec := "fnExactReservoirBy", apart := false, narrowed := true }
def FnExactReservoirByUptoSaid : Prop := fnExactReservoirByUptoRow.holds Try.pinned (OpenSpec.upto fnExactReservoirBySpec)

/-- 'laws.FnExactSampleBy', WHERE WHAT IT READS IS OF BULK AT MOST 1048576: true; the input reads as it did. -/
def fnExactSampleByUptoRow : OpenClaim := { program := "ytjbojamhnapkpac", sum := "68395267aceb0fb3df9b9e6fafe00c907901417b2289875d763eb2ac75198dde", func := "loop.example/g01121/laws.FnExactSampleBy", spec := "fnExactSampleBy", recurses := true, apart := false, narrowed := true }
def FnExactSampleByUptoSaid : Prop := fnExactSampleByUptoRow.holds Try.pinned (OpenSpec.upto fnExactSampleBySpec)

/-- 'laws.FnExactRankSet', WHERE WHAT IT READS IS OF BULK AT MOST 1048576: true; the input reads as it did. -/
def fnExactRankSetUptoRow : OpenClaim := { program := "ytjbojamhnapkpac", sum := "68395267aceb0fb3df9b9e6fafe00c907901417b2289875d763eb2ac75198dde", func := "loop.example/g01121/laws.FnExactRankSet", spec := "fnExactRankSet", apart := false, narrowed := true }
def FnExactRankSetUptoSaid : Prop := fnExactRankSetUptoRow.holds Try.pinned (OpenSpec.upto fnExactRankSetSpec)

/-- 'laws.FnExactSetAt', WHERE WHAT IT READS IS OF BULK AT MOST 1048576: true; the input reads as it did. -/
def fnExactSetAtUptoRow : OpenClaim := { program := "ytjbojamhnapkpac", sum := "68395267aceb0fb3df9b9e6fafe00c907901417b2289875d763eb2ac75198dde", func := "loop.example/g01121/laws.FnExactSetAt", spec := "fnExactSetAt", apart := false, narrowed := true }
def FnExactSetAtUptoSaid : Prop := fnExactSetAtUptoRow.holds Try.pinned (OpenSpec.upto fnExactSetAtSpec)

end Rows
end Go.Proofs.Ytjbojamhnapkpac
