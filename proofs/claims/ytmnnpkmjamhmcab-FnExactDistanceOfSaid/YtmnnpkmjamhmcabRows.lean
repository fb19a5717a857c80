/-
  NARROWER THAN 'FOR EVERY INPUT', by the rows' own cells (each row's printed sentence says how): FnExactStarDistance: calm · FnStarBound: calm.
  DERIVED. THE GIVEN ROWS OF THIS SEAT. 10 by the template 'for every input the law returns true; each argument reads behind the call as it read before'; 0 by the template 'total and deterministic' (their statements: YtmnnpkmjamhmcabTotals.lean).
  GIVEN WITH THE SEED: the statements are not yours to turn. If you find one false, say at which input.
  Laid BY PROGRAM, IN A SANDBOX (cutbox-rows.mjs): the forced cells as the released guide's own fill.sh prints them over the translation d8d0cef33a1d57e6… (all of the seat's roots in one cut). By AI agents, Wed Nov 11 2026. No macro, syntax, notation, axiom, sorry.
-/
import Derived.Test.YtmnnpkmjamhmcabChecked
import GoSem.Claim
import GoSem.ClaimJoined
import GoSem.ClaimMapViews
import Derived.JoinedTies
import Derived.KernelRfl
namespace Go.Proofs.Ytmnnpkmjamhmcab
/- THE CELL 'sum', in the pinned program and in every row, IS THE sha256 OF THE DUMP (.gsa) THAT YtmnnpkmjamhmcabProg.lean LOADS. Nothing in Lean hashes anything: it is a label: what it is worth is what the hold of that sum in a sandbox is worth. -/
noncomputable def Try.pinned : Pinned := { name := "ytmnnpkmjamhmcab", sum := "d8d0cef33a1d57e6b5e6d8b9ceb0cc39392649709469eb12035e1c385c5e1b8d", checked := Try.checked }
namespace Rows
def none {H : Type} : Left H := { results := [], args := [] }

/-- 'laws.FnInverses': WHATEVER THE INPUT: true; the input reads as it did. -/
def fnInversesSpec : ChangeSpec := { name := "fnInverses", fn := fun _ => fun
  | [d1, d2] => { results := [.lit (.bool true)], args := [d1, d2] }
  | _ => none }
def fnInversesRow : OpenClaim := { program := "ytmnnpkmjamhmcab", sum := "d8d0cef33a1d57e6b5e6d8b9ceb0cc39392649709469eb12035e1c385c5e1b8d", func := "loop.example/g01121/laws.FnInverses", spec := "fnInverses", apart := false }
def FnInversesSaid : Prop := fnInversesRow.holds Try.pinned (OpenSpec.ofChange fnInversesSpec)

/-- ITS FALSE NEIGHBOUR: 'it returns false'. Refute it at one input. -/
def fnInversesWrong : ChangeSpec := { name := "fnInverses", fn := fun _ => fun
  | [d1, d2] => { results := [.lit (.bool false)], args := [d1, d2] }
  | _ => none }
def FnInversesWrongFalsely : Prop := fnInversesRow.holds Try.pinned (OpenSpec.ofChange fnInversesWrong)

/-- 'laws.FnExactNetPoints': WHATEVER THE INPUT: true; the input reads as it did. -/
def fnExactNetPointsSpec : ChangeSpec := { name := "fnExactNetPoints", fn := fun _ => fun
  | [d] => { results := [.lit (.bool true)], args := [d] }
  | _ => none }
def fnExactNetPointsRow : OpenClaim := { program := "ytmnnpkmjamhmcab", sum := "d8d0cef33a1d57e6b5e6d8b9ceb0cc39392649709469eb12035e1c385c5e1b8d", func := "loop.example/g01121/laws.FnExactNetPoints", spec := "fnExactNetPoints", leaving := true, apart := false }
def FnExactNetPointsSaid : Prop := fnExactNetPointsRow.holds Try.pinned (OpenSpec.ofChange fnExactNetPointsSpec)

/-- ITS FALSE NEIGHBOUR: 'it returns false'. Refute it at one input. -/
def fnExactNetPointsWrong : ChangeSpec := { name := "fnExactNetPoints", fn := fun _ => fun
  | [d] => { results := [.lit (.bool false)], args := [d] }
  | _ => none }
def FnExactNetPointsWrongFalsely : Prop := fnExactNetPointsRow.holds Try.pinned (OpenSpec.ofChange fnExactNetPointsWrong)

/-- 'laws.FnExactStarDistance': WHATEVER THE INPUT: true; the input reads as it did. -/
def fnExactStarDistanceSpec : ChangeSpec := { name := "fnExactStarDistance", fn := fun _ => fun
  | [d1, d2] => { results := [.lit (.bool true)], args := [d1, d2] }
  | _ => none }
def fnExactStarDistanceRow : OpenClaim := { program := "ytmnnpkmjamhmcab", sum := "d8d0cef33a1d57e6b5e6d8b9ceb0cc39392649709469eb12035e1c385c5e1b8d", func := "loop.example/g01121/laws.FnExactStarDistance", spec := "fnExactStarDistance", inPlace := ["(*internal/sync.Mutex).Lock", "internal/race.Disable", "sync/atomic.CompareAndSwapInt32", "internal/race.Enable", "internal/race.Acquire", "(*internal/sync.Mutex).lockSlow", "internal/sync.runtime_canSpin", "internal/sync.runtime_doSpin", "internal/sync.throw", "internal/sync.runtime_nanotime", "internal/sync.runtime_SemacquireMutex", "sync/atomic.AddInt32", "(*internal/sync.Mutex).Unlock", "internal/race.ReleaseMerge", "(*internal/sync.Mutex).unlockSlow", "internal/sync.fatal", "internal/sync.runtime_Semrelease", "(*sync.WaitGroup).Add", "internal/synctest.IsInBubble", "internal/synctest.Associate[sync.WaitGroup]", "sync.fatal", "sync/atomic.OrUint64", "sync/atomic.AddUint64", "internal/race.Read", "sync/atomic.LoadUint64", "sync/atomic.StoreUint64", "internal/synctest.Disassociate[sync.WaitGroup]", "sync.runtime_Semrelease", "(*sync.WaitGroup).Done", "(*sync.WaitGroup).Wait", "internal/synctest.IsAssociated[sync.WaitGroup]", "sync/atomic.CompareAndSwapUint64", "internal/race.Write", "sync.runtime_SemacquireWaitGroup"], unfollowed := true, recurses := true, leaving := true, apart := false, calm := true, outside := [.timePasses] }
def FnExactStarDistanceSaid : Prop := fnExactStarDistanceRow.holds Try.pinned (OpenSpec.ofChange fnExactStarDistanceSpec)

/-- ITS FALSE NEIGHBOUR: 'it returns false'. Refute it at one input. -/
def fnExactStarDistanceWrong : ChangeSpec := { name := "fnExactStarDistance", fn := fun _ => fun
  | [d1, d2] => { results := [.lit (.bool false)], args := [d1, d2] }
  | _ => none }
def FnExactStarDistanceWrongFalsely : Prop := fnExactStarDistanceRow.holds Try.pinned (OpenSpec.ofChange fnExactStarDistanceWrong)

/-- 'laws.FnExactGridFigure': WHATEVER THE INPUT: true; the input reads as it did. -/
def fnExactGridFigureSpec : ChangeSpec := { name := "fnExactGridFigure", fn := fun _ => fun
  | [d1, d2] => { results := [.lit (.bool true)], args := [d1, d2] }
  | _ => none }
def fnExactGridFigureRow : OpenClaim := { program := "ytmnnpkmjamhmcab", sum := "d8d0cef33a1d57e6b5e6d8b9ceb0cc39392649709469eb12035e1c385c5e1b8d", func := "loop.example/g01121/laws.FnExactGridFigure", spec := "fnExactGridFigure", unfollowed := true, recurses := true, leaving := true, apart := false }
def FnExactGridFigureSaid : Prop := fnExactGridFigureRow.holds Try.pinned (OpenSpec.ofChange fnExactGridFigureSpec)

/-- ITS FALSE NEIGHBOUR: 'it returns false'. Refute it at one input. -/
def fnExactGridFigureWrong : ChangeSpec := { name := "fnExactGridFigure", fn := fun _ => fun
  | [d1, d2] => { results := [.lit (.bool false)], args := [d1, d2] }
  | _ => none }
def FnExactGridFigureWrongFalsely : Prop := fnExactGridFigureRow.holds Try.pinned (OpenSpec.ofChange fnExactGridFigureWrong)

/-- 'laws.FnExactBestGrid': WHATEVER THE INPUT: true; the input reads as it did. -/
def fnExactBestGridSpec : ChangeSpec := { name := "fnExactBestGrid", fn := fun _ => fun
  | [d] => { results := [.lit (.bool true)], args := [d] }
  | _ => none }
def fnExactBestGridRow : OpenClaim := { program := "ytmnnpkmjamhmcab", sum := "d8d0cef33a1d57e6b5e6d8b9ceb0cc39392649709469eb12035e1c385c5e1b8d", func := "loop.example/g01121/laws.FnExactBestGrid", spec := "fnExactBestGrid", unfollowed := true, recurses := true, leaving := true, apart := false }
def FnExactBestGridSaid : Prop := fnExactBestGridRow.holds Try.pinned (OpenSpec.ofChange fnExactBestGridSpec)

/-- ITS FALSE NEIGHBOUR: 'it returns false'. Refute it at one input. -/
def fnExactBestGridWrong : ChangeSpec := { name := "fnExactBestGrid", fn := fun _ => fun
  | [d] => { results := [.lit (.bool false)], args := [d] }
  | _ => none }
def FnExactBestGridWrongFalsely : Prop := fnExactBestGridRow.holds Try.pinned (OpenSpec.ofChange fnExactBestGridWrong)

/-- 'laws.FnStarBound': WHATEVER THE INPUT: true; the input reads as it did. -/
def fnStarBoundSpec : ChangeSpec := { name := "fnStarBound", fn := fun _ => fun
  | [d1, d2] => { results := [.lit (.bool true)], args := [d1, d2] }
  | _ => none }
def fnStarBoundRow : OpenClaim := { program := "ytmnnpkmjamhmcab", sum := "d8d0cef33a1d57e6b5e6d8b9ceb0cc39392649709469eb12035e1c385c5e1b8d", func := "loop.example/g01121/laws.FnStarBound", spec := "fnStarBound", inPlace := ["(*internal/sync.Mutex).Lock", "internal/race.Disable", "sync/atomic.CompareAndSwapInt32", "internal/race.Enable", "internal/race.Acquire", "(*internal/sync.Mutex).lockSlow", "internal/sync.runtime_canSpin", "internal/sync.runtime_doSpin", "internal/sync.throw", "internal/sync.runtime_nanotime", "internal/sync.runtime_SemacquireMutex", "sync/atomic.AddInt32", "(*internal/sync.Mutex).Unlock", "internal/race.ReleaseMerge", "(*internal/sync.Mutex).unlockSlow", "internal/sync.fatal", "internal/sync.runtime_Semrelease", "(*sync.WaitGroup).Add", "internal/synctest.IsInBubble", "internal/synctest.Associate[sync.WaitGroup]", "sync.fatal", "sync/atomic.OrUint64", "sync/atomic.AddUint64", "internal/race.Read", "sync/atomic.LoadUint64", "sync/atomic.StoreUint64", "internal/synctest.Disassociate[sync.WaitGroup]", "sync.runtime_Semrelease", "(*sync.WaitGroup).Done", "(*sync.WaitGroup).Wait", "internal/synctest.IsAssociated[sync.WaitGroup]", "sync/atomic.CompareAndSwapUint64", "internal/race.Write", "sync.runtime_SemacquireWaitGroup"], unfollowed := true, recurses := true, leaving := true, apart := false, calm := true, outside := [.timePasses] }
def FnStarBoundSaid : Prop := fnStarBoundRow.holds Try.pinned (OpenSpec.ofChange fnStarBoundSpec)

/-- ITS FALSE NEIGHBOUR: 'it returns false'. Refute it at one input. -/
def fnStarBoundWrong : ChangeSpec := { name := "fnStarBound", fn := fun _ => fun
  | [d1, d2] => { results := [.lit (.bool false)], args := [d1, d2] }
  | _ => none }
def FnStarBoundWrongFalsely : Prop := fnStarBoundRow.holds Try.pinned (OpenSpec.ofChange fnStarBoundWrong)

/-- 'laws.FnGrids': WHATEVER THE INPUT: true; the input reads as it did. -/
def fnGridsSpec : ChangeSpec := { name := "fnGrids", fn := fun _ => fun
  | [d1, d2] => { results := [.lit (.bool true)], args := [d1, d2] }
  | _ => none }
def fnGridsRow : OpenClaim := { program := "ytmnnpkmjamhmcab", sum := "d8d0cef33a1d57e6b5e6d8b9ceb0cc39392649709469eb12035e1c385c5e1b8d", func := "loop.example/g01121/laws.FnGrids", spec := "fnGrids", unfollowed := true, recurses := true, leaving := true, apart := false }
def FnGridsSaid : Prop := fnGridsRow.holds Try.pinned (OpenSpec.ofChange fnGridsSpec)

/-- ITS FALSE NEIGHBOUR: 'it returns false'. Refute it at one input. -/
def fnGridsWrong : ChangeSpec := { name := "fnGrids", fn := fun _ => fun
  | [d1, d2] => { results := [.lit (.bool false)], args := [d1, d2] }
  | _ => none }
def FnGridsWrongFalsely : Prop := fnGridsRow.holds Try.pinned (OpenSpec.ofChange fnGridsWrong)

/-- 'laws.FnExactDistanceOf': WHATEVER THE INPUT: true; the input reads as it did. -/
def fnExactDistanceOfSpec : ChangeSpec := { name := "fnExactDistanceOf", fn := fun _ => fun
  | [d1, d2] => { results := [.lit (.bool true)], args := [d1, d2] }
  | _ => none }
def fnExactDistanceOfRow : OpenClaim := { program := "ytmnnpkmjamhmcab", sum := "d8d0cef33a1d57e6b5e6d8b9ceb0cc39392649709469eb12035e1c385c5e1b8d", func := "loop.example/g01121/laws.FnExactDistanceOf", spec := "fnExactDistanceOf", inPlace := ["math/bits.Add64", "math/bits.Sub64"], named := ["math/bits.divideError", "math/bits.overflowError"], apart := false }
def FnExactDistanceOfSaid : Prop := fnExactDistanceOfRow.holds Try.pinned (OpenSpec.ofChange fnExactDistanceOfSpec)

/-- ITS FALSE NEIGHBOUR: 'it returns false'. Refute it at one input. -/
def fnExactDistanceOfWrong : ChangeSpec := { name := "fnExactDistanceOf", fn := fun _ => fun
  | [d1, d2] => { results := [.lit (.bool false)], args := [d1, d2] }
  | _ => none }
def FnExactDistanceOfWrongFalsely : Prop := fnExactDistanceOfRow.holds Try.pinned (OpenSpec.ofChange fnExactDistanceOfWrong)

/-- 'laws.FnExactGreatestOf': WHATEVER THE INPUT: true; the input reads as it did. -/
def fnExactGreatestOfSpec : ChangeSpec := { name := "fnExactGreatestOf", fn := fun _ => fun
  | [d] => { results := [.lit (.bool true)], args := [d] }
  | _ => none }
def fnExactGreatestOfRow : OpenClaim := { program := "ytmnnpkmjamhmcab", sum := "d8d0cef33a1d57e6b5e6d8b9ceb0cc39392649709469eb12035e1c385c5e1b8d", func := "loop.example/g01121/laws.FnExactGreatestOf", spec := "fnExactGreatestOf", inPlace := ["math/bits.Add64"], unfollowed := true, recurses := true, named := ["math/bits.divideError", "math/bits.overflowError"], leaving := true, apart := false }
def FnExactGreatestOfSaid : Prop := fnExactGreatestOfRow.holds Try.pinned (OpenSpec.ofChange fnExactGreatestOfSpec)

/-- ITS FALSE NEIGHBOUR: 'it returns false'. Refute it at one input. -/
def fnExactGreatestOfWrong : ChangeSpec := { name := "fnExactGreatestOf", fn := fun _ => fun
  | [d] => { results := [.lit (.bool false)], args := [d] }
  | _ => none }
def FnExactGreatestOfWrongFalsely : Prop := fnExactGreatestOfRow.holds Try.pinned (OpenSpec.ofChange fnExactGreatestOfWrong)

/-- 'laws.FnExactContractionOf': WHATEVER THE INPUT: true; the input reads as it did. -/
def fnExactContractionOfSpec : ChangeSpec := { name := "fnExactContractionOf", fn := fun _ => fun
  | [d] => { results := [.lit (.bool true)], args := [d] }
  | _ => none }
def fnExactContractionOfRow : OpenClaim := { program := "ytmnnpkmjamhmcab", sum := "d8d0cef33a1d57e6b5e6d8b9ceb0cc39392649709469eb12035e1c385c5e1b8d", func := "loop.example/g01121/laws.FnExactContractionOf", spec := "fnExactContractionOf", inPlace := ["math/bits.Add64", "math/bits.Sub64"], unfollowed := true, recurses := true, named := ["math/bits.divideError", "math/bits.overflowError"], leaving := true, apart := false }
def FnExactContractionOfSaid : Prop := fnExactContractionOfRow.holds Try.pinned (OpenSpec.ofChange fnExactContractionOfSpec)

/-- ITS FALSE NEIGHBOUR: 'it returns false'. Refute it at one input. -/
def fnExactContractionOfWrong : ChangeSpec := { name := "fnExactContractionOf", fn := fun _ => fun
  | [d] => { results := [.lit (.bool false)], args := [d] }
  | _ => none }
def FnExactContractionOfWrongFalsely : Prop := fnExactContractionOfRow.holds Try.pinned (OpenSpec.ofChange fnExactContractionOfWrong)

/- THE SECOND FORM. 'bulk': how many values and letters a reading holds, each counted each time it is reached (what is shared counts as often as it is met; a slice's spare places count too). A statement '..UptoSaid' is the law's where the arguments, and the package variables that the reading takes, are together of bulk at most 1048576: NARROWER than '..Said'. Prove '..Said' where nothing that the law and all that it calls make is longer than what came in: it says more and counts as full. Else prove '..UptoSaid'. A law counts once. -/
mutual
def uptoBulk {H : Type} : DataW H → Nat
  | .lit (.string bytes) => bytes.length + 1
  | .lit _ => 1
  | .nil => 1
  | .ptr d => uptoBulk d + 1
  | .slice elems spare => uptoBulkAll elems + uptoBulkAll spare + 1
  | .agg parts => uptoBulkAll parts + 1
  | .iface _ d => uptoBulk d + 1
  | .map entries => uptoBulkEntries entries + 1
  | .held _ => 1
def uptoBulkAll {H : Type} : List (DataW H) → Nat
  | [] => 0
  | d :: r => uptoBulk d + uptoBulkAll r
def uptoBulkEntries {H : Type} : List (Lit × DataW H) → Nat
  | [] => 0
  | x :: r => uptoBulkEntry x + uptoBulkEntries r
def uptoBulkEntry {H : Type} : Lit × DataW H → Nat
  | (.string bytes, d) => bytes.length + uptoBulk d + 1
  | (_, d) => uptoBulk d + 1
 end
def uptoSmall : (H : Type) → List (DataW H) → Bool := fun _ ds => decide (uptoBulkAll ds ≤ 1048576)
def OpenSpec.upto (s : _root_.Go.ChangeSpec) : _root_.Go.OpenSpec := { _root_.Go.OpenSpec.ofChange s with cond := some uptoSmall }

/-- 'laws.FnInverses', WHERE WHAT IT READS IS OF BULK AT MOST 1048576: true; the input reads as it did. -/
def fnInversesUptoRow : OpenClaim := { program := "ytmnnpkmjamhmcab", sum := "d8d0cef33a1d57e6b5e6d8b9ceb0cc39392649709469eb12035e1c385c5e1b8d", func := "loop.example/g01121/laws.FnInverses", spec := "fnInverses", apart := false, narrowed := true }
def FnInversesUptoSaid : Prop := fnInversesUptoRow.holds Try.pinned (OpenSpec.upto fnInversesSpec)

/-- 'laws.FnExactNetPoints', WHERE WHAT IT READS IS OF BULK AT MOST 1048576: true; the input reads as it did. -/
def fnExactNetPointsUptoRow : OpenClaim := { program := "ytmnnpkmjamhmcab", sum := "d8d0cef33a1d57e6b5e6d8b9ceb0cc39392649709469eb12035e1c385c5e1b8d", func := "loop.example/g01121/laws.FnExactNetPoints", spec := "fnExactNetPoints", leaving := true, apart := false, narrowed := true }
def FnExactNetPointsUptoSaid : Prop := fnExactNetPointsUptoRow.holds Try.pinned (OpenSpec.upto fnExactNetPointsSpec)

/-- 'laws.FnExactStarDistance', WHERE WHAT IT READS IS OF BULK AT MOST 1048576: true; the input reads as it did. -/
def fnExactStarDistanceUptoRow : OpenClaim := { program := "ytmnnpkmjamhmcab", sum := "d8d0cef33a1d57e6b5e6d8b9ceb0cc39392649709469eb12035e1c385c5e1b8d", func := "loop.example/g01121/laws.FnExactStarDistance", spec := "fnExactStarDistance", inPlace := ["(*internal/sync.Mutex).Lock", "internal/race.Disable", "sync/atomic.CompareAndSwapInt32", "internal/race.Enable", "internal/race.Acquire", "(*internal/sync.Mutex).lockSlow", "internal/sync.runtime_canSpin", "internal/sync.runtime_doSpin", "internal/sync.throw", "internal/sync.runtime_nanotime", "internal/sync.runtime_SemacquireMutex", "sync/atomic.AddInt32", "(*internal/sync.Mutex).Unlock", "internal/race.ReleaseMerge", "(*internal/sync.Mutex).unlockSlow", "internal/sync.fatal", "internal/sync.runtime_Semrelease", "(*sync.WaitGroup).Add", "internal/synctest.IsInBubble", "internal/synctest.Associate[sync.WaitGroup]", "sync.fatal", "sync/atomic.OrUint64", "sync/atomic.AddUint64", "internal/race.Read", "sync/atomic.LoadUint64", "sync/atomic.StoreUint64", "internal/synctest.Disassociate[sync.WaitGroup]", "sync.runtime_Semrelease", "(*sync.WaitGroup).Done", "(*sync.WaitGroup).Wait", "internal/synctest.IsAssociated[sync.WaitGroup]", "sync/atomic.CompareAndSwapUint64", "internal/race.Write", "sync.runtime_SemacquireWaitGroup"], unfollowed := true, recurses := true, leaving := true, apart := false, calm := true, outside := [.timePasses], narrowed := true }
def FnExactStarDistanceUptoSaid : Prop := fnExactStarDistanceUptoRow.holds Try.pinned (OpenSpec.upto fnExactStarDistanceSpec)

/-- 'laws.FnExactGridFigure', WHERE WHAT IT READS IS OF BULK AT MOST 1048576: true; the input reads as it did. -/
def fnExactGridFigureUptoRow : OpenClaim := { program := "ytmnnpkmjamhmcab", sum := "d8d0cef33a1d57e6b5e6d8b9ceb0cc39392649709469eb12035e1c385c5e1b8d", func := "loop.example/g01121/laws.FnExactGridFigure", spec := "fnExactGridFigure", unfollowed := true, recurses := true, leaving := true, apart := false, narrowed := true }
def FnExactGridFigureUptoSaid : Prop := fnExactGridFigureUptoRow.holds Try.pinned (OpenSpec.upto fnExactGridFigureSpec)

/-- 'laws.FnExactBestGrid', WHERE WHAT IT READS IS OF BULK AT MOST 1048576: true; the input reads as it did. -/
def fnExactBestGridUptoRow : OpenClaim := { program := "ytmnnpkmjamhmcab", sum := "d8d0cef33a1d57e6b5e6d8b9ceb0cc39392649709469eb12035e1c385c5e1b8d", func := "loop.example/g01121/laws.FnExactBestGrid", spec := "fnExactBestGrid", unfollowed := true, recurses := true, leaving := true, apart := false, narrowed := true }
def FnExactBestGridUptoSaid : Prop := fnExactBestGridUptoRow.holds Try.pinned (OpenSpec.upto fnExactBestGridSpec)

/-- 'laws.FnStarBound', WHERE WHAT IT READS IS OF BULK AT MOST 1048576: true; the input reads as it did. -/
def fnStarBoundUptoRow : OpenClaim := { program := "ytmnnpkmjamhmcab", sum := "d8d0cef33a1d57e6b5e6d8b9ceb0cc39392649709469eb12035e1c385c5e1b8d", func := "loop.example/g01121/laws.FnStarBound", spec := "fnStarBound", inPlace := ["(*internal/sync.Mutex).Lock", "internal/race.Disable", "sync/atomic.CompareAndSwapInt32", "internal/race.Enable", "internal/race.Acquire", "(*internal/sync.Mutex).lockSlow", "internal/sync.runtime_canSpin", "internal/sync.runtime_doSpin", "internal/sync.throw", "internal/sync.runtime_nanotime", "internal/sync.runtime_SemacquireMutex", "sync/atomic.AddInt32", "(*internal/sync.Mutex).Unlock", "internal/race.ReleaseMerge", "(*internal/sync.Mutex).unlockSlow", "internal/sync.fatal", "internal/sync.runtime_Semrelease", "(*sync.WaitGroup).Add", "internal/synctest.IsInBubble", "internal/synctest.Associate[sync.WaitGroup]", "sync.fatal", "sync/atomic.OrUint64", "sync/atomic.AddUint64", "internal/race.Read", "sync/atomic.LoadUint64", "sync/atomic.StoreUint64", "internal/synctest.Disassociate[sync.WaitGroup]", "sync.runtime_Semrelease", "(*sync.WaitGroup).Done", "(*sync.WaitGroup).Wait", "internal/synctest.IsAssociated[sync.WaitGroup]", "sync/atomic.CompareAndSwapUint64", "internal/race.Write", "sync.runtime_SemacquireWaitGroup"], unfollowed := true, recurses := true, leaving := true, apart := false, calm := true, outside := [.timePasses], narrowed := true }
def FnStarBoundUptoSaid : Prop := fnStarBoundUptoRow.holds Try.pinned (OpenSpec.upto fnStarBoundSpec)

/-- 'laws.FnGrids', WHERE WHAT IT READS IS OF BULK AT MOST 1048576: true; the input reads as it did. -/
def fnGridsUptoRow : OpenClaim := { program := "ytmnnpkmjamhmcab", sum := "d8d0cef33a1d57e6b5e6d8b9ceb0cc39392649709469eb12035e1c385c5e1b8d", func := "loop.example/g01121/laws.FnGrids", spec := "fnGrids", unfollowed := true, recurses := true, leaving := true, apart := false, narrowed := true }
def FnGridsUptoSaid : Prop := fnGridsUptoRow.holds Try.pinned (OpenSpec.upto fnGridsSpec)

/-- 'laws.FnExactDistanceOf', WHERE WHAT IT READS IS OF BULK AT MOST 1048576: true; the input reads as it did. -/
def fnExactDistanceOfUptoRow : OpenClaim := { program := "ytmnnpkmjamhmcab", sum := "d8d0cef33a1d57e6b5e6d8b9ceb0cc39392649709469eb12035e1c385c5e1b8d", func := "loop.example/g01121/laws.FnExactDistanceOf", spec := "fnExactDistanceOf", inPlace := ["math/bits.Add64", "math/bits.Sub64"], named := ["math/bits.divideError", "math/bits.overflowError"], apart := false, narrowed := true }
def FnExactDistanceOfUptoSaid : Prop := fnExactDistanceOfUptoRow.holds Try.pinned (OpenSpec.upto fnExactDistanceOfSpec)

/-- 'laws.FnExactGreatestOf', WHERE WHAT IT READS IS OF BULK AT MOST 1048576: true; the input reads as it did. -/
def fnExactGreatestOfUptoRow : OpenClaim := { program := "ytmnnpkmjamhmcab", sum := "d8d0cef33a1d57e6b5e6d8b9ceb0cc39392649709469eb12035e1c385c5e1b8d", func := "loop.example/g01121/laws.FnExactGreatestOf", spec := "fnExactGreatestOf", inPlace := ["math/bits.Add64"], unfollowed := true, recurses := true, named := ["math/bits.divideError", "math/bits.overflowError"], leaving := true, apart := false, narrowed := true }
def FnExactGreatestOfUptoSaid : Prop := fnExactGreatestOfUptoRow.holds Try.pinned (OpenSpec.upto fnExactGreatestOfSpec)

/-- 'laws.FnExactContractionOf', WHERE WHAT IT READS IS OF BULK AT MOST 1048576: true; the input reads as it did. -/
def fnExactContractionOfUptoRow : OpenClaim := { program := "ytmnnpkmjamhmcab", sum := "d8d0cef33a1d57e6b5e6d8b9ceb0cc39392649709469eb12035e1c385c5e1b8d", func := "loop.example/g01121/laws.FnExactContractionOf", spec := "fnExactContractionOf", inPlace := ["math/bits.Add64", "math/bits.Sub64"], unfollowed := true, recurses := true, named := ["math/bits.divideError", "math/bits.overflowError"], leaving := true, apart := false, narrowed := true }
def FnExactContractionOfUptoSaid : Prop := fnExactContractionOfUptoRow.holds Try.pinned (OpenSpec.upto fnExactContractionOfSpec)

end Rows
end Go.Proofs.Ytmnnpkmjamhmcab
