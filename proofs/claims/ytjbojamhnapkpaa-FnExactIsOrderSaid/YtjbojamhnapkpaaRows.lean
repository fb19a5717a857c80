/-
  No cell of these rows narrows 'for every input' (looked for: loops, veiled, ifaces, maps, wideKeys, modest, calm, conditions, laid).
  DERIVED. THE GIVEN ROWS OF THIS SEAT. 11 by the template 'for every input the law returns true; each argument reads behind the call as it read before'; 0 by the template 'total and deterministic' (their statements: YtjbojamhnapkpaaTotals.lean).
  GIVEN WITH THE SEED: the statements are not yours to turn. If you find one false, say at which input.
  Laid BY PROGRAM, IN A SANDBOX (cutbox-rows.mjs): the forced cells as the released guide's own fill.sh prints them over the translation 6610366f49542971… (all of the seat's roots in one cut). By AI agents, Wed Nov 11 2026. No macro, syntax, notation, axiom, sorry.
-/
import Derived.Test.YtjbojamhnapkpaaChecked
import GoSem.Claim
import GoSem.ClaimJoined
import GoSem.ClaimMapViews
import Derived.JoinedTies
import Derived.KernelRfl
namespace Go.Proofs.Ytjbojamhnapkpaa
/- THE CELL 'sum', in the pinned program and in every row, IS THE sha256 OF THE DUMP (.gsa) THAT YtjbojamhnapkpaaProg.lean LOADS. Nothing in Lean hashes anything: it is a label: what it is worth is what the hold of that sum in a sandbox is worth. -/
noncomputable def Try.pinned : Pinned := { name := "ytjbojamhnapkpaa", sum := "6610366f49542971a98198a48c60a3c908a116530c476e7dd3e193e791d103f9", checked := Try.checked }
namespace Rows
def none {H : Type} : Left H := { results := [], args := [] }

/-- 'laws.FnShuffled': WHATEVER THE INPUT: true; the input reads as it did. -/
def fnShuffledSpec : ChangeSpec := { name := "fnShuffled", fn := fun _ => fun
  | [d1, d2] => { results := [.lit (.bool true)], args := [d1, d2] }
  | _ => none }
def fnShuffledRow : OpenClaim := { program := "ytjbojamhnapkpaa", sum := "6610366f49542971a98198a48c60a3c908a116530c476e7dd3e193e791d103f9", func := "loop.example/g01121/laws.FnShuffled", spec := "fnShuffled", apart := false }
def FnShuffledSaid : Prop := fnShuffledRow.holds Try.pinned (OpenSpec.ofChange fnShuffledSpec)

/-- ITS FALSE NEIGHBOUR: 'it returns false'. Refute it at one input. -/
def fnShuffledWrong : ChangeSpec := { name := "fnShuffled", fn := fun _ => fun
  | [d1, d2] => { results := [.lit (.bool false)], args := [d1, d2] }
  | _ => none }
def FnShuffledWrongFalsely : Prop := fnShuffledRow.holds Try.pinned (OpenSpec.ofChange fnShuffledWrong)

/-- 'laws.FnOrderCounts': WHATEVER THE INPUT: true; the input reads as it did. -/
def fnOrderCountsSpec : ChangeSpec := { name := "fnOrderCounts", fn := fun _ => fun
  | [d1, d2] => { results := [.lit (.bool true)], args := [d1, d2] }
  | _ => none }
def fnOrderCountsRow : OpenClaim := { program := "ytjbojamhnapkpaa", sum := "6610366f49542971a98198a48c60a3c908a116530c476e7dd3e193e791d103f9", func := "loop.example/g01121/laws.FnOrderCounts", spec := "fnOrderCounts", unfollowed := true, recurses := true, apart := false }
def FnOrderCountsSaid : Prop := fnOrderCountsRow.holds Try.pinned (OpenSpec.ofChange fnOrderCountsSpec)

/-- ITS FALSE NEIGHBOUR: 'it returns false'. Refute it at one input. -/
def fnOrderCountsWrong : ChangeSpec := { name := "fnOrderCounts", fn := fun _ => fun
  | [d1, d2] => { results := [.lit (.bool false)], args := [d1, d2] }
  | _ => none }
def FnOrderCountsWrongFalsely : Prop := fnOrderCountsRow.holds Try.pinned (OpenSpec.ofChange fnOrderCountsWrong)

/-- 'laws.FnRiffled': WHATEVER THE INPUT: true; the input reads as it did. -/
def fnRiffledSpec : ChangeSpec := { name := "fnRiffled", fn := fun _ => fun
  | [d1, d2] => { results := [.lit (.bool true)], args := [d1, d2] }
  | _ => none }
def fnRiffledRow : OpenClaim := { program := "ytjbojamhnapkpaa", sum := "6610366f49542971a98198a48c60a3c908a116530c476e7dd3e193e791d103f9", func := "loop.example/g01121/laws.FnRiffled", spec := "fnRiffled", inPlace := ["math/bits.Add64", "math/bits.Sub64"], unfollowed := true, recurses := true, apart := false }
def FnRiffledSaid : Prop := fnRiffledRow.holds Try.pinned (OpenSpec.ofChange fnRiffledSpec)

/-- ITS FALSE NEIGHBOUR: 'it returns false'. Refute it at one input. -/
def fnRiffledWrong : ChangeSpec := { name := "fnRiffled", fn := fun _ => fun
  | [d1, d2] => { results := [.lit (.bool false)], args := [d1, d2] }
  | _ => none }
def FnRiffledWrongFalsely : Prop := fnRiffledRow.holds Try.pinned (OpenSpec.ofChange fnRiffledWrong)

/-- 'laws.FnSampled': WHATEVER THE INPUT: true; the input reads as it did. -/
def fnSampledSpec : ChangeSpec := { name := "fnSampled", fn := fun _ => fun
  | [d1, d2] => { results := [.lit (.bool true)], args := [d1, d2] }
  | _ => none }
def fnSampledRow : OpenClaim := { program := "ytjbojamhnapkpaa", sum := "6610366f49542971a98198a48c60a3c908a116530c476e7dd3e193e791d103f9", func := "loop.example/g01121/laws.FnSampled", spec := "fnSampled", recurses := true, apart := false }
def FnSampledSaid : Prop := fnSampledRow.holds Try.pinned (OpenSpec.ofChange fnSampledSpec)

/-- ITS FALSE NEIGHBOUR: 'it returns false'. Refute it at one input. -/
def fnSampledWrong : ChangeSpec := { name := "fnSampled", fn := fun _ => fun
  | [d1, d2] => { results := [.lit (.bool false)], args := [d1, d2] }
  | _ => none }
def FnSampledWrongFalsely : Prop := fnSampledRow.holds Try.pinned (OpenSpec.ofChange fnSampledWrong)

/-- 'laws.FnAliasExact': WHATEVER THE INPUT: true; the input reads as it did. -/
def fnAliasExactSpec : ChangeSpec := { name := "fnAliasExact", fn := fun _ => fun
  | [d1, d2] => { results := [.lit (.bool true)], args := [d1, d2] }
  | _ => none }
def fnAliasExactRow : OpenClaim := { program := "ytjbojamhnapkpaa", sum := "6610366f49542971a98198a48c60a3c908a116530c476e7dd3e193e791d103f9", func := "loop.example/g01121/laws.FnAliasExact", spec := "fnAliasExact", unfollowed := true, recurses := true, apart := false }
def FnAliasExactSaid : Prop := fnAliasExactRow.holds Try.pinned (OpenSpec.ofChange fnAliasExactSpec)

/-- ITS FALSE NEIGHBOUR: 'it returns false'. Refute it at one input. -/
def fnAliasExactWrong : ChangeSpec := { name := "fnAliasExact", fn := fun _ => fun
  | [d1, d2] => { results := [.lit (.bool false)], args := [d1, d2] }
  | _ => none }
def FnAliasExactWrongFalsely : Prop := fnAliasExactRow.holds Try.pinned (OpenSpec.ofChange fnAliasExactWrong)

/-- 'laws.FnDiceFair': WHATEVER THE INPUT: true; the input reads as it did. -/
def fnDiceFairSpec : ChangeSpec := { name := "fnDiceFair", fn := fun _ => fun
  | [d1, d2] => { results := [.lit (.bool true)], args := [d1, d2] }
  | _ => none }
def fnDiceFairRow : OpenClaim := { program := "ytjbojamhnapkpaa", sum := "6610366f49542971a98198a48c60a3c908a116530c476e7dd3e193e791d103f9", func := "loop.example/g01121/laws.FnDiceFair", spec := "fnDiceFair", inPlace := ["math/bits.Add64"], unfollowed := true, recurses := true, apart := false }
def FnDiceFairSaid : Prop := fnDiceFairRow.holds Try.pinned (OpenSpec.ofChange fnDiceFairSpec)

/-- ITS FALSE NEIGHBOUR: 'it returns false'. Refute it at one input. -/
def fnDiceFairWrong : ChangeSpec := { name := "fnDiceFair", fn := fun _ => fun
  | [d1, d2] => { results := [.lit (.bool false)], args := [d1, d2] }
  | _ => none }
def FnDiceFairWrongFalsely : Prop := fnDiceFairRow.holds Try.pinned (OpenSpec.ofChange fnDiceFairWrong)

/-- 'laws.FnFairFlips': WHATEVER THE INPUT: true; the input reads as it did. -/
def fnFairFlipsSpec : ChangeSpec := { name := "fnFairFlips", fn := fun _ => fun
  | [d1, d2] => { results := [.lit (.bool true)], args := [d1, d2] }
  | _ => none }
def fnFairFlipsRow : OpenClaim := { program := "ytjbojamhnapkpaa", sum := "6610366f49542971a98198a48c60a3c908a116530c476e7dd3e193e791d103f9", func := "loop.example/g01121/laws.FnFairFlips", spec := "fnFairFlips", inPlace := ["internal/abi.NoEscape", "internal/bytealg.CountString", "internal/bytealg.IndexByteString", "internal/bytealg.IndexString"], unfollowed := true, recurses := true, named := ["internal/bytealg.MaxLen"], apart := false }
def FnFairFlipsSaid : Prop := fnFairFlipsRow.holds Try.pinned (OpenSpec.ofChange fnFairFlipsSpec)

/-- ITS FALSE NEIGHBOUR: 'it returns false'. Refute it at one input. -/
def fnFairFlipsWrong : ChangeSpec := { name := "fnFairFlips", fn := fun _ => fun
  | [d1, d2] => { results := [.lit (.bool false)], args := [d1, d2] }
  | _ => none }
def FnFairFlipsWrongFalsely : Prop := fnFairFlipsRow.holds Try.pinned (OpenSpec.ofChange fnFairFlipsWrong)

/-- 'laws.FnExactAliasTable': WHATEVER THE INPUT: true; the input reads as it did. -/
def fnExactAliasTableSpec : ChangeSpec := { name := "fnExactAliasTable", fn := fun _ => fun
  | [d] => { results := [.lit (.bool true)], args := [d] }
  | _ => none }
def fnExactAliasTableRow : OpenClaim := { program := "ytjbojamhnapkpaa", sum := "6610366f49542971a98198a48c60a3c908a116530c476e7dd3e193e791d103f9", func := "loop.example/g01121/laws.FnExactAliasTable", spec := "fnExactAliasTable", unfollowed := true, recurses := true, apart := false }
def FnExactAliasTableSaid : Prop := fnExactAliasTableRow.holds Try.pinned (OpenSpec.ofChange fnExactAliasTableSpec)

/-- ITS FALSE NEIGHBOUR: 'it returns false'. Refute it at one input. -/
def fnExactAliasTableWrong : ChangeSpec := { name := "fnExactAliasTable", fn := fun _ => fun
  | [d] => { results := [.lit (.bool false)], args := [d] }
  | _ => none }
def FnExactAliasTableWrongFalsely : Prop := fnExactAliasTableRow.holds Try.pinned (OpenSpec.ofChange fnExactAliasTableWrong)

/-- 'laws.FnExactAliasFace': WHATEVER THE INPUT: true; the input reads as it did. -/
def fnExactAliasFaceSpec : ChangeSpec := { name := "fnExactAliasFace", fn := fun _ => fun
  | [d1, d2, d3] => { results := [.lit (.bool true)], args := [d1, d2, d3] }
  | _ => none }
def fnExactAliasFaceRow : OpenClaim := { program := "ytjbojamhnapkpaa", sum := "6610366f49542971a98198a48c60a3c908a116530c476e7dd3e193e791d103f9", func := "loop.example/g01121/laws.FnExactAliasFace", spec := "fnExactAliasFace", unfollowed := true, recurses := true, apart := false }
def FnExactAliasFaceSaid : Prop := fnExactAliasFaceRow.holds Try.pinned (OpenSpec.ofChange fnExactAliasFaceSpec)

/-- ITS FALSE NEIGHBOUR: 'it returns false'. Refute it at one input. -/
def fnExactAliasFaceWrong : ChangeSpec := { name := "fnExactAliasFace", fn := fun _ => fun
  | [d1, d2, d3] => { results := [.lit (.bool false)], args := [d1, d2, d3] }
  | _ => none }
def FnExactAliasFaceWrongFalsely : Prop := fnExactAliasFaceRow.holds Try.pinned (OpenSpec.ofChange fnExactAliasFaceWrong)

/-- 'laws.FnExactIsOrder': WHATEVER THE INPUT: true; the input reads as it did. -/
def fnExactIsOrderSpec : ChangeSpec := { name := "fnExactIsOrder", fn := fun _ => fun
  | [d] => { results := [.lit (.bool true)], args := [d] }
  | _ => none }
def fnExactIsOrderRow : OpenClaim := { program := "ytjbojamhnapkpaa", sum := "6610366f49542971a98198a48c60a3c908a116530c476e7dd3e193e791d103f9", func := "loop.example/g01121/laws.FnExactIsOrder", spec := "fnExactIsOrder", apart := false }
def FnExactIsOrderSaid : Prop := fnExactIsOrderRow.holds Try.pinned (OpenSpec.ofChange fnExactIsOrderSpec)

/-- ITS FALSE NEIGHBOUR: 'it returns false'. Refute it at one input. -/
def fnExactIsOrderWrong : ChangeSpec := { name := "fnExactIsOrder", fn := fun _ => fun
  | [d] => { results := [.lit (.bool false)], args := [d] }
  | _ => none }
def FnExactIsOrderWrongFalsely : Prop := fnExactIsOrderRow.holds Try.pinned (OpenSpec.ofChange fnExactIsOrderWrong)

/-- 'laws.FnExactShuffleBy': WHATEVER THE INPUT: true; the input reads as it did. -/
def fnExactShuffleBySpec : ChangeSpec := { name := "fnExactShuffleBy", fn := fun _ => fun
  | [d] => { results := [.lit (.bool true)], args := [d] }
  | _ => none }
def fnExactShuffleByRow : OpenClaim := { program := "ytjbojamhnapkpaa", sum := "6610366f49542971a98198a48c60a3c908a116530c476e7dd3e193e791d103f9", func := "loop.example/g01121/laws.FnExactShuffleBy", spec := "fnExactShuffleBy", apart := false }
def FnExactShuffleBySaid : Prop := fnExactShuffleByRow.holds Try.pinned (OpenSpec.ofChange fnExactShuffleBySpec)

/-- ITS FALSE NEIGHBOUR: 'it returns false'. Refute it at one input. -/
def fnExactShuffleByWrong : ChangeSpec := { name := "fnExactShuffleBy", fn := fun _ => fun
  | [d] => { results := [.lit (.bool false)], args := [d] }
  | _ => none }
def FnExactShuffleByWrongFalsely : Prop := fnExactShuffleByRow.holds Try.pinned (OpenSpec.ofChange fnExactShuffleByWrong)

/- THE SECOND FORM. 'bulk': how many values and letters a reading holds, each counted each time it is reached (what is shared counts as often as it is met; a slice's spare places count too). A statement '..UptoSaid' is the law's where the arguments, and the package variables that the reading takes, are together of bulk at most 1048576: NARROWER than '..Said'. Prove '..Said' where nothing that the law and all that it calls make is longer than what came in: it says more and counts as full. Else prove '..UptoSaid'. A law counts once. -/
mutual
def uptoBulk {H : Type} : DataW H → Nat
  | .lit (.string bytes) => bytes.length + 1
  | .lit _ => 1
  | .nil => 1
  | .ptr d => uptoBulk d + 1
  | .slice elems spare => uptoBulkAll elems + uptoBulkAll spare + 1
  | .agg parts => uptoBulkAll parts + 1
  | .iface _ d => uptoBulk d + 1
  | .map entries => uptoBulkEntries entries + 1
  | .held _ => 1
def uptoBulkAll {H : Type} : List (DataW H) → Nat
  | [] => 0
  | d :: r => uptoBulk d + uptoBulkAll r
def uptoBulkEntries {H : Type} : List (Lit × DataW H) → Nat
  | [] => 0
  | x :: r => uptoBulkEntry x + uptoBulkEntries r
def uptoBulkEntry {H : Type} : Lit × DataW H → Nat
  | (.string bytes, d) => bytes.length + uptoBulk d + 1
  | (_, d) => uptoBulk d + 1
 end
def uptoSmall : (H : Type) → List (DataW H) → Bool := fun _ ds => decide (uptoBulkAll ds ≤ 1048576)
def OpenSpec.upto (s : _root_.Go.ChangeSpec) : _root_.Go.OpenSpec := { _root_.Go.OpenSpec.ofChange s with cond := some uptoSmall }

/-- 'laws.FnShuffled', WHERE WHAT IT READS IS OF BULK AT MOST 1048576: true; the input reads as it did. -/
def fnShuffledUptoRow : OpenClaim := { program := "ytjbojamhnapkpaa", sum := "6610366f49542971a98198a48c60a3c908a116530c476e7dd3e193e791d103f9", func := "loop.example/g01121/laws.FnShuffled", spec := "fnShuffled", apart := false, narrowed := true }
def FnShuffledUptoSaid : Prop := fnShuffledUptoRow.holds Try.pinned (OpenSpec.upto fnShuffledSpec)

/-- 'laws.FnOrderCounts', WHERE WHAT IT READS IS OF BULK AT MOST 1048576: true; the input reads as it did. -/
def fnOrderCountsUptoRow : OpenClaim := { program := "ytjbojamhnapkpaa", sum := "6610366f49542971a98198a48c60a3c908a116530c476e7dd3e193e791d103f9", func := "loop.example/g01121/laws.FnOrderCounts", spec := "fnOrderCounts", unfollowed := true, recurses := true, apart := false, narrowed := true }
def FnOrderCountsUptoSaid : Prop := fnOrderCountsUptoRow.holds Try.pinned (OpenSpec.upto fnOrderCountsSpec)

/-- 'laws.FnRiffled', WHERE WHAT IT READS IS OF BULK AT MOST 1048576: true; the input reads as it did. -/
def fnRiffledUptoRow : OpenClaim := { program := "ytjbojamhnapkpaa", sum := "6610366f49542971a98198a48c60a3c908a116530c476e7dd3e193e791d103f9", func := "loop.example/g01121/laws.FnRiffled", spec := "fnRiffled", inPlace := ["math/bits.Add64", "math/bits.Sub64"], unfollowed := true, recurses := true, apart := false, narrowed := true }
def FnRiffledUptoSaid : Prop := fnRiffledUptoRow.holds Try.pinned (OpenSpec.upto fnRiffledSpec)

/-- 'laws.FnSampled', WHERE WHAT IT READS IS OF BULK AT MOST 1048576: true; the input reads as it did. -/
def fnSampledUptoRow : OpenClaim := { program := "ytjbojamhnapkpaa", sum := "6610366f49542971a98198a48c60a3c908a116530c476e7dd3e193e791d103f9", func := "loop.example/g01121/laws.FnSampled", spec := "fnSampled", recurses := true, apart := false, narrowed := true }
def FnSampledUptoSaid : Prop := fnSampledUptoRow.holds Try.pinned (OpenSpec.upto fnSampledSpec)

/-- 'laws.FnAliasExact', WHERE WHAT IT READS IS OF BULK AT MOST 1048576: true; the input reads as it did. -/
def fnAliasExactUptoRow : OpenClaim := { program := "ytjbojamhnapkpaa", sum := "6610366f49542971a98198a48c60a3c908a116530c476e7dd3e193e791d103f9", func := "loop.example/g01121/laws.FnAliasExact", spec := "fnAliasExact", unfollowed := true, recurses := true, apart := false, narrowed := true }
def FnAliasExactUptoSaid : Prop := fnAliasExactUptoRow.holds Try.pinned (OpenSpec.upto fnAliasExactSpec)

/-- 'laws.FnDiceFair', WHERE WHAT IT READS IS OF BULK AT MOST 1048576: true; the input reads as it did. -/
def fnDiceFairUptoRow : OpenClaim := { program := "ytjbojamhnapkpaa", sum := "6610366f49542971a98198a48c60a3c908a116530c476e7dd3e193e791d103f9", func := "loop.example/g01121/laws.FnDiceFair", spec := "fnDiceFair", inPlace := ["math/bits.Add64"], unfollowed := true, recurses := true, apart := false, narrowed := true }
def FnDiceFairUptoSaid : Prop := fnDiceFairUptoRow.holds Try.pinned (OpenSpec.upto fnDiceFairSpec)

/-- 'laws.FnFairFlips', WHERE WHAT IT READS IS OF BULK AT MOST 1048576: true; the input reads as it did. -/
def fnFairFlipsUptoRow : OpenClaim := { program := "ytjbojamhnapkpaa", sum := "6610366f49542971a98198a48c60a3c908a116530c476e7dd3e193e791d103f9", func := "loop.example/g01121/laws.FnFairFlips", spec := "fnFairFlips", inPlace := ["internal/abi.NoEscape", "internal/bytealg.CountString", "internal/bytealg.IndexByteString", "internal/bytealg.IndexString"], unfollowed := true, recurses := true, named := ["internal/bytealg.MaxLen"], apart := false, narrowed := true }
def FnFairFlipsUptoSaid : Prop := fnFairFlipsUptoRow.holds Try.pinned (OpenSpec.upto fnFairFlipsSpec)

/-- 'laws.FnExactAliasTable', WHERE WHAT IT READS IS OF BULK AT MOST 1048576: true; the input reads as it did. -/
def fnExactAliasTableUptoRow : OpenClaim := { program := "ytjbojamhnapkpaa", sum := "6610366f49542971a98198a48c60a3c908a116530c476e7dd3e193e791d103f9", func := "loop.example/g01121/laws.FnExactAliasTable", spec := "fnExactAliasTable", unfollowed := true, recurses := true, apart := false, narrowed := true }
def FnExactAliasTableUptoSaid : Prop := fnExactAliasTableUptoRow.holds Try.pinned (OpenSpec.upto fnExactAliasTableSpec)

/-- 'laws.FnExactAliasFace', WHERE WHAT IT READS IS OF BULK AT MOST 1048576: true; the input reads as it did. -/
def fnExactAliasFaceUptoRow : OpenClaim := { program := "ytjbojamhnapkpaa", sum := "6610366f49542971a98198a48c60a3c908a116530c476e7dd3e193e791d103f9", func := "loop.example/g01121/laws.FnExactAliasFace", spec := "fnExactAliasFace", unfollowed := true, recurses := true, apart := false, narrowed := true }
def FnExactAliasFaceUptoSaid : Prop := fnExactAliasFaceUptoRow.holds Try.pinned (OpenSpec.upto fnExactAliasFaceSpec)

/-- 'laws.FnExactIsOrder', WHERE WHAT IT READS IS OF BULK AT MOST 1048576: true; the input reads as it did. -/
def fnExactIsOrderUptoRow : OpenClaim := { program := "ytjbojamhnapkpaa", sum := "6610366f49542971a98198a48c60a3c908a116530c476e7dd3e193e791d103f9", func := "loop.example/g01121/laws.FnExactIsOrder", spec := "fnExactIsOrder", apart := false, narrowed := true }
def FnExactIsOrderUptoSaid : Prop := fnExactIsOrderUptoRow.holds Try.pinned (OpenSpec.upto fnExactIsOrderSpec)

/-- 'laws.FnExactShuffleBy', WHERE WHAT IT READS IS OF BULK AT MOST 1048576: true; the input reads as it did. -/
def fnExactShuffleByUptoRow : OpenClaim := { program := "ytjbojamhnapkpaa", sum := "6610366f49542971a98198a48c60a3c908a116530c476e7dd3e193e791d103f9", func := "loop.example/g01121/laws.FnExactShuffleBy", spec := "fnExactShuffleBy", apart := false, narrowed := true }
def FnExactShuffleByUptoSaid : Prop := fnExactShuffleByUptoRow.holds Try.pinned (OpenSpec.upto fnExactShuffleBySpec)

end Rows
end Go.Proofs.Ytjbojamhnapkpaa
