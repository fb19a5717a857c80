/-
  DERIVED. GIVEN WITH THE SEED: THE CARDS: each row of YtamedggnkbhgeaaDoorRows.lean that lists a variable, with what it lists TIED to the program's text (the seventh form; the later family's looks); each row that meets fmt, with fmt's text TOLD by the authors' own Lean function (tested against real Go, not proved from fmt's source: count such statements apart). THE CARD IS WHAT COUNTS. Prove the row's statement (the work); the ties are given (YtamedggnkbhgeaaDoorTie.lean); close each card by the builder's one call (the guide's Derived/Test/ToyasCard.lean, 'card_holds'). Laid BY PROGRAM, IN A SANDBOX (cutbox-door.mjs). By AI agents, Wed Nov 11 2026. No macro, syntax, notation, axiom, sorry.
-/
import Derived.Test.YtamedggnkbhgeaaDoorRows
import GoSem.ClaimSeven
namespace Go.Proofs.YtamedggnkbhgeaaDoor
namespace Rows

/-- THE TIED CARD OF 'laws.FnTreeRolls'. -/
def fnTreeRollsCard : Claim7 := { stood := { row := fnTreeRollsRow, standIns := [], harness := (true, "5886080440de6881912479c18616b6e005229fe43fe82a721284f72dd2867cca"), looks := false }, kinds := [], alts := [], laidByText := true, laidKinds := [.data], laidTests := true, laidLooks := .later }
def FnTreeRollsCardSaid : Prop := Claim7.holds Tryd.pinned (.plain (OpenSpec.ofChange fnTreeRollsSpec)) fnTreeRollsCard

/-- THE TIED CARD OF 'laws.FnExactIsDyadic'. -/
def fnExactIsDyadicCard : Claim7 := { stood := { row := fnExactIsDyadicRow, standIns := [], harness := (true, "5886080440de6881912479c18616b6e005229fe43fe82a721284f72dd2867cca"), looks := false }, kinds := [], alts := [], laidByText := true, laidKinds := [.data], laidTests := true, laidLooks := .later }
def FnExactIsDyadicCardSaid : Prop := Claim7.holds Tryd.pinned (.plain (OpenSpec.ofChange fnExactIsDyadicSpec)) fnExactIsDyadicCard

/-- THE TIED CARD OF 'laws.FnExactTreeLeaves'. -/
def fnExactTreeLeavesCard : Claim7 := { stood := { row := fnExactTreeLeavesRow, standIns := [], harness := (true, "5886080440de6881912479c18616b6e005229fe43fe82a721284f72dd2867cca"), looks := false }, kinds := [], alts := [], laidByText := true, laidKinds := [.data], laidTests := true, laidLooks := .later }
def FnExactTreeLeavesCardSaid : Prop := Claim7.holds Tryd.pinned (.plain (OpenSpec.ofChange fnExactTreeLeavesSpec)) fnExactTreeLeavesCard

/-- THE TIED CARD OF 'laws.FnExactRollTree'. -/
def fnExactRollTreeCard : Claim7 := { stood := { row := fnExactRollTreeRow, standIns := [], harness := (true, "5886080440de6881912479c18616b6e005229fe43fe82a721284f72dd2867cca"), looks := false }, kinds := [], alts := [], laidByText := true, laidKinds := [.data], laidTests := true, laidLooks := .later }
def FnExactRollTreeCardSaid : Prop := Claim7.holds Tryd.pinned (.plain (OpenSpec.ofChange fnExactRollTreeSpec)) fnExactRollTreeCard

/-- THE TIED CARD OF 'laws.FnExactTreeCost'. -/
def fnExactTreeCostCard : Claim7 := { stood := { row := fnExactTreeCostRow, standIns := [], harness := (true, "5886080440de6881912479c18616b6e005229fe43fe82a721284f72dd2867cca"), looks := false }, kinds := [], alts := [], laidByText := true, laidKinds := [.data], laidTests := true, laidLooks := .later }
def FnExactTreeCostCardSaid : Prop := Claim7.holds Tryd.pinned (.plain (OpenSpec.ofChange fnExactTreeCostSpec)) fnExactTreeCostCard

/-- THE SECOND FORM's CARD OF 'laws.FnTreeRolls'. -/
def fnTreeRollsUptoCard : Claim7 := { stood := { row := fnTreeRollsUptoRow, standIns := [], harness := (true, "5886080440de6881912479c18616b6e005229fe43fe82a721284f72dd2867cca"), looks := false }, kinds := [], alts := [], laidByText := true, laidKinds := [.data], laidTests := true, laidLooks := .later }
def FnTreeRollsUptoCardSaid : Prop := Claim7.holds Tryd.pinned (.plain (OpenSpec.upto fnTreeRollsSpec)) fnTreeRollsUptoCard

/-- THE SECOND FORM's CARD OF 'laws.FnExactIsDyadic'. -/
def fnExactIsDyadicUptoCard : Claim7 := { stood := { row := fnExactIsDyadicUptoRow, standIns := [], harness := (true, "5886080440de6881912479c18616b6e005229fe43fe82a721284f72dd2867cca"), looks := false }, kinds := [], alts := [], laidByText := true, laidKinds := [.data], laidTests := true, laidLooks := .later }
def FnExactIsDyadicUptoCardSaid : Prop := Claim7.holds Tryd.pinned (.plain (OpenSpec.upto fnExactIsDyadicSpec)) fnExactIsDyadicUptoCard

/-- THE SECOND FORM's CARD OF 'laws.FnExactTreeLeaves'. -/
def fnExactTreeLeavesUptoCard : Claim7 := { stood := { row := fnExactTreeLeavesUptoRow, standIns := [], harness := (true, "5886080440de6881912479c18616b6e005229fe43fe82a721284f72dd2867cca"), looks := false }, kinds := [], alts := [], laidByText := true, laidKinds := [.data], laidTests := true, laidLooks := .later }
def FnExactTreeLeavesUptoCardSaid : Prop := Claim7.holds Tryd.pinned (.plain (OpenSpec.upto fnExactTreeLeavesSpec)) fnExactTreeLeavesUptoCard

/-- THE SECOND FORM's CARD OF 'laws.FnExactRollTree'. -/
def fnExactRollTreeUptoCard : Claim7 := { stood := { row := fnExactRollTreeUptoRow, standIns := [], harness := (true, "5886080440de6881912479c18616b6e005229fe43fe82a721284f72dd2867cca"), looks := false }, kinds := [], alts := [], laidByText := true, laidKinds := [.data], laidTests := true, laidLooks := .later }
def FnExactRollTreeUptoCardSaid : Prop := Claim7.holds Tryd.pinned (.plain (OpenSpec.upto fnExactRollTreeSpec)) fnExactRollTreeUptoCard

/-- THE SECOND FORM's CARD OF 'laws.FnExactTreeCost'. -/
def fnExactTreeCostUptoCard : Claim7 := { stood := { row := fnExactTreeCostUptoRow, standIns := [], harness := (true, "5886080440de6881912479c18616b6e005229fe43fe82a721284f72dd2867cca"), looks := false }, kinds := [], alts := [], laidByText := true, laidKinds := [.data], laidTests := true, laidLooks := .later }
def FnExactTreeCostUptoCardSaid : Prop := Claim7.holds Tryd.pinned (.plain (OpenSpec.upto fnExactTreeCostSpec)) fnExactTreeCostUptoCard
end Rows
end Go.Proofs.YtamedggnkbhgeaaDoor
