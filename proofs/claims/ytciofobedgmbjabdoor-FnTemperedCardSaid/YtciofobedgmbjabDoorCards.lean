/-
  DERIVED. GIVEN WITH THE SEED: THE CARDS: each row of YtciofobedgmbjabDoorRows.lean that lists a variable, with what it lists TIED to the program's text (the seventh form; the later family's looks); each row that meets fmt, with fmt's text TOLD by the authors' own Lean function (tested against real Go, not proved from fmt's source: count such statements apart). THE CARD IS WHAT COUNTS. Prove the row's statement (the work); the ties are given (YtciofobedgmbjabDoorTie.lean); close each card by the builder's one call (the guide's Derived/Test/ToyasCard.lean, 'card_holds'). Laid BY PROGRAM, IN A SANDBOX (cutbox-door.mjs). By AI agents, Wed Nov 11 2026. No macro, syntax, notation, axiom, sorry.
-/
import Derived.Test.YtciofobedgmbjabDoorRows
import GoSem.ClaimSeven
namespace Go.Proofs.YtciofobedgmbjabDoor
namespace Rows

/-- THE TIED CARD OF 'laws.FnExactUntemperWord'. -/
def fnExactUntemperWordCard : Claim7 := { stood := { row := fnExactUntemperWordRow, standIns := [], harness := (true, "49f63e05ed5e9b36441a65bfcc25a708d59dbafb7753aa43ffcbcc105ea1844d"), looks := false }, kinds := [], alts := [], laidByText := true, laidKinds := [.data, .sentinel], laidTests := true, laidLooks := .later }
def FnExactUntemperWordCardSaid : Prop := Claim7.holds Tryd.pinned (.plain (OpenSpec.ofChange fnExactUntemperWordSpec)) fnExactUntemperWordCard

/-- THE TIED CARD OF 'laws.FnTempered'. -/
def fnTemperedCard : Claim7 := { stood := { row := fnTemperedRow, standIns := [], harness := (true, "49f63e05ed5e9b36441a65bfcc25a708d59dbafb7753aa43ffcbcc105ea1844d"), looks := false }, kinds := [], alts := [], laidByText := true, laidKinds := [.data, .sentinel], laidTests := true, laidLooks := .later }
def FnTemperedCardSaid : Prop := Claim7.holds Tryd.pinned (.plain (OpenSpec.ofChange fnTemperedSpec)) fnTemperedCard

/-- THE SECOND FORM's CARD OF 'laws.FnExactUntemperWord'. -/
def fnExactUntemperWordUptoCard : Claim7 := { stood := { row := fnExactUntemperWordUptoRow, standIns := [], harness := (true, "49f63e05ed5e9b36441a65bfcc25a708d59dbafb7753aa43ffcbcc105ea1844d"), looks := false }, kinds := [], alts := [], laidByText := true, laidKinds := [.data, .sentinel], laidTests := true, laidLooks := .later }
def FnExactUntemperWordUptoCardSaid : Prop := Claim7.holds Tryd.pinned (.plain (OpenSpec.upto fnExactUntemperWordSpec)) fnExactUntemperWordUptoCard

/-- THE SECOND FORM's CARD OF 'laws.FnTempered'. -/
def fnTemperedUptoCard : Claim7 := { stood := { row := fnTemperedUptoRow, standIns := [], harness := (true, "49f63e05ed5e9b36441a65bfcc25a708d59dbafb7753aa43ffcbcc105ea1844d"), looks := false }, kinds := [], alts := [], laidByText := true, laidKinds := [.data, .sentinel], laidTests := true, laidLooks := .later }
def FnTemperedUptoCardSaid : Prop := Claim7.holds Tryd.pinned (.plain (OpenSpec.upto fnTemperedSpec)) fnTemperedUptoCard
end Rows
end Go.Proofs.YtciofobedgmbjabDoor
