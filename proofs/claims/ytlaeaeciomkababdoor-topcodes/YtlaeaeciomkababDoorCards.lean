/-
  DERIVED. GIVEN WITH THE SEED: THE CARDS: each row of YtlaeaeciomkababDoorRows.lean that lists a variable, with what it lists TIED to the program's text (the seventh form; the later family's looks); each row that meets fmt, with fmt's text TOLD by the authors' own Lean function (tested against real Go, not proved from fmt's source: count such statements apart). THE CARD IS WHAT COUNTS. Prove the row's statement (the work); the ties are given (YtlaeaeciomkababDoorTie.lean); close each card by the builder's one call (the guide's Derived/Test/ToyasCard.lean, 'card_holds'). Laid BY PROGRAM, IN A SANDBOX (cutbox-door.mjs). By AI agents, Wed Nov 11 2026. No macro, syntax, notation, axiom, sorry.
-/
import Derived.Test.YtlaeaeciomkababDoorRows
import GoSem.ClaimSeven
namespace Go.Proofs.YtlaeaeciomkababDoor
namespace Rows

/-- THE TIED CARD OF 'ricksteadlaw2.CodeText'. -/
def codeTextCard : Claim7 := { stood := { row := codeTextRow, standIns := [], harness := (true, "765b2646e64325e8d023856dc4c80aeb09e4ddaa86e6202092189fdb6b2e021e"), looks := true }, kinds := [], alts := [], laidByText := true, laidKinds := [.data, .pinned], laidTests := true, laidLooks := .later }
def CodeTextCardSaid : Prop := Claim7.holds Tryd.pinned (.plain (OpenSpec.ofChange codeTextSpec)) codeTextCard

/-- THE TIED CARD OF 'ricksteadtop.TopCodes'. -/
def topCodesCard : Claim7 := { stood := { row := topCodesRow, standIns := [], harness := (true, "765b2646e64325e8d023856dc4c80aeb09e4ddaa86e6202092189fdb6b2e021e"), looks := true }, kinds := [], alts := [], laidByText := true, laidKinds := [.data, .data, .data, .data, .pinned], laidTests := true, laidLooks := .later }
def TopCodesCardSaid : Prop := Claim7.holds Tryd.pinned (.plain (OpenSpec.ofChange topCodesSpec)) topCodesCard

/-- THE TIED CARD OF 'ricksteadlaw2.RunsSays'. -/
def runsSaysCard : Claim7 := { stood := { row := runsSaysRow, standIns := [], harness := (true, "765b2646e64325e8d023856dc4c80aeb09e4ddaa86e6202092189fdb6b2e021e"), looks := true }, kinds := [], alts := [], laidByText := true, laidKinds := [.handle], laidTests := true, laidLooks := .later }
def RunsSaysCardSaid : Prop := Claim7.holds Tryd.pinned (.plain (OpenSpec.ofChange runsSaysSpec)) runsSaysCard

/-- THE SECOND FORM's CARD OF 'ricksteadlaw2.CodeText'. -/
def codeTextUptoCard : Claim7 := { stood := { row := codeTextUptoRow, standIns := [], harness := (true, "765b2646e64325e8d023856dc4c80aeb09e4ddaa86e6202092189fdb6b2e021e"), looks := true }, kinds := [], alts := [], laidByText := true, laidKinds := [.data, .pinned], laidTests := true, laidLooks := .later }
def CodeTextUptoCardSaid : Prop := Claim7.holds Tryd.pinned (.plain (OpenSpec.upto codeTextSpec)) codeTextUptoCard

/-- THE SECOND FORM's CARD OF 'ricksteadtop.TopCodes'. -/
def topCodesUptoCard : Claim7 := { stood := { row := topCodesUptoRow, standIns := [], harness := (true, "765b2646e64325e8d023856dc4c80aeb09e4ddaa86e6202092189fdb6b2e021e"), looks := true }, kinds := [], alts := [], laidByText := true, laidKinds := [.data, .data, .data, .data, .pinned], laidTests := true, laidLooks := .later }
def TopCodesUptoCardSaid : Prop := Claim7.holds Tryd.pinned (.plain (OpenSpec.upto topCodesSpec)) topCodesUptoCard

/-- THE SECOND FORM's CARD OF 'ricksteadlaw2.RunsSays'. -/
def runsSaysUptoCard : Claim7 := { stood := { row := runsSaysUptoRow, standIns := [], harness := (true, "765b2646e64325e8d023856dc4c80aeb09e4ddaa86e6202092189fdb6b2e021e"), looks := true }, kinds := [], alts := [], laidByText := true, laidKinds := [.handle], laidTests := true, laidLooks := .later }
def RunsSaysUptoCardSaid : Prop := Claim7.holds Tryd.pinned (.plain (OpenSpec.upto runsSaysSpec)) runsSaysUptoCard
end Rows
end Go.Proofs.YtlaeaeciomkababDoor
