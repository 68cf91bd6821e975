/-
  DERIVED. GIVEN WITH THE SEED: THE CARDS: each row of YtdpfijhkbhmkgabDoorRows.lean that lists a variable, with what it lists TIED to the program's text (the seventh form; the later family's looks); each row that meets fmt, with fmt's text TOLD by the authors' own Lean function (tested against real Go, not proved from fmt's source: count such statements apart). THE CARD IS WHAT COUNTS. Prove the row's statement (the work); the ties are given (YtdpfijhkbhmkgabDoorTie.lean); close each card by the builder's one call (the guide's Derived/Test/ToyasCard.lean, 'card_holds'). Laid BY PROGRAM, IN A SANDBOX (cutbox-door.mjs). By AI agents, Wed Nov 11 2026. No macro, syntax, notation, axiom, sorry.
-/
import Derived.Test.YtdpfijhkbhmkgabDoorRows
import GoSem.ClaimSeven
namespace Go.Proofs.YtdpfijhkbhmkgabDoor
namespace Rows

/-- THE TIED CARD OF 'ricksteadlaw2.PickAll'. -/
def pickAllCard : Claim7 := { stood := { row := pickAllRow, standIns := [], harness := (true, "b743ca48d21388cf0645f4c66d3f1c961c6da6b672994ea86f91efc18908c5ed"), looks := true }, kinds := [], alts := [], laidByText := true, laidKinds := [.handle], laidTests := true, laidLooks := .later }
def PickAllCardSaid : Prop := Claim7.holds Tryd.pinned (.plain (OpenSpec.ofChange pickAllSpec)) pickAllCard

/-- THE SECOND FORM's CARD OF 'ricksteadlaw2.PickAll'. -/
def pickAllUptoCard : Claim7 := { stood := { row := pickAllUptoRow, standIns := [], harness := (true, "b743ca48d21388cf0645f4c66d3f1c961c6da6b672994ea86f91efc18908c5ed"), looks := true }, kinds := [], alts := [], laidByText := true, laidKinds := [.handle], laidTests := true, laidLooks := .later }
def PickAllUptoCardSaid : Prop := Claim7.holds Tryd.pinned (.plain (OpenSpec.upto pickAllSpec)) pickAllUptoCard
end Rows
end Go.Proofs.YtdpfijhkbhmkgabDoor
