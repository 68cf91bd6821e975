/-
  DERIVED. GIVEN WITH THE SEED: THE CARDS: each row of YtcjfbenbdjlodaaDoorRows.lean that lists a variable, with what it lists TIED to the program's text (the seventh form; the later family's looks); each row that meets fmt, with fmt's text TOLD by the authors' own Lean function (tested against real Go, not proved from fmt's source: count such statements apart). THE CARD IS WHAT COUNTS. Prove the row's statement (the work); the ties are given (YtcjfbenbdjlodaaDoorTie.lean); close each card by the builder's one call (the guide's Derived/Test/ToyasCard.lean, 'card_holds'). Laid BY PROGRAM, IN A SANDBOX (cutbox-door.mjs). By AI agents, Wed Nov 11 2026. No macro, syntax, notation, axiom, sorry.
-/
import Derived.Test.YtcjfbenbdjlodaaDoorRows
import GoSem.ClaimSeven
namespace Go.Proofs.YtcjfbenbdjlodaaDoor
namespace Rows

/-- THE TIED CARD OF 'ricksteadlaw1.HeapSays'. -/
def heapSaysCard : Claim7 := { stood := { row := heapSaysRow, standIns := [], harness := (true, "8b6019d381e659aac05d0111657997b479d4d06bef14be21c9a690ad4523ad94"), looks := true }, kinds := [], alts := [], laidByText := true, laidKinds := [.handle], laidTests := true, laidLooks := .later }
def HeapSaysCardSaid : Prop := Claim7.holds Tryd.pinned (.plain (OpenSpec.ofChange heapSaysSpec)) heapSaysCard

/-- THE TIED CARD OF 'ricksteadlaw1.HeapHolds'. -/
def heapHoldsCard : Claim7 := { stood := { row := heapHoldsRow, standIns := [], harness := (true, "8b6019d381e659aac05d0111657997b479d4d06bef14be21c9a690ad4523ad94"), looks := true }, kinds := [], alts := [], laidByText := true, laidKinds := [.handle], laidTests := true, laidLooks := .later }
def HeapHoldsCardSaid : Prop := Claim7.holds Tryd.pinned (.plain (OpenSpec.ofChange heapHoldsSpec)) heapHoldsCard

/-- THE SECOND FORM's CARD OF 'ricksteadlaw1.HeapSays'. -/
def heapSaysUptoCard : Claim7 := { stood := { row := heapSaysUptoRow, standIns := [], harness := (true, "8b6019d381e659aac05d0111657997b479d4d06bef14be21c9a690ad4523ad94"), looks := true }, kinds := [], alts := [], laidByText := true, laidKinds := [.handle], laidTests := true, laidLooks := .later }
def HeapSaysUptoCardSaid : Prop := Claim7.holds Tryd.pinned (.plain (OpenSpec.upto heapSaysSpec)) heapSaysUptoCard

/-- THE SECOND FORM's CARD OF 'ricksteadlaw1.HeapHolds'. -/
def heapHoldsUptoCard : Claim7 := { stood := { row := heapHoldsUptoRow, standIns := [], harness := (true, "8b6019d381e659aac05d0111657997b479d4d06bef14be21c9a690ad4523ad94"), looks := true }, kinds := [], alts := [], laidByText := true, laidKinds := [.handle], laidTests := true, laidLooks := .later }
def HeapHoldsUptoCardSaid : Prop := Claim7.holds Tryd.pinned (.plain (OpenSpec.upto heapHoldsSpec)) heapHoldsUptoCard
end Rows
end Go.Proofs.YtcjfbenbdjlodaaDoor
