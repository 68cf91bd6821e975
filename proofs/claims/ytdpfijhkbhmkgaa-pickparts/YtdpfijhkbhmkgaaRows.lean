/-
  No cell of these rows narrows 'for every input' (looked for: loops, veiled, ifaces, maps, wideKeys, modest, calm, conditions, laid).
  DERIVED. THE GIVEN ROWS OF THIS SEAT. 3 by the template 'for every input the law returns true; each argument reads behind the call as it read before'; 0 by the template 'total and deterministic' (their statements: YtdpfijhkbhmkgaaTotals.lean).
  GIVEN WITH THE SEED: the statements are not yours to turn. If you find one false, say at which input.
  Laid BY PROGRAM, IN A SANDBOX (cutbox-rows.mjs): the forced cells as the released guide's own fill.sh prints them over the translation c4a261be67da32bc… (all of the seat's roots in one cut). By AI agents, Wed Nov 11 2026. No macro, syntax, notation, axiom, sorry.
-/
import Derived.Test.YtdpfijhkbhmkgaaChecked
import GoSem.Claim
import GoSem.ClaimJoined
import GoSem.ClaimMapViews
import Derived.JoinedTies
import Derived.KernelRfl
namespace Go.Proofs.Ytdpfijhkbhmkgaa
/- THE CELL 'sum', in the pinned program and in every row, IS THE sha256 OF THE DUMP (.gsa) THAT YtdpfijhkbhmkgaaProg.lean LOADS. Nothing in Lean hashes anything: it is a label: what it is worth is what the hold of that sum in a sandbox is worth. -/
noncomputable def Try.pinned : Pinned := { name := "ytdpfijhkbhmkgaa", sum := "c4a261be67da32bc811186963d600c7ea304dcd83fef699d77e9db9504c10ac3", checked := Try.checked }
namespace Rows
def none {H : Type} : Left H := { results := [], args := [] }

/-- 'ricksteadlaw1.SoftOnce': WHATEVER THE INPUT: true; the input reads as it did. -/
def softOnceSpec : ChangeSpec := { name := "softOnce", fn := fun _ => fun
  | [d1, d2] => { results := [.lit (.bool true)], args := [d1, d2] }
  | _ => none }
def softOnceRow : OpenClaim := { program := "ytdpfijhkbhmkgaa", sum := "c4a261be67da32bc811186963d600c7ea304dcd83fef699d77e9db9504c10ac3", func := "rickstead/ricksteadlaw1.SoftOnce", spec := "softOnce", inPlace := ["slices.overlaps[*rickstead/soft.node]"], unfollowed := true, recurses := true, apart := false }
def SoftOnceSaid : Prop := softOnceRow.holds Try.pinned (OpenSpec.ofChange softOnceSpec)

/-- ITS FALSE NEIGHBOUR: 'it returns false'. Refute it at one input. -/
def softOnceWrong : ChangeSpec := { name := "softOnce", fn := fun _ => fun
  | [d1, d2] => { results := [.lit (.bool false)], args := [d1, d2] }
  | _ => none }
def SoftOnceWrongFalsely : Prop := softOnceRow.holds Try.pinned (OpenSpec.ofChange softOnceWrong)

/-- 'ricksteadlaw1.SoftFew': WHATEVER THE INPUT: true; the input reads as it did. -/
def softFewSpec : ChangeSpec := { name := "softFew", fn := fun _ => fun
  | [d1, d2] => { results := [.lit (.bool true)], args := [d1, d2] }
  | _ => none }
def softFewRow : OpenClaim := { program := "ytdpfijhkbhmkgaa", sum := "c4a261be67da32bc811186963d600c7ea304dcd83fef699d77e9db9504c10ac3", func := "rickstead/ricksteadlaw1.SoftFew", spec := "softFew", inPlace := ["slices.overlaps[*rickstead/soft.node]"], unfollowed := true, recurses := true, apart := false }
def SoftFewSaid : Prop := softFewRow.holds Try.pinned (OpenSpec.ofChange softFewSpec)

/-- ITS FALSE NEIGHBOUR: 'it returns false'. Refute it at one input. -/
def softFewWrong : ChangeSpec := { name := "softFew", fn := fun _ => fun
  | [d1, d2] => { results := [.lit (.bool false)], args := [d1, d2] }
  | _ => none }
def SoftFewWrongFalsely : Prop := softFewRow.holds Try.pinned (OpenSpec.ofChange softFewWrong)

/-- 'ricksteadlaw2.PickParts': WHATEVER THE INPUT: true; the input reads as it did. -/
def pickPartsSpec : ChangeSpec := { name := "pickParts", fn := fun _ => fun
  | [d1, d2] => { results := [.lit (.bool true)], args := [d1, d2] }
  | _ => none }
def pickPartsRow : OpenClaim := { program := "ytdpfijhkbhmkgaa", sum := "c4a261be67da32bc811186963d600c7ea304dcd83fef699d77e9db9504c10ac3", func := "rickstead/ricksteadlaw2.PickParts", spec := "pickParts", unfollowed := true, recurses := true, apart := false }
def PickPartsSaid : Prop := pickPartsRow.holds Try.pinned (OpenSpec.ofChange pickPartsSpec)

/-- ITS FALSE NEIGHBOUR: 'it returns false'. Refute it at one input. -/
def pickPartsWrong : ChangeSpec := { name := "pickParts", fn := fun _ => fun
  | [d1, d2] => { results := [.lit (.bool false)], args := [d1, d2] }
  | _ => none }
def PickPartsWrongFalsely : Prop := pickPartsRow.holds Try.pinned (OpenSpec.ofChange pickPartsWrong)

/- THE SECOND FORM. 'bulk': how many values and letters a reading holds, each counted each time it is reached (what is shared counts as often as it is met; a slice's spare places count too). A statement '..UptoSaid' is the law's where the arguments, and the package variables that the reading takes, are together of bulk at most 1048576: NARROWER than '..Said'. Prove '..Said' where nothing that the law and all that it calls make is longer than what came in: it says more and counts as full. Else prove '..UptoSaid'. A law counts once. -/
mutual
def uptoBulk {H : Type} : DataW H → Nat
  | .lit (.string bytes) => bytes.length + 1
  | .lit _ => 1
  | .nil => 1
  | .ptr d => uptoBulk d + 1
  | .slice elems spare => uptoBulkAll elems + uptoBulkAll spare + 1
  | .agg parts => uptoBulkAll parts + 1
  | .iface _ d => uptoBulk d + 1
  | .map entries => uptoBulkEntries entries + 1
  | .held _ => 1
def uptoBulkAll {H : Type} : List (DataW H) → Nat
  | [] => 0
  | d :: r => uptoBulk d + uptoBulkAll r
def uptoBulkEntries {H : Type} : List (Lit × DataW H) → Nat
  | [] => 0
  | x :: r => uptoBulkEntry x + uptoBulkEntries r
def uptoBulkEntry {H : Type} : Lit × DataW H → Nat
  | (.string bytes, d) => bytes.length + uptoBulk d + 1
  | (_, d) => uptoBulk d + 1
 end
def uptoSmall : (H : Type) → List (DataW H) → Bool := fun _ ds => decide (uptoBulkAll ds ≤ 1048576)
def OpenSpec.upto (s : _root_.Go.ChangeSpec) : _root_.Go.OpenSpec := { _root_.Go.OpenSpec.ofChange s with cond := some uptoSmall }

/-- 'ricksteadlaw1.SoftOnce', WHERE WHAT IT READS IS OF BULK AT MOST 1048576: true; the input reads as it did. -/
def softOnceUptoRow : OpenClaim := { program := "ytdpfijhkbhmkgaa", sum := "c4a261be67da32bc811186963d600c7ea304dcd83fef699d77e9db9504c10ac3", func := "rickstead/ricksteadlaw1.SoftOnce", spec := "softOnce", inPlace := ["slices.overlaps[*rickstead/soft.node]"], unfollowed := true, recurses := true, apart := false, narrowed := true }
def SoftOnceUptoSaid : Prop := softOnceUptoRow.holds Try.pinned (OpenSpec.upto softOnceSpec)

/-- 'ricksteadlaw1.SoftFew', WHERE WHAT IT READS IS OF BULK AT MOST 1048576: true; the input reads as it did. -/
def softFewUptoRow : OpenClaim := { program := "ytdpfijhkbhmkgaa", sum := "c4a261be67da32bc811186963d600c7ea304dcd83fef699d77e9db9504c10ac3", func := "rickstead/ricksteadlaw1.SoftFew", spec := "softFew", inPlace := ["slices.overlaps[*rickstead/soft.node]"], unfollowed := true, recurses := true, apart := false, narrowed := true }
def SoftFewUptoSaid : Prop := softFewUptoRow.holds Try.pinned (OpenSpec.upto softFewSpec)

/-- 'ricksteadlaw2.PickParts', WHERE WHAT IT READS IS OF BULK AT MOST 1048576: true; the input reads as it did. -/
def pickPartsUptoRow : OpenClaim := { program := "ytdpfijhkbhmkgaa", sum := "c4a261be67da32bc811186963d600c7ea304dcd83fef699d77e9db9504c10ac3", func := "rickstead/ricksteadlaw2.PickParts", spec := "pickParts", unfollowed := true, recurses := true, apart := false, narrowed := true }
def PickPartsUptoSaid : Prop := pickPartsUptoRow.holds Try.pinned (OpenSpec.upto pickPartsSpec)

end Rows
end Go.Proofs.Ytdpfijhkbhmkgaa
