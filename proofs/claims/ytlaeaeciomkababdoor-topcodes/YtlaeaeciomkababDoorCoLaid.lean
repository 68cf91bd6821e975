/-
  What the listed variables give the walks.
-/
import Derived.Test.YtlaeaeciomkababDoorRows
import Derived.Test.YtlaeaeciomkababDoorCoFmt
import Derived.Lib.LaidTab
import Derived.Stop.LaidErr
import Derived.MakeChecks
namespace Go.Proofs.YtlaeaeciomkababDoor
open Go.RowKit Go.Proofs

/-- The table's numbers. -/
def z64 : List Int := [0,1,56,2,57,49,28,3,61,58,42,50,38,29,17,4,62,47,59,36,45,43,51,22,53,39,33,30,24,18,12,5,63,55,48,27,60,41,37,16,46,35,44,21,52,32,23,11,54,26,40,15,34,20,31,10,25,14,19,9,13,8,7,6]
theorem tz_of_laid {n1 n2 : String} {d1 : DataW Unit} {rest : List (String × DataW Unit)} {W : World} (hn : Tryd.prog.globalNamed n2 = some 6) (h : laidMet Tryd.prog ((n1, d1) :: (n2, Rows.laid_math_bits_deBruijn64tab) :: rest) W) : Tz W := by
  have h2 : laidMet Tryd.prog ((n2, Lib.tabData .u8 z64) :: rest) W := laidMet.tail h
  have t := Lib.tabIs_of_head hn (show _ = some 190 by kernel_rfl) Tryd.underlying190 Tryd.underlying5 (by kernel_rfl) (by kernel_rfl) h2
  have hc : W.cell? ⟨6, 1, none⟩ = some (.int .u8 1) := t.cell hn 1 (by decide)
  refine ⟨?_, hc⟩
  rcases Nat.lt_or_ge 6 W.heap.size with h | h
  · exact h
  · simp [World.cell?, Array.getElem?_eq_none h] at hc
end Go.Proofs.YtlaeaeciomkababDoor
