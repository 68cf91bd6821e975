/-
  What the two listed tables of unicode/utf8 give the walks.
-/
import Derived.Test.YtlaeaeciomkababDoorRows
import Derived.Test.YtlaeaeciomkababDoorCoRu
import Derived.PinnedBridge
import Derived.Lib.LaidU8
import Derived.MakeChecks
namespace Go.Proofs.YtlaeaeciomkababDoor
open Go.RowKit Go.Proofs

theorem utf_of_laid {laid : List (String × DataW Unit)} {W : World} (hf : ("unicode/utf8.first", Rows.laid_unicode_utf8_first) ∈ laid) (ha : ("unicode/utf8.acceptRanges", Rows.laid_unicode_utf8_acceptRanges) ∈ laid) (h : laidMet Tryd.prog laid W) : Utf W := by
  have h1 := Lib.laidMet.reads h hf
  have h2 := Lib.laidMet.reads h ha
  have e1 : Rows.laid_unicode_utf8_first = Lib.firstData := Pinned.utf8First_eq
  rw [e1] at h1
  have e2 : Rows.laid_unicode_utf8_acceptRanges = Lib.acceptData := by kernel_rfl
  rw [e2] at h2
  exact utf8Tabs_of_reads (ρ := Tryd.lays197_ren) { Tryd.lays197 with } ⟨by kernel_rfl, by kernel_rfl, by kernel_rfl, by kernel_rfl, by kernel_rfl, by kernel_rfl, by kernel_rfl⟩ h1 h2
#print axioms utf_of_laid
end Go.Proofs.YtlaeaeciomkababDoor
