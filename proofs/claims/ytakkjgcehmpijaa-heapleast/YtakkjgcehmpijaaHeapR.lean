/-
  heap.rise: an item rises.
-/
import Derived.Test.YtakkjgcehmpijaaHeapC
namespace Go.Proofs.Ytakkjgcehmpijaa
open Go.RowKit Go.Sort Go.Proofs

end Go.Proofs.Ytakkjgcehmpijaa
