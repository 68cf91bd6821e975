/-
  heap.rise at items: an item rises.
-/
import Derived.Test.YtcjfbenbdjlodabHeapC
namespace Go.Proofs.Ytcjfbenbdjlodab
open Go.RowKit Go.Sort Go.Proofs

end Go.Proofs.Ytcjfbenbdjlodab
