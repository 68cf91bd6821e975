/-
  A hypothesis put aside, whole.
-/
import Derived.WalkKit
namespace Go.Proofs.YtlaeaeciomkababDoor
open Go.RowKit
theorem hidp {p : Prop} (h : p) : Hid p := h
end Go.Proofs.YtlaeaeciomkababDoor
