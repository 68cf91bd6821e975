/-
  A hypothesis put aside, whole.
-/
import Derived.WalkKit
namespace Go.Proofs.YtlaeaeciomkabaaDoor
open Go.RowKit
theorem hidp {p : Prop} (h : p) : Hid p := h
end Go.Proofs.YtlaeaeciomkabaaDoor
