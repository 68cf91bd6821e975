/-
  An item that came in by itself, read.
-/
import Derived.Test.YtcjfbenbdjlodaaDoorOpen
namespace Go.Proofs.YtcjfbenbdjlodaaDoor
open Go.RowKit Go.Sort Go.Proofs Go.Deep Go.ChangeShapes Go.WideShapes

set_option maxRecDepth 20000 in
theorem open_item {H : Type} {enc : TypeId × Value → H} {W : World} {r : Reach} {b0 : Nat} {v : Value} {d : DataW H} {ps : List MemPlace} (hval : Value.okWide Tryd.prog W r b0 24 v)
    (h : DataW.Trod enc Tryd.prog W 0 (fun _ => true) true 24 v d ps) : ∃ a b : Int, v = .agg #[.int .i64 a, .int .i64 b] := by
  obtain ⟨cs, rfl, hs⟩ := okWide_struct Tryd.underlying24 hval
  rw [cells_item] at hs
  obtain ⟨fuel, hf⟩ := h
  obtain ⟨y0, y1, n, _, hl, h0, h1⟩ := trod_struct2 Tryd.underlying24 hf
  obtain ⟨l⟩ := cs
  match l, hs with
  | [u, v], _ =>
    have h0' : DataW.trod enc Tryd.prog W 0 (fun _ => true) true n 3 [u] = some y0 := by simpa [Value.cells, cells_int] using h0
    have h1' : DataW.trod enc Tryd.prog W 0 (fun _ => true) true n 3 [v] = some y1 := by simpa [Value.cells, cells_int] using h1
    obtain ⟨k0, e0, _⟩ := DataW.trod_int Tryd.underlying3 h0'
    obtain ⟨k1, e1, _⟩ := DataW.trod_int Tryd.underlying3 h1'
    simp only [List.cons.injEq, and_true] at e0 e1
    exact ⟨k0, k1, by rw [e0, e1]⟩
end Go.Proofs.YtcjfbenbdjlodaaDoor
