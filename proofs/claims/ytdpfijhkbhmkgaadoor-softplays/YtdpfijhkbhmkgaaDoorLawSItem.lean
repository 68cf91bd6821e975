/-
  What is read of a list of items at a place.
-/
import Derived.Test.YtdpfijhkbhmkgaaDoorSoY
namespace Go.Proofs.YtdpfijhkbhmkgaaDoor
open Go.RowKit Go.Sort Go.Proofs Go.Lib

theorem Sl.reads {w : World} {p : Option Addr} {n cap : Nat} {xs : Array (Int × Int)} (h : Sl w (.slice p n cap) xs) : ∀ i, i < n → ∃ blk off x0 x1, p = some ⟨blk, off, none⟩ ∧ blk < w.heap.size ∧ w.cell? ⟨blk, off + i * 2, none⟩ = some (.int .i64 x0) ∧ w.cell? ⟨blk, off + i * 2 + 1, none⟩ = some (.int .i64 x1) ∧ xs[i]? = some (x0, x1) := by
  obtain ⟨p', cap', e, _, h⟩ := h
  simp only [Value.slice.injEq] at e
  obtain ⟨rfl, rfl, rfl⟩ := e
  intro i hi
  rcases h with h | ⟨blk, off, rfl, h1, h2⟩
  · omega
  · obtain ⟨c0, c1⟩ := h2 i hi
    exact ⟨blk, off, _, _, rfl, h1, c0, c1, by rw [getElem!_pos xs i hi]; exact Array.getElem?_eq_getElem hi⟩
end Go.Proofs.YtdpfijhkbhmkgaaDoor
