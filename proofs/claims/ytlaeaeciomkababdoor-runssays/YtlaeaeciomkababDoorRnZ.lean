/-
  Rows read.
-/
import Derived.Test.YtlaeaeciomkababDoorRnF
import Derived.Test.YtlaeaeciomkababDoorSameZ
namespace Go.Proofs.YtlaeaeciomkababDoor
open Go.RowKit Go.Sort Go.Proofs

/-- A row of the runs: where its words stand. -/
theorem RowsS.cell {w : World} {v : Value} {ss : List Sv} {rows : List (List Int)} {f : List Nat} (h : RowsS w v ss rows f) (h0 : 0 < rows.length) :
    ∃ g cap, v = .slice (some ⟨g, 0, none⟩) rows.length cap ∧ g < w.heap.size ∧ ∀ (i : Nat) (r : List Int), rows[i]? = some r → ∃ q c, w.cell? ⟨g, i, none⟩ = some (.slice q r.length c) ∧ SlE EZ w (.slice q r.length c) r := by
  obtain ⟨g, cap, rfl, _⟩ := own_someE (n := rows.length) h.own h.len h0
  refine ⟨g, cap, rfl, own_lt h.own g (by simp [Value.ownBlock]), fun i r hi => ?_⟩
  obtain ⟨blk, off, q, c, e, _, c0, hs⟩ := h.ll.row hi
  simp only [Option.some.injEq, Addr.mk.injEq] at e
  obtain ⟨rfl, rfl, _⟩ := e
  rw [Nat.zero_add] at c0
  exact ⟨q, c, c0, hs⟩
end Go.Proofs.YtlaeaeciomkababDoor
