/-
  A closed fact that the statements ask first: two items are sorted.
-/
import Derived.Test.YtcjfbenbdjlodabSMath
namespace Go.Proofs.Ytcjfbenbdjlodab
open Go.RowKit Go.Sort Go.Proofs

theorem rd_pair (w : World) (x0 x1 y0 y1 : Int) : RdAt (w.alloc (.cells #[.int .i64 x0, .int .i64 x1, .int .i64 y0, .int .i64 y1] 38)) w.heap.size 0 #[(x0, x1), (y0, y1)] := by
  refine ⟨by simp, fun i hi => ?_⟩
  match i, hi with
  | 0, _ => exact ⟨by simp, by simp⟩
  | 1, _ => exact ⟨by simp, by simp⟩
  | i + 2, hi => exact absurd hi (by simp)
theorem wrong_pair : wrong #[(5, 1), (3, 2)] = 0 := by decide
theorem sorts_pair : Sorts #[(5, 1), (3, 2)] #[(3, 2), (5, 1)] := by
  refine ⟨rfl, fun k => ?_, ?_⟩
  · by_cases h1 : k = 5
    · subst h1; rfl
    · by_cases h2 : k = 3
      · subst h2; rfl
      · have e5 : ((5 : Int) == k) = false := beq_eq_false_iff_ne.2 (by omega)
        have e3 : ((3 : Int) == k) = false := beq_eq_false_iff_ne.2 (by omega)
        simp [e5, e3]
  · intro i j _ h2 h3
    have h3' : j < 2 := h3
    match i, j, h2, h3' with
    | 0, 0, _, _ => decide
    | 0, 1, _, _ => decide
    | 1, 1, _, _ => decide
    | 1, 0, h, _ => omega
    | i + 2, j, h, h' => omega

end Go.Proofs.Ytcjfbenbdjlodab
