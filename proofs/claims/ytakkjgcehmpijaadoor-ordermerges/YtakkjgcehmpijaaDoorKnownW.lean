/-
  A closed fact that the statements ask first: two items are sorted.
-/
import Derived.Test.YtakkjgcehmpijaaDoorSMath
namespace Go.Proofs.YtakkjgcehmpijaaDoor
open Go.RowKit Go.Sort Go.Proofs

theorem rd_pair (w : World) (x0 x1 y0 y1 : Int) : RdAt (w.alloc (.cells #[.int .i64 x0, .int .i64 x1, .int .i64 y0, .int .i64 y1] 38)) w.heap.size 0 #[(x0, x1), (y0, y1)] := by
  refine ⟨by simp, fun i hi => ?_⟩
  match i, hi with
  | 0, _ => exact ⟨by simp, by simp⟩
  | 1, _ => exact ⟨by simp, by simp⟩
  | i + 2, hi => exact absurd hi (by simp)
theorem wrong_pair : wrong #[(5, 1), (3, 2)] = 0 := by decide
theorem sorts_pair : Sorts #[(5, 1), (3, 2)] #[(3, 2), (5, 1)] := by
  refine ⟨rfl, fun k => ?_, ?_⟩
  · by_cases h1 : k = 5
    · subst h1; rfl
    · by_cases h2 : k = 3
      · subst h2; rfl
      · have e5 : ((5 : Int) == k) = false := beq_eq_false_iff_ne.2 (by omega)
        have e3 : ((3 : Int) == k) = false := beq_eq_false_iff_ne.2 (by omega)
        simp [e5, e3]
  · intro i j _ h2 h3
    have h3' : j < 2 := h3
    match i, j, h2, h3' with
    | 0, 0, _, _ => decide
    | 0, 1, _, _ => decide
    | 1, 1, _, _ => decide
    | 1, 0, h, _ => omega
    | i + 2, j, h, h' => omega

theorem pair_any (a b : Int) (w : World) : Calls Tryd.prog 36 #[.int .i64 a, .int .i64 b] w fun e w' =>
    e = .returned (.slice (some ⟨w.heap.size, 0, none⟩) 2 2) ∧ w' = w.alloc (.cells #[.int .i64 a, .int .i64 1, .int .i64 b, .int .i64 2] 38) := by
  go_enter Tryd.func36, Tryd.ntmps36
  go_wp2
  go_ret
  exact ⟨rfl, rfl⟩

set_option maxHeartbeats 2000000 in
theorem known_any (w : World) : Calls Tryd.prog 14 #[] w fun e w' => e = .returned (.bool true) ∧ Below w.heap.size w w' := by
  have hc := sort_good _ #[(5, 1), (3, 2)] _ (Sl.of_rd (cap := 2) (rd_pair w 5 1 3 2) (by decide)) wrong_pair
  change Calls Tryd.prog 15 #[.slice (some ⟨w.heap.size, 0, none⟩) 2 2] _ (fun e w' => ∃ g ys, e = .returned (.tuple #[.slice (some ⟨g, 0, none⟩) 2 2, .nilIface]) ∧ _) at hc
  go_enter Tryd.func14, Tryd.ntmps14
  go_wp2_with (first | (go_at_call 36; refine (pair_any 5 3 _).mono ?_; rintro e w1 ⟨rfl, rfl⟩))
  refine hc.mono ?_
  rintro e w2 ⟨g, ys, rfl, hrd, hso, hb⟩
  obtain rfl := hso.unique sorts_pair
  obtain ⟨c0, c1⟩ := hrd.2 0 (by decide)
  obtain ⟨c2, c3⟩ := hrd.2 1 (by decide)
  simp at c0 c1 c2 c3
  clear hrd hso hc
  go_wp2
  go_ret
  exact ⟨rfl, ((Below.refl _ _).alloc (Nat.le_refl _) _).trans (hb.mono (by simp))⟩
end Go.Proofs.YtakkjgcehmpijaaDoor
