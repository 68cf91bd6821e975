/-
  The closed fact that the laws of package huff ask first.
-/
import Derived.Test.YtimlgdedgjpkdaaHuL
namespace Go.Proofs.Ytimlgdedgjpkdaa
open Go.RowKit Go.Sort Go.Proofs

theorem lensU_one : lensU (natL [5, 1, 1]) = [1, 2, 2] := by decide
set_option maxHeartbeats 4000000 in
theorem huffFact_any (w : World) : Calls Try.prog 7 #[] w fun e w' => e = .returned (.bool true) ∧ Below w.heap.size w w' := by
  have hba : Below w.heap.size w (w.alloc (.cells #[.int .i64 5, .int .i64 1, .int .i64 1] 3)) := (Below.refl _ w).alloc (Nat.le_refl _) _
  have C0 := lengths_ok (new_nums w [5, 1, 1] 3 3 3 rfl (Nat.le_refl _)) (by decide)
  have HC0 := hidp C0
  have HBA := hidp hba
  clear C0 hba
  go_enter Try.func7, Try.ntmps7
  go_wp2_with (first | (go_at_call 8; refine HC0.out.mono ?_; rintro e w2 ⟨g, c, rfl, hnc, hr, hg, hb⟩; rw [lensU_one] at hr; have HS2 := hidp (SlE.of_rd hr (show ([1, 2, 2] : List Int).length = 3 from rfl) hnc); have HB2 := hidp (HBA.out.trans (hb.mono HBA.out.size)); clear hr hb) | (go_at_call 11; refine (sameI_any (HS2.out.below ((Below.refl _ w2).alloc (Nat.le_refl _) (.cells #[.int .i64 1, .int .i64 2, .int .i64 2] 3))) (new_nums w2 [1, 2, 2] 3 3 3 rfl (Nat.le_refl _)) (by decide)).mono ?_; rintro e w3 ⟨rfl, q, rfl⟩))
  go_ret
  exact ⟨rfl, below_drewN (HB2.out.alloc HB2.out.size _) q⟩
#print axioms huffFact_any
end Go.Proofs.Ytimlgdedgjpkdaa
