/-
  The law's closed fact: runsFact.
-/
import Derived.Test.YtgihlnbmjoffjaaRnZ
namespace Go.Proofs.Ytgihlnbmjoffjaa
open Go.RowKit Go.Sort Go.Proofs

theorem fact_rows : rowsR (outs 2 [3, 5, 4, 1]) = [[3, 4, 5], [1]] := by decide +kernel
theorem fact_right : wrongM [3, 5, 4, 1] ((2 : Nat) : Int) = 0 := by decide +kernel
theorem fact_in (w : World) : SlE EZ (w.alloc (.cells #[.int .i64 3, .int .i64 5, .int .i64 4, .int .i64 1] 3)) (.slice (some ⟨w.heap.size, 0, none⟩) 4 4) [3, 5, 4, 1] := new_nums w [3, 5, 4, 1] 3 4 4 rfl (Nat.le_refl _)
theorem fact_345 (w : World) : SlE EZ (w.alloc (.cells #[.int .i64 3, .int .i64 4, .int .i64 5] 3)) (.slice (some ⟨w.heap.size, 0, none⟩) 3 3) [3, 4, 5] := new_nums w [3, 4, 5] 3 3 3 rfl (Nat.le_refl _)
theorem fact_1 (w : World) : SlE EZ (w.alloc (.cells #[.int .i64 1] 3)) (.slice (some ⟨w.heap.size, 0, none⟩) 1 1) [1] := new_nums w [1] 3 1 1 rfl (Nat.le_refl _)
theorem fact_make (w : World) : Calls Try.prog 7 #[.slice (some ⟨w.heap.size, 0, none⟩) 4 4, .int .i64 2] (w.alloc (.cells #[.int .i64 3, .int .i64 5, .int .i64 4, .int .i64 1] 3)) fun e w' =>
    ∃ g cap q0 k0 q1 k1, e = .returned (.tuple #[.slice (some ⟨g, 0, none⟩) 2 cap, .nilIface]) ∧ Below w.heap.size w w' ∧ w'.cell? ⟨g, 0, none⟩ = some (.slice q0 3 k0) ∧ w'.cell? ⟨g, 1, none⟩ = some (.slice q1 1 k1) ∧ g < w'.heap.size ∧ SlE EZ w' (.slice q0 3 k0) [3, 4, 5] ∧ SlE EZ w' (.slice q1 1 k1) [1] := by
  have hb : Below w.heap.size w (w.alloc (.cells #[.int .i64 3, .int .i64 5, .int .i64 4, .int .i64 1] 3)) := (Below.refl _ w).alloc (Nat.le_refl _) _
  have C := make_ok (room := 2) (fact_in w) fact_right
  rw [fact_rows] at C
  refine C.mono ?_
  rintro e w3 ⟨v', ss, f, rfl, hR, hnd, hge, hb3⟩
  obtain ⟨g, cap, rfl, hgl, hrow⟩ := hR.cell (by decide)
  obtain ⟨q0, k0, c0, s0⟩ := hrow 0 [3, 4, 5] rfl
  obtain ⟨q1, k1, c1, s1⟩ := hrow 1 [1] rfl
  exact ⟨g, cap, q0, k0, q1, k1, rfl, hb.trans (hb3.mono hb.size), c0, c1, hgl, s0, s1⟩
#print axioms fact_make
set_option maxHeartbeats 4000000 in
set_option maxRecDepth 20000 in
theorem runsFact_any (w : World) : Calls Try.prog 6 #[] w fun e w' => e = .returned (.bool true) ∧ Below w.heap.size w w' := by
  have HCM := hidp (fact_make w)
  go_enter Try.func6, Try.ntmps6
  go_wp2_with fail
  refine HCM.out.mono ?_
  rintro e w3 ⟨g, cap, q0, k0, q1, k1, rfl, hb3, c0, c1, hgl, s0, s1⟩
  have C1 := sameI_any (s0.below (w' := w3.alloc (.cells #[.int .i64 3, .int .i64 4, .int .i64 5] 3)) ((Below.refl _ w3).alloc (Nat.le_refl _) _)) (fact_345 w3) (by decide)
  rw [show decide (([3, 4, 5] : List Int) = [3, 4, 5]) = true from rfl] at C1
  have C2 : ∀ q, Calls Try.prog 10 #[.slice q1 1 k1, .slice (some ⟨w3.heap.size + 1, 0, none⟩) 1 1] (((w3.alloc (.cells #[.int .i64 3, .int .i64 4, .int .i64 5] 3)).drewN q).alloc (.cells #[.int .i64 1] 3)) fun e w' => e = .returned (.bool true) ∧ Below w.heap.size w w' := fun q => by
    have hbq : Below w3.heap.size w3 ((w3.alloc (.cells #[.int .i64 3, .int .i64 4, .int .i64 5] 3)).drewN q) := below_drewN ((Below.refl _ w3).alloc (Nat.le_refl _) _) q
    have hsz : ((w3.alloc (.cells #[.int .i64 3, .int .i64 4, .int .i64 5] 3)).drewN q).heap.size = w3.heap.size + 1 := by simp
    have hbq2 : Below w3.heap.size w3 (((w3.alloc (.cells #[.int .i64 3, .int .i64 4, .int .i64 5] 3)).drewN q).alloc (.cells #[.int .i64 1] 3)) := hbq.alloc (by omega) _
    have h1 := fact_1 ((w3.alloc (.cells #[.int .i64 3, .int .i64 4, .int .i64 5] 3)).drewN q)
    rw [hsz] at h1
    refine (sameI_any (s1.below hbq2) h1 (by decide)).mono ?_
    rintro e w' ⟨rfl, q', rfl⟩
    exact ⟨rfl, below_drewN (hb3.trans (hbq2.mono hb3.size)) q'⟩
  have HC1 := hidp C1
  have HC2 := hidp C2
  have hz0 : (0 : Int) < 2 := by decide
  clear C1 C2 s0 s1 hb3
  go_wp2_with fail
  refine HC1.out.mono ?_
  rintro e w5 ⟨rfl, q5, rfl⟩
  clear HC1
  go_wp2_with fail
  refine (HC2.out q5).mono ?_
  rintro e w6 ⟨rfl, hb6⟩
  have HB6 := hidp hb6
  clear HC2 hb6
  go_wp2
  go_ret
  exact ⟨rfl, HB6.out⟩
#print axioms runsFact_any
end Go.Proofs.Ytgihlnbmjoffjaa
