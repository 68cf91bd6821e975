/-
  The law OrderSays, walked: what is wrong with any items, whether they are sorted, and any sorted.
-/
import Derived.Test.YtaplomajcdoekaaDoorRefSortW
import Derived.Test.YtaplomajcdoekaaDoorTold
import Derived.Test.YtaplomajcdoekaaDoorSame
namespace Go.Proofs.YtaplomajcdoekaaDoor
open Go.RowKit Go.Sort Go.Proofs

set_option maxHeartbeats 4000000 in
set_option maxRecDepth 4000 in
theorem orderSays_bad (p : Option Addr) (cap : Nat) (xs : Array (Int × Int)) (w : World) (h : Sl w (.slice p xs.size cap) xs) (hbig : xs.size ≤ 9223372036854775807) (hgl : Glob w) (h0 : wrong xs ≠ 0) :
    Calls Tryd.prog 3 #[.slice p xs.size cap] w fun e w' => e = .returned (.bool true) ∧ Below w.heap.size w w' := by
  have c1 := refItems_any _ xs w h hbig
  have c2 := check_any _ xs w h hbig
  have c4 := fun w1 (hb : Below w.heap.size w w1) => sorted_any _ xs w1 (h.below hb) hbig
  have c5 := fun w1 (hb : Below w.heap.size w w1) => sort_bad _ xs w1 (h.below hb) hbig _ rfl h0
  have c3 := fun w1 (hb : Below w.heap.size w w1) => error_any (wrong xs) (wrong xs) w1 (hgl.below hb)
  have c6 := fun w1 => items_none none none 0 0 w1
  simp only [errV_pos h0, beq_self_eq_true] at c2 c3 c4
  have e4 : (decide (wrong xs = 0) && srtB xs) = false := by simp [h0]
  rw [e4] at c4
  have hk : ((wrong xs : Int) == 0) = false := beq_eq_false_iff_ne.2 (by omega)
  clear h h0 e4 hgl
  generalize wrong xs = k at c1 c2 c3 c4 c5 hk
  generalize xs.size = N at c1 c2 c4 c5 hbig ⊢
  have C3 : Hid (∀ w1, Below w.heap.size w w1 → Calls Tryd.prog 6 #[.iface 43 (.int .i64 k), .int .i64 k] w1 fun e w' => e = .returned (.bool true) ∧ Below w1.heap.size w1 w') := c3
  have C4 : Hid (∀ w1, Below w.heap.size w w1 → Calls Tryd.prog 8 #[.slice p N cap] w1 fun e w' => e = .returned (.tuple #[.bool false, .iface 43 (.int .i64 k)]) ∧ Below w1.heap.size w1 w') := c4
  have C5 : Hid (∀ w1, Below w.heap.size w w1 → Calls Tryd.prog 11 #[.slice p N cap] w1 fun e w' => e = .returned (.tuple #[.slice none 0 0, .iface 43 (.int .i64 k)]) ∧ Below w1.heap.size w1 w') := c5
  clear c3 c4 c5
  go_enter Tryd.func3, Tryd.ntmps3
  go_wp2_with fail
  refine c1.mono ?_
  rintro e w0 ⟨rfl, hw0⟩
  rw [hw0]
  clear hw0 w0
  go_wp2_with fail
  refine c2.mono ?_
  rintro e w1 ⟨rfl, hb1⟩
  go_wp2_with fail
  refine (C3.out w1 hb1).mono ?_
  rintro e w2 ⟨rfl, hb2'⟩
  have hb2 := hb1.trans (hb2'.mono hb1.size)
  go_wp2_with fail
  refine (C4.out w2 hb2).mono ?_
  rintro e w3 ⟨rfl, hb3'⟩
  have hb3 := hb2.trans (hb3'.mono hb2.size)
  go_wp2_with fail
  refine (C3.out w3 hb3).mono ?_
  rintro e w4 ⟨rfl, hb4'⟩
  have hb4 := hb3.trans (hb4'.mono hb3.size)
  go_wp2_with fail
  refine (C5.out w4 hb4).mono ?_
  rintro e w5 ⟨rfl, hb5'⟩
  have hb5 := hb4.trans (hb5'.mono hb4.size)
  go_wp2_with fail
  refine (C3.out w5 hb5).mono ?_
  rintro e w6 ⟨rfl, hb6'⟩
  have hb6 := hb5.trans (hb6'.mono hb5.size)
  go_wp2_with fail
  refine (c6 w6).mono ?_
  rintro e w7 ⟨rfl, q7, hw7⟩
  have hb7 : Below w.heap.size w w7 := by rw [hw7]; exact below_drewN hb6 q7
  clear hw7
  go_wp2
  go_ret
  exact ⟨rfl, hb7⟩

set_option maxHeartbeats 4000000 in
set_option maxRecDepth 4000 in
theorem orderSays_good (p : Option Addr) (cap : Nat) (xs : Array (Int × Int)) (w : World) (h : Sl w (.slice p xs.size cap) xs) (hgl : Glob w) (h0 : wrong xs = 0) :
    Calls Tryd.prog 3 #[.slice p xs.size cap] w fun e w' => e = .returned (.bool true) ∧ Below w.heap.size w w' := by
  have h60 := wrong_le h0
  have c1 := refItems_any _ xs w h (by omega)
  have c2 := check_any _ xs w h (by omega)
  have c4 := fun w1 (hb : Below w.heap.size w w1) => sorted_any _ xs w1 (h.below hb) (by omega)
  have c5 := fun w1 (hb : Below w.heap.size w w1) => refSorted_any _ xs w1 (h.below hb) h60
  have c6 := fun w1 (hb : Below w.heap.size w w1) => refSort_any _ xs w1 (h.below hb) h60
  have c7 := fun w1 (hb : Below w.heap.size w w1) => sort_good _ xs w1 (h.below hb) h0
  have c3 := fun w1 (hb : Below w.heap.size w w1) => error_any 0 0 w1 (hgl.below hb)
  simp only [h0, errV_zero, beq_self_eq_true, decide_true, Bool.true_and] at c1 c2 c3 c4
  clear h h0 hgl
  obtain ⟨N, hN⟩ : ∃ N, xs.size = N := ⟨_, rfl⟩
  rw [hN] at c1 c2 c4 c5 c6 c7 h60 ⊢
  have HN : Hid (xs.size = N) := hN
  clear hN
  obtain ⟨b, hb⟩ : ∃ b, srtB xs = b := ⟨_, rfl⟩
  rw [hb] at c4 c5
  clear hb
  have C3 : Hid (∀ w1, Below w.heap.size w w1 → Calls Tryd.prog 6 #[.nilIface, .int .i64 0] w1 fun e w' => e = .returned (.bool true) ∧ Below w1.heap.size w1 w') := c3
  have C4 : Hid (∀ w1, Below w.heap.size w w1 → Calls Tryd.prog 8 #[.slice p N cap] w1 fun e w' => e = .returned (.tuple #[.bool b, .nilIface]) ∧ Below w1.heap.size w1 w') := c4
  have C5 : Hid (∀ w1, Below w.heap.size w w1 → Calls Tryd.prog 9 #[.slice p N cap] w1 fun e w' => e = .returned (.bool b) ∧ ∃ q, w' = w1.drewN q) := c5
  have C6 : Hid (∀ w1, Below w.heap.size w w1 → Calls Tryd.prog 10 #[.slice p N cap] w1 fun e w' => ∃ u, e = .returned u ∧ ∃ os, OwnI w' w1.heap.size u os ∧ Sorts xs os.toArray ∧ Below w1.heap.size w1 w') := c6
  have C7 : Hid (∀ w1, Below w.heap.size w w1 → Calls Tryd.prog 11 #[.slice p N cap] w1 fun e w' => ∃ g ys, e = .returned (.tuple #[.slice (some ⟨g, 0, none⟩) N N, .nilIface]) ∧ RdAt w' g 0 ys ∧ Sorts xs ys ∧ Below w1.heap.size w1 w') := c7
  clear c3 c4 c5 c6 c7
  go_enter Tryd.func3, Tryd.ntmps3
  go_wp2_with fail
  refine c1.mono ?_
  rintro e w0 ⟨rfl, hw0⟩
  rw [hw0]
  clear hw0 w0
  go_wp2_with fail
  refine c2.mono ?_
  rintro e w1 ⟨rfl, hb1⟩
  go_wp2_with fail
  refine (C3.out w1 hb1).mono ?_
  rintro e w2 ⟨rfl, hb2'⟩
  have hb2 := hb1.trans (hb2'.mono hb1.size)
  go_wp2_with fail
  refine (C4.out w2 hb2).mono ?_
  rintro e w3 ⟨rfl, hb3'⟩
  have hb3 := hb2.trans (hb3'.mono hb2.size)
  go_wp2_with fail
  refine (C3.out w3 hb3).mono ?_
  rintro e w4 ⟨rfl, hb4'⟩
  have hb4 := hb3.trans (hb4'.mono hb3.size)
  go_wp2_with fail
  refine (C5.out w4 hb4).mono ?_
  rintro e w5 ⟨rfl, q5, hw5⟩
  have hb5 : Below w.heap.size w w5 := by rw [hw5]; exact below_drewN hb4 q5
  clear hw5
  go_wp2_with fail
  refine (C6.out w5 hb5).mono ?_
  rintro e w6 ⟨u, rfl, os, hown, hso, hb6'⟩
  have hb6 := hb5.trans (hb6'.mono hb5.size)
  have HOW : Hid (OwnI w6 w5.heap.size u os) := hown
  have HS1 : Hid (Sorts xs os.toArray) := hso
  clear hown hso
  go_wp2_with fail
  refine (C7.out w6 hb6).mono ?_
  rintro e w7 ⟨g, ys, rfl, hrd, hso, hb7'⟩
  have hb7 := hb6.trans (hb7'.mono hb6.size)
  have HRD : Hid (RdAt w7 g 0 ys) := hrd
  have HS2 : Hid (Sorts xs ys) := hso
  have HO7 : Hid (OwnI w7 w5.heap.size u os) := HOW.out.below hb7'
  clear hrd hso
  go_wp2_with fail
  refine (C3.out w7 hb7).mono ?_
  rintro e w8 ⟨rfl, hb8'⟩
  have hb8 := hb7.trans (hb8'.mono hb7.size)
  have c8 := items_any _ u ys os.toArray w8 (Sl.of_rd (cap := N) (HRD.out.below hb8' HRD.out.1) (by rw [HS2.out.size, HN.out]; exact Nat.le_refl _)) (HO7.out.below hb8').sl (by rw [HS2.out.size, HN.out]; omega)
  rw [decide_eq_true (HS2.out.unique HS1.out), HS2.out.size, HN.out] at c8
  go_wp2_with fail
  refine c8.mono ?_
  rintro e w9 ⟨rfl, q9, hw9⟩
  have hb9 : Below w.heap.size w w9 := by rw [hw9]; exact below_drewN hb8 q9
  clear hw9
  go_wp2
  go_ret
  exact ⟨rfl, hb9⟩

theorem orderSays_any (v : Value) (xs : Array (Int × Int)) (w : World) (h : Sl w v xs) (hbig : xs.size ≤ 9223372036854775807) (hgl : Glob w) :
    Calls Tryd.prog 3 #[v] w fun e w' => e = .returned (.bool true) ∧ Below w.heap.size w w' := by
  obtain ⟨p, cap, rfl, _⟩ := id h
  by_cases h0 : wrong xs = 0
  · exact orderSays_good p cap xs w h hgl h0
  · exact orderSays_bad p cap xs w h hbig hgl h0
#print axioms orderSays_any
end Go.Proofs.YtaplomajcdoekaaDoor
