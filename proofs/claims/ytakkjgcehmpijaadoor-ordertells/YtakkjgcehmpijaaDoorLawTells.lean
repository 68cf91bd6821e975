/-
  The law OrderTells, walked: how many pairs of any items stand the wrong way round, and any two lists merged.
-/
import Derived.Test.YtakkjgcehmpijaaDoorRefMrg
import Derived.Test.YtakkjgcehmpijaaDoorRefInv
import Derived.Test.YtakkjgcehmpijaaDoorTold
namespace Go.Proofs.YtakkjgcehmpijaaDoor
open Go.RowKit Go.Sort Go.Proofs

set_option maxHeartbeats 4000000 in
set_option maxRecDepth 4000 in
theorem tells_A (p q : Option Addr) (ca cb A B : Nat) (w : World) (k : Nat) (hk : ((k : Int) == 0) = false) (C1 : Hid (∀ w1, Below w.heap.size w w1 → Calls Tryd.prog 7 #[.slice p A ca] w1 fun e w' => e = .returned (.int .i64 k) ∧ w' = w1)) (C3 : Hid (∀ w1, Below w.heap.size w w1 → Calls Tryd.prog 9 #[.slice p A ca] w1 fun e w' => e = .returned (.tuple #[.int .i64 0, .iface 48 (.int .i64 k)]) ∧ Below w1.heap.size w1 w')) (C4 : Hid (∀ w1, Below w.heap.size w w1 → Calls Tryd.prog 10 #[.iface 48 (.int .i64 k), .int .i64 k] w1 fun e w' => e = .returned (.bool true) ∧ Below w1.heap.size w1 w')) (C5 : Hid (∀ w1, Below w.heap.size w w1 → Calls Tryd.prog 11 #[.slice p A ca, .slice q B cb] w1 fun e w' => e = .returned (.tuple #[.slice none 0 0, .int .i64 k]) ∧ Below w1.heap.size w1 w')) (C6 : Hid (∀ w1, Below w.heap.size w w1 → Calls Tryd.prog 12 #[.slice p A ca, .slice q B cb] w1 fun e w' => e = .returned (.tuple #[.slice none 0 0, .iface 48 (.int .i64 k)]) ∧ Below w1.heap.size w1 w')) (C8 : Hid (∀ w1, Below w.heap.size w w1 → Calls Tryd.prog 13 #[.slice none 0 0, .slice none 0 0] w1 fun e w' => e = .returned (.bool true) ∧ Below w1.heap.size w1 w')) :
    Calls Tryd.prog 3 #[.slice p A ca, .slice q B cb] w fun e w' => e = .returned (.bool true) ∧ Below w.heap.size w w' := by
  go_enter Tryd.func3, Tryd.ntmps3
  go_wp2_with fail
  refine (C1.out w (Below.refl _ _)).mono ?_
  rintro e w1 ⟨rfl, hw1⟩
  have hb1 : Below w.heap.size w w1 := by rw [hw1]; exact (Below.refl _ _)
  clear hw1
  go_wp2_with fail
  refine (C3.out w1 hb1).mono ?_
  rintro e w2 ⟨rfl, hb2'⟩
  have hb2 : Below w.heap.size w w2 := hb1.trans (hb2'.mono hb1.size)
  go_wp2_with fail
  refine (C4.out w2 hb2).mono ?_
  rintro e w3 ⟨rfl, hb3'⟩
  have hb3 : Below w.heap.size w w3 := hb2.trans (hb3'.mono hb2.size)
  go_wp2_with fail
  refine (C5.out w3 hb3).mono ?_
  rintro e w4 ⟨rfl, hb4'⟩
  have hb4 : Below w.heap.size w w4 := hb3.trans (hb4'.mono hb3.size)
  go_wp2_with fail
  refine (C6.out w4 hb4).mono ?_
  rintro e w5 ⟨rfl, hb5'⟩
  have hb5 : Below w.heap.size w w5 := hb4.trans (hb5'.mono hb4.size)
  go_wp2_with fail
  refine (C4.out w5 hb5).mono ?_
  rintro e w6 ⟨rfl, hb6'⟩
  have hb6 : Below w.heap.size w w6 := hb5.trans (hb6'.mono hb5.size)
  go_wp2_with fail
  refine (C8.out w6 hb6).mono ?_
  rintro e w7 ⟨rfl, hb7'⟩
  have hb7 : Below w.heap.size w w7 := hb6.trans (hb7'.mono hb6.size)
  go_wp2
  go_ret
  exact ⟨rfl, hb7⟩

set_option maxHeartbeats 4000000 in
set_option maxRecDepth 4000 in
theorem tells_B (p q : Option Addr) (ca cb A B : Nat) (w : World) (k I : Nat) (C1 : Hid (∀ w1, Below w.heap.size w w1 → Calls Tryd.prog 7 #[.slice p A ca] w1 fun e w' => e = .returned (.int .i64 0) ∧ w' = w1)) (C2 : Hid (∀ w1, Below w.heap.size w w1 → Calls Tryd.prog 8 #[.slice p A ca] w1 fun e w' => e = .returned (.int .i64 I) ∧ Below w1.heap.size w1 w')) (C3 : Hid (∀ w1, Below w.heap.size w w1 → Calls Tryd.prog 9 #[.slice p A ca] w1 fun e w' => e = .returned (.tuple #[.int .i64 I, .nilIface]) ∧ Below w1.heap.size w1 w')) (C4 : Hid (∀ w1, Below w.heap.size w w1 → Calls Tryd.prog 10 #[.nilIface, .int .i64 0] w1 fun e w' => e = .returned (.bool true) ∧ Below w1.heap.size w1 w')) (C5 : Hid (∀ w1, Below w.heap.size w w1 → Calls Tryd.prog 11 #[.slice p A ca, .slice q B cb] w1 fun e w' => e = .returned (.tuple #[.slice none 0 0, .int .i64 k]) ∧ Below w1.heap.size w1 w')) (C6 : Hid (∀ w1, Below w.heap.size w w1 → Calls Tryd.prog 12 #[.slice p A ca, .slice q B cb] w1 fun e w' => e = .returned (.tuple #[.slice none 0 0, .iface 48 (.int .i64 k)]) ∧ Below w1.heap.size w1 w')) (C7 : Hid (∀ w1, Below w.heap.size w w1 → Calls Tryd.prog 10 #[.iface 48 (.int .i64 k), .int .i64 k] w1 fun e w' => e = .returned (.bool true) ∧ Below w1.heap.size w1 w')) (C8 : Hid (∀ w1, Below w.heap.size w w1 → Calls Tryd.prog 13 #[.slice none 0 0, .slice none 0 0] w1 fun e w' => e = .returned (.bool true) ∧ Below w1.heap.size w1 w')) :
    Calls Tryd.prog 3 #[.slice p A ca, .slice q B cb] w fun e w' => e = .returned (.bool true) ∧ Below w.heap.size w w' := by
  go_enter Tryd.func3, Tryd.ntmps3
  go_wp2_with fail
  refine (C1.out w (Below.refl _ _)).mono ?_
  rintro e w1 ⟨rfl, hw1⟩
  have hb1 : Below w.heap.size w w1 := by rw [hw1]; exact (Below.refl _ _)
  clear hw1
  go_wp2_with fail
  refine (C2.out w1 hb1).mono ?_
  rintro e w2 ⟨rfl, hb2'⟩
  have hb2 : Below w.heap.size w w2 := hb1.trans (hb2'.mono hb1.size)
  go_wp2_with fail
  refine (C3.out w2 hb2).mono ?_
  rintro e w3 ⟨rfl, hb3'⟩
  have hb3 : Below w.heap.size w w3 := hb2.trans (hb3'.mono hb2.size)
  go_wp2_with fail
  refine (C4.out w3 hb3).mono ?_
  rintro e w4 ⟨rfl, hb4'⟩
  have hb4 : Below w.heap.size w w4 := hb3.trans (hb4'.mono hb3.size)
  go_wp2_with fail
  refine (C5.out w4 hb4).mono ?_
  rintro e w5 ⟨rfl, hb5'⟩
  have hb5 : Below w.heap.size w w5 := hb4.trans (hb5'.mono hb4.size)
  go_wp2_with fail
  refine (C6.out w5 hb5).mono ?_
  rintro e w6 ⟨rfl, hb6'⟩
  have hb6 : Below w.heap.size w w6 := hb5.trans (hb6'.mono hb5.size)
  go_wp2_with fail
  refine (C7.out w6 hb6).mono ?_
  rintro e w7 ⟨rfl, hb7'⟩
  have hb7 : Below w.heap.size w w7 := hb6.trans (hb7'.mono hb6.size)
  go_wp2_with fail
  refine (C8.out w7 hb7).mono ?_
  rintro e w8 ⟨rfl, hb8'⟩
  have hb8 : Below w.heap.size w w8 := hb7.trans (hb8'.mono hb7.size)
  go_wp2
  go_ret
  exact ⟨rfl, hb8⟩

set_option maxHeartbeats 4000000 in
set_option maxRecDepth 4000 in
theorem tells_C (p q : Option Addr) (ca cb A B : Nat) (w : World) (I : Nat) (zs : Array (Int × Int)) (hz : Hid (zs.size ≤ 60)) (C1 : Hid (∀ w1, Below w.heap.size w w1 → Calls Tryd.prog 7 #[.slice p A ca] w1 fun e w' => e = .returned (.int .i64 0) ∧ w' = w1)) (C2 : Hid (∀ w1, Below w.heap.size w w1 → Calls Tryd.prog 8 #[.slice p A ca] w1 fun e w' => e = .returned (.int .i64 I) ∧ Below w1.heap.size w1 w')) (C3 : Hid (∀ w1, Below w.heap.size w w1 → Calls Tryd.prog 9 #[.slice p A ca] w1 fun e w' => e = .returned (.tuple #[.int .i64 I, .nilIface]) ∧ Below w1.heap.size w1 w')) (C4 : Hid (∀ w1, Below w.heap.size w w1 → Calls Tryd.prog 10 #[.nilIface, .int .i64 0] w1 fun e w' => e = .returned (.bool true) ∧ Below w1.heap.size w1 w')) (C5 : Hid (∀ w1, Below w.heap.size w w1 → Calls Tryd.prog 11 #[.slice p A ca, .slice q B cb] w1 fun e w' => ∃ u, e = .returned (.tuple #[u, .int .i64 0]) ∧ ∃ os, OwnI w' w1.heap.size u os ∧ Sorts zs os.toArray ∧ Below w1.heap.size w1 w')) (C6 : Hid (∀ w1, Below w.heap.size w w1 → Calls Tryd.prog 12 #[.slice p A ca, .slice q B cb] w1 fun e w' => ∃ u, e = .returned (.tuple #[u, .nilIface]) ∧ ∃ os, OwnI w' w1.heap.size u os ∧ Sorts zs os.toArray ∧ Below w1.heap.size w1 w')) :
    Calls Tryd.prog 3 #[.slice p A ca, .slice q B cb] w fun e w' => e = .returned (.bool true) ∧ Below w.heap.size w w' := by
  go_enter Tryd.func3, Tryd.ntmps3
  go_wp2_with fail
  refine (C1.out w (Below.refl _ _)).mono ?_
  rintro e w1 ⟨rfl, hw1⟩
  have hb1 : Below w.heap.size w w1 := by rw [hw1]; exact (Below.refl _ _)
  clear hw1
  go_wp2_with fail
  refine (C2.out w1 hb1).mono ?_
  rintro e w2 ⟨rfl, hb2'⟩
  have hb2 : Below w.heap.size w w2 := hb1.trans (hb2'.mono hb1.size)
  go_wp2_with fail
  refine (C3.out w2 hb2).mono ?_
  rintro e w3 ⟨rfl, hb3'⟩
  have hb3 : Below w.heap.size w w3 := hb2.trans (hb3'.mono hb2.size)
  go_wp2_with fail
  refine (C4.out w3 hb3).mono ?_
  rintro e w4 ⟨rfl, hb4'⟩
  have hb4 : Below w.heap.size w w4 := hb3.trans (hb4'.mono hb3.size)
  go_wp2_with fail
  refine (C5.out w4 hb4).mono ?_
  rintro e w5 ⟨u, rfl, os, ho5, hs5, hb5'⟩
  have hb5 := hb4.trans (hb5'.mono hb4.size)
  have HO5 : Hid (OwnI w5 w4.heap.size u os) := ho5
  have HS5 : Hid (Sorts zs os.toArray) := hs5
  clear ho5 hs5
  go_wp2_with fail
  refine (C6.out w5 hb5).mono ?_
  rintro e w6 ⟨u6, rfl, os6, ho6, hs6, hb6'⟩
  have hb6 := hb5.trans (hb6'.mono hb5.size)
  have HO6 : Hid (OwnI w6 w5.heap.size u6 os6) := ho6
  have HS6 : Hid (Sorts zs os6.toArray) := hs6
  have HO5b : Hid (OwnI w6 w4.heap.size u os) := HO5.out.below hb6'
  clear ho6 hs6 HO5
  go_wp2_with fail
  refine (C4.out w6 hb6).mono ?_
  rintro e w7 ⟨rfl, hb7'⟩
  have hb7 : Below w.heap.size w w7 := hb6.trans (hb7'.mono hb6.size)
  have c8 := items_any u6 u os6.toArray os.toArray w7 (HO6.out.below hb7').sl (HO5b.out.below hb7').sl (by rw [HS6.out.size]; have := hz.out; omega)
  rw [decide_eq_true (HS6.out.unique HS5.out)] at c8
  go_wp2_with fail
  refine c8.mono ?_
  rintro e w8 ⟨rfl, q8, hw8⟩
  have hb8 : Below w.heap.size w w8 := by rw [hw8]; exact below_drewN hb7 q8
  clear hw8
  go_wp2
  go_ret
  exact ⟨rfl, hb8⟩

theorem orderTells_any (u v : Value) (xs ys : Array (Int × Int)) (w : World) (hu : Sl w u xs) (hv : Sl w v ys) (h1 : xs.size ≤ 9223372036854775807) (h2 : ys.size ≤ 9223372036854775807) (hgl : Glob w) :
    Calls Tryd.prog 3 #[u, v] w fun e w' => e = .returned (.bool true) ∧ Below w.heap.size w w' := by
  obtain ⟨p, ca, rfl, _⟩ := id hu
  obtain ⟨q, cb, rfl, _⟩ := id hv
  have c1 := fun w1 (hb : Below w.heap.size w w1) => refItems_any _ xs w1 (hu.below hb) h1
  have c3 := fun w1 (hb : Below w.heap.size w w1) => inversions_any _ xs w1 (hu.below hb) h1
  have c4 := fun (k : Nat) w1 (hb : Below w.heap.size w w1) => error_any k k w1 (hgl.below hb)
  have c8 : ∀ w1, Below w.heap.size w w1 → Calls Tryd.prog 13 #[.slice none 0 0, .slice none 0 0] w1 fun e w' => e = .returned (.bool true) ∧ Below w1.heap.size w1 w' :=
    fun w1 _ => (items_none none none 0 0 w1).mono fun e w' ⟨h, n, h'⟩ => ⟨h, by rw [h']; exact below_drewN (Below.refl _ _) n⟩
  have c5b := fun (h0 : wrongM xs ys ≠ 0) w1 (hb : Below w.heap.size w w1) => refMerge_bad p q ca cb xs ys w1 (hu.below hb) (hv.below hb) h1 h2 h0
  have c6b := fun (h0 : wrongM xs ys ≠ 0) w1 (hb : Below w.heap.size w w1) => merge_bad p q ca cb xs ys w1 (hu.below hb) (hv.below hb) h1 h2 h0
  simp only [beq_self_eq_true] at c4
  by_cases h0 : wrong xs = 0
  · have l1 := wrong_le h0
    have c2 := fun w1 (hb : Below w.heap.size w w1) => refInv_any _ xs w1 (hu.below hb) l1
    have c40 := c4 0
    have e1 : invI xs = invTo xs xs.size := if_pos h0
    rw [h0] at c1
    rw [h0, e1, errV_zero] at c3
    rw [errV_zero] at c40
    by_cases hm : wrongM xs ys = 0
    · obtain ⟨_, _, h60⟩ := wrongM_zero hm
      exact tells_C p q ca cb xs.size ys.size w _ (xs ++ ys) (by show _ ≤ _; simpa using h60) c1 c2 c3 c40
        (fun w1 hb => refMerge_good p q ca cb xs ys w1 (hu.below hb) (hv.below hb) hm) (fun w1 hb => merge_good p q ca cb xs ys w1 (hu.below hb) (hv.below hb) hm)
    · have c4k := c4 (wrongM xs ys)
      rw [errV_pos hm] at c4k
      exact tells_B p q ca cb xs.size ys.size w _ _ c1 c2 c3 c40 (c5b hm) (c6b hm) c4k c8
  · have e0 : wrongM xs ys = wrong xs := by
      have e : wrongS xs = wrong xs := by unfold wrongS; rw [if_neg h0]
      unfold wrongM; rw [e, if_neg h0]
    have hm : wrongM xs ys ≠ 0 := by rw [e0]; exact h0
    have c5 := c5b hm
    have c6 := c6b hm
    have c4k := c4 (wrong xs)
    have e1 : invI xs = 0 := if_neg h0
    rw [errV_pos h0] at c4k
    rw [e1, errV_pos h0] at c3
    rw [e0] at c5 c6
    exact tells_A p q ca cb xs.size ys.size w _ (beq_eq_false_iff_ne.2 (by omega)) c1 c3 c4k c5 c6 c8
#print axioms orderTells_any
end Go.Proofs.YtakkjgcehmpijaaDoor
