/-
  The law PickSays, walked: those below a key, those of it, those above, the one at any place, and the rank of a key.
-/
import Derived.Test.YtdpfijhkbhmkgaaDoorHide
import Derived.Test.YtdpfijhkbhmkgaaDoorPkParts
import Derived.Test.YtdpfijhkbhmkgaaDoorPkRank
import Derived.Test.YtdpfijhkbhmkgaaDoorPkNth
import Derived.Test.YtdpfijhkbhmkgaaDoorPkRef
import Derived.Test.YtdpfijhkbhmkgaaDoorRef1
import Derived.Test.YtdpfijhkbhmkgaaDoorRefSortW
import Derived.Test.YtdpfijhkbhmkgaaDoorSame
import Derived.Test.YtdpfijhkbhmkgaaDoorTold
namespace Go.Proofs.YtdpfijhkbhmkgaaDoor
open Go.RowKit Go.Sort Go.Proofs

theorem psays_bad (p : Option Addr) (N cap : Nat) (key n : Int) (k : Nat) (w : World) (hk : ((k : Int) == 0) = false)
    (C1 : Hid (∀ w1, Below w.heap.size w w1 → Calls Tryd.prog 13 #[.slice p N cap] w1 fun e w' => e = .returned (.int .i64 k) ∧ w' = w1))
    (C2 : Hid (∀ w1, Below w.heap.size w w1 → Calls Tryd.prog 18 #[.slice p N cap, .int .i64 key] w1 fun e w' => e = .returned (.tuple #[.slice none 0 0, .slice none 0 0, .slice none 0 0, .iface 57 (.int .i64 k)]) ∧ Below w1.heap.size w1 w'))
    (C3 : Hid (∀ w1, Below w.heap.size w w1 → Calls Tryd.prog 10 #[.iface 57 (.int .i64 k), .int .i64 k] w1 fun e w' => e = .returned (.bool true) ∧ Below w1.heap.size w1 w'))
    (C4 : Hid (∀ w1, Below w.heap.size w w1 → Calls Tryd.prog 19 #[.slice none 0 0, .slice none 0 0] w1 fun e w' => e = .returned (.bool true) ∧ Below w1.heap.size w1 w'))
    (C5 : Hid (∀ w1, Below w.heap.size w w1 → Calls Tryd.prog 20 #[.slice p N cap, .int .i64 key] w1 fun e w' => e = .returned (.tuple #[.int .i64 0, .iface 57 (.int .i64 k)]) ∧ Below w1.heap.size w1 w'))
    (C6 : Hid (∀ w1, Below w.heap.size w w1 → Calls Tryd.prog 22 #[.slice p N cap, .int .i64 n] w1 fun e w' => e = .returned (.tuple #[.agg #[.int .i64 0, .int .i64 0], .iface 57 (.int .i64 k)]) ∧ Below w1.heap.size w1 w')) :
    Calls Tryd.prog 5 #[.slice p N cap, .int .i64 key, .int .i64 n] w fun e w' => e = .returned (.bool true) ∧ Below w.heap.size w w' := by
  go_enter Tryd.func5, Tryd.ntmps5
  go_wp2_with fail
  refine (C1.out w (Below.refl _ _)).mono ?_
  rintro e w1 ⟨rfl, hw1⟩
  have hb1 : Below w.heap.size w w1 := by rw [hw1]; exact (Below.refl _ _)
  clear hw1
  go_wp2_with fail
  refine (C2.out w1 hb1).mono ?_
  rintro e w2 ⟨rfl, hb2'⟩
  have hb2 : Below w.heap.size w w2 := hb1.trans (hb2'.mono hb1.size)
  go_wp2_with fail
  refine (C3.out w2 hb2).mono ?_
  rintro e w3 ⟨rfl, hb3'⟩
  have hb3 : Below w.heap.size w w3 := hb2.trans (hb3'.mono hb2.size)
  go_wp2_with fail
  refine (C4.out w3 hb3).mono ?_
  rintro e w4 ⟨rfl, hb4'⟩
  have hb4 : Below w.heap.size w w4 := hb3.trans (hb4'.mono hb3.size)
  go_wp2_with fail
  refine (C4.out w4 hb4).mono ?_
  rintro e w5 ⟨rfl, hb5'⟩
  have hb5 : Below w.heap.size w w5 := hb4.trans (hb5'.mono hb4.size)
  go_wp2_with fail
  refine (C4.out w5 hb5).mono ?_
  rintro e w6 ⟨rfl, hb6'⟩
  have hb6 : Below w.heap.size w w6 := hb5.trans (hb6'.mono hb5.size)
  go_wp2_with fail
  refine (C5.out w6 hb6).mono ?_
  rintro e w7 ⟨rfl, hb7'⟩
  have hb7 : Below w.heap.size w w7 := hb6.trans (hb7'.mono hb6.size)
  go_wp2_with fail
  refine (C3.out w7 hb7).mono ?_
  rintro e w8 ⟨rfl, hb8'⟩
  have hb8 : Below w.heap.size w w8 := hb7.trans (hb8'.mono hb7.size)
  have hb9 : Below w.heap.size w (w8.alloc (.cells #[.int .i64 0, .int .i64 0] 30)) := hb8.alloc hb8.size _
  have cw0 : (w8.alloc (.cells #[.int .i64 0, .int .i64 0] 30)).cell? ⟨w8.heap.size, 0, none⟩ = some (.int .i64 0) := by simp
  have cw1 : (w8.alloc (.cells #[.int .i64 0, .int .i64 0] 30)).cell? ⟨w8.heap.size, 1, none⟩ = some (.int .i64 0) := by simp
  have cwl : w8.heap.size < (w8.alloc (.cells #[.int .i64 0, .int .i64 0] 30)).heap.size := by simp
  go_wp2_with fail
  generalize w8.heap.size = bw at cw0 cw1 cwl ⊢
  generalize w8.alloc (.cells #[.int .i64 0, .int .i64 0] 30) = wA at hb9 cw0 cw1 cwl ⊢
  refine (C6.out wA hb9).mono ?_
  rintro e w10 ⟨rfl, hb10'⟩
  have hb10 : Below w.heap.size w w10 := hb9.trans (hb10'.mono hb9.size)
  have dw0 : w10.cell? ⟨bw, 0, none⟩ = some (.int .i64 0) := (hb10'.cell (p := ⟨bw, 0, none⟩) cwl).trans cw0
  have dw1 : w10.cell? ⟨bw, 1, none⟩ = some (.int .i64 0) := (hb10'.cell (p := ⟨bw, 1, none⟩) cwl).trans cw1
  have dwl : bw < w10.heap.size := Nat.lt_of_lt_of_le cwl hb10'.size
  clear cw0 cw1 cwl
  have hb11 : Below w.heap.size w (w10.alloc (.cells #[.int .i64 0, .int .i64 0] 30)) := hb10.alloc hb10.size _
  go_wp2_with fail
  refine (C3.out (w10.alloc (.cells #[.int .i64 0, .int .i64 0] 30)) hb11).mono ?_
  rintro e wz ⟨rfl, hbz'⟩
  have hbz := hb11.trans (hbz'.mono hb11.size)
  have ew0 : wz.cell? ⟨bw, 0, none⟩ = some (.int .i64 0) := (hbz'.cell (p := ⟨bw, 0, none⟩) (by simp; omega)).trans (by rw [World.cell?_alloc_lt _ _ ⟨bw, 0, none⟩ dwl]; exact dw0)
  have ew1 : wz.cell? ⟨bw, 1, none⟩ = some (.int .i64 0) := (hbz'.cell (p := ⟨bw, 1, none⟩) (by simp; omega)).trans (by rw [World.cell?_alloc_lt _ _ ⟨bw, 1, none⟩ dwl]; exact dw1)
  have et0 : wz.cell? ⟨w10.heap.size, 0, none⟩ = some (.int .i64 0) := (hbz'.cell (p := ⟨w10.heap.size, 0, none⟩) (by simp)).trans (by simp)
  have et1 : wz.cell? ⟨w10.heap.size, 1, none⟩ = some (.int .i64 0) := (hbz'.cell (p := ⟨w10.heap.size, 1, none⟩) (by simp)).trans (by simp)
  have k2 := fun w => eql_item 0 0 0 0 w
  have k4 := guard_item
  rw [show ((0 : Int) == 0 && (0 : Int) == 0) = true by rfl] at k2
  go_wp2
  go_ret
  exact ⟨rfl, hbz⟩
theorem size_setC (w : World) (p : Addr) (v : Value) : (w.setCell p v).heap.size = w.heap.size := by simp [World.setCell]

theorem own_slice {w : World} {b : Nat} {v : Value} {l : List (Int × Int)} {n : Nat} (hn : l.length = n) (h : OwnI w b v l) : ∃ p c, v = .slice p n c ∧ OwnI w b (.slice p n c) l := by
  obtain ⟨p, c, e, _⟩ := h.sl
  rw [List.size_toArray, hn] at e
  exact ⟨p, c, e, by rw [← e]; exact h⟩

set_option maxHeartbeats 8000000 in
theorem psays_out (p : Option Addr) (N cap A B C : Nat) (key n : Int) (la lb lc : List (Int × Int)) (w : World) (hn : n < 0 ∨ (N : Int) ≤ n) (hA : A ≤ 60) (hB : B ≤ 60) (hC : C ≤ 60) (HLa : Hid (la.length = A)) (HLb : Hid (lb.length = B)) (HLc : Hid (lc.length = C))
    (C1 : Hid (∀ w1, Below w.heap.size w w1 → Calls Tryd.prog 13 #[.slice p N cap] w1 fun e w' => e = .returned (.int .i64 0) ∧ w' = w1))
    (CA : Hid (∀ w1, Below w.heap.size w w1 → Calls Tryd.prog 17 #[.slice p N cap, .int .i64 key, .int .i64 (-1)] w1 fun e w' => ∃ u, e = .returned u ∧ OwnI w' w1.heap.size u la ∧ Below w1.heap.size w1 w'))
    (CB : Hid (∀ w1, Below w.heap.size w w1 → Calls Tryd.prog 17 #[.slice p N cap, .int .i64 key, .int .i64 0] w1 fun e w' => ∃ u, e = .returned u ∧ OwnI w' w1.heap.size u lb ∧ Below w1.heap.size w1 w'))
    (CC : Hid (∀ w1, Below w.heap.size w w1 → Calls Tryd.prog 17 #[.slice p N cap, .int .i64 key, .int .i64 1] w1 fun e w' => ∃ u, e = .returned u ∧ OwnI w' w1.heap.size u lc ∧ Below w1.heap.size w1 w'))
    (C2 : Hid (∀ w1, Below w.heap.size w w1 → Calls Tryd.prog 18 #[.slice p N cap, .int .i64 key] w1 fun e w' => ∃ va vb vc, e = .returned (.tuple #[va, vb, vc, .nilIface]) ∧ OwnI w' w1.heap.size va la ∧ OwnI w' w1.heap.size vb lb ∧ OwnI w' w1.heap.size vc lc ∧ Below w1.heap.size w1 w'))
    (C3 : Hid (∀ w1, Below w.heap.size w w1 → Calls Tryd.prog 10 #[.nilIface, .int .i64 0] w1 fun e w' => e = .returned (.bool true) ∧ Below w1.heap.size w1 w'))
    (C5 : Hid (∀ w1, Below w.heap.size w w1 → Calls Tryd.prog 20 #[.slice p N cap, .int .i64 key] w1 fun e w' => e = .returned (.tuple #[.int .i64 (A : Nat), .nilIface]) ∧ Below w1.heap.size w1 w'))
    (C7 : Hid (∀ w1, Below w.heap.size w w1 → Calls Tryd.prog 22 #[.slice p N cap, .int .i64 n] w1 fun e w' => e = .returned (.tuple #[.agg #[.int .i64 0, .int .i64 0], .iface 57 (.int .i64 1)]) ∧ Below w1.heap.size w1 w'))
    (C8 : Hid (∀ w1, Below w.heap.size w w1 → Calls Tryd.prog 10 #[.iface 57 (.int .i64 1), .int .i64 1] w1 fun e w' => e = .returned (.bool true) ∧ Below w1.heap.size w1 w')) :
    Calls Tryd.prog 5 #[.slice p N cap, .int .i64 key, .int .i64 n] w fun e w' => e = .returned (.bool true) ∧ Below w.heap.size w w' := by
  have HNN := hidp hn
  clear hn
  go_enter Tryd.func5, Tryd.ntmps5
  go_wp2_with fail
  refine (C1.out w (Below.refl _ _)).mono ?_
  rintro e w1 ⟨rfl, hw1⟩
  have hb1 : Below w.heap.size w w1 := by rw [hw1]; exact (Below.refl _ _)
  clear hw1
  go_wp2_with fail
  refine (CA.out w1 hb1).mono ?_
  rintro e w2 ⟨ua, rfl, oa, hb2'⟩
  have hb2 := hb1.trans (hb2'.mono hb1.size)
  obtain ⟨pa, ca, rfl, oa⟩ := own_slice HLa.out oa
  have Oa2 := hidp oa
  clear oa
  go_wp2_with fail
  refine (CB.out w2 hb2).mono ?_
  rintro e w3 ⟨ub, rfl, ob, hb3'⟩
  have hb3 := hb2.trans (hb3'.mono hb2.size)
  obtain ⟨pb, cb, rfl, ob⟩ := own_slice HLb.out ob
  have Ob3 := hidp ob
  clear ob
  have Oa3 := hidp (Oa2.out.below hb3')
  clear Oa2
  go_wp2_with fail
  refine (CC.out w3 hb3).mono ?_
  rintro e w4 ⟨uc, rfl, oc, hb4'⟩
  have hb4 := hb3.trans (hb4'.mono hb3.size)
  obtain ⟨pc, cc, rfl, oc⟩ := own_slice HLc.out oc
  have Oc4 := hidp oc
  clear oc
  have Oa4 := hidp (Oa3.out.below hb4')
  clear Oa3
  have Ob4 := hidp (Ob3.out.below hb4')
  clear Ob3
  go_wp2_with fail
  refine (C2.out w4 hb4).mono ?_
  rintro e w5 ⟨va, vb, vc, rfl, qa, qb, qc, hb5'⟩
  have hb5 := hb4.trans (hb5'.mono hb4.size)
  obtain ⟨ra, da, rfl, qa⟩ := own_slice HLa.out qa
  have Qa5 := hidp qa
  have Oa5 := hidp (Oa4.out.below hb5')
  clear qa Oa4
  obtain ⟨rb, db, rfl, qb⟩ := own_slice HLb.out qb
  have Qb5 := hidp qb
  have Ob5 := hidp (Ob4.out.below hb5')
  clear qb Ob4
  obtain ⟨rc, dc, rfl, qc⟩ := own_slice HLc.out qc
  have Qc5 := hidp qc
  have Oc5 := hidp (Oc4.out.below hb5')
  clear qc Oc4
  go_wp2_with fail
  refine (C3.out w5 hb5).mono ?_
  rintro e w6 ⟨rfl, hb6'⟩
  have hb6 := hb5.trans (hb6'.mono hb5.size)
  have Qa6 := hidp (Qa5.out.below hb6')
  have Oa6 := hidp (Oa5.out.below hb6')
  clear Qa5 Oa5
  have Qb6 := hidp (Qb5.out.below hb6')
  have Ob6 := hidp (Ob5.out.below hb6')
  clear Qb5 Ob5
  have Qc6 := hidp (Qc5.out.below hb6')
  have Oc6 := hidp (Oc5.out.below hb6')
  clear Qc5 Oc5
  have ci := items_any _ _ la.toArray la.toArray w6 Qa6.out.sl Oa6.out.sl (by rw [List.size_toArray, HLa.out]; omega)
  rw [decide_eq_true rfl] at ci
  go_wp2_with fail
  refine ci.mono ?_
  rintro e w7 ⟨rfl, qd, hw⟩
  have hb7' : Below w6.heap.size w6 w7 := by rw [hw]; exact below_drewN (Below.refl _ _) qd
  have hb7 := hb6.trans (hb7'.mono hb6.size)
  clear hw ci
  have Qa7 := hidp (Qa6.out.below hb7')
  have Oa7 := hidp (Oa6.out.below hb7')
  clear Qa6 Oa6
  have Qb7 := hidp (Qb6.out.below hb7')
  have Ob7 := hidp (Ob6.out.below hb7')
  clear Qb6 Ob6
  have Qc7 := hidp (Qc6.out.below hb7')
  have Oc7 := hidp (Oc6.out.below hb7')
  clear Qc6 Oc6
  have ci := items_any _ _ lb.toArray lb.toArray w7 Qb7.out.sl Ob7.out.sl (by rw [List.size_toArray, HLb.out]; omega)
  rw [decide_eq_true rfl] at ci
  go_wp2_with fail
  refine ci.mono ?_
  rintro e w8 ⟨rfl, qd, hw⟩
  have hb8' : Below w7.heap.size w7 w8 := by rw [hw]; exact below_drewN (Below.refl _ _) qd
  have hb8 := hb7.trans (hb8'.mono hb7.size)
  clear hw ci
  have Qa8 := hidp (Qa7.out.below hb8')
  have Oa8 := hidp (Oa7.out.below hb8')
  clear Qa7 Oa7
  have Qb8 := hidp (Qb7.out.below hb8')
  have Ob8 := hidp (Ob7.out.below hb8')
  clear Qb7 Ob7
  have Qc8 := hidp (Qc7.out.below hb8')
  have Oc8 := hidp (Oc7.out.below hb8')
  clear Qc7 Oc7
  have ci := items_any _ _ lc.toArray lc.toArray w8 Qc8.out.sl Oc8.out.sl (by rw [List.size_toArray, HLc.out]; omega)
  rw [decide_eq_true rfl] at ci
  go_wp2_with fail
  refine ci.mono ?_
  rintro e w9 ⟨rfl, qd, hw⟩
  have hb9' : Below w8.heap.size w8 w9 := by rw [hw]; exact below_drewN (Below.refl _ _) qd
  have hb9 := hb8.trans (hb9'.mono hb8.size)
  clear hw ci
  have Qa9 := hidp (Qa8.out.below hb9')
  have Oa9 := hidp (Oa8.out.below hb9')
  clear Qa8 Oa8
  have Qb9 := hidp (Qb8.out.below hb9')
  have Ob9 := hidp (Ob8.out.below hb9')
  clear Qb8 Ob8
  have Qc9 := hidp (Qc8.out.below hb9')
  have Oc9 := hidp (Oc8.out.below hb9')
  clear Qc8 Oc8
  clear Qa9 Qb9 Qc9 Oa9 Ob9 Oc9
  go_wp2_with fail
  refine (C5.out w9 hb9).mono ?_
  rintro e w10 ⟨rfl, hb10'⟩
  have hb10 := hb9.trans (hb10'.mono hb9.size)
  go_wp2_with fail
  refine (C3.out w10 hb10).mono ?_
  rintro e w11 ⟨rfl, hb11'⟩
  have hb11 := hb10.trans (hb11'.mono hb10.size)
  have hAA : ((A : Int) == (A : Int)) = true := beq_self_eq_true _
  have hbA : Below w.heap.size w (w11.alloc (.cells #[.int .i64 0, .int .i64 0] 30)) := hb11.alloc hb11.size _
  have cw0 : (w11.alloc (.cells #[.int .i64 0, .int .i64 0] 30)).cell? ⟨w11.heap.size, 0, none⟩ = some (.int .i64 0) := by simp
  have cw1 : (w11.alloc (.cells #[.int .i64 0, .int .i64 0] 30)).cell? ⟨w11.heap.size, 1, none⟩ = some (.int .i64 0) := by simp
  have cf0 : (w11.alloc (.cells #[.int .i64 0, .int .i64 0] 30)).frozen? ⟨w11.heap.size, 0, none⟩ = false := by simp
  have cf1 : (w11.alloc (.cells #[.int .i64 0, .int .i64 0] 30)).frozen? ⟨w11.heap.size, 1, none⟩ = false := by simp
  have cwl : w11.heap.size < (w11.alloc (.cells #[.int .i64 0, .int .i64 0] 30)).heap.size := by simp
  have cwb : w.heap.size ≤ w11.heap.size := hb11.size
  by_cases hz : n < 0
  · go_wp2_with fail
    generalize w11.heap.size = bw at cw0 cw1 cf0 cf1 cwl cwb ⊢
    generalize w11.alloc (.cells #[.int .i64 0, .int .i64 0] 30) = wA at hbA cw0 cw1 cf0 cf1 cwl ⊢
    refine (C7.out wA hbA).mono ?_
    rintro e wB ⟨rfl, hbB'⟩
    have hbB := hbA.trans (hbB'.mono hbA.size)
    have dw0 : wB.cell? ⟨bw, 0, none⟩ = some (.int .i64 0) := (hbB'.cell (p := ⟨bw, 0, none⟩) cwl).trans cw0
    have dw1 : wB.cell? ⟨bw, 1, none⟩ = some (.int .i64 0) := (hbB'.cell (p := ⟨bw, 1, none⟩) cwl).trans cw1
    have dwl : bw < wB.heap.size := Nat.lt_of_lt_of_le cwl hbB'.size
    clear cw0 cw1 cwl
    have hbT : Below w.heap.size w (wB.alloc (.cells #[.int .i64 (0 : Int), .int .i64 (0 : Int)] 30)) := hbB.alloc hbB.size _
    go_wp2_with fail
    refine (C8.out _ hbT).mono ?_
    rintro e wz ⟨rfl, hbz'⟩
    have hbz := hbT.trans (hbz'.mono hbT.size)
    have ew0 : wz.cell? ⟨bw, 0, none⟩ = some (.int .i64 (0 : Int)) := (hbz'.cell (p := ⟨bw, 0, none⟩) (by simp; omega)).trans (by rw [World.cell?_alloc_lt _ _ ⟨bw, 0, none⟩ dwl]; exact dw0)
    have ew1 : wz.cell? ⟨bw, 1, none⟩ = some (.int .i64 (0 : Int)) := (hbz'.cell (p := ⟨bw, 1, none⟩) (by simp; omega)).trans (by rw [World.cell?_alloc_lt _ _ ⟨bw, 1, none⟩ dwl]; exact dw1)
    have et0 : wz.cell? ⟨wB.heap.size, 0, none⟩ = some (.int .i64 (0 : Int)) := (hbz'.cell (p := ⟨wB.heap.size, 0, none⟩) (by simp)).trans (by simp)
    have et1 : wz.cell? ⟨wB.heap.size, 1, none⟩ = some (.int .i64 (0 : Int)) := (hbz'.cell (p := ⟨wB.heap.size, 1, none⟩) (by simp)).trans (by simp)
    have k2 := fun w => eql_item (0 : Int) (0 : Int) (0 : Int) (0 : Int) w
    have k4 := guard_item
    rw [show ((0 : Int) == (0 : Int) && (0 : Int) == (0 : Int)) = true by simp] at k2
    go_wp2
    go_ret
    exact ⟨rfl, hbz⟩
  · have hz2 : (N : Int) ≤ n := by have := HNN.out; omega
    go_wp2_with fail
    generalize w11.heap.size = bw at cw0 cw1 cf0 cf1 cwl cwb ⊢
    generalize w11.alloc (.cells #[.int .i64 0, .int .i64 0] 30) = wA at hbA cw0 cw1 cf0 cf1 cwl ⊢
    refine (C7.out wA hbA).mono ?_
    rintro e wB ⟨rfl, hbB'⟩
    have hbB := hbA.trans (hbB'.mono hbA.size)
    have dw0 : wB.cell? ⟨bw, 0, none⟩ = some (.int .i64 0) := (hbB'.cell (p := ⟨bw, 0, none⟩) cwl).trans cw0
    have dw1 : wB.cell? ⟨bw, 1, none⟩ = some (.int .i64 0) := (hbB'.cell (p := ⟨bw, 1, none⟩) cwl).trans cw1
    have dwl : bw < wB.heap.size := Nat.lt_of_lt_of_le cwl hbB'.size
    clear cw0 cw1 cwl
    have hbT : Below w.heap.size w (wB.alloc (.cells #[.int .i64 (0 : Int), .int .i64 (0 : Int)] 30)) := hbB.alloc hbB.size _
    go_wp2_with fail
    refine (C8.out _ hbT).mono ?_
    rintro e wz ⟨rfl, hbz'⟩
    have hbz := hbT.trans (hbz'.mono hbT.size)
    have ew0 : wz.cell? ⟨bw, 0, none⟩ = some (.int .i64 (0 : Int)) := (hbz'.cell (p := ⟨bw, 0, none⟩) (by simp; omega)).trans (by rw [World.cell?_alloc_lt _ _ ⟨bw, 0, none⟩ dwl]; exact dw0)
    have ew1 : wz.cell? ⟨bw, 1, none⟩ = some (.int .i64 (0 : Int)) := (hbz'.cell (p := ⟨bw, 1, none⟩) (by simp; omega)).trans (by rw [World.cell?_alloc_lt _ _ ⟨bw, 1, none⟩ dwl]; exact dw1)
    have et0 : wz.cell? ⟨wB.heap.size, 0, none⟩ = some (.int .i64 (0 : Int)) := (hbz'.cell (p := ⟨wB.heap.size, 0, none⟩) (by simp)).trans (by simp)
    have et1 : wz.cell? ⟨wB.heap.size, 1, none⟩ = some (.int .i64 (0 : Int)) := (hbz'.cell (p := ⟨wB.heap.size, 1, none⟩) (by simp)).trans (by simp)
    have k2 := fun w => eql_item (0 : Int) (0 : Int) (0 : Int) (0 : Int) w
    have k4 := guard_item
    rw [show ((0 : Int) == (0 : Int) && (0 : Int) == (0 : Int)) = true by simp] at k2
    go_wp2
    go_ret
    exact ⟨rfl, hbz⟩

set_option maxHeartbeats 8000000 in
theorem psays_in (p : Option Addr) (N cap A B C n : Nat) (key : Int) (la lb lc : List (Int × Int)) (xs : Array (Int × Int)) (w : World) (hn : n < N) (HN : Hid (xs.size = N)) (hA : A ≤ 60) (hB : B ≤ 60) (hC : C ≤ 60) (HLa : Hid (la.length = A)) (HLb : Hid (lb.length = B)) (HLc : Hid (lc.length = C))
    (C1 : Hid (∀ w1, Below w.heap.size w w1 → Calls Tryd.prog 13 #[.slice p N cap] w1 fun e w' => e = .returned (.int .i64 0) ∧ w' = w1))
    (CA : Hid (∀ w1, Below w.heap.size w w1 → Calls Tryd.prog 17 #[.slice p N cap, .int .i64 key, .int .i64 (-1)] w1 fun e w' => ∃ u, e = .returned u ∧ OwnI w' w1.heap.size u la ∧ Below w1.heap.size w1 w'))
    (CB : Hid (∀ w1, Below w.heap.size w w1 → Calls Tryd.prog 17 #[.slice p N cap, .int .i64 key, .int .i64 0] w1 fun e w' => ∃ u, e = .returned u ∧ OwnI w' w1.heap.size u lb ∧ Below w1.heap.size w1 w'))
    (CC : Hid (∀ w1, Below w.heap.size w w1 → Calls Tryd.prog 17 #[.slice p N cap, .int .i64 key, .int .i64 1] w1 fun e w' => ∃ u, e = .returned u ∧ OwnI w' w1.heap.size u lc ∧ Below w1.heap.size w1 w'))
    (C2 : Hid (∀ w1, Below w.heap.size w w1 → Calls Tryd.prog 18 #[.slice p N cap, .int .i64 key] w1 fun e w' => ∃ va vb vc, e = .returned (.tuple #[va, vb, vc, .nilIface]) ∧ OwnI w' w1.heap.size va la ∧ OwnI w' w1.heap.size vb lb ∧ OwnI w' w1.heap.size vc lc ∧ Below w1.heap.size w1 w'))
    (C3 : Hid (∀ w1, Below w.heap.size w w1 → Calls Tryd.prog 10 #[.nilIface, .int .i64 0] w1 fun e w' => e = .returned (.bool true) ∧ Below w1.heap.size w1 w'))
    (C5 : Hid (∀ w1, Below w.heap.size w w1 → Calls Tryd.prog 20 #[.slice p N cap, .int .i64 key] w1 fun e w' => e = .returned (.tuple #[.int .i64 (A : Nat), .nilIface]) ∧ Below w1.heap.size w1 w'))
    (C6 : Hid (∀ w1, Below w.heap.size w w1 → Calls Tryd.prog 21 #[.slice p N cap] w1 fun e w' => ∃ u, e = .returned u ∧ ∃ os, OwnI w' w1.heap.size u os ∧ Sorts xs os.toArray ∧ Below w1.heap.size w1 w'))
    (C7 : Hid (∀ w1, Below w.heap.size w w1 → Calls Tryd.prog 22 #[.slice p N cap, .int .i64 (n : Int)] w1 fun e w' => (∃ (ys : Array (Int × Int)) (x0 x1 : Int), Sorts xs ys ∧ ys[n]! = (x0, x1) ∧ e = .returned (.tuple #[.agg #[.int .i64 x0, .int .i64 x1], .nilIface])) ∧ Below w1.heap.size w1 w')) :
    Calls Tryd.prog 5 #[.slice p N cap, .int .i64 key, .int .i64 (n : Int)] w fun e w' => e = .returned (.bool true) ∧ Below w.heap.size w w' := by
  have hz : ¬ (n : Int) < 0 := by omega
  have hz2 : ¬ (N : Int) ≤ (n : Int) := by omega
  have hz3 : (n : Int) < (N : Int) := by omega
  go_enter Tryd.func5, Tryd.ntmps5
  go_wp2_with fail
  refine (C1.out w (Below.refl _ _)).mono ?_
  rintro e w1 ⟨rfl, hw1⟩
  have hb1 : Below w.heap.size w w1 := by rw [hw1]; exact (Below.refl _ _)
  clear hw1
  go_wp2_with fail
  refine (CA.out w1 hb1).mono ?_
  rintro e w2 ⟨ua, rfl, oa, hb2'⟩
  have hb2 := hb1.trans (hb2'.mono hb1.size)
  obtain ⟨pa, ca, rfl, oa⟩ := own_slice HLa.out oa
  have Oa2 := hidp oa
  clear oa
  go_wp2_with fail
  refine (CB.out w2 hb2).mono ?_
  rintro e w3 ⟨ub, rfl, ob, hb3'⟩
  have hb3 := hb2.trans (hb3'.mono hb2.size)
  obtain ⟨pb, cb, rfl, ob⟩ := own_slice HLb.out ob
  have Ob3 := hidp ob
  clear ob
  have Oa3 := hidp (Oa2.out.below hb3')
  clear Oa2
  go_wp2_with fail
  refine (CC.out w3 hb3).mono ?_
  rintro e w4 ⟨uc, rfl, oc, hb4'⟩
  have hb4 := hb3.trans (hb4'.mono hb3.size)
  obtain ⟨pc, cc, rfl, oc⟩ := own_slice HLc.out oc
  have Oc4 := hidp oc
  clear oc
  have Oa4 := hidp (Oa3.out.below hb4')
  clear Oa3
  have Ob4 := hidp (Ob3.out.below hb4')
  clear Ob3
  go_wp2_with fail
  refine (C2.out w4 hb4).mono ?_
  rintro e w5 ⟨va, vb, vc, rfl, qa, qb, qc, hb5'⟩
  have hb5 := hb4.trans (hb5'.mono hb4.size)
  obtain ⟨ra, da, rfl, qa⟩ := own_slice HLa.out qa
  have Qa5 := hidp qa
  have Oa5 := hidp (Oa4.out.below hb5')
  clear qa Oa4
  obtain ⟨rb, db, rfl, qb⟩ := own_slice HLb.out qb
  have Qb5 := hidp qb
  have Ob5 := hidp (Ob4.out.below hb5')
  clear qb Ob4
  obtain ⟨rc, dc, rfl, qc⟩ := own_slice HLc.out qc
  have Qc5 := hidp qc
  have Oc5 := hidp (Oc4.out.below hb5')
  clear qc Oc4
  go_wp2_with fail
  refine (C3.out w5 hb5).mono ?_
  rintro e w6 ⟨rfl, hb6'⟩
  have hb6 := hb5.trans (hb6'.mono hb5.size)
  have Qa6 := hidp (Qa5.out.below hb6')
  have Oa6 := hidp (Oa5.out.below hb6')
  clear Qa5 Oa5
  have Qb6 := hidp (Qb5.out.below hb6')
  have Ob6 := hidp (Ob5.out.below hb6')
  clear Qb5 Ob5
  have Qc6 := hidp (Qc5.out.below hb6')
  have Oc6 := hidp (Oc5.out.below hb6')
  clear Qc5 Oc5
  have ci := items_any _ _ la.toArray la.toArray w6 Qa6.out.sl Oa6.out.sl (by rw [List.size_toArray, HLa.out]; omega)
  rw [decide_eq_true rfl] at ci
  go_wp2_with fail
  refine ci.mono ?_
  rintro e w7 ⟨rfl, qd, hw⟩
  have hb7' : Below w6.heap.size w6 w7 := by rw [hw]; exact below_drewN (Below.refl _ _) qd
  have hb7 := hb6.trans (hb7'.mono hb6.size)
  clear hw ci
  have Qa7 := hidp (Qa6.out.below hb7')
  have Oa7 := hidp (Oa6.out.below hb7')
  clear Qa6 Oa6
  have Qb7 := hidp (Qb6.out.below hb7')
  have Ob7 := hidp (Ob6.out.below hb7')
  clear Qb6 Ob6
  have Qc7 := hidp (Qc6.out.below hb7')
  have Oc7 := hidp (Oc6.out.below hb7')
  clear Qc6 Oc6
  have ci := items_any _ _ lb.toArray lb.toArray w7 Qb7.out.sl Ob7.out.sl (by rw [List.size_toArray, HLb.out]; omega)
  rw [decide_eq_true rfl] at ci
  go_wp2_with fail
  refine ci.mono ?_
  rintro e w8 ⟨rfl, qd, hw⟩
  have hb8' : Below w7.heap.size w7 w8 := by rw [hw]; exact below_drewN (Below.refl _ _) qd
  have hb8 := hb7.trans (hb8'.mono hb7.size)
  clear hw ci
  have Qa8 := hidp (Qa7.out.below hb8')
  have Oa8 := hidp (Oa7.out.below hb8')
  clear Qa7 Oa7
  have Qb8 := hidp (Qb7.out.below hb8')
  have Ob8 := hidp (Ob7.out.below hb8')
  clear Qb7 Ob7
  have Qc8 := hidp (Qc7.out.below hb8')
  have Oc8 := hidp (Oc7.out.below hb8')
  clear Qc7 Oc7
  have ci := items_any _ _ lc.toArray lc.toArray w8 Qc8.out.sl Oc8.out.sl (by rw [List.size_toArray, HLc.out]; omega)
  rw [decide_eq_true rfl] at ci
  go_wp2_with fail
  refine ci.mono ?_
  rintro e w9 ⟨rfl, qd, hw⟩
  have hb9' : Below w8.heap.size w8 w9 := by rw [hw]; exact below_drewN (Below.refl _ _) qd
  have hb9 := hb8.trans (hb9'.mono hb8.size)
  clear hw ci
  have Qa9 := hidp (Qa8.out.below hb9')
  have Oa9 := hidp (Oa8.out.below hb9')
  clear Qa8 Oa8
  have Qb9 := hidp (Qb8.out.below hb9')
  have Ob9 := hidp (Ob8.out.below hb9')
  clear Qb8 Ob8
  have Qc9 := hidp (Qc8.out.below hb9')
  have Oc9 := hidp (Oc8.out.below hb9')
  clear Qc8 Oc8
  clear Qa9 Qb9 Qc9 Oa9 Ob9 Oc9
  go_wp2_with fail
  refine (C5.out w9 hb9).mono ?_
  rintro e w10 ⟨rfl, hb10'⟩
  have hb10 := hb9.trans (hb10'.mono hb9.size)
  go_wp2_with fail
  refine (C3.out w10 hb10).mono ?_
  rintro e w11 ⟨rfl, hb11'⟩
  have hb11 := hb10.trans (hb11'.mono hb10.size)
  have hAA : ((A : Int) == (A : Int)) = true := beq_self_eq_true _
  have hbA : Below w.heap.size w (w11.alloc (.cells #[.int .i64 0, .int .i64 0] 30)) := hb11.alloc hb11.size _
  have cw0 : (w11.alloc (.cells #[.int .i64 0, .int .i64 0] 30)).cell? ⟨w11.heap.size, 0, none⟩ = some (.int .i64 0) := by simp
  have cw1 : (w11.alloc (.cells #[.int .i64 0, .int .i64 0] 30)).cell? ⟨w11.heap.size, 1, none⟩ = some (.int .i64 0) := by simp
  have cf0 : (w11.alloc (.cells #[.int .i64 0, .int .i64 0] 30)).frozen? ⟨w11.heap.size, 0, none⟩ = false := by simp
  have cf1 : (w11.alloc (.cells #[.int .i64 0, .int .i64 0] 30)).frozen? ⟨w11.heap.size, 1, none⟩ = false := by simp
  have cwl : w11.heap.size < (w11.alloc (.cells #[.int .i64 0, .int .i64 0] 30)).heap.size := by simp
  have cwb : w.heap.size ≤ w11.heap.size := hb11.size
  go_wp2_with fail
  generalize w11.heap.size = bw at cw0 cw1 cf0 cf1 cwl cwb ⊢
  generalize w11.alloc (.cells #[.int .i64 0, .int .i64 0] 30) = wA at hbA cw0 cw1 cf0 cf1 cwl ⊢
  refine (C6.out wA hbA).mono ?_
  rintro e wB ⟨u, rfl, os, ho, hs, hbB'⟩
  have hbB := hbA.trans (hbB'.mono hbA.size)
  have hol : os.length = N := by have := hs.size; rw [List.size_toArray, HN.out] at this; exact this
  obtain ⟨x0, x1, hx⟩ : ∃ x y, os.toArray[n]! = (x, y) := ⟨_, _, rfl⟩
  obtain ⟨po, co, rfl, ho⟩ := own_slice hol ho
  obtain ⟨gb, go, rfl, hro⟩ : ∃ gb go, po = some ⟨gb, go, none⟩ ∧ RdAt wB gb go os.toArray := by
    obtain ⟨p', c', e, _, h0 | ⟨blk, off, rfl, hr⟩⟩ := ho.sl
    · rw [List.size_toArray] at h0; omega
    · simp only [Value.slice.injEq] at e; exact ⟨blk, off, e.1, hr⟩
  obtain ⟨co0, co1⟩ := hro.2 n (by rw [List.size_toArray, hol]; exact hn)
  rw [hx] at co0 co1
  have HSO := hidp hs
  have HXO := hidp hx
  have dw0 : wB.cell? ⟨bw, 0, none⟩ = some (.int .i64 0) := (hbB'.cell (p := ⟨bw, 0, none⟩) cwl).trans cw0
  have dw1 : wB.cell? ⟨bw, 1, none⟩ = some (.int .i64 0) := (hbB'.cell (p := ⟨bw, 1, none⟩) cwl).trans cw1
  have df0 : wB.frozen? ⟨bw, 0, none⟩ = false := (hbB'.frozen (p := ⟨bw, 0, none⟩) cwl).trans cf0
  have df1 : wB.frozen? ⟨bw, 1, none⟩ = false := (hbB'.frozen (p := ⟨bw, 1, none⟩) cwl).trans cf1
  have dwlB : bw < wB.heap.size := Nat.lt_of_lt_of_le cwl hbB'.size
  clear cw0 cw1 cf0 cf1 cwl ho hro hs hx hol
  have hbC : Below w.heap.size w ((wB.setCell ⟨bw, 0, none⟩ (.int .i64 x0)).setCell ⟨bw, 1, none⟩ (.int .i64 x1)) := (hbB.setCell (p := ⟨bw, 0, none⟩) cwb _).setCell (p := ⟨bw, 1, none⟩) cwb _
  have cw0 : ((wB.setCell ⟨bw, 0, none⟩ (.int .i64 x0)).setCell ⟨bw, 1, none⟩ (.int .i64 x1)).cell? ⟨bw, 0, none⟩ = some (.int .i64 x0) := by
    rw [World.cell?_setCell_other _ _ _ _ (by simp), World.cell?_setCell_same _ _ _ dw0]
  have cw1 : ((wB.setCell ⟨bw, 0, none⟩ (.int .i64 x0)).setCell ⟨bw, 1, none⟩ (.int .i64 x1)).cell? ⟨bw, 1, none⟩ = some (.int .i64 x1) := by
    exact World.cell?_setCell_same _ _ _ ((World.cell?_setCell_other _ _ _ _ (by simp)).trans dw1)
  have cwl : bw < ((wB.setCell ⟨bw, 0, none⟩ (.int .i64 x0)).setCell ⟨bw, 1, none⟩ (.int .i64 x1)).heap.size := by rw [size_setC, size_setC]; exact dwlB
  go_wp2_with fail
  generalize (wB.setCell ⟨bw, 0, none⟩ (.int .i64 x0)).setCell ⟨bw, 1, none⟩ (.int .i64 x1) = wC at hbC cw0 cw1 cwl ⊢
  refine (C7.out wC hbC).mono ?_
  rintro e wD ⟨⟨ys, y0, y1, hs, hy, rfl⟩, hbD'⟩
  have e1 := HSO.out.unique hs
  have hxy : (x0, x1) = (y0, y1) := by rw [← HXO.out, ← hy, e1]
  rw [Prod.mk.injEq] at hxy
  obtain ⟨rfl, rfl⟩ := hxy
  have hbD := hbC.trans (hbD'.mono hbC.size)
  have dw0' : wD.cell? ⟨bw, 0, none⟩ = some (.int .i64 x0) := (hbD'.cell (p := ⟨bw, 0, none⟩) cwl).trans cw0
  have dw1' : wD.cell? ⟨bw, 1, none⟩ = some (.int .i64 x1) := (hbD'.cell (p := ⟨bw, 1, none⟩) cwl).trans cw1
  have dwl : bw < wD.heap.size := Nat.lt_of_lt_of_le cwl hbD'.size
  clear cw0 cw1 cwl dw0 dw1 df0 df1 dwlB hs hy e1 HSO HXO co0 co1
  have dw0 := dw0'
  have dw1 := dw1'
  clear dw0' dw1'
  have hbT : Below w.heap.size w (wD.alloc (.cells #[.int .i64 x0, .int .i64 x1] 30)) := hbD.alloc hbD.size _
  go_wp2_with fail
  refine (C3.out _ hbT).mono ?_
  rintro e wz ⟨rfl, hbz'⟩
  have hbz := hbT.trans (hbz'.mono hbT.size)
  have ew0 : wz.cell? ⟨bw, 0, none⟩ = some (.int .i64 x0) := (hbz'.cell (p := ⟨bw, 0, none⟩) (by simp; omega)).trans (by rw [World.cell?_alloc_lt _ _ ⟨bw, 0, none⟩ dwl]; exact dw0)
  have ew1 : wz.cell? ⟨bw, 1, none⟩ = some (.int .i64 x1) := (hbz'.cell (p := ⟨bw, 1, none⟩) (by simp; omega)).trans (by rw [World.cell?_alloc_lt _ _ ⟨bw, 1, none⟩ dwl]; exact dw1)
  have et0 : wz.cell? ⟨wD.heap.size, 0, none⟩ = some (.int .i64 x0) := (hbz'.cell (p := ⟨wD.heap.size, 0, none⟩) (by simp)).trans (by simp)
  have et1 : wz.cell? ⟨wD.heap.size, 1, none⟩ = some (.int .i64 x1) := (hbz'.cell (p := ⟨wD.heap.size, 1, none⟩) (by simp)).trans (by simp)
  have k2 := fun w => eql_item x0 x1 x0 x1 w
  have k4 := guard_item
  rw [show (x0 == x0 && x1 == x1) = true by simp] at k2
  go_wp2
  go_ret
  exact ⟨rfl, hbz⟩

theorem pickSays_any (v : Value) (key n : Int) (xs : Array (Int × Int)) (w : World) (h : Sl w v xs) (hbig : xs.size ≤ 9223372036854775807) (hgl : Glob w) :
    Calls Tryd.prog 5 #[v, .int .i64 key, .int .i64 n] w fun e w' => e = .returned (.bool true) ∧ Below w.heap.size w w' := by
  have c1 := fun w1 (hb : Below w.heap.size w w1) => refItems_any v xs w1 (h.below hb) hbig
  have c3 := fun (k : Nat) w1 (hb : Below w.heap.size w w1) => error_any k k w1 (hgl.below hb)
  simp only [beq_self_eq_true] at c3
  by_cases h0 : wrong xs = 0
  · have h60 := wrong_le h0
    have ca := fun w1 (hb : Below w.heap.size w w1) => part_any v key (-1) xs w1 (h.below hb) h60
    have cb := fun w1 (hb : Below w.heap.size w w1) => part_any v key 0 xs w1 (h.below hb) h60
    have cc := fun w1 (hb : Below w.heap.size w w1) => part_any v key 1 xs w1 (h.below hb) h60
    rw [side_blw] at ca
    rw [side_sme] at cb
    rw [side_abv] at cc
    have c2 := fun w1 (hb : Below w.heap.size w w1) => parts_good v key xs w1 (h.below hb) h0
    have c5 := fun w1 (hb : Below w.heap.size w w1) => rank_good v key xs w1 (h.below hb) h0
    have c30 := c3 0
    rw [errV_zero] at c30
    rw [h0] at c1
    have lA : (xs.toList.filter (blwB key)).length ≤ 60 := Nat.le_trans (List.length_filter_le _ _) (by simpa using h60)
    have lB : (xs.toList.filter (smeB key)).length ≤ 60 := Nat.le_trans (List.length_filter_le _ _) (by simpa using h60)
    have lC : (xs.toList.filter (abvB key)).length ≤ 60 := Nat.le_trans (List.length_filter_le _ _) (by simpa using h60)
    by_cases hn : n < 0 ∨ (xs.size : Int) ≤ n
    · have c7 := fun w1 (hb : Below w.heap.size w w1) => nth_out v n xs w1 (h.below hb) h0 hn
      have c8 := c3 1
      rw [errV_pos (show (1 : Nat) ≠ 0 by decide)] at c8
      obtain ⟨p, cap, rfl, _⟩ := id h
      exact psays_out p xs.size cap _ _ _ key n _ _ _ w hn lA lB lC rfl rfl rfl c1 ca cb cc c2 c30 c5 c7 c8
    · obtain ⟨m, rfl⟩ : ∃ m : Nat, n = m := ⟨n.toNat, by omega⟩
      have hm : m < xs.size := by omega
      have c6 := fun w1 (hb : Below w.heap.size w w1) => refSort_any v xs w1 (h.below hb) h60
      have c7 := fun w1 (hb : Below w.heap.size w w1) => nth_some v m xs w1 (h.below hb) h0 hm
      obtain ⟨p, cap, rfl, _⟩ := id h
      exact psays_in p xs.size cap _ _ _ m key _ _ _ xs w hm rfl lA lB lC rfl rfl rfl c1 ca cb cc c2 c30 c5 c6 c7
  · have c2 := fun w1 (hb : Below w.heap.size w w1) => parts_bad v key xs w1 (h.below hb) hbig _ rfl h0
    have c5 := fun w1 (hb : Below w.heap.size w w1) => rank_bad v key xs w1 (h.below hb) hbig _ rfl h0
    have c6 := fun w1 (hb : Below w.heap.size w w1) => nth_bad v n xs w1 (h.below hb) hbig _ rfl h0
    have c3k := c3 (wrong xs)
    rw [errV_pos h0] at c3k
    have c4 : ∀ w1, Below w.heap.size w w1 → Calls Tryd.prog 19 #[.slice none 0 0, .slice none 0 0] w1 fun e w' => e = .returned (.bool true) ∧ Below w1.heap.size w1 w' :=
      fun w1 _ => (items_none none none 0 0 w1).mono fun e w' ⟨h, n, h'⟩ => ⟨h, by rw [h']; exact below_drewN (Below.refl _ _) n⟩
    obtain ⟨p, cap, rfl, _⟩ := id h
    exact psays_bad p xs.size cap key n _ w (beq_eq_false_iff_ne.2 (by omega)) c1 c2 c3k c4 c5 c6
#print axioms pickSays_any
end Go.Proofs.YtdpfijhkbhmkgaaDoor
